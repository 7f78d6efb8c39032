/-
  An argument that can be read as data: a struct's fields, a slice's elements.
  A region that draws its order, in a round of a range over a function: what is shown for it as for any code (whatever the order) holds in the round.
  The law of a range over a function whose rounds change what the iterator goes by: a state of one's own in the place of the list of what was handed out.
  slices.Backward over a row of texts: each with its place, the last one first.
  append of one row of texts onto another that the call itself made; nil or not.
  A map from numbers to rows of names: what a store into it leaves, what a look-up finds.
  What a round of a loop that collects into a box keeps, whatever the box's type: all blocks but the box, its row, and what is no cells.
  The reference's joined.
  The reference's Base, Dir, Join.
  The reference's Join.
  The reference's Fold: the names kept on a stack.
  The reference's Same: are two rows of texts the same?
  Trees that a call has made: their inodes lie in one block of the call's own, each directory's names in a block of its own.
  slices.Clone of names and of inodes: the same in memory of the call's own.
  The reference's Own: a copy of the slice of inodes, whose names' slices are shared.
  The reference's Same: two trees are one, field by field.
-/
import Derived.Deep.Slices
import Derived.Deep.Fields
import Derived.Lib.SmallJoins
import Derived.SizedLaws
import Derived.ProofKit
import Derived.Test.YtclhpedecimicaaGreatProg
import Derived.RangeFuncBox
import Derived.RangeFuncLeaves
import Derived.RangeFuncNested
import Derived.RangeFuncBound
import Derived.RangeFuncCalls
import Derived.RangeFuncWrites
import Derived.Shelf.Abstract
import Derived.WalkKit
import Derived.OwnWalkIn
import Derived.OrdersIn
import Derived.Orders
import Derived.Deep.Quiet
import Derived.OrdersHeld
import Derived.Scope
import Derived.WalkMore
import Derived.Test.YtclhpedecimicaaGreatK11
import Derived.Test.YtclhpedecimicaaGreatK8
import Derived.Test.YtclhpedecimicaaGreatK7
import Derived.Laws.OwnMore
import Derived.Laws.AppendOwnNone
import Derived.Maps.Own
import Derived.Test.YtclhpedecimicaaGreatTrees
import Derived.Deep.AppendLies
import Derived.Test.YtclhpedecimicaaGreatK10
import Derived.Deep.QuietTactic
import Derived.BigQuiet
import Derived.Test.YtclhpedecimicaaGreatK6
import Derived.OneCell
import Derived.Laws.IdiomCopy
import Derived.Shelf.SlicesE.Clone
import Derived.BigRegion
import Derived.Deep.Draws
import Derived.Test.YtclhpedecimicaaGreatK4
namespace Go.Proofs.YtclhpedecimicaaGreat
set_option maxRecDepth 100000
open Go.ChangeShapes Go.WideShapes Go.Deep Go.Joins
open Go Go.RowKit

section
variable {H : Type} {enc : TypeId × Value → H} {w : World} {base : Nat} {spare : Nat → Bool} {held : Bool}

theorem add_none (b o n : Nat) : (⟨b, o, none⟩ : Addr).add n = ⟨b, o + n, none⟩ := by
  unfold Addr.add
  split
  · rename_i h
    rw [h]
    rfl
  · rfl

/-- One field of a struct that was read. -/
theorem part_at {e : TypeId} {fs : Array Field} {n : Nat} {cs : List Value} {x : DataW H × List MemPlace} (ht : Tryz.prog.underlying e = some (.struct fs)) (h : DataW.trod enc Tryz.prog w base spare held n e cs = some x)
    (j : Nat) (f : Field) (hf : fs[j]? = some f) (ho : f.offset = j) (hc : Tryz.prog.cellsOf f.type = 1) (v : Value) (hv : cs[j]? = some v) :
    ∃ (n' : Nat) (y : DataW H × List MemPlace), DataW.trod enc Tryz.prog w base spare held n' f.type [v] = some y ∧ ∀ z ∈ y.1.weights Tryz.prog f.type, z ∈ x.1.weights Tryz.prog e := by
  obtain ⟨xs, n', _, rfl, hl, hlen, hfs⟩ := DataW.trod_struct ht h
  have h1 := hfs j f hf
  have hj : j < fs.size := (Array.getElem?_eq_some_iff.1 hf).1
  have hjc : j < cs.length := (List.getElem?_eq_some_iff.1 hv).1
  have e1 : (cs.drop j).take 1 = [v] := by
    rw [List.drop_eq_getElem_cons hjc]
    have : cs[j] = v := (List.getElem?_eq_some_iff.1 hv).2
    simp [this]
  rw [ho, hc, e1] at h1
  have hx : xs[j]? = some (xs[j]'(by omega)) := List.getElem?_eq_getElem (by omega)
  refine ⟨n', xs[j]'(by omega), h1.trans hx, fun z hz => ?_⟩
  show z ∈ DataW.weights Tryz.prog e (.agg (xs.map (·.1)))
  unfold DataW.weights
  rw [ht]
  refine DataW.weights_mem_each (j := j) (t := f.type) (d := (xs[j]'(by omega)).1) ?_ ?_ z hz
  · rw [List.getElem?_map, Array.getElem?_toList, hf]
    rfl
  · rw [List.getElem?_map, hx]
    rfl

theorem weights_all {P : Program} {e : TypeId} : ∀ (l : List (DataW H)) (i : Nat) (hi : i < l.length), ∀ z ∈ l[i].weights P e, z ∈ DataW.weightsAll P e l
  | d :: r, 0, _, z, hz => by
    simp only [DataW.weightsAll, List.mem_append]
    exact Or.inl hz
  | d :: r, i + 1, hi, z, hz => by
    simp only [DataW.weightsAll, List.mem_append]
    exact Or.inr (weights_all r i (Nat.lt_of_succ_lt_succ hi) z hz)
  | [], _, hi, _, _ => absurd hi (Nat.not_lt_zero _)

/-- A slice of structs that was read, of e: each element's cells. -/
theorem slice_at {t e : TypeId} {k : Nat} {fuel : Nat} {v : Value} {x : DataW H × List MemPlace} (ht : Tryz.prog.underlying t = some (.slice e)) (hk : Tryz.prog.cellsOf e = k) (hk0 : 0 < k) (h : DataW.trod enc Tryz.prog w base (fun _ => true) held fuel t [v] = some x)
    (R : Nat) (hR : ∀ z ∈ x.1.weights Tryz.prog t, z ≤ R) :
    ∃ (a : Option Addr) (len cap : Nat), v = .slice a len cap ∧ len ≤ cap ∧ cap ≤ maxLen ∧ len * Tryz.prog.bytesOf e ≤ R ∧
      ∀ i, i < len → ∃ b o, a = some ⟨b, o, none⟩ ∧ ∃ (n : Nat) (cs : List Value) (y : DataW H × List MemPlace), DataW.trod enc Tryz.prog w base (fun _ => true) held n e cs = some y ∧ (∀ z ∈ y.1.weights Tryz.prog e, z ≤ R) ∧ cs.length = k ∧ ∀ j, j < k → w.cell? ⟨b, o + i * k + j, none⟩ = cs[j]? := by
  rcases open_slice ht h with ⟨hcs, rfl⟩ | ⟨a, len, cap, m, n, D, Pl, hcs, hb, hl, hm, hmm, rfl, hi⟩
  · have hv : v = .slice none 0 0 := by simpa using hcs
    exact ⟨none, 0, 0, hv, Nat.le_refl _, Nat.zero_le _, by omega, fun i hi => absurd hi (Nat.not_lt_zero _)⟩
  · have hv : v = .slice (some a) len cap := by simpa using hcs
    have hcm : m = cap := by simpa using hmm
    subst hcm
    have hw : ∀ z ∈ DataW.weights Tryz.prog t (.slice ((List.range len).map D) ((List.range (m - len)).map fun j => D (len + j))), z ≤ R := hR
    unfold DataW.weights at hw
    rw [ht] at hw
    have hlen : len * Tryz.prog.bytesOf e ≤ R := by
      have h1 := hw ((((List.range len).map D).length + ((List.range (m - len)).map fun j => D (len + j)).length) * Tryz.prog.bytesOf e) (by simp)
      simp only [List.length_map, List.length_range] at h1
      exact Nat.le_trans (Nat.mul_le_mul_right _ (Nat.le_add_right _ _)) h1
    refine ⟨some a, len, m, hv, hl, hm, hlen, fun i hil => ?_⟩
    obtain ⟨cs, hc, hy⟩ := hi i (by omega)
    rw [hk] at hc
    obtain ⟨_, hcl, hat⟩ := World.cells?_some hc
    have hsp : a.spot = none := by
      obtain ⟨cs0, hc0, _⟩ := hi 0 (by omega)
      rw [hk] at hc0
      obtain ⟨_, hcl0, hat0⟩ := World.cells?_some hc0
      have h1 := hat0 0 hk0
      rw [List.getElem?_eq_getElem (by omega)] at h1
      have h2 := World.cell?_spot h1
      rw [Nat.zero_mul] at h2
      simpa [Addr.add] using h2
    obtain ⟨b, o, s⟩ := a
    have hs : s = none := hsp
    subst hs
    refine ⟨b, o, rfl, n, cs, _, hy, fun z hz => ?_, hcl, fun j hj => ?_⟩
    · refine hw z ?_
      simp only [List.mem_cons, List.mem_append]
      refine Or.inr (Or.inl ?_)
      refine weights_all _ i (by simpa using hil) z ?_
      simpa using hz
    · have h1 := hat j hj
      rw [add_none, add_none] at h1
      exact h1
theorem one_int : Tryz.prog.cellsOf 3 = 1 := by kernel_rfl
theorem one_string : Tryz.prog.cellsOf 9 = 1 := by kernel_rfl
theorem some_at {l : List Value} {j : Nat} (h : j < l.length) : l[j]? = some l[j] := List.getElem?_eq_getElem h
end
end Go.Proofs.YtclhpedecimicaaGreat

namespace Go.Proofs.YtclhpedecimicaaGreat
set_option maxRecDepth 100000
open Go Go.RowKit

/-- No operation defers a call. -/
def noDefers (ops : Array Oper) : Bool := ops.toList.all fun o => match o.op with | .defer _ => false | _ => true
theorem noDefers_spec {ops : Array Oper} (h : noDefers ops = true) {i : Nat} {o : Oper} (ho : ops[i]? = some o) : ∀ c, o.op ≠ .defer c := by
  intro c hc
  have h1 := List.all_eq_true.1 h o (by
    obtain ⟨hi, rfl⟩ := Array.getElem?_eq_some_iff.1 ho
    simp)
  rw [hc] at h1
  cases h1

/-- The end of a region that neither panics nor leaves. -/
def onlyN (K : Act → World → Prop) (e : Exit) (a : Act) (w : World) : Prop := e = .normal ∧ K a w

theorem oper_in {ro : Option Nat} {n : Nat} {P : Program} {o : Oper} {a : Act} {w : World} {K K' R : Act → World → Prop} {Q : Exit → Act → World → Prop} (hd : ∀ c, o.op ≠ .defer c)
    (h : o.wp P a w K (onlyN R)) (hK : ∀ a w, K a w → K' a w) : o.wpIn { Fence.wide with round := ro } n P a w K' Q := by
  refine ⟨fun _ _ => trivial, ?_⟩
  rw [Oper.semAt_eq _ _ _ hd]
  unfold Oper.wp at h
  generalize (execOp a.eval o).run P w = r at h ⊢
  cases r with
  | ok x w' =>
    cases x with
    | value v => exact hK _ _ h
    | skip => exact hK _ _ h
    | defer d => exact hK _ _ h
    | enter f args =>
      refine ⟨fun h0 => (by cases h0), ?_⟩
      refine (show CallsIn Fence.wide (n - 1) P f args w' _ from callsIn_wide.2 (Calls.mono h fun e w'' he => ?_))
      cases e with
      | returned v => exact hK _ _ he
      | panicked c => exact absurd he.1 (by simp)
      | outgrown => obtain ⟨_, _, h1, _⟩ := he; cases h1
    | row row args =>
      refine ⟨fun h0 => (by cases h0), ?_⟩
      intro c cs _
      obtain ⟨v, w'', hr, hs⟩ := h c cs
      exact ⟨v, w'', hK _ _ hr, stepsIn_wide.2 hs⟩
    | _ => exact h.elim
  | halt x w' =>
    cases x with
    | panic v => exact absurd h.1 (by simp)
    | _ => exact h.elim

theorem op_in {ro : Option Nat} {n : Nat} {P : Program} {ops : Array Oper} {i : Nat} {a : Act} {w : World} {K K' R : Act → World → Prop} {Q : Exit → Act → World → Prop} (hd : noDefers ops = true)
    (h : wpOp P ops (onlyN R) i K a w) (hK : ∀ a w, K a w → K' a w) : wpOpIn { Fence.wide with round := ro } n P ops Q i K' a w := by
  unfold wpOp at h
  unfold wpOpIn
  cases ho : ops[i]? with
  | none => simp only [ho] at h ⊢; exact hK _ _ h
  | some o =>
    simp only [ho] at h ⊢
    split
    · rename_i hw
      rw [if_pos hw] at h
      rcases h with h | ⟨_, _, _, h1, _⟩
      · exact oper_in (noDefers_spec hd ho) h hK
      · cases h1
    · rename_i hw
      rw [if_neg hw] at h
      exact ⟨fun _ _ => trivial, hK _ _ h⟩

theorem any_in {ro : Option Nat} {n : Nat} {P : Program} {md : Region.Mode} {ops : Array Oper} {R : Act → World → Prop} {Q : Exit → Act → World → Prop} (hd : noDefers ops = true) (hQ : ∀ a w, R a w → Q .normal a w) :
    ∀ (fuel : Nat) (listed : Array Bool) (a : Act) (w : World), wpAny P md ops (onlyN R) fuel listed a w → wpAnyIn { Fence.wide with round := ro } n P md ops Q fuel listed a w
  | 0, _, _, _, h => ⟨h.1, hQ _ _ h.2.2⟩
  | fuel + 1, _listed, _a, _w, h => ⟨fun h0 => hQ _ _ (h.1 h0).2, fun i hi => op_in hd (h.2 i hi) fun a' w' h' => any_in hd hQ fuel _ a' w' h'⟩

/-- A region in a round, whatever its order. -/
theorem region_in {ro : Option Nat} {n : Nat} {P : Program} {id : Nat} {ops : Array Oper} {Q : Exit → Act → World → Prop} {a : Act} {w : World} (hm : P.follows .mixedOrders = true) (hd : noDefers ops = true)
    (h : wpAny P .any ops (onlyN (Q .normal)) ops.size (Array.replicate ops.size false) a w.drew) : (Code.region id ops true).wpIn { Fence.wide with round := ro } n P Q a w :=
  wpIn_region_any hm (any_in hd (fun _ _ h => h) _ _ _ _ h)

/-- A quiet region in a round. -/
theorem region_in_quiet {ro : Option Nat} {n : Nat} {P : Program} {id : Nat} {ops : List Oper} {C : World → Prop} {Q : Exit → Act → World → Prop} {a : Act} {w : World} (hm : P.follows .mixedOrders = true) (hd : noDefers ops.toArray = true)
    (hB : Region.lexB .any ops.toArray = true) (hC : C w.drew)
    (h : wpQuiet P ops.toArray C (fun a' => ∀ w', C w' → Q .normal a' w') ops a) : (Code.region id ops.toArray true).wpIn { Fence.wide with round := ro } n P Q a w := by
  refine region_in hm hd ?_
  simp only [Region.lexB, Bool.and_eq_true] at hB
  refine wpAny_of_quiet (Q := fun a' => ∀ w', C w' → Q .normal a' w') (fun _ w' hw' h => ⟨rfl, h w' hw'⟩) _ _ _ _ hC ?_
  have := wpAnyQ_lex (C := C) (md := .any) hB.1 ops 0 (Array.replicate ops.toArray.size false) a (by simp) (by simpa using hB.2) (by simpa using h)
  simpa using this

/-- A region with held cells in a round. -/
theorem region_in_held {ro : Option Nat} {n : Nat} {P : Program} {id : Nat} {ops : Array Oper} {S : World → Prop} {Q : Exit → Act → World → Prop} {a : Act} {w : World} (hm : P.follows .mixedOrders = true) (hd : noDefers ops = true)
    (h : wpAnyH P .any ops (onlyN (Q .normal)) S ops.size (Array.replicate ops.size false) a w.drew) : (Code.region id ops true).wpIn { Fence.wide with round := ro } n P Q a w :=
  region_in hm hd (wpAny_of_held _ _ _ _ h)

/-! ### A function that holds a label -/

theorem stepR_scope {P : Program} {b : Frame} {a : Act} {k : List Item} {cs : List Frame} {w : World} {c : Code} : step P (lone (b.atR a (.code (.scope c) :: k)) cs w) = .next (lone (b.atR a (.code c :: .inScope c :: k)) cs w) :=
  step_lone_go (by simp [stepG, stepG.exec, Frame.atR])
theorem stepR_inScope {P : Program} {b : Frame} {a : Act} {k : List Item} {cs : List Frame} {w : World} {c : Code} : step P (lone (b.atR a (.inScope c :: k)) cs w) = .next (lone (b.atR a k) cs w) :=
  step_lone_go (by simp [stepG, stepG.exec, Frame.atR])
theorem scope_in {F : Fence} {n : Nat} {P : Program} {Q : Exit → Act → World → Prop} {a : Act} {w : World} {c : Code} (hro : F.round = none) (h : c.wpIn F n P (Exit.noGoto Q) a w) : (Code.scope c).wpIn F n P Q a w := by
  intro b k cs hb0 hb hr
  have h0 : (lone (b.atR a (.code (.scope c) :: k)) cs w).fenced P F := fenced_calm hb hr rfl
  have hbn : b.roundOf = none := hb0.trans hro
  obtain ⟨e, a₁, w₁, hq, harr⟩ := h b (.inScope c :: k) cs hb0 hb hr
  cases e with
  | normal => exact ⟨.normal, a₁, w₁, hq, .head h0 stepR_scope (StepsIn.trans harr (.one (fenced_calm hb hr rfl) stepR_inScope))⟩
  | exit id => exact ⟨.exit id, a₁, w₁, hq, fun k' hk => .head h0 stepR_scope (harr.1 k' (by simp [exitTo, hk])), fun hs => (by rw [hbn] at hs; cases hs)⟩
  | goto l => exact hq.elim
  | ret => exact ⟨_, a₁, w₁, hq, .of_steps (.one h0 stepR_scope) harr⟩
  | panic ch => exact ⟨_, a₁, w₁, hq, .of_steps (.one h0 stepR_scope) harr⟩
  | outgrown => exact ⟨_, a₁, w₁, hq, .of_steps (.one h0 stepR_scope) harr⟩
theorem label_in {F : Fence} {n : Nat} {P : Program} {Q : Exit → Act → World → Prop} {a : Act} {w : World} {l : Nat} {c : Code} (h : c.wpIn F n P Q a w) : (Code.seq (.label l) c).wpIn F n P Q a w := wpIn_seq (wpIn_label h)

/-! ### A range over a function whose rounds change what the iterator goes by -/

/-- How the body of a round may be left. -/
def stPost {σ : Type} (B : Nat) (T : σ → Prop) (I : σ → World → Prop) (Ix : Code → World → Prop) (W : World) : Exit → Act → World → Prop
  | .normal, _, W' => KeepsFrom B W W' ∧ ∃ s', T s' ∧ I s' W'
  | .ret, _, W' => KeepsFrom B W W' ∧ Ix .ret W'
  | .exit id, _, W' => KeepsFrom B W W' ∧ Ix (.exit id) W'
  | .goto t, _, W' => KeepsFrom B W W' ∧ Ix (.goto t) W'
  | .panic _, _, _ => False
  | .outgrown, _, _ => False

/-- What an iterator owes a caller that keeps a state. -/
def SeqSt {σ : Type} (F : Fence) (n : Nat) (P : Program) (g : Nat) (lb : Array Value) (E : σ → Array Value) (I Ip : σ → World → Prop) (Nx : σ → σ → Prop) (S : World → Prop) (s0 : σ) : Prop :=
  ∀ (l : Nat) (G Jx : World → Prop) (W : World), (∀ A B, G A → KeepsOthers A B → G B) →
    (∀ s W1, Ip s W1 → G W1 → YieldAt F (n - 1) P l (E s) W1 fun e W' => (e = .returned (.bool true) ∧ ∃ s', Nx s s' ∧ I s' W' ∧ G W') ∨ (e = .returned (.bool false) ∧ Jx W')) →
    I s0 W → G W →
    CallsIn F n P g (#[.func (.yield l) #[] #[]] ++ lb) W fun e W' => (∃ v, e = .returned v) ∧ ((S W' ∧ G W') ∨ Jx W')

theorem range_st {σ : Type} {F : Fence} {n : Nat} {P : Program} {g : Operand} {ps : Array Tmp} {assign body : Code} {Q : Exit → Act → World → Prop} {a : Act} {w : World}
    (hro : F.round = none) (h1 : 1 ≤ n) {gf : Nat} {lb : Array Value} (hg : a.eval g = .func (.func gf) #[] lb) (hFg : F.fn gf) (eg : ∀ args w, (callFunc gf args).run P w = .ok (.enter gf args) w)
    {E : σ → Array Value} {I Ip : σ → World → Prop} {Nx : σ → σ → Prop} {S : World → Prop} {s0 : σ} (hseq : SeqSt F (n - 1) P gf lb E I Ip Nx S s0) (hps : ∀ s, (E s).size = ps.size)
    (Ix : Code → World → Prop) (hI : OwnFrom w.heap.size I) (hIp : OwnFrom w.heap.size Ip) (hIx : ∀ c, OwnFrom w.heap.size (fun (_ : Unit) W => Ix c W)) (hS : OwnFrom w.heap.size (fun (_ : Unit) W => S W)) (h0 : I s0 w) (a₁ : σ → Act)
    (hassign : ∀ (l : Nat) (s : σ) (W : World) (K : Act → World → Prop), K (a₁ s) W →
      assign.wpIn (F.inRound l) (n - 1 - 1) P (Exit.then K (fun _ _ _ => False)) { tmps := (ps.zip (E s)).foldl (fun t (p, v) => t.setIfInBounds p v) a.tmps, defers := [] } W)
    (hbody : ∀ (l : Nat) (s : σ) (W : World), Ip s W → body.wpIn (F.inRound l) (n - 1 - 1) P (stPost w.heap.size (Nx s) I Ix W) (a₁ s) W)
    (hdone : ∀ (D : Nat) (W : World), w.heap.size ≤ D → S W → W.heap[D]? = some (.deferred (some [])) → Q .normal { a with defers := { target := .collected D, args := #[] } :: a.defers } W)
    (hstop : ∀ (D : Nat) (c : Code) (W : World), w.heap.size ≤ D → Ix c W → W.heap[D]? = some (.deferred (some [])) → c.wpIn F n P Q { a with defers := { target := .collected D, args := #[] } :: a.defers } W) :
    (Code.rangeFunc g ps assign body).wpIn F n P Q a w := by
  refine wpIn_rangeFunc ?_
  intro fn hfn
  rw [hro]
  obtain ⟨rc, hrc⟩ : ∃ rc : LoopState → Option Code → Loop, rc = fun st pe => { state := st, pending := pe, fn, tmps := a.tmps, params := ps, assign, body, defers := w.heap.size } := ⟨_, rfl⟩
  obtain ⟨V, hV⟩ : ∃ V, V = (w.alloc (.deferred (some []))).alloc (.loop (rc .ready none)) := ⟨_, rfl⟩
  have hVl : V.heap[w.heap.size + 1]? = some (.loop (rc .ready none)) := by
    have h := World.alloc_heap_new (w.alloc (.deferred (some []))) (.loop (rc .ready none))
    rw [World.size_alloc, ← hV] at h
    exact h
  have hVk : V.heap[w.heap.size]? = some (.deferred (some [])) := by
    rw [hV]
    exact (Below.heap_alloc _ _ _ (by simp)).trans (World.alloc_heap_new w _)
  have hVI : I s0 V := by rw [hV]; exact hI.alloc _ (hI.alloc _ h0)
  refine ⟨w.heap.size + 1, [{ target := .collected w.heap.size, args := #[] }], V, { target := .fn (.func gf) lb, args := #[.func (.yield (w.heap.size + 1)) #[] #[]] }, V, gf, #[.func (.yield (w.heap.size + 1)) #[] #[]] ++ lb, V, ?_, ?_, ?_, ?_, fun _ => h1, ?_⟩
  · rw [hV, hrc]
    exact run_enterLoop_outer _ _ _ _ _
  · simp only [resolve, hg]
    simp [go_sem]
  · intro f' hf'
    simp [Target.leads] at hf'
    subst hf'
    exact hFg
  · simp [invoke, go_sem, eg]
  · refine (hseq (w.heap.size + 1) (fun W => W.heap[w.heap.size + 1]? = some (.loop (rc .ready none)) ∧ W.heap[w.heap.size]? = some (.deferred (some [])))
      (fun W => ∃ c, Ix c W ∧ W.heap[w.heap.size + 1]? = some (.loop (rc .done (some c))) ∧ W.heap[w.heap.size]? = some (.deferred (some []))) V
      (fun A B h hk => ⟨hk.same _ _ h.1 rfl, hk.same _ _ h.2 rfl⟩) ?_ hVI ⟨hVl, hVk⟩).mono ?_
    · rintro s W hi ⟨hl, hk⟩
      have hlt : w.heap.size + 1 < W.heap.size := (Array.getElem?_eq_some_iff.1 hl).1
      have hy := run_yield (P := P) (args := E s) hl (by rw [hrc]; exact hps s)
      rw [hrc] at hy
      have hbeg := run_beginRound (P := P) hl (by rw [hrc])
      refine ⟨fn, _, assign, body, hy, roundIn_of_wpIn hfn (hassign _ s W _ ⟨_, hbeg, ?_⟩)⟩
      obtain ⟨U, hU⟩ : ∃ U, U = W.putObj (w.heap.size + 1) (.loop { rc .ready none with state := .busy }) := ⟨_, rfl⟩
      have hUl : U.heap[w.heap.size + 1]? = some (.loop { rc .ready none with state := .busy }) := by rw [hU]; exact World.putObj_heap_same hlt
      have hUk : U.heap[w.heap.size]? = some (.deferred (some [])) := by rw [hU]; exact (World.putObj_heap_other (by omega)).trans hk
      have hUI : Ip s U := by rw [hU]; exact hIp.putObj _ hi (by omega) hl rfl
      rw [← hU]
      have fin : ∀ (jump : Option Code) (W3 : World), KeepsFrom w.heap.size U W3 →
          (Instr.endRound (w.heap.size + 1) jump).run P W3 = .ok (.bool jump.isNone) (W3.putObj (w.heap.size + 1) (.loop (rc (if jump.isNone then .ready else .done) jump))) ∧
          W3.heap[w.heap.size + 1]? = some (.loop { rc .ready none with state := .busy }) ∧
          (W3.putObj (w.heap.size + 1) (.loop (rc (if jump.isNone then .ready else .done) jump))).heap[w.heap.size + 1]? = some (.loop (rc (if jump.isNone then .ready else .done) jump)) ∧
          (W3.putObj (w.heap.size + 1) (.loop (rc (if jump.isNone then .ready else .done) jump))).heap[w.heap.size]? = some (.deferred (some [])) := fun jump W3 hk3 => by
        have hl3 := hk3.same _ _ (by omega) hUl rfl
        have := run_endRound (P := P) jump hl3
        rw [hrc] at this ⊢
        exact ⟨this, by rw [hrc] at hl3; exact hl3, World.putObj_heap_same (Array.getElem?_eq_some_iff.1 hl3).1, (World.putObj_heap_other (by omega)).trans (hk3.same _ _ (Nat.le_refl _) hUk rfl)⟩
      refine wpIn_mono (hbody _ s U hUI) ?_
      rintro e a3 W3 hp
      cases e with
      | normal =>
        obtain ⟨hk3, s', hn3, hi3⟩ := hp
        obtain ⟨hr, hl3, hl4, hk4⟩ := fin none W3 hk3
        exact ⟨_, _, hr, .inl ⟨rfl, s', hn3, hI.putObj _ hi3 (by omega) hl3 rfl, hl4, hk4⟩⟩
      | ret =>
        obtain ⟨hk3, hi3⟩ := hp
        obtain ⟨hr, hl3, hl4, hk4⟩ := fin (some .ret) W3 hk3
        exact ⟨_, _, hr, .inr ⟨rfl, .ret, (hIx _).putObj (s := ()) _ hi3 (by omega) hl3 rfl, hl4, hk4⟩⟩
      | exit id =>
        obtain ⟨hk3, hi3⟩ := hp
        obtain ⟨hr, hl3, hl4, hk4⟩ := fin (some (.exit id)) W3 hk3
        exact ⟨_, _, hr, .inr ⟨rfl, .exit id, (hIx _).putObj (s := ()) _ hi3 (by omega) hl3 rfl, hl4, hk4⟩⟩
      | goto t =>
        obtain ⟨hk3, hi3⟩ := hp
        obtain ⟨hr, hl3, hl4, hk4⟩ := fin (some (.goto t)) W3 hk3
        exact ⟨_, _, hr, .inr ⟨rfl, .goto t, (hIx _).putObj (s := ()) _ hi3 (by omega) hl3 rfl, hl4, hk4⟩⟩
      | panic ch => exact hp.elim
      | outgrown => exact hp.elim
    · rintro e W2 ⟨⟨v, rfl⟩, (⟨hi, hl, hk⟩ | ⟨c, hi, hl, hk⟩)⟩
      · exact ⟨none, _, by have := run_endLoop (P := P) hl (by rw [hrc]; simp); rw [hrc] at this; exact this, hdone _ _ (Nat.le_refl _) (hS.putObj (s := ()) _ hi (by omega) hl rfl) ((World.putObj_heap_other (by omega)).trans hk)⟩
      · exact ⟨some c, _, by have := run_endLoop (P := P) hl (by rw [hrc]; simp); rw [hrc] at this; exact this, hstop _ c _ (Nat.le_refl _) ((hIx c).putObj (s := ()) _ hi (by omega) hl rfl) ((World.putObj_heap_other (by omega)).trans hk)⟩
end Go.Proofs.YtclhpedecimicaaGreat

namespace Go.Proofs.YtclhpedecimicaaGreat
set_option maxRecDepth 100000
open Go Go.RowKit Go.Shelf

attribute [local go_sem] Oper.semAt_some

/-- The box and the row stand as they stood. -/
def KeepR (Bx : Nat) (v : Value) (W W' : World) : Prop := W'.heap[Bx]? = W.heap[Bx]? ∧ ∀ k, v.ownBlock = some k → W'.heap[k]? = W.heap[k]?
theorem keepR_t {Bx : Nat} {v : Value} {A B C : World} (h : KeepR Bx v A B) (k : KeepR Bx v B C) : KeepR Bx v A C := ⟨k.1.trans h.1, fun i hi => (k.2 i hi).trans (h.2 i hi)⟩
theorem keepR_b {Bx : Nat} {v : Value} {w : World} (hb : Bx < w.heap.size) (hv : ∀ k, v.ownBlock = some k → k < w.heap.size) (W : World) (l : Nat) (o o' : Obj) (hl : w.heap.size ≤ l) (_ : W.heap[l]? = some o) (_ : o.isCells = false) (_ : o.isWalk = false) : KeepR Bx v W (W.putObj l o') :=
  ⟨World.putObj_heap_other (by omega), fun k hk => World.putObj_heap_other (by have := hv k hk; omega)⟩

theorem drewN_grown (W : World) (m : Nat) : W.grownBy (W.drewN m) none := ⟨rfl, rfl, rfl, Nat.le_refl _, fun _ _ _ => rfl⟩

/-- The row and its box as they stand in a world. -/
def RowIn (Bx : Nat) (v : Value) (B : Nat) (N : List (List UInt8)) (W : World) : Prop := W.cell? ⟨Bx, 0, none⟩ = some v ∧ Held B W v N
theorem RowIn.kept {Bx B : Nat} {v : Value} {N : List (List UInt8)} {W W' : World} (h : RowIn Bx v B N W) (hk : KeepR Bx v W W') : RowIn Bx v B N W' :=
  ⟨(World.cell?_of_block (w := W) (a := ⟨Bx, 0, none⟩) hk.1).trans h.1, h.2.kept hk.2⟩

set_option maxRecDepth 100000 in
set_option maxHeartbeats 4000000 in
theorem back1_in (F : Fence) (hF : Open F) (n : Nat) (hn : 1 ≤ n) (l Bx B : Nat) (v : Value) (N : List (List UInt8)) (hN : N.length ≤ 1048576) (J Jx : List (Nat × List UInt8) → World → Prop)
    (_hdr : ∀ pre W m, J pre W → J pre (W.drewN m))
    (hY : ∀ pre x W, J pre W → pre.length < N.length → YieldAt F (n - 1) Tryz.prog l #[.int .i64 (x.1 : Nat), .string ⟨x.2.toArray⟩] W fun e W' =>
      (e = .returned (.bool true) ∧ J (pre ++ [x]) W' ∧ KeepR Bx v W W') ∨ (e = .returned (.bool false) ∧ Jx (pre ++ [x]) W'))
    (W : World) (hR : RowIn Bx v B N W) (h0 : J [] W) :
    CallsIn F n Tryz.prog 109 #[.func (.yield l) #[] #[], .pointer (some ⟨Bx, 0, none⟩)] W fun e W' => (∃ u, e = .returned u) ∧
      ((∃ ys, ys.map Prod.snd = N.reverse ∧ J ys W') ∨ (∃ pre, True ∧ Jx pre W')) := by
  have hro : F.round = none := hF.ro
  obtain ⟨hc, hheld⟩ := hR
  obtain ⟨na, nc, rfl, hc1, hc2, -⟩ := hheld.view
  have HR := Lib.hid (show RowIn Bx (.slice na N.length nc) B N W from ⟨hc, hheld⟩)
  unfold maxLen at hc2
  refine callsIn_of_wp Tryz.func109 rfl (hF.fn _) ?_ hro
  simp only [Tryz.ntmps109, List.size_toArray, List.length_cons, List.length_nil, Nat.reduceAdd, Nat.reduceSub, Array.replicate_succ, Array.replicate_zero, List.push_toArray, List.append_toArray, List.nil_append, List.cons_append]
  gi_wp2
  gi_loopw [3] (fun iv wr => ∃ (k : Nat) (D : List (Nat × List UInt8)), k ≤ N.length ∧ iv = .int .i64 ((k : Int) - 1) ∧ Hid (D.map Prod.snd = (N.drop k).reverse) ∧ D.length + k = N.length ∧ Hid (J D wr) ∧ Hid (RowIn Bx (.slice na N.length nc) B N wr)) (fun iv _ => (intOf iv + 1).toNat)
  case atStart => exact ⟨N.length, [], Nat.le_refl _, by go_num, by simp [Hid], by simp, h0, HR.out⟩
  case round =>
    obtain ⟨k, D, hk, rfl, hD, hDl, hJ, hrow⟩ := hrel
    have HROW := Lib.hid hrow.out
    have hcr := hrow.out.1
    cases k with
    | zero =>
      have hfin := Lib.hid (show D.map Prod.snd = N.reverse by have := hD.out; simpa using this)
      clear hcr
      gi_wp2
      go_end0
      exact ⟨⟨_, rfl⟩, .inl ⟨D, hfin.out, hJ.out⟩⟩
    | succ k =>
      obtain ⟨na', nc', e, -, -, hcell⟩ := HROW.out.2.view
      simp only [Value.slice.injEq] at e
      obtain ⟨rfl, -, rfl⟩ := e
      obtain ⟨nb, no, rfl, hx⟩ := hcell k (by omega)
      unfold strv at hx
      have hk0 : (0 : Int) ≤ (k : Int) := by omega
      have hk1 : (k : Int) < (N.length : Int) := by omega
      have hnum : ((k + 1 : Nat) : Int) - 1 = (k : Int) := by omega
      rw [hnum]
      have HY := Lib.hid (hY D (k, N[k]) wr hJ.out (by omega))
      have hdrop := Lib.hid (show (D ++ [(k, N[k])]).map Prod.snd = (N.drop k).reverse by
        rw [List.map_append, hD.out, List.drop_eq_getElem_cons (show k < N.length by omega), List.reverse_cons]
        rfl)
      clear hcell hnum hY hD
      obtain ⟨fn, tmps, assign, body, hy, hR⟩ := HY.out
      have hy' : (Instr.yield l #[.int .i64 (k : Int), .string ⟨N[k].toArray⟩]).run Tryz.prog wr = .ok (.round l fn tmps assign body) wr := hy
      clear hy
      gi_wp2
      refine hR.mono ?_
      rintro e W3 (⟨rfl, hJ3, hk3⟩ | ⟨rfl, hJx3⟩)
      · have hrow3 := HROW.out.kept hk3
        have hc3 := hrow3.1
        have HR3 := Lib.hid hrow3
        have HJ3 := Lib.hid hJ3
        clear hrow3 hk3 hJ3 hcr hx
        gi_wp2
        go_roundw
        case rel => exact ⟨k, D ++ [(k, N[k])], by omega, by go_num, hdrop, by simp only [List.length_append, List.length_cons, List.length_nil]; omega, HJ3, HR3⟩
        case measure => simp [intOf] <;> omega
      · have HJX := Lib.hid hJx3
        clear hJx3 hcr hx
        gi_wp2
        refine bodyPost_ret (results_none rfl _ _ _) rfl ?_
        exact ⟨⟨_, rfl⟩, .inr ⟨_, trivial, HJX.out⟩⟩

theorem back_in (F : Fence) (hF : Open F) (n : Nat) (a : Option Addr) (len cap : Nat) (w : World) :
    CallsIn F n Tryz.prog 90 #[.slice a len cap] w fun e w' => e = .returned (.func (.func 109) #[] #[.pointer (some ⟨w.heap.size, 0, none⟩)]) ∧ w' = w.alloc (.cells #[.slice a len cap] 29) := by
  have hro : F.round = none := hF.ro
  refine callsIn_of_wp Tryz.func90 rfl (hF.fn _) ?_ hro
  simp only [Tryz.ntmps90, List.size_toArray, List.length_cons, List.length_nil, Nat.reduceAdd, Nat.reduceSub, Array.replicate_succ, Array.replicate_zero, List.push_toArray, List.append_toArray, List.nil_append, List.cons_append]
  gi_wp2
  go_ret
  exact ⟨rfl, rfl⟩

theorem rowIn_below {Bx B : Nat} {v : Value} {N : List (List UInt8)} {w W : World} (hb : Bx < w.heap.size) (hv : ∀ k, v.ownBlock = some k → k < w.heap.size) (hW : Below w.heap.size w W) (h : RowIn Bx v B N w) : RowIn Bx v B N W :=
  h.kept ⟨hW.block _ hb, fun k hk => hW.block _ (hv k hk)⟩

theorem back_stops (F : Fence) (hF : Open F) (n : Nat) (hn : 1 ≤ n) (Bx B : Nat) (v : Value) (N : List (List UInt8)) (hN : N.length ≤ 1048576) (w : World) (hb : Bx < w.heap.size) (hv : ∀ k, v.ownBlock = some k → k < w.heap.size) (hR : RowIn Bx v B N w) :
    SeqStopsK F n Tryz.prog 109 #[.pointer (some ⟨Bx, 0, none⟩)] (fun x : Nat × List UInt8 => #[Value.int .i64 (x.1 : Nat), Value.string ⟨x.2.toArray⟩]) (KeepR Bx v) (fun ys => ys.map Prod.snd = N.reverse) (fun _ => True) N.length w := fun l J Jx W hW hJ _ hY h0 =>
  back1_in F hF n hn l Bx B v N hN J Jx (fun pre W m h => hJ pre W _ none h (drewN_grown W m) (fun _ e => by cases e)) hY W (rowIn_below hb hv hW hR) h0
end Go.Proofs.YtclhpedecimicaaGreat

namespace Go.Proofs.YtclhpedecimicaaGreat
set_option maxRecDepth 100000
open Go Go.RowKit

theorem append_texts {B B2 : Nat} {w : World} {v x : Value} {L L2 : List (List UInt8)} (hT : Texts B w v L) (hS : Texts B2 w x L2) (hn : L.length + L2.length ≤ 1048576) (hB : B ≤ w.heap.size)
    {ops : Array Oper} {rest : List Oper} {o : Oper} {a : Act} {Q : Exit → Act → World → Prop} (hgd : o.guard = none) (s y : Operand)
    (ho : o.op = .call { callee := .builtin .append, args := #[s, y], argTypes := #[29, 29] }) (hs : a.eval s = v) (hx : a.eval y = x)
    (h : ∀ v' w', Texts B w' v' (L ++ L2) → Below B w w' → wpList Tryz.prog ops Q rest (a.put o.dst v') w') : wpList Tryz.prog ops Q (o :: rest) a w := by
  obtain ⟨i0, hi, hz0, hz1, hz2⟩ := info_parts infoS
  rcases hS.forms with ⟨rfl, rfl⟩ | ⟨g, cap, rfl, -, -, -, -, hcell⟩
  · refine wpList_append_own_none hgd s y 29 ho B 9 i0 1 Tryz.underlying29 hi v L.length (L.map strv) hs hT hx ?_
    exact h v w (by rw [List.append_nil]; exact hT) (Below.refl _ _)
  · refine wpList_append_own w hgd s y 29 ho B 9 i0 (.string ByteArray.empty) 1 16 Tryz.underlying29 hi hz0 hz1 hz2 rfl (by decide) v L.length (L.map strv) hs hT ⟨g, 0, none⟩ L2.length cap (L2.map strv) hx (by simp) ?_ ?_ (by unfold maxLen; omega) (by omega) hB ?_
    · intro j u hu
      rw [List.getElem?_map] at hu
      by_cases hj : j < L2.length
      · rw [List.getElem?_eq_getElem hj] at hu
        have e : (⟨g, 0, none⟩ : Addr).add j = ⟨g, j, none⟩ := by unfold Addr.add; split <;> simp_all
        rw [e, hcell j hj]
        exact hu
      · rw [List.getElem?_eq_none (by omega)] at hu
        cases hu
    · intro u hu
      obtain ⟨z, -, rfl⟩ := List.mem_map.1 hu
      rfl
    · intro v' w' hown hgrow _
      refine h v' w' ?_ ((Below.refl B w).grown hgrow hB (fun r hr => (World.ownsRow.lt (show w.ownsRow B 9 1 v L.length (L.map strv) from hT) r hr).1))
      unfold Texts
      rw [List.length_append, List.map_append]
      exact hown

theorem texts_empty (B : Nat) (w : World) (hB : B ≤ w.heap.size) : Texts B (w.alloc (.cells #[] 9)) (.slice (some ⟨w.heap.size, 0, none⟩) 0 0) [] :=
  World.ownsRow_lit w #[] 0 hB (by decide) rfl
end Go.Proofs.YtclhpedecimicaaGreat

namespace Go.Proofs.YtclhpedecimicaaGreat
set_option maxRecDepth 100000
open Go Go.RowKit Go.WideElems Go.MapKept Go.ChangeMaps Go.WideMaps Go.Maps

theorem intLaw : Keyed Tryz.prog 3 := int_keyed Tryz.underlying3
/-- Every entry's key is a small number. -/
def NumKeys (es : Array MapEntry) : Prop := ∀ e ∈ es.toList, ∃ d : Int, e.key = .int .i64 d ∧ 0 ≤ d ∧ d < 1000
theorem num_key {d : Int} (h0 : 0 ≤ d) (h1 : d < 1000) : keyOf Tryz.prog 3 (.int .i64 d) = some (.int .i64 d) := keyOf_int_mk Tryz.underlying3 (by have e1 : IntKind.i64.min = -9223372036854775808 := rfl; have e2 : IntKind.i64.max = 9223372036854775807 := rfl; show (decide (IntKind.i64.min ≤ d) && decide (d ≤ IntKind.i64.max)) = true; rw [e1, e2, Bool.and_eq_true, decide_eq_true_eq, decide_eq_true_eq]; omega)
theorem NumKeys.fits {es : Array MapEntry} (h : NumKeys es) : ∀ e ∈ es.toList, ∃ l, keyOf Tryz.prog 3 e.key = some l := fun e he => by
  obtain ⟨d, h1, h2, h3⟩ := h e he
  rw [h1]
  exact ⟨_, num_key h2 h3⟩

theorem run_insertN (w : World) (m : Nat) (es : Array MapEntry) (clock : Nat) (hb : w.heap[m]? = some (.map es clock)) (hk : NumKeys es) (d : Int) (h0 : 0 ≤ d) (h1 : d < 1000) (val : Value) :
    ∃ es' clock', (Instr.mapUpdate 95 (.map (some m)) (.int .i64 d) val).run Tryz.prog w = .ok () (setBlock w m (.map es' clock')) ∧ NumKeys es' ∧
      (∀ x ∈ es'.toList, x ∈ es.toList ∨ (x.key = .int .i64 d ∧ x.val = val)) := by
  have hkl := num_key h0 h1
  rcases intLaw.find w hkl es.toList hk.fits with ⟨h1', h2⟩ | ⟨j, e0, h1', h2, h3⟩
  · refine ⟨es.push ⟨.int .i64 d, val, clock⟩, clock + 1, ?_, ?_, ?_⟩
    · simp [Instr.mapUpdate, run_underlying Tryz.underlying95, MapKept.run_getObj_map hb, intLaw.check w false hkl, h1', MapKept.run_setObj_map _ hb, Result.andThen, setBlock]
    · intro e he
      simp only [Array.toList_push, List.mem_append, List.mem_singleton] at he
      rcases he with he | rfl
      · exact hk e he
      · exact ⟨d, rfl, h0, h1⟩
    · intro e he
      simp only [Array.toList_push, List.mem_append, List.mem_singleton] at he
      rcases he with he | rfl
      · exact Or.inl he
      · exact Or.inr ⟨rfl, rfl⟩
  · have hj : j < es.size := by
      have := (List.getElem?_eq_some_iff.1 h2).1
      simpa using this
    have hjA : es[j]? = some e0 := by rw [← Array.getElem?_toList]; exact h2
    have hmem : ∀ e ∈ (es.modify j fun e => { e with key := .int .i64 d, val := val }).toList, e ∈ es.toList ∨ (e.key = .int .i64 d ∧ e.val = val) := by
      intro e he
      obtain ⟨i, hi, rfl⟩ := List.getElem_of_mem he
      rw [Array.getElem_toList, Array.getElem_modify]
      split
      · exact Or.inr ⟨rfl, rfl⟩
      · exact Or.inl (by simp)
    refine ⟨_, clock, ?_, fun e he => ?_, hmem⟩
    · simp [Instr.mapUpdate, run_underlying Tryz.underlying95, MapKept.run_getObj_map hb, intLaw.check w false hkl, h1', hjA, h3, intLaw.stays w hkl, MapKept.run_setObj_map _ hb, Result.andThen, setBlock]
    · rcases hmem e he with h | ⟨h, _⟩
      · exact hk e h
      · exact ⟨d, h, h0, h1⟩

theorem run_findN (w : World) (m : Nat) (es : Array MapEntry) (clock : Nat) (hb : w.heap[m]? = some (.map es clock)) (hk : NumKeys es) (d : Int) (h0 : 0 ≤ d) (h1 : d < 1000) :
    (Instr.lookup 95 (.map (some m)) (.int .i64 d) true).run Tryz.prog w = .ok (.tuple #[.slice none 0 0, .bool false]) w ∨
    ∃ e ∈ es.toList, e.key = .int .i64 d ∧ (Instr.lookup 95 (.map (some m)) (.int .i64 d) true).run Tryz.prog w = .ok (.tuple #[e.val, .bool true]) w := by
  have hkl := num_key h0 h1
  have hz : (zeroValue 29).run Tryz.prog w = .ok (.slice none 0 0) w := by kernel_rfl
  rcases intLaw.find w hkl es.toList hk.fits with ⟨h1', h2⟩ | ⟨j, e0, h1', h2, h3⟩
  · exact Or.inl (by simp [Instr.lookup, run_underlying Tryz.underlying95, MapKept.run_getObj_map hb, intLaw.check w _ hkl, h1', hz, Result.andThen])
  · exact Or.inr ⟨e0, List.mem_of_getElem? h2, h3, by simp [Instr.lookup, run_underlying Tryz.underlying95, MapKept.run_getObj_map hb, intLaw.check w _ hkl, h1', Result.andThen]⟩
end Go.Proofs.YtclhpedecimicaaGreat

namespace Go.Proofs.YtclhpedecimicaaGreat
set_option maxRecDepth 100000
open Go Go.RowKit

theorem Boxed.oneT {W : World} {B : Nat} {t : TypeId} {v v' : Value} (h : Boxed W B t v) (h' : Boxed W B t v') : v = v' := by
  have e : some (Obj.cells #[v] t (0, 0)) = some (Obj.cells #[v'] t (0, 0)) := h.symm.trans h'
  simpa using e
/-- The box is laid; its row, if it has one, is there. -/
def GoodX (T : TypeId) (B : Nat) (W : World) : Prop := ∃ v, Boxed W B T v ∧ ∀ g, v.ownBlock = some g → g < W.heap.size
/-- Block k is neither the box nor its row. -/
def SafeX (T : TypeId) (B : Nat) (W : World) (k : Nat) : Prop := k < W.heap.size ∧ k ≠ B ∧ ∀ v, Boxed W B T v → v.ownBlock ≠ some k
/-- What a round keeps. -/
structure KpX (n₀ : Nat) (T : TypeId) (B : Nat) (W W' : World) : Prop where
  low : Below n₀ W W'
  walks : KeepsWalks W W'
  box : ∀ v, Boxed W B T v → (∀ g, v.ownBlock = some g → g < W.heap.size) → ∃ v', Boxed W' B T v' ∧ (∀ g, v'.ownBlock = some g → g < W'.heap.size ∧ (v.ownBlock = some g ∨ W.heap.size ≤ g)) ∧
    ∀ k, k < W.heap.size → k ≠ B → v.ownBlock ≠ some k → ∀ o, W.heap[k]? = some o → o.isCells = true → W'.heap[k]? = some o
theorem KpX.trans {n₀ B : Nat} {T : TypeId} {X Y Z : World} (h : KpX n₀ T B X Y) (k : KpX n₀ T B Y Z) : KpX n₀ T B X Z := by
  refine ⟨h.low.trans k.low, h.walks.trans k.walks, fun v hv hg => ?_⟩
  obtain ⟨v', hv', hg', hk'⟩ := h.box v hv hg
  obtain ⟨v2, hv2, hg2, hk2⟩ := k.box v' hv' (fun g e => (hg' g e).1)
  have hsz := h.low.size
  refine ⟨v2, hv2, fun g e => ?_, fun i hi hiB hio o ho hc => ?_⟩
  · obtain ⟨h1, h2⟩ := hg2 g e
    refine ⟨h1, ?_⟩
    rcases h2 with h2 | h2
    · exact (hg' g h2).2
    · exact Or.inr (by omega)
  · refine hk2 i (by omega) hiB (fun e => ?_) o (hk' i hi hiB hio o ho hc) hc
    rcases (hg' i e).2 with h3 | h3
    · exact hio h3
    · omega
theorem KpX.put {n₀ B m : Nat} {T : TypeId} (hn : n₀ ≤ m) (W : World) (l : Nat) (o o' : Obj) (hl : m ≤ l) (ho : W.heap[l]? = some o) (hc : o.isCells = false) (hw : o.isWalk = false) : KpX n₀ T B W (W.putObj l o') := by
  have hother : ∀ (k : Nat) (o2 : Obj), W.heap[k]? = some o2 → o2.isCells = true → (W.putObj l o').heap[k]? = some o2 := fun k o2 hk h2 => by
    refine (World.putObj_heap_other (fun e => ?_)).trans hk
    subst e
    rw [ho] at hk
    cases hk
    rw [hc] at h2
    cases h2
  refine ⟨⟨rfl, rfl, rfl, by simp [World.putObj], fun i hi => World.putObj_heap_other (by omega)⟩, KeepsWalks.putObj o' ho hw, fun v hv hg => ⟨v, hother _ _ hv rfl, fun g e => ⟨by have := hg g e; simpa [World.putObj] using this, Or.inl e⟩, fun k _ _ _ o2 hk h2 => hother k o2 hk h2⟩⟩
theorem KpX.of_below {n₀ B : Nat} {T : TypeId} {W W' : World} (hn : n₀ ≤ W.heap.size) (h : Below W.heap.size W W') : KpX n₀ T B W W' :=
  ⟨h.mono hn, ⟨h.size, fun k _ hk _ => (h.block k (Array.getElem?_eq_some_iff.1 hk).1).trans hk⟩, fun v hv hg => ⟨v, (h.block B hv.lt).trans hv, fun g e => ⟨Nat.lt_of_lt_of_le (hg g e) h.size, Or.inl e⟩, fun k hk _ _ _ ho _ => (h.block k hk).trans ho⟩⟩
theorem KpX.good {n₀ B : Nat} {T : TypeId} {W W' : World} (h : KpX n₀ T B W W') (hg : GoodX T B W) : GoodX T B W' := by
  obtain ⟨v, hv, hg⟩ := hg
  obtain ⟨v', hv', hg', -⟩ := h.box v hv hg
  exact ⟨v', hv', fun g e => (hg' g e).1⟩
theorem KpX.safe {n₀ B : Nat} {T : TypeId} {W W' : World} (h : KpX n₀ T B W W') (hg : GoodX T B W) {k : Nat} (hs : SafeX T B W k) : SafeX T B W' k ∧ ∀ o, W.heap[k]? = some o → o.isCells = true → W'.heap[k]? = some o := by
  obtain ⟨v, hv, hg⟩ := hg
  obtain ⟨v', hv', hg', hk'⟩ := h.box v hv hg
  obtain ⟨h1, h2, h3⟩ := hs
  have hsz := h.low.size
  refine ⟨⟨by omega, h2, fun u hu e => ?_⟩, fun o ho hc => hk' k h1 h2 (h3 v hv) o ho hc⟩
  rw [Boxed.oneT hu hv'] at e
  rcases (hg' k e).2 with h4 | h4
  · exact h3 v hv h4
  · omega
/-- What is made is safe. -/
theorem SafeX.new {B : Nat} {T : TypeId} {W W' : World} (hg : GoodX T B W) (h : Below W.heap.size W W') {k : Nat} (h1 : W.heap.size ≤ k) (h2 : k < W'.heap.size) : SafeX T B W' k := by
  obtain ⟨v, hv, hg⟩ := hg
  have hb := hv.lt
  refine ⟨h2, by omega, fun u hu e => ?_⟩
  have hv' : Boxed W' B T v := (h.block B hv.lt).trans hv
  rw [Boxed.oneT hu hv'] at e
  have := hg k e
  omega
/-- A block that is no cells is turned: the box and what is safe stay. -/
theorem GoodX.turn {B M : Nat} {T : TypeId} {W W' : World} (hg : GoodX T B W) (h : W.grownBy W' (some M)) (hM : ∀ o, W.heap[M]? = some o → o.isCells = false) : GoodX T B W' := by
  obtain ⟨v, hv, hg⟩ := hg
  have hne : some B ≠ some M := fun e => by
    have := hM _ (by rw [← Option.some.inj e]; exact hv)
    cases this
  exact ⟨v, (h.block B hv.lt hne).trans hv, fun g e => Nat.lt_of_lt_of_le (hg g e) h.size⟩
theorem SafeX.turn {B M : Nat} {T : TypeId} {W W' : World} (hg : GoodX T B W) (h : W.grownBy W' (some M)) (hM : ∀ o, W.heap[M]? = some o → o.isCells = false) {k : Nat} (hs : SafeX T B W k) : SafeX T B W' k := by
  obtain ⟨v, hv, hg⟩ := hg
  obtain ⟨h1, h2, h3⟩ := hs
  have hne : some B ≠ some M := fun e => by
    have := hM _ (by rw [← Option.some.inj e]; exact hv)
    cases this
  refine ⟨Nat.lt_of_lt_of_le h1 h.size, h2, fun u hu e => ?_⟩
  have hv' : Boxed W' B T v := (h.block B hv.lt hne).trans hv
  rw [Boxed.oneT hu hv'] at e
  exact h3 v hv e
/-- A world in which all that is safe lies as it lay, and is safe. -/
structure StayX (n₀ : Nat) (T : TypeId) (B : Nat) (W W' : World) : Prop where
  low : Below n₀ W W'
  good : GoodX T B W'
  size : W.heap.size ≤ W'.heap.size
  safe : ∀ k, SafeX T B W k → SafeX T B W' k ∧ ∀ o, W.heap[k]? = some o → o.isCells = true → W'.heap[k]? = some o
theorem StayX.refl {n₀ B : Nat} {T : TypeId} {W : World} (hg : GoodX T B W) : StayX n₀ T B W W := ⟨Below.refl _ _, hg, Nat.le_refl _, fun _ h => ⟨h, fun _ h _ => h⟩⟩
theorem StayX.trans {n₀ B : Nat} {T : TypeId} {X Y Z : World} (h : StayX n₀ T B X Y) (k : StayX n₀ T B Y Z) : StayX n₀ T B X Z :=
  ⟨h.low.trans k.low, k.good, Nat.le_trans h.size k.size, fun i hi => ⟨(k.safe i (h.safe i hi).1).1, fun o ho hc => (k.safe i (h.safe i hi).1).2 o ((h.safe i hi).2 o ho hc) hc⟩⟩
theorem KpX.stay {n₀ B : Nat} {T : TypeId} {W W' : World} (h : KpX n₀ T B W W') (hg : GoodX T B W) : StayX n₀ T B W W' := ⟨h.low, h.good hg, h.low.size, fun _ hk => h.safe hg hk⟩
theorem StayX.of_below {n₀ B : Nat} {T : TypeId} {W W' : World} (hn : n₀ ≤ W.heap.size) (h : Below W.heap.size W W') (hg : GoodX T B W) : StayX n₀ T B W W' := (KpX.of_below (T := T) (B := B) hn h).stay hg
theorem StayX.turn {n₀ B M : Nat} {T : TypeId} {W W' : World} (hn : n₀ ≤ W.heap.size) (hM0 : n₀ ≤ M) (h : W.grownBy W' (some M)) (hM : ∀ o, W.heap[M]? = some o → o.isCells = false) (hg : GoodX T B W) : StayX n₀ T B W W' :=
  ⟨⟨h.os, h.tape, h.output, h.size, fun k hk => h.block k (by omega) (fun e => by have := Option.some.inj e; omega)⟩, hg.turn h hM, h.size, fun k hk => ⟨hk.turn hg h hM, fun o ho hc => (h.block k hk.1 (fun e => by
      have := hM o (by rw [← Option.some.inj e]; exact ho)
      rw [this] at hc; cases hc)).trans ho⟩⟩
end Go.Proofs.YtclhpedecimicaaGreat

namespace Go.Proofs.YtclhpedecimicaaGreat
set_option maxRecDepth 100000
open Go Go.RowKit

def JoinRel (L : List (List UInt8)) (s i : Value) : Prop := ∃ k : Nat, ∃ acc : List UInt8, k ≤ L.length ∧ i = .int .i64 k ∧ s = .string ⟨acc.toArray⟩ ∧ acc = joinL (L.take k) ∧ acc.length ≤ 1099511627776

end Go.Proofs.YtclhpedecimicaaGreat

namespace Go.Proofs.YtclhpedecimicaaGreat
set_option maxRecDepth 100000
open Go Go.RowKit

theorem parts_len (l : List UInt8) : (partsL l).length ≤ l.length + 1 := by
  have h : ∀ L : List (List UInt8), L.length ≤ total L := by
    intro L
    induction L with
    | nil => simp [total]
    | cons x r ih => simp only [List.length_cons, total]; omega
  exact Nat.le_trans (h _) (total_parts l)

def baseL (l : List UInt8) : List UInt8 := if partsL l = [] then (if wholeL l then [47] else []) else (partsL l).getLastD []

theorem last_atP (L : List (List UInt8)) (h : 0 < L.length) : L.getLastD [] = L[L.length - 1] := by
  cases L with
  | nil => simp at h
  | cons x r => simp [List.getLastD_eq_getLast?, List.getLast?_eq_getElem?]


/-- A row without its last text. -/
theorem Texts.init {B : Nat} {w : World} {g n cap : Nat} {L : List (List UInt8)} (h : Texts B w (.slice (some ⟨g, 0, none⟩) (n + 1) cap) L) (hn : L.length = n + 1) : Texts B w (.slice (some ⟨g, 0, none⟩) n cap) L.dropLast := by
  obtain ⟨h1, h2 | ⟨g', cap', cur, hv, hg, hh, hc, hm, hs, ht⟩⟩ := h
  · cases h2.1
  · simp only [Value.slice.injEq, Option.some.injEq, Addr.mk.injEq] at hv
    obtain ⟨⟨rfl, -⟩, -, rfl⟩ := hv
    have hl : L.dropLast.length = n := by rw [List.length_dropLast, hn]; rfl
    refine ⟨by rw [List.length_map, Nat.mul_one], Or.inr ⟨g, cap, cur, by rw [hl], hg, hh, by omega, hm, hs, ?_⟩⟩
    rw [hl, List.map_dropLast, ← ht, hn, Nat.mul_one, Nat.mul_one, List.dropLast_eq_take, List.length_take, List.take_take]
    have hcl : cur.toList.length = cap := by rw [Array.length_toList, hs, Nat.mul_one]
    rw [hcl]
    congr 1
    omega

def dirL (l : List UInt8) : List UInt8 :=
  if (if wholeL l then 47 :: joinL (partsL l).dropLast else joinL (partsL l).dropLast) = [] then [46] else (if wholeL l then 47 :: joinL (partsL l).dropLast else joinL (partsL l).dropLast)

theorem total_init (L : List (List UInt8)) : total L.dropLast ≤ total L := by
  rw [List.dropLast_eq_take]
  exact total_take L _

theorem empty_val (l : List UInt8) : ((⟨l.toArray⟩ : ByteArray).toList.isEmpty) = l.isEmpty := by rw [ByteArray.toList_eq]

theorem rwhole_known (s : ByteArray) (b : Bool) (h : wholeL s.data.toList = b) (w : World) : Calls Tryz.prog 84 #[.string s] w fun e w' => e = .returned (.bool b) ∧ w = w' := by
  subst h
  exact rwhole_any s w

theorem slash_cat (x : ByteArray) : ((⟨#[47]⟩ : ByteArray) ++ x).toList.isEmpty = false := by
  rcases x with ⟨⟨l⟩⟩
  rw [ByteArray.mk_append_mk, ByteArray.toList_eq]
  simp

end Go.Proofs.YtclhpedecimicaaGreat

namespace Go.Proofs.YtclhpedecimicaaGreat
set_option maxRecDepth 100000
open Go Go.RowKit

def joinP (a b : List UInt8) : List UInt8 := if a = [] ∨ wholeL b = true then b else if b = [] then a else if a.getLast? = some 47 then a ++ b else a ++ 47 :: b

end Go.Proofs.YtclhpedecimicaaGreat

namespace Go.Proofs.YtclhpedecimicaaGreat
set_option maxRecDepth 100000
open Go Go.RowKit

/-- One name more: . changes nothing, .. takes the last one away. -/
def stepF (out : List (List UInt8)) (n : List UInt8) : List (List UInt8) := if n = [46] then out else if n = [46, 46] then out.dropLast else out ++ [n]
def foldP (L : List (List UInt8)) : List (List UInt8) := L.foldl stepF []
def foldL (a b : List UInt8) : List UInt8 := 47 :: joinL (foldP (partsL (if wholeL b then b else joinP a b)))

theorem step_total (out : List (List UInt8)) (n : List UInt8) : total (stepF out n) ≤ total out + (n.length + 1) := by
  unfold stepF
  split
  · omega
  · split
    · have := total_init out; omega
    · rw [total_append]; simp [total]
theorem step_len (out : List (List UInt8)) (n : List UInt8) : (stepF out n).length ≤ out.length + 1 := by
  unfold stepF
  split
  · omega
  · split
    · rw [List.length_dropLast]; omega
    · simp
theorem fold_total (L : List (List UInt8)) : ∀ k, k ≤ L.length → total (foldP (L.take k)) ≤ total (L.take k) ∧ (foldP (L.take k)).length ≤ k
  | 0, _ => by simp [foldP, total]
  | k + 1, h => by
    have ih := fold_total L k (by omega)
    have e : L.take (k + 1) = L.take k ++ [L[k]] := List.take_succ_eq_append_getElem (by omega)
    rw [e, total_append]
    unfold foldP at ih ⊢
    rw [List.foldl_append]
    simp only [List.foldl_cons, List.foldl_nil, total]
    have h1 := step_total (List.foldl stepF [] (L.take k)) L[k]
    have h2 := step_len (List.foldl stepF [] (L.take k)) L[k]
    omega
theorem fold_next (L : List (List UInt8)) (k : Nat) (h : k < L.length) : foldP (L.take (k + 1)) = stepF (foldP (L.take k)) L[k] := by
  rw [List.take_succ_eq_append_getElem h]
  unfold foldP
  rw [List.foldl_append]
  rfl

def FRel (L : List (List UInt8)) (B : Nat) (w0 : World) (o i : Value) (wr : World) : Prop :=
  ∃ k : Nat, k ≤ L.length ∧ i = .int .i64 k ∧ Texts B wr o (foldP (L.take k)) ∧ Below B w0 wr

/-- An empty row, or one that lies in memory. -/
theorem Texts.slot {B : Nat} {w : World} {v : Value} {L : List (List UInt8)} (h : Texts B w v L) : ∃ (a : Option Addr) (cap : Nat), v = .slice a L.length cap ∧ L.length ≤ cap ∧ cap ≤ maxLen := by
  rcases h.forms with ⟨rfl, rfl⟩ | ⟨g, cap, rfl, -, -, hc, hm, -⟩
  · exact ⟨none, 0, rfl, Nat.le_refl _, by decide⟩
  · exact ⟨_, cap, rfl, hc, hm⟩

theorem texts_own {B : Nat} {w : World} {v : Value} {L : List (List UInt8)} (h : Texts B w v L) : w.ownsRow B 9 1 v L.length (L.map strv) := h
theorem same_list (xs : ByteArray) (l : List UInt8) (h : (xs.toList == l) = true) : xs.data.toList = l := by
  rw [ByteArray.toList_eq] at h
  exact beq_iff_eq.1 h
theorem other_list (xs : ByteArray) (l : List UInt8) (h : (xs.toList == l) = false) : xs.data.toList ≠ l := by
  rw [ByteArray.toList_eq] at h
  exact beq_eq_false_iff_ne.1 h

theorem rwhole_two (s : ByteArray) (b : Bool) (h : wholeL s.data.toList = b) (w : World) : Calls Tryz.prog 84 #[.string s] w fun e w' => e = .returned (.bool b) ∧ w = w' := rwhole_known s b h w

theorem rparts_known (s : ByteArray) (L : List (List UInt8)) (hL : L = partsL s.data.toList) (hs : s.size ≤ 1073741824) (w : World) :
    Calls Tryz.prog 60 #[.string s] w fun e w' => ∃ v, e = .returned v ∧ Texts w.heap.size w' v L ∧ Below w.heap.size w w' := by
  subst hL
  exact rparts_any s hs w
theorem rel_dot {L : List (List UInt8)} {k : Nat} {F : List (List UInt8)} {x : List UInt8} (h : F = stepF (foldP (L.take k)) x) (hx : x = [46]) : F = foldP (L.take k) := by
  rw [h, stepF, if_pos hx]
theorem rel_up {L : List (List UInt8)} {k : Nat} {F : List (List UInt8)} {x : List UInt8} (h : F = stepF (foldP (L.take k)) x) (hx : x = [46, 46]) : F = (foldP (L.take k)).dropLast := by
  rw [h, stepF, if_neg (by rw [hx]; decide), if_pos hx]
theorem rel_on {L : List (List UInt8)} {k : Nat} {F : List (List UInt8)} {x : List UInt8} (h : F = stepF (foldP (L.take k)) x) (h1 : x ≠ [46]) (h2 : x ≠ [46, 46]) : F = foldP (L.take k) ++ [x] := by
  rw [h, stepF, if_neg h1, if_neg h2]

theorem rel_same {B : Nat} {w : World} {v : Value} {F G : List (List UInt8)} (h : F = G.dropLast) (hz : G = []) (ht : Texts B w v G) : Texts B w v F := by
  subst hz
  subst h
  exact ht



theorem join_size (a b : List UInt8) : (joinP a b).length ≤ a.length + b.length + 1 := by
  unfold joinP
  split
  · omega
  · split
    · omega
    · split
      · rw [List.length_append]; omega
      · rw [List.length_append, List.length_cons]; omega

end Go.Proofs.YtclhpedecimicaaGreat

namespace Go.Proofs.YtclhpedecimicaaGreat
set_option maxRecDepth 100000
open Go Go.RowKit

def SRel (n : Nat) (L1 L2 : List (List UInt8)) (w0 : World) (i : Value) (wr : World) : Prop :=
  ∃ k : Nat, k ≤ n ∧ i = .int .i64 k ∧ L1.take k = L2.take k ∧ Below w0.heap.size w0 wr

theorem take_same (L1 L2 : List (List UInt8)) (k : Nat) (h1 : k < L1.length) (h2 : k < L2.length) (h : L1.take k = L2.take k) (he : L1[k] = L2[k]) : L1.take (k + 1) = L2.take (k + 1) := by
  rw [List.take_succ_eq_append_getElem h1, List.take_succ_eq_append_getElem h2, h, he]

theorem same_bytes (x y : ByteArray) (h : (x.toList == y.toList) = true) : x.data.toList = y.data.toList := by
  rw [ByteArray.toList_eq, ByteArray.toList_eq] at h
  exact beq_iff_eq.1 h
theorem diff_bytes (x y : ByteArray) (h : (x.toList == y.toList) = false) : x.data.toList ≠ y.data.toList := by
  rw [ByteArray.toList_eq, ByteArray.toList_eq] at h
  exact beq_eq_false_iff_ne.1 h

set_option maxHeartbeats 2000000 in
theorem rsame_any (L1 L2 : List (List UInt8)) (B1 B2 : Nat) (v1 v2 : Value) (w : World) (hT1 : Texts B1 w v1 L1) (hT2 : Texts B2 w v2 L2) :
    Calls Tryz.prog 9 #[v1, v2] w fun e w' => e = .returned (.bool (decide (L1 = L2))) ∧ Below w.heap.size w w' := by
  obtain ⟨a1, c1, rfl, hc1, hm1⟩ := hT1.slot
  obtain ⟨a2, c2, rfl, hc2, hm2⟩ := hT2.slot
  have HT1 := Lib.hid hT1
  have HT2 := Lib.hid hT2
  clear hT1 hT2
  unfold maxLen at hm1 hm2
  by_cases hlen : L1.length = L2.length
  · rw [← hlen]
    have HL := Lib.hid hlen
    have hc2' : L1.length ≤ c2 := by omega
    clear hlen hc2
    go_enter Tryz.func9, Tryz.ntmps9
    go_wp2_with fail
    go_loopw [5] (fun i wr => SRel L1.length L1 L2 w i wr) (fun i _ => L1.length - (intOf i).toNat)
    case atStart => exact ⟨0, by omega, rfl, by simp, Below.refl _ _⟩
    case round =>
      obtain ⟨k, hk, rfl, ht, hb⟩ := hrel
      have HTK := Lib.hid ht
      have HB := Lib.hid hb
      clear ht hb
      by_cases hlt : k < L1.length
      · have hlt2 : k < L2.length := by have := HL.out; omega
        obtain ⟨x1, hx1⟩ : ∃ xs : ByteArray, xs = ⟨L1[k].toArray⟩ := ⟨_, rfl⟩
        obtain ⟨x2, hx2⟩ : ∃ xs : ByteArray, xs = ⟨L2[k].toArray⟩ := ⟨_, rfl⟩
        have HX1 := Lib.hid (show x1.data.toList = L1[k] by rw [hx1])
        have HX2 := Lib.hid (show x2.data.toList = L2[k] by rw [hx2])
        obtain ⟨g1, rfl, hy1⟩ : ∃ g, a1 = some ⟨g, 0, none⟩ ∧ wr.cell? ⟨g, k, none⟩ = some (.string x1) := by
          rcases HT1.out.forms with ⟨hv, hn⟩ | ⟨g, cap, hv, hB, hg, -, -, hcell⟩
          · rw [hn] at hlt; simp at hlt
          · simp only [Value.slice.injEq] at hv
            refine ⟨g, hv.1, ?_⟩
            rw [HB.out.cell (p := ⟨g, k, none⟩) hg, hcell k hlt, hx1]
            rfl
        obtain ⟨g2, rfl, hy2⟩ : ∃ g, a2 = some ⟨g, 0, none⟩ ∧ wr.cell? ⟨g, k, none⟩ = some (.string x2) := by
          rcases HT2.out.forms with ⟨hv, hn⟩ | ⟨g, cap, hv, hB, hg, -, -, hcell⟩
          · rw [hn] at hlt2; simp at hlt2
          · simp only [Value.slice.injEq] at hv
            refine ⟨g, hv.1, ?_⟩
            rw [HB.out.cell (p := ⟨g, k, none⟩) hg, hcell k hlt2, hx2]
            rfl
        clear hx1 hx2
        have b1 : (0 : Int) ≤ (k : Int) := by omega
        have b2 : (k : Int) < (L1.length : Int) := by omega
        cases he : (x1.toList == x2.toList) with
        | true =>
          have HE := Lib.hid (take_same L1 L2 k hlt hlt2 HTK.out (HX1.out.symm.trans ((same_bytes x1 x2 he).trans HX2.out)))
          go_wp2_with fail
          go_quiet (fail)
          go_wp2_with fail
          go_roundw
          case rel => exact ⟨k + 1, by omega, by go_num, HE.out, HB.out.trans ⟨rfl, rfl, rfl, Nat.le_refl _, fun _ _ => rfl⟩⟩
          case measure => simp [intOf] <;> omega
        | false =>
          have hne : ¬ L1 = L2 := fun e => diff_bytes x1 x2 he (HX1.out.trans (Eq.trans (by congr 1) HX2.out.symm))
          have HN := Lib.hid (decide_eq_false hne)
          clear hne
          go_wp2_with fail
          go_quiet (fail)
          go_wp2_with fail
          go_ret
          exact ⟨by rw [HN.out]; rfl, HB.out.trans ⟨rfl, rfl, rfl, Nat.le_refl _, fun _ _ => rfl⟩⟩
      · obtain rfl : k = L1.length := by omega
        have HN := Lib.hid (decide_eq_true (p := L1 = L2) (by have h := HTK.out; rw [List.take_length, HL.out, List.take_length] at h; exact h))
        go_wp2_with fail
        go_ret
        exact ⟨by rw [HN.out]; rfl, HB.out⟩
  · have hd : ((L1.length : Int) == (L2.length : Int)) = false := by rw [beq_eq_false_iff_ne]; omega
    have HN := Lib.hid (decide_eq_false (p := L1 = L2) (fun e => hlen (by rw [e])))
    clear hlen
    go_enter Tryz.func9, Tryz.ntmps9
    go_wp2_with fail
    go_ret
    exact ⟨by rw [HN.out]; rfl, Below.refl _ _⟩
end Go.Proofs.YtclhpedecimicaaGreat

namespace Go.Proofs.YtclhpedecimicaaGreat
set_option maxRecDepth 100000
open Go Go.RowKit

/-- At block g, place o, lies the inode x, whose names' slice is v. -/
structure NodeAt (W : World) (g o : Nat) (x : Ino) (v : Value) : Prop where
  kind : W.cell? ⟨g, o, none⟩ = some (.int .i64 x.kind)
  mode : W.cell? ⟨g, o + 1, none⟩ = some (.int .i64 x.mode)
  links : W.cell? ⟨g, o + 2, none⟩ = some (.int .i64 x.links)
  data : W.cell? ⟨g, o + 3, none⟩ = some (.string ⟨x.data.toArray⟩)
  kids : W.cell? ⟨g, o + 4, none⟩ = some v
  up : W.cell? ⟨g, o + 5, none⟩ = some (.int .i64 x.up)

/-- Block g holds the inodes L, whose names' slices are vs. -/
structure NodesOwn (W : World) (g cap : Nat) (L : List Ino) (vs : List Value) : Prop where
  len : vs.length = L.length
  le : L.length ≤ cap
  max : cap ≤ maxLen
  lt : g < W.heap.size
  free : ∀ j, W.frozen? ⟨g, j, none⟩ = false
  node : ∀ i (hi : i < L.length) (hv : i < vs.length), NodeAt W g (i * 6) L[i] vs[i]

section
variable {W W' : World} {g cap : Nat} {L : List Ino} {vs : List Value}
theorem NodeAt.same {o : Nat} {x : Ino} {v : Value} (h : NodeAt W g o x v) (he : W'.heap[g]? = W.heap[g]?) : NodeAt W' g o x v := by
  have hc : ∀ j, W'.cell? ⟨g, j, none⟩ = W.cell? ⟨g, j, none⟩ := fun j => World.cell?_of_block (a := ⟨g, j, none⟩) he
  exact ⟨(hc _).trans h.kind, (hc _).trans h.mode, (hc _).trans h.links, (hc _).trans h.data, (hc _).trans h.kids, (hc _).trans h.up⟩
theorem lt_of_same (hl : g < W.heap.size) (he : W'.heap[g]? = W.heap[g]?) : g < W'.heap.size := by
  rw [Array.getElem?_eq_getElem hl] at he
  exact (Array.getElem?_eq_some_iff.1 he).1
theorem NodesOwn.same (h : NodesOwn W g cap L vs) (he : W'.heap[g]? = W.heap[g]?) : NodesOwn W' g cap L vs :=
  ⟨h.len, h.le, h.max, lt_of_same h.lt he, fun j => (World.frozen?_of_block (a := ⟨g, j, none⟩) he).trans (h.free j), fun i hi hv => (h.node i hi hv).same he⟩
theorem NodesOwn.below (h : NodesOwn W g cap L vs) (hb : Below W.heap.size W W') : NodesOwn W' g cap L vs := h.same (hb.block g h.lt)
theorem NodesOwn.nodesIn (h : NodesOwn W g cap L vs) (hk : ∀ i (hi : i < L.length) (hv : i < vs.length), KidsIn W vs[i] L[i].kids) : NodesIn W (some ⟨g, 0, none⟩) cap L :=
  ⟨h.le, h.max, fun i hi => ⟨g, 0, rfl, by
    rw [Nat.zero_add]
    have hv : i < vs.length := by rw [h.len]; exact hi
    have hn := h.node i hi hv
    exact ⟨hn.kind, hn.mode, hn.links, hn.data, ⟨_, hn.kids, hk i hi hv⟩, hn.up⟩⟩⟩

/-- One cell of an inode is written. -/
theorem cell_set {a : Nat} {u old : Value} (h : W.cell? ⟨g, a, none⟩ = some old) (j : Nat) : (W.setCell ⟨g, a, none⟩ u).cell? ⟨g, j, none⟩ = if j = a then some u else W.cell? ⟨g, j, none⟩ := by
  by_cases e : j = a
  · subst e
    rw [if_pos rfl]
    exact World.cell?_setCell_same W ⟨g, j, none⟩ u h
  · rw [if_neg e]
    exact World.cell?_setCell_other W ⟨g, a, none⟩ ⟨g, j, none⟩ u (fun e2 => e (Addr.mk.inj e2).2.1.symm)
theorem size_set (a : Addr) (u : Value) : (W.setCell a u).heap.size = W.heap.size := by simp [World.setCell]

/-- What is written of an inode: of the six cells from i * 6 on. -/
theorem NodesOwn.put (h : NodesOwn W g cap L vs) {i : Nat} (_hi : i < L.length) {x : Ino} {v : Value} (hs : W'.heap.size = W.heap.size) (hf : ∀ j, W'.frozen? ⟨g, j, none⟩ = W.frozen? ⟨g, j, none⟩)
    (hout : ∀ j, j < i * 6 ∨ i * 6 + 6 ≤ j → W'.cell? ⟨g, j, none⟩ = W.cell? ⟨g, j, none⟩) (hin : NodeAt W' g (i * 6) x v) : NodesOwn W' g cap (L.set i x) (vs.set i v) := by
  refine ⟨by rw [List.length_set, List.length_set, h.len], by rw [List.length_set]; exact h.le, h.max, by rw [hs]; exact h.lt, fun j => (hf j).trans (h.free j), fun j hj hv => ?_⟩
  rw [List.length_set] at hj hv
  by_cases e : i = j
  · subst e
    rw [List.getElem_set_self, List.getElem_set_self]
    exact hin
  · rw [List.getElem_set_ne e, List.getElem_set_ne e]
    have hn := h.node j hj hv
    have ho : ∀ t, t < 6 → W'.cell? ⟨g, j * 6 + t, none⟩ = W.cell? ⟨g, j * 6 + t, none⟩ := fun t ht => hout _ (by omega)
    exact ⟨(ho 0 (by decide)).trans hn.kind, (ho 1 (by decide)).trans hn.mode, (ho 2 (by decide)).trans hn.links, (ho 3 (by decide)).trans hn.data, (ho 4 (by decide)).trans hn.kids, (ho 5 (by decide)).trans hn.up⟩

theorem NodesOwn.setKids (h : NodesOwn W g cap L vs) {i : Nat} (hi : i < L.length) (hv : i < vs.length) (v : Value) (M : List (List UInt8 × Int)) : NodesOwn (W.setCell ⟨g, i * 6 + 4, none⟩ v) g cap (L.set i { L[i] with kids := M }) (vs.set i v) := by
  have hn := h.node i hi hv
  have hc := cell_set (u := v) hn.kids
  refine h.put hi (size_set _ _) (fun j => World.frozen?_setCell ..) (fun j hj => by rw [hc, if_neg (by omega)]) ⟨?_, ?_, ?_, ?_, ?_, ?_⟩
  · rw [hc, if_neg (by omega)]; exact hn.kind
  · rw [hc, if_neg (by omega)]; exact hn.mode
  · rw [hc, if_neg (by omega)]; exact hn.links
  · rw [hc, if_neg (by omega)]; exact hn.data
  · rw [hc, if_pos rfl]
  · rw [hc, if_neg (by omega)]; exact hn.up
theorem NodesOwn.setLinks (h : NodesOwn W g cap L vs) {i : Nat} (hi : i < L.length) (hv : i < vs.length) (z : Int) : NodesOwn (W.setCell ⟨g, i * 6 + 2, none⟩ (.int .i64 z)) g cap (L.set i { L[i] with links := z }) (vs.set i vs[i]) := by
  have hn := h.node i hi hv
  have hc := cell_set (u := .int .i64 z) hn.links
  refine h.put hi (size_set _ _) (fun j => World.frozen?_setCell ..) (fun j hj => by rw [hc, if_neg (by omega)]) ⟨?_, ?_, ?_, ?_, ?_, ?_⟩
  · rw [hc, if_neg (by omega)]; exact hn.kind
  · rw [hc, if_neg (by omega)]; exact hn.mode
  · rw [hc, if_pos rfl]
  · rw [hc, if_neg (by omega)]; exact hn.data
  · rw [hc, if_neg (by omega)]; exact hn.kids
  · rw [hc, if_neg (by omega)]; exact hn.up
theorem NodesOwn.setMode (h : NodesOwn W g cap L vs) {i : Nat} (hi : i < L.length) (hv : i < vs.length) (z : Int) : NodesOwn (W.setCell ⟨g, i * 6 + 1, none⟩ (.int .i64 z)) g cap (L.set i { L[i] with mode := z }) (vs.set i vs[i]) := by
  have hn := h.node i hi hv
  have hc := cell_set (u := .int .i64 z) hn.mode
  refine h.put hi (size_set _ _) (fun j => World.frozen?_setCell ..) (fun j hj => by rw [hc, if_neg (by omega)]) ⟨?_, ?_, ?_, ?_, ?_, ?_⟩
  · rw [hc, if_neg (by omega)]; exact hn.kind
  · rw [hc, if_pos rfl]
  · rw [hc, if_neg (by omega)]; exact hn.links
  · rw [hc, if_neg (by omega)]; exact hn.data
  · rw [hc, if_neg (by omega)]; exact hn.kids
  · rw [hc, if_neg (by omega)]; exact hn.up
def inoC (x : Ino) (v : Value) : List Value := [.int .i64 x.kind, .int .i64 x.mode, .int .i64 x.links, .string ⟨x.data.toArray⟩, v, .int .i64 x.up]
theorem size_sets (b : Nat) : ∀ (l : List Value) (o : Nat) (w : World), (w.setCells b o l).heap.size = w.heap.size
  | [], _, _ => rfl
  | v :: r, o, w => by
    show ((w.setCell ⟨b, o, none⟩ v).setCells b (o + 1) r).heap.size = _
    rw [size_sets b r, size_set]
theorem NodesOwn.setNode (h : NodesOwn W g cap L vs) {i : Nat} (hi : i < L.length) (hv : i < vs.length) (x : Ino) (v : Value) : NodesOwn (W.setCells g (i * 6) (inoC x v)) g cap (L.set i x) (vs.set i v) := by
  have hn := h.node i hi hv
  have hin := World.cell?_setCells_in g (inoC x v) (i * 6) W (fun j hj => by
    have hj' : j < 6 := hj
    match j, hj' with
    | 0, _ => exact Option.isSome_of_eq_some hn.kind
    | 1, _ => exact Option.isSome_of_eq_some hn.mode
    | 2, _ => exact Option.isSome_of_eq_some hn.links
    | 3, _ => exact Option.isSome_of_eq_some hn.data
    | 4, _ => exact Option.isSome_of_eq_some hn.kids
    | 5, _ => exact Option.isSome_of_eq_some hn.up)
  refine h.put hi (size_sets _ _ _ _) (fun j => World.frozen?_setCells ..) (fun j hj => World.cell?_setCells_out _ _ _ _ _ (fun _ _ => hj)) ⟨?_, ?_, ?_, ?_, ?_, ?_⟩
  · exact hin 0 (show 0 < 6 by decide)
  · exact hin 1 (show 1 < 6 by decide)
  · exact hin 2 (show 2 < 6 by decide)
  · exact hin 3 (show 3 < 6 by decide)
  · exact hin 4 (show 4 < 6 by decide)
  · exact hin 5 (show 5 < 6 by decide)
end

/-! ### Names in a block of the call's own -/

def kidC : List (List UInt8 × Int) → List Value
  | [] => []
  | e :: r => .string ⟨e.1.toArray⟩ :: .int .i64 e.2 :: kidC r
theorem kidC_len : ∀ K, (kidC K).length = K.length * 2
  | [] => rfl
  | e :: r => by simp only [kidC, List.length_cons, kidC_len r]; omega
theorem kidC_app : ∀ A B, kidC (A ++ B) = kidC A ++ kidC B
  | [], B => rfl
  | e :: r, B => by simp only [List.cons_append, kidC, kidC_app r B]
theorem kidC_get0 : ∀ (K : List (List UInt8 × Int)) (i : Nat) (h : i < K.length), (kidC K)[i * 2]? = some (.string ⟨K[i].1.toArray⟩)
  | e :: r, 0, _ => rfl
  | e :: r, i + 1, h => by
    have := kidC_get0 r i (Nat.lt_of_succ_lt_succ h)
    rw [show (i + 1) * 2 = i * 2 + 1 + 1 by omega, kidC, List.getElem?_cons_succ, List.getElem?_cons_succ, this]
    rfl
theorem kidC_get1 : ∀ (K : List (List UInt8 × Int)) (i : Nat) (h : i < K.length), (kidC K)[i * 2 + 1]? = some (.int .i64 K[i].2)
  | e :: r, 0, _ => rfl
  | e :: r, i + 1, h => by
    have := kidC_get1 r i (Nat.lt_of_succ_lt_succ h)
    rw [show (i + 1) * 2 + 1 = i * 2 + 1 + 1 + 1 by omega, kidC, List.getElem?_cons_succ, List.getElem?_cons_succ, this]
    rfl
theorem kidC_one : ∀ (K : List (List UInt8 × Int)), ∀ u ∈ kidC K, u.oneCell' = true
  | [], _, h => by cases h
  | e :: r, u, h => by
    rcases List.mem_cons.1 h with rfl | h
    · rfl
    · rcases List.mem_cons.1 h with rfl | h
      · rfl
      · exact kidC_one r u h
/-- Names as they lie, cell by cell. -/
theorem kidC_cells {W : World} {K : List (List UInt8 × Int)} {b o : Nat} (h : ∀ i (hi : i < K.length), W.cell? ⟨b, o + i * 2, none⟩ = some (.string ⟨K[i].1.toArray⟩) ∧ W.cell? ⟨b, o + i * 2 + 1, none⟩ = some (.int .i64 K[i].2)) (j : Nat) (u : Value) (hu : (kidC K)[j]? = some u) : W.cell? ⟨b, o + j, none⟩ = some u := by
  have hj : j < K.length * 2 := by rw [← kidC_len]; exact (List.getElem?_eq_some_iff.1 hu).1
  have hi : j / 2 < K.length := by omega
  rcases Nat.mod_two_eq_zero_or_one j with e | e
  · obtain ⟨i, rfl⟩ : ∃ i, j = i * 2 := ⟨j / 2, by omega⟩
    have hi' : i < K.length := by omega
    rw [kidC_get0 K i hi'] at hu
    cases hu
    exact (h i hi').1
  · obtain ⟨i, rfl⟩ : ∃ i, j = i * 2 + 1 := ⟨j / 2, by omega⟩
    have hi' : i < K.length := by omega
    rw [kidC_get1 K i hi'] at hu
    cases hu
    rw [← Nat.add_assoc]
    exact (h i hi').2
def KidsOwn (W : World) (base : Nat) (v : Value) (K : List (List UInt8 × Int)) : Prop := W.ownsRow base 38 2 v K.length (kidC K)
theorem zero_add_addr (g j : Nat) : (⟨g, 0, none⟩ : Addr).add j = ⟨g, j, none⟩ := by
  unfold Addr.add
  split
  · rename_i h; rw [h]
  · show (⟨g, 0 + j, none⟩ : Addr) = _; rw [Nat.zero_add]
theorem KidsOwn.kidsIn {W : World} {base : Nat} {v : Value} {K : List (List UInt8 × Int)} (h : KidsOwn W base v K) : KidsIn W v K := by
  rcases h.2 with ⟨rfl, h0⟩ | ⟨g, cap, cur, rfl, hb, hg, hn, hc, hs, ht⟩
  · have e : K = [] := List.length_eq_zero_iff.1 h0
    subst e
    exact ⟨none, 0, rfl, Nat.le_refl _, Nat.zero_le _, fun i hi => absurd hi (Nat.not_lt_zero _)⟩
  · refine ⟨some ⟨g, 0, none⟩, cap, rfl, hn, hc, fun i hi => ⟨g, 0, rfl, ?_, ?_⟩⟩
    · have := h.cells rfl _ _ (kidC_get0 K i hi)
      rw [zero_add_addr] at this
      rw [Nat.zero_add]
      exact this
    · have := h.cells rfl _ _ (kidC_get1 K i hi)
      rw [zero_add_addr] at this
      rw [Nat.zero_add]
      exact this
theorem KidsOwn.form {W : World} {B : Nat} {v : Value} {K : List (List UInt8 × Int)} (h : KidsOwn W B v K) : ∃ a c, v = .slice a K.length c := by
  rcases h.2 with ⟨rfl, h0⟩ | ⟨g, cap, cur, e, -⟩
  · exact ⟨none, 0, by rw [h0]⟩
  · exact ⟨_, _, e⟩
theorem KidsOwn.lower {W : World} {B B' : Nat} {v : Value} {K : List (List UInt8 × Int)} (h : KidsOwn W B v K) (hb : B' ≤ B) : KidsOwn W B' v K := by
  refine ⟨h.1, ?_⟩
  rcases h.2 with hn | ⟨g, cap, cur, e, hg, rest⟩
  · exact .inl hn
  · exact .inr ⟨g, cap, cur, e, Nat.le_trans hb hg, rest⟩
theorem KidsOwn.nil (W : World) (base : Nat) : KidsOwn W base (.slice none 0 0) [] := World.ownsRow_nil W base _ 2
theorem KidsOwn.same {W W' : World} {base : Nat} {v : Value} {K : List (List UInt8 × Int)} (h : KidsOwn W base v K) (he : ∀ k, v.ownBlock = some k → W'.heap[k]? = W.heap[k]?) : KidsOwn W' base v K := by
  refine ⟨h.1, ?_⟩
  rcases h.2 with hn | ⟨g, cap, cur, rfl, hb, hg, rest⟩
  · exact .inl hn
  · exact .inr ⟨g, cap, cur, rfl, hb, (he g rfl).trans hg, rest⟩

/-- A tree that is the call's own from block base on. -/
structure OwnT (W : World) (base g cap : Nat) (L : List Ino) (vs : List Value) : Prop where
  nodes : NodesOwn W g cap L vs
  hbase : base ≤ g
  kids : ∀ i (hi : i < L.length) (hv : i < vs.length), KidsOwn W base vs[i] L[i].kids
  apart : ∀ i j (hi : i < vs.length) (hj : j < vs.length), i ≠ j → vs[i].ownBlock = none ∨ vs[i].ownBlock ≠ vs[j].ownBlock
  off : ∀ i (hi : i < vs.length), vs[i].ownBlock ≠ some g
section
variable {W W' : World} {base g cap : Nat} {L : List Ino} {vs : List Value}
theorem OwnT.nodesIn (h : OwnT W base g cap L vs) : NodesIn W (some ⟨g, 0, none⟩) cap L := h.nodes.nodesIn fun i hi hv => (h.kids i hi hv).kidsIn
theorem OwnT.below (h : OwnT W base g cap L vs) (hb : Below W.heap.size W W') : OwnT W' base g cap L vs :=
  ⟨h.nodes.below hb, h.hbase, fun i hi hv => (h.kids i hi hv).same fun k hk => hb.block k ((h.kids i hi hv).lt k hk).2, h.apart, h.off⟩
/-- What lies below base may change. -/
theorem OwnT.low (h : OwnT W base g cap L vs) (hb : ∀ k, base ≤ k → W'.heap[k]? = W.heap[k]?) : OwnT W' base g cap L vs :=
  ⟨h.nodes.same (hb g h.hbase), h.hbase, fun i hi hv => (h.kids i hi hv).same fun k hk => hb k ((h.kids i hi hv).lt k hk).1, h.apart, h.off⟩
theorem OwnT.lower {base' : Nat} (h : OwnT W base g cap L vs) (hb : base' ≤ base) : OwnT W base' g cap L vs :=
  ⟨h.nodes, Nat.le_trans hb h.hbase, fun i hi hv => (h.kids i hi hv).lower hb, h.apart, h.off⟩
/-- Names of one directory are others: in its own block, or in a new one; the rest stays. -/
theorem OwnT.setKids (h : OwnT W base g cap L vs) {d : Nat} (hd : d < L.length) (hv : d < vs.length) {v : Value} {M : List (List UInt8 × Int)} (hg : W.grownBy W' vs[d].ownBlock) (ho : KidsOwn W' base v M) (hb : ∀ k, v.ownBlock = some k → vs[d].ownBlock = some k ∨ W.heap.size ≤ k) :
    OwnT (W'.setCell ⟨g, d * 6 + 4, none⟩ v) base g cap (L.set d { L[d] with kids := M }) (vs.set d v) := by
  have hsame : W'.heap[g]? = W.heap[g]? := hg.block g h.nodes.lt (fun e => h.off d hv e.symm)
  have hN := (h.nodes.same hsame).setKids hd hv v M
  have hoff : ∀ k, v.ownBlock = some k → k ≠ g := fun k hk e => by
    subst e
    rcases hb k hk with h1 | h1
    · exact h.off d hv h1
    · have := h.nodes.lt; omega
  have hap : ∀ j (hj : j < vs.length), j ≠ d → ∀ k, vs[j].ownBlock = some k → v.ownBlock ≠ some k := fun j hj hjd k hk e => by
    rcases hb k e with h1 | h1
    · rcases h.apart j d hj hv hjd with h2 | h2
      · rw [h2] at hk; cases hk
      · exact h2 (hk.trans h1.symm)
    · have := ((h.kids j (by rw [← h.nodes.len]; exact hj) hj).lt k hk).2
      omega
  have hst : ∀ k, k ≠ g → (W'.setCell ⟨g, d * 6 + 4, none⟩ v).heap[k]? = W'.heap[k]? := fun k hk => Below.heap_setCell _ _ _ _ hk
  refine ⟨hN, h.hbase, fun i hi hvi => ?_, fun i j hi hj hij => ?_, fun i hi => ?_⟩
  · rw [List.length_set] at hi hvi
    by_cases e : d = i
    · subst e
      rw [List.getElem_set_self]
      have e2 : (L.set d { L[d] with kids := M })[d]'(by rw [List.length_set]; exact hi) = { L[d] with kids := M } := List.getElem_set_self ..
      rw [e2]
      exact ho.same fun k hk => hst k (hoff k hk)
    · rw [List.getElem_set_ne e, List.getElem_set_ne e]
      have hki := h.kids i hi hvi
      refine hki.same fun k hk => ?_
      rw [hst k (fun e3 => h.off i hvi (e3 ▸ hk))]
      refine hg.block k (hki.lt k hk).2 (fun e3 => ?_)
      rcases h.apart i d hvi hv (fun e4 => e e4.symm) with h2 | h2
      · rw [h2] at hk; cases hk
      · exact h2 (hk.trans e3)
  · rw [List.length_set] at hi hj
    rw [List.getElem_set, List.getElem_set]
    by_cases e1 : d = i
    · rw [if_pos e1]
      rw [if_neg (fun e2 => hij (e1.symm.trans e2))]
      cases hq : v.ownBlock with
      | none => exact Or.inl rfl
      | some k => exact Or.inr fun e3 => hap j hj (fun e2 => hij (e1.symm.trans e2.symm)) k e3.symm hq
    · rw [if_neg e1]
      by_cases e2 : d = j
      · rw [if_pos e2]
        cases hq : vs[i].ownBlock with
        | none => exact Or.inl rfl
        | some k => exact Or.inr fun e3 => hap i hi (fun e4 => e1 e4.symm) k hq e3.symm
      · rw [if_neg e2]
        exact h.apart i j hi hj hij
  · rw [List.length_set] at hi
    rw [List.getElem_set]
    by_cases e : d = i
    · rw [if_pos e]
      exact fun e3 => hoff g e3 rfl
    · rw [if_neg e]
      exact h.off i hi
theorem set_self {vs : List Value} {i : Nat} (hi : i < vs.length) : vs.set i vs[i] = vs := List.set_getElem_self ..
theorem OwnT.setLinks (h : OwnT W base g cap L vs) {i : Nat} (hi : i < L.length) (z : Int) : OwnT (W.setCell ⟨g, i * 6 + 2, none⟩ (.int .i64 z)) base g cap (L.set i { L[i] with links := z }) vs := by
  have hv : i < vs.length := by rw [h.nodes.len]; exact hi
  have hN := h.nodes.setLinks hi hv z
  rw [set_self] at hN
  refine ⟨hN, h.hbase, fun j hj hvj => ?_, h.apart, h.off⟩
  rw [List.length_set] at hj
  have hk := (h.kids j hj hvj).same (W' := W.setCell ⟨g, i * 6 + 2, none⟩ (.int .i64 z)) fun k hk => Below.heap_setCell _ _ _ _ (fun e => h.off j hvj (hk.trans (congrArg some (show k = g from e))))
  rw [List.getElem_set]
  split
  · rename_i e; subst e; exact hk
  · exact hk
theorem OwnT.setMode (h : OwnT W base g cap L vs) {i : Nat} (hi : i < L.length) (z : Int) : OwnT (W.setCell ⟨g, i * 6 + 1, none⟩ (.int .i64 z)) base g cap (L.set i { L[i] with mode := z }) vs := by
  have hv : i < vs.length := by rw [h.nodes.len]; exact hi
  have hN := h.nodes.setMode hi hv z
  rw [set_self] at hN
  refine ⟨hN, h.hbase, fun j hj hvj => ?_, h.apart, h.off⟩
  rw [List.length_set] at hj
  have hk := (h.kids j hj hvj).same (W' := W.setCell ⟨g, i * 6 + 1, none⟩ (.int .i64 z)) fun k hk => Below.heap_setCell _ _ _ _ (fun e => h.off j hvj (hk.trans (congrArg some (show k = g from e))))
  rw [List.getElem_set]
  split
  · rename_i e; subst e; exact hk
  · exact hk
theorem heap_sets (b : Nat) : ∀ (l : List Value) (o : Nat) (w : World) (k : Nat), k ≠ b → (w.setCells b o l).heap[k]? = w.heap[k]?
  | [], _, _, _, _ => rfl
  | v :: r, o, w, k, h => by
    show ((w.setCell ⟨b, o, none⟩ v).setCells b (o + 1) r).heap[k]? = _
    rw [heap_sets b r _ _ k h]
    exact Below.heap_setCell _ _ _ _ h
/-- An inode without names is laid in the place of another one. -/
theorem OwnT.setNode (h : OwnT W base g cap L vs) {i : Nat} (hi : i < L.length) (x : Ino) (hx : x.kids = []) : OwnT (W.setCells g (i * 6) (inoC x (.slice none 0 0))) base g cap (L.set i x) (vs.set i (.slice none 0 0)) := by
  have hv : i < vs.length := by rw [h.nodes.len]; exact hi
  refine ⟨h.nodes.setNode hi hv x _, h.hbase, fun j hj hvj => ?_, fun j k hj hk hjk => ?_, fun j hj => ?_⟩
  · rw [List.length_set] at hj hvj
    by_cases e : i = j
    · subst e
      rw [List.getElem_set_self, List.getElem_set_self, hx]
      exact KidsOwn.nil _ _
    · rw [List.getElem_set_ne e, List.getElem_set_ne e]
      exact (h.kids j hj hvj).same fun k hk => heap_sets _ _ _ _ _ (fun e => h.off j hvj (e ▸ hk))
  · rw [List.length_set] at hj hk
    rw [List.getElem_set, List.getElem_set]
    by_cases e1 : i = j
    · rw [if_pos e1]
      exact Or.inl rfl
    · rw [if_neg e1]
      by_cases e2 : i = k
      · rw [if_pos e2]
        cases hq : vs[j].ownBlock with
        | none => exact Or.inl rfl
        | some k => exact Or.inr fun e3 => by cases e3
      · rw [if_neg e2]
        exact h.apart j k hj hk hjk
  · rw [List.length_set] at hj
    rw [List.getElem_set]
    split
    · exact fun e => by cases e
    · exact h.off j hj
end
end Go.Proofs.YtclhpedecimicaaGreat

namespace Go.Proofs.YtclhpedecimicaaGreat
set_option maxRecDepth 100000
open Go Go.RowKit

theorem infoE : (Tryz.prog.info? 38).map (fun i => (i.zero, i.size, i.bytes)) = some (some (.agg #[.string ⟨#[]⟩, .int .i64 0]), 2, 24) := by kernel_rfl
theorem infoIn : (Tryz.prog.info? 36).map (fun i => (i.zero, i.size, i.bytes)) = some (some (.agg #[.int .i64 0, .int .i64 0, .int .i64 0, .string ⟨#[]⟩, .slice none 0 0, .int .i64 0]), 6, 72) := by kernel_rfl


/-- Inodes, cell by cell. -/
def nodeC : List Ino → List Value → List Value
  | x :: L, v :: vs => inoC x v ++ nodeC L vs
  | _, _ => []
theorem nodeC_len : ∀ (L : List Ino) (vs : List Value), vs.length = L.length → (nodeC L vs).length = L.length * 6
  | [], [], _ => rfl
  | x :: L, v :: vs, h => by
    have := nodeC_len L vs (Nat.succ.inj h)
    simp only [nodeC, List.length_append, List.length_cons, this]
    show 6 + L.length * 6 = _
    omega
theorem nodeC_get : ∀ (L : List Ino) (vs : List Value) (i : Nat) (hi : i < L.length) (hv : i < vs.length) (j : Nat), j < 6 → (nodeC L vs)[i * 6 + j]? = (inoC L[i] vs[i])[j]?
  | x :: L, v :: vs, 0, _, _, j, hj => by
    rw [Nat.zero_mul, Nat.zero_add, nodeC, List.getElem?_append_left (by show j < 6; exact hj)]
    rfl
  | x :: L, v :: vs, i + 1, hi, hv, j, hj => by
    have h := nodeC_get L vs i (Nat.lt_of_succ_lt_succ hi) (Nat.lt_of_succ_lt_succ hv) j hj
    rw [nodeC, List.getElem?_append_right (by show 6 ≤ _; omega)]
    rw [show (i + 1) * 6 + j - (inoC x v).length = i * 6 + j by show (i + 1) * 6 + j - 6 = _; omega, h]
    rfl
theorem nodeC_one {L : List Ino} {vs : List Value} (hone : ∀ v ∈ vs, v.oneCell' = true) : ∀ u ∈ nodeC L vs, u.oneCell' = true := by
  induction L generalizing vs with
  | nil => intro u h; cases h
  | cons x L ih =>
    cases vs with
    | nil => intro u h; cases h
    | cons v vs =>
      intro u h
      rw [nodeC, List.mem_append] at h
      rcases h with h | h
      · simp only [inoC, List.mem_cons, List.not_mem_nil, or_false] at h
        rcases h with rfl | rfl | rfl | rfl | rfl | rfl
        · rfl
        · rfl
        · rfl
        · rfl
        · exact hone _ List.mem_cons_self
        · rfl
      · exact ih (fun v hv => hone v (List.mem_cons_of_mem _ hv)) u h
/-- What lies in memory of inodes, with their names' slices. -/
theorem nodes_open {w : World} {a : Option Addr} {cap : Nat} {L : List Ino} (hN : NodesIn w a cap L) : ∃ vs : List Value, vs.length = L.length ∧ (∀ v ∈ vs, v.oneCell' = true) ∧ (∀ i (hi : i < L.length) (hv : i < vs.length), KidsIn w vs[i] L[i].kids) ∧
    ∀ j u, (nodeC L vs)[j]? = some u → ∃ b o, a = some ⟨b, o, none⟩ ∧ w.cell? ⟨b, o + j, none⟩ = some u := by
  have hone : ∀ i, i < L.length → ∃ v, v.oneCell' = true ∧ ∀ hi : i < L.length, KidsIn w v L[i].kids ∧ ∃ b o, a = some ⟨b, o, none⟩ ∧ NodeAt w b (o + i * 6) L[i] v := fun i hi => by
    obtain ⟨b, o, e, hn⟩ := hN.2.2 i hi
    obtain ⟨v, hv, hk⟩ := hn.kids
    refine ⟨v, ?_, fun hi => ⟨hk, b, o, e, ⟨hn.kind, hn.mode, hn.links, hn.data, hv, hn.up⟩⟩⟩
    obtain ⟨ka, kc, rfl, -⟩ := hk
    rfl
  obtain ⟨vs, hl, hvs⟩ : ∃ vs : List Value, vs.length = L.length ∧ ∀ i (_ : i < L.length) (hv : i < vs.length), vs[i].oneCell' = true ∧ ∀ hi : i < L.length, KidsIn w vs[i] L[i].kids ∧ ∃ b o, a = some ⟨b, o, none⟩ ∧ NodeAt w b (o + i * 6) L[i] vs[i] := by
    have : ∀ n, n ≤ L.length → ∃ vs : List Value, vs.length = n ∧ ∀ i (_ : i < n) (hv : i < vs.length), vs[i].oneCell' = true ∧ ∀ hi : i < L.length, KidsIn w vs[i] L[i].kids ∧ ∃ b o, a = some ⟨b, o, none⟩ ∧ NodeAt w b (o + i * 6) L[i] vs[i] := by
      intro n
      induction n with
      | zero => exact fun _ => ⟨[], rfl, fun i hi => absurd hi (Nat.not_lt_zero _)⟩
      | succ n ih =>
        intro hn
        obtain ⟨vs, h1, h2⟩ := ih (by omega)
        obtain ⟨v, h3, h4⟩ := hone n (by omega)
        refine ⟨vs ++ [v], by simp [h1], fun i hi hv => ?_⟩
        by_cases e : i < vs.length
        · rw [List.getElem_append_left e]
          exact h2 i (by omega) e
        · have e2 : i = vs.length := by omega
          subst e2
          rw [List.getElem_concat_length rfl]
          refine ⟨h3, fun hi2 => ?_⟩
          subst h1
          exact h4 hi2
    exact this L.length (Nat.le_refl _)
  refine ⟨vs, hl, fun v hv => ?_, fun i hi hv => ((hvs i hi hv).2 hi).1, fun j u hu => ?_⟩
  · obtain ⟨i, hi, rfl⟩ := List.getElem_of_mem hv
    exact (hvs i (by omega) hi).1
  · have hj : j < L.length * 6 := by rw [← nodeC_len L vs hl]; exact (List.getElem?_eq_some_iff.1 hu).1
    obtain ⟨i, t, rfl, ht⟩ : ∃ i t, j = i * 6 + t ∧ t < 6 := ⟨j / 6, j % 6, by omega, by omega⟩
    have hi : i < L.length := by omega
    rw [nodeC_get L vs i hi (by omega) t ht] at hu
    obtain ⟨b, o, e, hn⟩ := ((hvs i hi (by omega)).2 hi).2
    refine ⟨b, o, e, ?_⟩
    rw [← Nat.add_assoc]
    match t, ht, hu with
    | 0, _, hu => cases hu; exact hn.kind
    | 1, _, hu => cases hu; exact hn.mode
    | 2, _, hu => cases hu; exact hn.links
    | 3, _, hu => cases hu; exact hn.data
    | 4, _, hu => cases hu; exact hn.kids
    | 5, _, hu => cases hu; exact hn.up
/-- What a row of the call's own holds of inodes. -/
theorem nodes_of_row {w : World} {base cap g : Nat} {L : List Ino} {vs : List Value} (hl : vs.length = L.length) (h : w.ownsRow base 36 6 (.slice (some ⟨g, 0, none⟩) L.length cap) L.length (nodeC L vs)) : NodesOwn w g cap L vs ∧ base ≤ g := by
  have hc : ∀ j u, (nodeC L vs)[j]? = some u → w.cell? ⟨g, j, none⟩ = some u := fun j u hu => by
    have := h.cells rfl j u hu
    rw [zero_add_addr] at this
    exact this
  have hlt := h.lt g rfl
  rcases h.2 with ⟨e, -⟩ | ⟨g', cap', cur, e, hb, hg, hn, hm, hs, ht⟩
  · cases e
  · cases e
    refine ⟨⟨hl, hn, hm, hlt.2, fun j => by simp [World.frozen?, hg], fun i hi hv => ?_⟩, hb⟩
    have hh : ∀ t, t < 6 → ∀ u, (inoC L[i] vs[i])[t]? = some u → w.cell? ⟨g, i * 6 + t, none⟩ = some u := fun t ht u hu => hc _ _ ((nodeC_get L vs i hi hv t ht).trans hu)
    exact ⟨hh 0 (by decide) _ rfl, hh 1 (by decide) _ rfl, hh 2 (by decide) _ rfl, hh 3 (by decide) _ rfl, hh 4 (by decide) _ rfl, hh 5 (by decide) _ rfl⟩

end Go.Proofs.YtclhpedecimicaaGreat

namespace Go.Proofs.YtclhpedecimicaaGreat
set_option maxRecDepth 100000
open Go Go.RowKit

set_option maxHeartbeats 2000000 in
theorem rown_any (a : Option Addr) (cap : Nat) (m b : Int) (L : List Ino) (hL : 0 < L.length) (hb : L.length ≤ 1000) (w : World) (hN : NodesIn w a cap L) :
    Calls Tryz.prog 16 #[.agg #[.slice a L.length cap, .int .i64 m, .int .i64 b]] w fun e w' => ∃ g cap' vs, e = .returned (.agg #[.slice (some ⟨g, 0, none⟩) L.length cap', .int .i64 m, .int .i64 b]) ∧ NodesOwn w' g cap' L vs ∧ w.heap.size ≤ g ∧ (∀ i (hi : i < L.length) (hv : i < vs.length), KidsIn w vs[i] L[i].kids) ∧ Below w.heap.size w w' := by
  obtain ⟨i0, hi, hz0, hz1, hz2⟩ := info_parts infoIn
  obtain ⟨vs, hl, hone, hk, hcell⟩ := nodes_open hN
  obtain ⟨bb, o, rfl, hx⟩ := hN.2.2 0 hL
  have hbl := cell_lt hx.kind
  obtain ⟨w2, hw2, hb2, hs2, hA, hB⟩ := two_boxes w #[.slice (some ⟨bb, o, none⟩) L.length cap, .int .i64 m, .int .i64 b] #[.slice none 0 0, .int .i64 0, .int .i64 0] 24 24
  have AS : Aside (∀ j u, (nodeC L vs)[j]? = some u → w2.cell? ⟨bb, o + j, none⟩ = some u) := fun j u hj => by
    obtain ⟨b', o', e, hc⟩ := hcell j u hj
    cases e
    exact cell_below hb2 hc
  have HK := Lib.hid hk
  have HL := Lib.hid hl
  have HB2 := Lib.hid hb2
  have HA := Lib.hid hA
  have HR := Lib.hid hB
  have a0 := blk_cell hA 0
  have hal := lt_of_block hA
  clear hcell hk hN hl hx hbl hb2 hA hB
  go_enter Tryz.func16, Tryz.ntmps16
  go_wp2_with (at_builtin; refine wpList_append_own _ rfl _ _ 22 rfl (w.heap.size + 2) 36 i0 _ 6 72 Tryz.underlying22 hi hz0 hz1 hz2 rfl (by decide) (.slice none 0 0) 0 [] rfl (World.ownsRow_nil _ _ _ _) ⟨bb, o, none⟩ L.length cap (nodeC L vs) rfl (nodeC_len L vs HL.out) (fun j u hj => by rw [Addr.add_lit, ← hw2]; exact AS.out j u hj) (nodeC_one hone) (by unfold maxLen; omega) (by omega) (by rw [← hw2]; omega) ?_)
  intro v' w3 hown hgrow hnil
  rw [← hw2] at hgrow
  have hb3 : Below w2.heap.size w2 w3 := (Below.refl _ _).grown hgrow (Nat.le_refl _) (fun k hk => by cases hk)
  rcases hown.2 with ⟨rfl, h0⟩ | ⟨g, cap', cur, rfl, hgb, -⟩
  · omega
  have hown2 : w3.ownsRow (w.heap.size + 2) 36 6 (.slice (some ⟨g, 0, none⟩) L.length cap') L.length (nodeC L vs) := by simpa using hown
  have hN3 := (nodes_of_row HL.out hown2).1
  have hA3 := (hb3.block w.heap.size (by omega)).trans HA.out
  have hR3 := (hb3.block (w.heap.size + 1) (by omega)).trans HR.out
  have q0 := blk_cell hA3 0
  have q1 := blk_cell hA3 1
  have q2 := blk_cell hA3 2
  have f0 := blk_free hA3 0
  have r0 := blk_cell hR3 0
  have r1 := blk_cell hR3 1
  have r2 := blk_cell hR3 2
  have s0 := blk_free hR3 0
  have s1 := blk_free hR3 1
  have s2 := blk_free hR3 2
  have hrl := lt_of_block hR3
  have hq := lt_of_block hA3
  obtain ⟨w4, hw4⟩ : ∃ w4, w4 = w3.setCell ⟨w.heap.size, 0, none⟩ (.slice (some ⟨g, 0, none⟩) L.length cap') := ⟨_, rfl⟩
  have hA4 : w4.heap[w.heap.size]? = some (.cells #[.slice (some ⟨g, 0, none⟩) L.length cap', .int .i64 m, .int .i64 b] 24 (0, 0)) := by rw [hw4]; exact blk_set hA3 0 _
  have hst : ∀ k, k ≠ w.heap.size → w4.heap[k]? = w3.heap[k]? := fun k hk => by rw [hw4]; exact Below.heap_setCell _ _ _ _ hk
  have hR4 := (hst (w.heap.size + 1) (by omega)).trans hR3
  have hN4 : NodesOwn w4 g cap' L vs := hN3.same (hst g (by omega))
  have hb4 : Below w.heap.size w w4 := by rw [hw4]; exact (HB2.out.trans (hb3.mono (by omega))).setCell (show w.heap.size ≤ w.heap.size from Nat.le_refl _) _
  have HW4 := Lib.hid hw4
  have HN4 := Lib.hid hN4
  have HB4 := Lib.hid hb4
  have HR4 := Lib.hid hR4
  have HA4 := Lib.hid hA4
  clear hw4 hN4 hb4 hR4 hA4 hst hN3 hown hown2 hgrow hnil hb3 hA3 hR3 a0 hal hw2
  go_wp2_with fail
  change bodyPost _ _ _ _ _ (put3 (w3.setCell ⟨w.heap.size, 0, none⟩ (.slice (some ⟨g, 0, none⟩) L.length cap')) (w.heap.size + 1) (.slice (some ⟨g, 0, none⟩) L.length cap') (.int .i64 m) (.int .i64 b))
  rw [← HW4.out]
  obtain ⟨c0, c1, c2⟩ := put3_cells HR4.out (.slice (some ⟨g, 0, none⟩) L.length cap') (.int .i64 m) (.int .i64 b)
  have HNF := Lib.hid (HN4.out.same (W' := put3 w4 (w.heap.size + 1) (.slice (some ⟨g, 0, none⟩) L.length cap') (.int .i64 m) (.int .i64 b)) (put3_other (by omega) _ _ _))
  have HBF := Lib.hid (put3_below HB4.out (show w.heap.size ≤ w.heap.size + 1 by omega) (.slice (some ⟨g, 0, none⟩) L.length cap') (.int .i64 m) (.int .i64 b))
  generalize put3 w4 (w.heap.size + 1) (.slice (some ⟨g, 0, none⟩) L.length cap') (.int .i64 m) (.int .i64 b) = wF at *
  exact bodyPost_ret (v := .agg #[.slice (some ⟨g, 0, none⟩) L.length cap', .int .i64 m, .int .i64 b]) (by simp [results, Tryz.results16, go_sem, c0, c1, c2]) rfl ⟨g, cap', vs, rfl, HNF.out, by omega, HK.out, HBF.out⟩
end Go.Proofs.YtclhpedecimicaaGreat

namespace Go.Proofs.YtclhpedecimicaaGreat
set_option maxRecDepth 100000
open Go Go.RowKit

theorem nodes_ne {L M : List Ino} {m b m' b' : Int} (k : Nat) (h1 : k < L.length) (h2 : k < M.length) (h : L[k] ≠ M[k]) : ¬ (⟨L, m, b⟩ : Tre) = ⟨M, m', b'⟩ := by
  intro e
  simp only [Tre.mk.injEq] at e
  obtain ⟨rfl, -, -⟩ := e
  exact h rfl

/-- A call that tells whether two trees are one. -/
def TellsSame (T U : Tre) (w : World) (e : Ending) (w' : World) : Prop := (∃ v, e = .returned (.bool v) ∧ (v = true ↔ T = U)) ∧ Below w.heap.size w w'
theorem TellsSame.no {T U : Tre} {w w' : World} {e : Ending} (he : e = .returned (.bool false)) (h : ¬ T = U) (hb : Below w.heap.size w w') : TellsSame T U w e w' := ⟨⟨false, he, by simpa using h⟩, hb⟩
theorem TellsSame.yes {T U : Tre} {w w' : World} {e : Ending} (he : e = .returned (.bool true)) (h : T = U) (hb : Below w.heap.size w w') : TellsSame T U w e w' := ⟨⟨true, he, by simpa using h⟩, hb⟩

def SameRel (L M : List Ino) (w1 : World) (iv : Value) (wr : World) : Prop :=
  ∃ k : Nat, k ≤ L.length ∧ iv = .int .i64 k ∧ Hid (∀ j (h1 : j < L.length) (h2 : j < M.length), j < k → L[j] = M[j]) ∧ Below w1.heap.size w1 wr

end Go.Proofs.YtclhpedecimicaaGreat
