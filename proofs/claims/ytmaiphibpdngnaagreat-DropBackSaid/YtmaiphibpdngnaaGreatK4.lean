/-
  A region that draws its order, in a round of a range over a function: what is shown for it as for any code (whatever the order) holds in the round.
  The law of a range over a function whose rounds change what the iterator goes by: a state of one's own in the place of the list of what was handed out.
  slices.Backward over a row of texts: each with its place, the last one first.
  The reference's there, dir, May, step, begin and bad, walked.
  The reference's step, begin and bad, walked.
  The reference's way, walked.
  The reference's bad, Walk and Parent, walked.
  path's Parts, over the iterator.
  walk's kind, May and refused, of the landed code.
  walk's refused, of the landed code.
  tree's isDir, of the landed code.
  tree's Kid, of the landed code: a binary search in names that rise.
-/
import Derived.RangeFuncBox
import Derived.RangeFuncLeaves
import Derived.RangeFuncNested
import Derived.RangeFuncBound
import Derived.RangeFuncCalls
import Derived.RangeFuncWrites
import Derived.Shelf.Abstract
import Derived.WalkKit
import Derived.OwnWalkIn
import Derived.OrdersIn
import Derived.Orders
import Derived.Deep.Quiet
import Derived.OrdersHeld
import Derived.Scope
import Derived.WalkMore
import Derived.Test.YtmaiphibpdngnaaGreatProg
import Derived.Test.YtmaiphibpdngnaaGreatK3
import Derived.Deep.QuietTactic
import Derived.BigQuiet
import Derived.Test.YtmaiphibpdngnaaGreatK1
import Derived.IntWalk
import Derived.Test.YtmaiphibpdngnaaGreatK2
import Derived.Test.YtmaiphibpdngnaaGreatShelf
namespace Go.Proofs.YtmaiphibpdngnaaGreat
set_option maxRecDepth 100000
open Go Go.RowKit

/-- No operation defers a call. -/
def noDefers (ops : Array Oper) : Bool := ops.toList.all fun o => match o.op with | .defer _ => false | _ => true
theorem noDefers_spec {ops : Array Oper} (h : noDefers ops = true) {i : Nat} {o : Oper} (ho : ops[i]? = some o) : ∀ c, o.op ≠ .defer c := by
  intro c hc
  have h1 := List.all_eq_true.1 h o (by
    obtain ⟨hi, rfl⟩ := Array.getElem?_eq_some_iff.1 ho
    simp)
  rw [hc] at h1
  cases h1

/-- The end of a region that neither panics nor leaves. -/
def onlyN (K : Act → World → Prop) (e : Exit) (a : Act) (w : World) : Prop := e = .normal ∧ K a w

theorem oper_in {ro : Option Nat} {n : Nat} {P : Program} {o : Oper} {a : Act} {w : World} {K K' R : Act → World → Prop} {Q : Exit → Act → World → Prop} (hd : ∀ c, o.op ≠ .defer c)
    (h : o.wp P a w K (onlyN R)) (hK : ∀ a w, K a w → K' a w) : o.wpIn { Fence.wide with round := ro } n P a w K' Q := by
  refine ⟨fun _ _ => trivial, ?_⟩
  rw [Oper.semAt_eq _ _ _ hd]
  unfold Oper.wp at h
  generalize (execOp a.eval o).run P w = r at h ⊢
  cases r with
  | ok x w' =>
    cases x with
    | value v => exact hK _ _ h
    | skip => exact hK _ _ h
    | defer d => exact hK _ _ h
    | enter f args =>
      refine ⟨fun h0 => (by cases h0), ?_⟩
      refine (show CallsIn Fence.wide (n - 1) P f args w' _ from callsIn_wide.2 (Calls.mono h fun e w'' he => ?_))
      cases e with
      | returned v => exact hK _ _ he
      | panicked c => exact absurd he.1 (by simp)
      | outgrown => obtain ⟨_, _, h1, _⟩ := he; cases h1
    | row row args =>
      refine ⟨fun h0 => (by cases h0), ?_⟩
      intro c cs _
      obtain ⟨v, w'', hr, hs⟩ := h c cs
      exact ⟨v, w'', hK _ _ hr, stepsIn_wide.2 hs⟩
    | _ => exact h.elim
  | halt x w' =>
    cases x with
    | panic v => exact absurd h.1 (by simp)
    | _ => exact h.elim

theorem op_in {ro : Option Nat} {n : Nat} {P : Program} {ops : Array Oper} {i : Nat} {a : Act} {w : World} {K K' R : Act → World → Prop} {Q : Exit → Act → World → Prop} (hd : noDefers ops = true)
    (h : wpOp P ops (onlyN R) i K a w) (hK : ∀ a w, K a w → K' a w) : wpOpIn { Fence.wide with round := ro } n P ops Q i K' a w := by
  unfold wpOp at h
  unfold wpOpIn
  cases ho : ops[i]? with
  | none => simp only [ho] at h ⊢; exact hK _ _ h
  | some o =>
    simp only [ho] at h ⊢
    split
    · rename_i hw
      rw [if_pos hw] at h
      rcases h with h | ⟨_, _, _, h1, _⟩
      · exact oper_in (noDefers_spec hd ho) h hK
      · cases h1
    · rename_i hw
      rw [if_neg hw] at h
      exact ⟨fun _ _ => trivial, hK _ _ h⟩

theorem any_in {ro : Option Nat} {n : Nat} {P : Program} {md : Region.Mode} {ops : Array Oper} {R : Act → World → Prop} {Q : Exit → Act → World → Prop} (hd : noDefers ops = true) (hQ : ∀ a w, R a w → Q .normal a w) :
    ∀ (fuel : Nat) (listed : Array Bool) (a : Act) (w : World), wpAny P md ops (onlyN R) fuel listed a w → wpAnyIn { Fence.wide with round := ro } n P md ops Q fuel listed a w
  | 0, _, _, _, h => ⟨h.1, hQ _ _ h.2.2⟩
  | fuel + 1, _listed, _a, _w, h => ⟨fun h0 => hQ _ _ (h.1 h0).2, fun i hi => op_in hd (h.2 i hi) fun a' w' h' => any_in hd hQ fuel _ a' w' h'⟩

/-- A region in a round, whatever its order. -/
theorem region_in {ro : Option Nat} {n : Nat} {P : Program} {id : Nat} {ops : Array Oper} {Q : Exit → Act → World → Prop} {a : Act} {w : World} (hm : P.follows .mixedOrders = true) (hd : noDefers ops = true)
    (h : wpAny P .any ops (onlyN (Q .normal)) ops.size (Array.replicate ops.size false) a w.drew) : (Code.region id ops true).wpIn { Fence.wide with round := ro } n P Q a w :=
  wpIn_region_any hm (any_in hd (fun _ _ h => h) _ _ _ _ h)

/-- A quiet region in a round. -/
theorem region_in_quiet {ro : Option Nat} {n : Nat} {P : Program} {id : Nat} {ops : List Oper} {C : World → Prop} {Q : Exit → Act → World → Prop} {a : Act} {w : World} (hm : P.follows .mixedOrders = true) (hd : noDefers ops.toArray = true)
    (hB : Region.lexB .any ops.toArray = true) (hC : C w.drew)
    (h : wpQuiet P ops.toArray C (fun a' => ∀ w', C w' → Q .normal a' w') ops a) : (Code.region id ops.toArray true).wpIn { Fence.wide with round := ro } n P Q a w := by
  refine region_in hm hd ?_
  simp only [Region.lexB, Bool.and_eq_true] at hB
  refine wpAny_of_quiet (Q := fun a' => ∀ w', C w' → Q .normal a' w') (fun _ w' hw' h => ⟨rfl, h w' hw'⟩) _ _ _ _ hC ?_
  have := wpAnyQ_lex (C := C) (md := .any) hB.1 ops 0 (Array.replicate ops.toArray.size false) a (by simp) (by simpa using hB.2) (by simpa using h)
  simpa using this

/-- A region with held cells in a round. -/
theorem region_in_held {ro : Option Nat} {n : Nat} {P : Program} {id : Nat} {ops : Array Oper} {S : World → Prop} {Q : Exit → Act → World → Prop} {a : Act} {w : World} (hm : P.follows .mixedOrders = true) (hd : noDefers ops = true)
    (h : wpAnyH P .any ops (onlyN (Q .normal)) S ops.size (Array.replicate ops.size false) a w.drew) : (Code.region id ops true).wpIn { Fence.wide with round := ro } n P Q a w :=
  region_in hm hd (wpAny_of_held _ _ _ _ h)

/-! ### A function that holds a label -/

theorem stepR_scope {P : Program} {b : Frame} {a : Act} {k : List Item} {cs : List Frame} {w : World} {c : Code} : step P (lone (b.atR a (.code (.scope c) :: k)) cs w) = .next (lone (b.atR a (.code c :: .inScope c :: k)) cs w) :=
  step_lone_go (by simp [stepG, stepG.exec, Frame.atR])
theorem stepR_inScope {P : Program} {b : Frame} {a : Act} {k : List Item} {cs : List Frame} {w : World} {c : Code} : step P (lone (b.atR a (.inScope c :: k)) cs w) = .next (lone (b.atR a k) cs w) :=
  step_lone_go (by simp [stepG, stepG.exec, Frame.atR])
theorem scope_in {F : Fence} {n : Nat} {P : Program} {Q : Exit → Act → World → Prop} {a : Act} {w : World} {c : Code} (hro : F.round = none) (h : c.wpIn F n P (Exit.noGoto Q) a w) : (Code.scope c).wpIn F n P Q a w := by
  intro b k cs hb0 hb hr
  have h0 : (lone (b.atR a (.code (.scope c) :: k)) cs w).fenced P F := fenced_calm hb hr rfl
  have hbn : b.roundOf = none := hb0.trans hro
  obtain ⟨e, a₁, w₁, hq, harr⟩ := h b (.inScope c :: k) cs hb0 hb hr
  cases e with
  | normal => exact ⟨.normal, a₁, w₁, hq, .head h0 stepR_scope (StepsIn.trans harr (.one (fenced_calm hb hr rfl) stepR_inScope))⟩
  | exit id => exact ⟨.exit id, a₁, w₁, hq, fun k' hk => .head h0 stepR_scope (harr.1 k' (by simp [exitTo, hk])), fun hs => (by rw [hbn] at hs; cases hs)⟩
  | goto l => exact hq.elim
  | ret => exact ⟨_, a₁, w₁, hq, .of_steps (.one h0 stepR_scope) harr⟩
  | panic ch => exact ⟨_, a₁, w₁, hq, .of_steps (.one h0 stepR_scope) harr⟩
  | outgrown => exact ⟨_, a₁, w₁, hq, .of_steps (.one h0 stepR_scope) harr⟩
theorem label_in {F : Fence} {n : Nat} {P : Program} {Q : Exit → Act → World → Prop} {a : Act} {w : World} {l : Nat} {c : Code} (h : c.wpIn F n P Q a w) : (Code.seq (.label l) c).wpIn F n P Q a w := wpIn_seq (wpIn_label h)

/-! ### A range over a function whose rounds change what the iterator goes by -/

/-- How the body of a round may be left. -/
def stPost {σ : Type} (B : Nat) (T : σ → Prop) (I : σ → World → Prop) (Ix : Code → World → Prop) (W : World) : Exit → Act → World → Prop
  | .normal, _, W' => KeepsFrom B W W' ∧ ∃ s', T s' ∧ I s' W'
  | .ret, _, W' => KeepsFrom B W W' ∧ Ix .ret W'
  | .exit id, _, W' => KeepsFrom B W W' ∧ Ix (.exit id) W'
  | .goto t, _, W' => KeepsFrom B W W' ∧ Ix (.goto t) W'
  | .panic _, _, _ => False
  | .outgrown, _, _ => False

/-- What an iterator owes a caller that keeps a state. -/
def SeqSt {σ : Type} (F : Fence) (n : Nat) (P : Program) (g : Nat) (lb : Array Value) (E : σ → Array Value) (I Ip : σ → World → Prop) (Nx : σ → σ → Prop) (S : World → Prop) (s0 : σ) : Prop :=
  ∀ (l : Nat) (G Jx : World → Prop) (W : World), (∀ A B, G A → KeepsOthers A B → G B) →
    (∀ s W1, Ip s W1 → G W1 → YieldAt F (n - 1) P l (E s) W1 fun e W' => (e = .returned (.bool true) ∧ ∃ s', Nx s s' ∧ I s' W' ∧ G W') ∨ (e = .returned (.bool false) ∧ Jx W')) →
    I s0 W → G W →
    CallsIn F n P g (#[.func (.yield l) #[] #[]] ++ lb) W fun e W' => (∃ v, e = .returned v) ∧ ((S W' ∧ G W') ∨ Jx W')

theorem range_st {σ : Type} {F : Fence} {n : Nat} {P : Program} {g : Operand} {ps : Array Tmp} {assign body : Code} {Q : Exit → Act → World → Prop} {a : Act} {w : World}
    (hro : F.round = none) (h1 : 1 ≤ n) {gf : Nat} {lb : Array Value} (hg : a.eval g = .func (.func gf) #[] lb) (hFg : F.fn gf) (eg : ∀ args w, (callFunc gf args).run P w = .ok (.enter gf args) w)
    {E : σ → Array Value} {I Ip : σ → World → Prop} {Nx : σ → σ → Prop} {S : World → Prop} {s0 : σ} (hseq : SeqSt F (n - 1) P gf lb E I Ip Nx S s0) (hps : ∀ s, (E s).size = ps.size)
    (Ix : Code → World → Prop) (hI : OwnFrom w.heap.size I) (hIp : OwnFrom w.heap.size Ip) (hIx : ∀ c, OwnFrom w.heap.size (fun (_ : Unit) W => Ix c W)) (hS : OwnFrom w.heap.size (fun (_ : Unit) W => S W)) (h0 : I s0 w) (a₁ : σ → Act)
    (hassign : ∀ (l : Nat) (s : σ) (W : World) (K : Act → World → Prop), K (a₁ s) W →
      assign.wpIn (F.inRound l) (n - 1 - 1) P (Exit.then K (fun _ _ _ => False)) { tmps := (ps.zip (E s)).foldl (fun t (p, v) => t.setIfInBounds p v) a.tmps, defers := [] } W)
    (hbody : ∀ (l : Nat) (s : σ) (W : World), Ip s W → body.wpIn (F.inRound l) (n - 1 - 1) P (stPost w.heap.size (Nx s) I Ix W) (a₁ s) W)
    (hdone : ∀ (D : Nat) (W : World), w.heap.size ≤ D → S W → W.heap[D]? = some (.deferred (some [])) → Q .normal { a with defers := { target := .collected D, args := #[] } :: a.defers } W)
    (hstop : ∀ (D : Nat) (c : Code) (W : World), w.heap.size ≤ D → Ix c W → W.heap[D]? = some (.deferred (some [])) → c.wpIn F n P Q { a with defers := { target := .collected D, args := #[] } :: a.defers } W) :
    (Code.rangeFunc g ps assign body).wpIn F n P Q a w := by
  refine wpIn_rangeFunc ?_
  intro fn hfn
  rw [hro]
  obtain ⟨rc, hrc⟩ : ∃ rc : LoopState → Option Code → Loop, rc = fun st pe => { state := st, pending := pe, fn, tmps := a.tmps, params := ps, assign, body, defers := w.heap.size } := ⟨_, rfl⟩
  obtain ⟨V, hV⟩ : ∃ V, V = (w.alloc (.deferred (some []))).alloc (.loop (rc .ready none)) := ⟨_, rfl⟩
  have hVl : V.heap[w.heap.size + 1]? = some (.loop (rc .ready none)) := by
    have h := World.alloc_heap_new (w.alloc (.deferred (some []))) (.loop (rc .ready none))
    rw [World.size_alloc, ← hV] at h
    exact h
  have hVk : V.heap[w.heap.size]? = some (.deferred (some [])) := by
    rw [hV]
    exact (Below.heap_alloc _ _ _ (by simp)).trans (World.alloc_heap_new w _)
  have hVI : I s0 V := by rw [hV]; exact hI.alloc _ (hI.alloc _ h0)
  refine ⟨w.heap.size + 1, [{ target := .collected w.heap.size, args := #[] }], V, { target := .fn (.func gf) lb, args := #[.func (.yield (w.heap.size + 1)) #[] #[]] }, V, gf, #[.func (.yield (w.heap.size + 1)) #[] #[]] ++ lb, V, ?_, ?_, ?_, ?_, fun _ => h1, ?_⟩
  · rw [hV, hrc]
    exact run_enterLoop_outer _ _ _ _ _
  · simp only [resolve, hg]
    simp [go_sem]
  · intro f' hf'
    simp [Target.leads] at hf'
    subst hf'
    exact hFg
  · simp [invoke, go_sem, eg]
  · refine (hseq (w.heap.size + 1) (fun W => W.heap[w.heap.size + 1]? = some (.loop (rc .ready none)) ∧ W.heap[w.heap.size]? = some (.deferred (some [])))
      (fun W => ∃ c, Ix c W ∧ W.heap[w.heap.size + 1]? = some (.loop (rc .done (some c))) ∧ W.heap[w.heap.size]? = some (.deferred (some []))) V
      (fun A B h hk => ⟨hk.same _ _ h.1 rfl, hk.same _ _ h.2 rfl⟩) ?_ hVI ⟨hVl, hVk⟩).mono ?_
    · rintro s W hi ⟨hl, hk⟩
      have hlt : w.heap.size + 1 < W.heap.size := (Array.getElem?_eq_some_iff.1 hl).1
      have hy := run_yield (P := P) (args := E s) hl (by rw [hrc]; exact hps s)
      rw [hrc] at hy
      have hbeg := run_beginRound (P := P) hl (by rw [hrc])
      refine ⟨fn, _, assign, body, hy, roundIn_of_wpIn hfn (hassign _ s W _ ⟨_, hbeg, ?_⟩)⟩
      obtain ⟨U, hU⟩ : ∃ U, U = W.putObj (w.heap.size + 1) (.loop { rc .ready none with state := .busy }) := ⟨_, rfl⟩
      have hUl : U.heap[w.heap.size + 1]? = some (.loop { rc .ready none with state := .busy }) := by rw [hU]; exact World.putObj_heap_same hlt
      have hUk : U.heap[w.heap.size]? = some (.deferred (some [])) := by rw [hU]; exact (World.putObj_heap_other (by omega)).trans hk
      have hUI : Ip s U := by rw [hU]; exact hIp.putObj _ hi (by omega) hl rfl
      rw [← hU]
      have fin : ∀ (jump : Option Code) (W3 : World), KeepsFrom w.heap.size U W3 →
          (Instr.endRound (w.heap.size + 1) jump).run P W3 = .ok (.bool jump.isNone) (W3.putObj (w.heap.size + 1) (.loop (rc (if jump.isNone then .ready else .done) jump))) ∧
          W3.heap[w.heap.size + 1]? = some (.loop { rc .ready none with state := .busy }) ∧
          (W3.putObj (w.heap.size + 1) (.loop (rc (if jump.isNone then .ready else .done) jump))).heap[w.heap.size + 1]? = some (.loop (rc (if jump.isNone then .ready else .done) jump)) ∧
          (W3.putObj (w.heap.size + 1) (.loop (rc (if jump.isNone then .ready else .done) jump))).heap[w.heap.size]? = some (.deferred (some [])) := fun jump W3 hk3 => by
        have hl3 := hk3.same _ _ (by omega) hUl rfl
        have := run_endRound (P := P) jump hl3
        rw [hrc] at this ⊢
        exact ⟨this, by rw [hrc] at hl3; exact hl3, World.putObj_heap_same (Array.getElem?_eq_some_iff.1 hl3).1, (World.putObj_heap_other (by omega)).trans (hk3.same _ _ (Nat.le_refl _) hUk rfl)⟩
      refine wpIn_mono (hbody _ s U hUI) ?_
      rintro e a3 W3 hp
      cases e with
      | normal =>
        obtain ⟨hk3, s', hn3, hi3⟩ := hp
        obtain ⟨hr, hl3, hl4, hk4⟩ := fin none W3 hk3
        exact ⟨_, _, hr, .inl ⟨rfl, s', hn3, hI.putObj _ hi3 (by omega) hl3 rfl, hl4, hk4⟩⟩
      | ret =>
        obtain ⟨hk3, hi3⟩ := hp
        obtain ⟨hr, hl3, hl4, hk4⟩ := fin (some .ret) W3 hk3
        exact ⟨_, _, hr, .inr ⟨rfl, .ret, (hIx _).putObj (s := ()) _ hi3 (by omega) hl3 rfl, hl4, hk4⟩⟩
      | exit id =>
        obtain ⟨hk3, hi3⟩ := hp
        obtain ⟨hr, hl3, hl4, hk4⟩ := fin (some (.exit id)) W3 hk3
        exact ⟨_, _, hr, .inr ⟨rfl, .exit id, (hIx _).putObj (s := ()) _ hi3 (by omega) hl3 rfl, hl4, hk4⟩⟩
      | goto t =>
        obtain ⟨hk3, hi3⟩ := hp
        obtain ⟨hr, hl3, hl4, hk4⟩ := fin (some (.goto t)) W3 hk3
        exact ⟨_, _, hr, .inr ⟨rfl, .goto t, (hIx _).putObj (s := ()) _ hi3 (by omega) hl3 rfl, hl4, hk4⟩⟩
      | panic ch => exact hp.elim
      | outgrown => exact hp.elim
    · rintro e W2 ⟨⟨v, rfl⟩, (⟨hi, hl, hk⟩ | ⟨c, hi, hl, hk⟩)⟩
      · exact ⟨none, _, by have := run_endLoop (P := P) hl (by rw [hrc]; simp); rw [hrc] at this; exact this, hdone _ _ (Nat.le_refl _) (hS.putObj (s := ()) _ hi (by omega) hl rfl) ((World.putObj_heap_other (by omega)).trans hk)⟩
      · exact ⟨some c, _, by have := run_endLoop (P := P) hl (by rw [hrc]; simp); rw [hrc] at this; exact this, hstop _ c _ (Nat.le_refl _) ((hIx c).putObj (s := ()) _ hi (by omega) hl rfl) ((World.putObj_heap_other (by omega)).trans hk)⟩
end Go.Proofs.YtmaiphibpdngnaaGreat

namespace Go.Proofs.YtmaiphibpdngnaaGreat
set_option maxRecDepth 100000
open Go Go.RowKit Go.Shelf

attribute [local go_sem] Oper.semAt_some

/-- The box and the row stand as they stood. -/
def KeepR (Bx : Nat) (v : Value) (W W' : World) : Prop := W'.heap[Bx]? = W.heap[Bx]? ∧ ∀ k, v.ownBlock = some k → W'.heap[k]? = W.heap[k]?
theorem keepR_t {Bx : Nat} {v : Value} {A B C : World} (h : KeepR Bx v A B) (k : KeepR Bx v B C) : KeepR Bx v A C := ⟨k.1.trans h.1, fun i hi => (k.2 i hi).trans (h.2 i hi)⟩
theorem keepR_b {Bx : Nat} {v : Value} {w : World} (hb : Bx < w.heap.size) (hv : ∀ k, v.ownBlock = some k → k < w.heap.size) (W : World) (l : Nat) (o o' : Obj) (hl : w.heap.size ≤ l) (_ : W.heap[l]? = some o) (_ : o.isCells = false) (_ : o.isWalk = false) : KeepR Bx v W (W.putObj l o') :=
  ⟨World.putObj_heap_other (by omega), fun k hk => World.putObj_heap_other (by have := hv k hk; omega)⟩

theorem drewN_grown (W : World) (m : Nat) : W.grownBy (W.drewN m) none := ⟨rfl, rfl, rfl, Nat.le_refl _, fun _ _ _ => rfl⟩

/-- The row and its box as they stand in a world. -/
def RowIn (Bx : Nat) (v : Value) (B : Nat) (N : List (List UInt8)) (W : World) : Prop := W.cell? ⟨Bx, 0, none⟩ = some v ∧ Held B W v N
theorem RowIn.kept {Bx B : Nat} {v : Value} {N : List (List UInt8)} {W W' : World} (h : RowIn Bx v B N W) (hk : KeepR Bx v W W') : RowIn Bx v B N W' :=
  ⟨(World.cell?_of_block (w := W) (a := ⟨Bx, 0, none⟩) hk.1).trans h.1, h.2.kept hk.2⟩

set_option maxRecDepth 100000 in
set_option maxHeartbeats 4000000 in
theorem back1_in (F : Fence) (hF : Open F) (n : Nat) (hn : 1 ≤ n) (l Bx B : Nat) (v : Value) (N : List (List UInt8)) (hN : N.length ≤ 1048576) (J Jx : List (Nat × List UInt8) → World → Prop)
    (_hdr : ∀ pre W m, J pre W → J pre (W.drewN m))
    (hY : ∀ pre x W, J pre W → pre.length < N.length → YieldAt F (n - 1) Tryz.prog l #[.int .i64 (x.1 : Nat), .string ⟨x.2.toArray⟩] W fun e W' =>
      (e = .returned (.bool true) ∧ J (pre ++ [x]) W' ∧ KeepR Bx v W W') ∨ (e = .returned (.bool false) ∧ Jx (pre ++ [x]) W'))
    (W : World) (hR : RowIn Bx v B N W) (h0 : J [] W) :
    CallsIn F n Tryz.prog 122 #[.func (.yield l) #[] #[], .pointer (some ⟨Bx, 0, none⟩)] W fun e W' => (∃ u, e = .returned u) ∧
      ((∃ ys, ys.map Prod.snd = N.reverse ∧ J ys W') ∨ (∃ pre, True ∧ Jx pre W')) := by
  have hro : F.round = none := hF.ro
  obtain ⟨hc, hheld⟩ := hR
  obtain ⟨na, nc, rfl, hc1, hc2, -⟩ := hheld.view
  have HR := Lib.hid (show RowIn Bx (.slice na N.length nc) B N W from ⟨hc, hheld⟩)
  unfold maxLen at hc2
  refine callsIn_of_wp Tryz.func122 rfl (hF.fn _) ?_ hro
  simp only [Tryz.ntmps122, List.size_toArray, List.length_cons, List.length_nil, Nat.reduceAdd, Nat.reduceSub, Array.replicate_succ, Array.replicate_zero, List.push_toArray, List.append_toArray, List.nil_append, List.cons_append]
  gi_wp2
  gi_loopw [3] (fun iv wr => ∃ (k : Nat) (D : List (Nat × List UInt8)), k ≤ N.length ∧ iv = .int .i64 ((k : Int) - 1) ∧ Hid (D.map Prod.snd = (N.drop k).reverse) ∧ D.length + k = N.length ∧ Hid (J D wr) ∧ Hid (RowIn Bx (.slice na N.length nc) B N wr)) (fun iv _ => (intOf iv + 1).toNat)
  case atStart => exact ⟨N.length, [], Nat.le_refl _, by go_num, by simp [Hid], by simp, h0, HR.out⟩
  case round =>
    obtain ⟨k, D, hk, rfl, hD, hDl, hJ, hrow⟩ := hrel
    have HROW := Lib.hid hrow.out
    have hcr := hrow.out.1
    cases k with
    | zero =>
      have hfin := Lib.hid (show D.map Prod.snd = N.reverse by have := hD.out; simpa using this)
      clear hcr
      gi_wp2
      go_end0
      exact ⟨⟨_, rfl⟩, .inl ⟨D, hfin.out, hJ.out⟩⟩
    | succ k =>
      obtain ⟨na', nc', e, -, -, hcell⟩ := HROW.out.2.view
      simp only [Value.slice.injEq] at e
      obtain ⟨rfl, -, rfl⟩ := e
      obtain ⟨nb, no, rfl, hx⟩ := hcell k (by omega)
      unfold strv at hx
      have hk0 : (0 : Int) ≤ (k : Int) := by omega
      have hk1 : (k : Int) < (N.length : Int) := by omega
      have hnum : ((k + 1 : Nat) : Int) - 1 = (k : Int) := by omega
      rw [hnum]
      have HY := Lib.hid (hY D (k, N[k]) wr hJ.out (by omega))
      have hdrop := Lib.hid (show (D ++ [(k, N[k])]).map Prod.snd = (N.drop k).reverse by
        rw [List.map_append, hD.out, List.drop_eq_getElem_cons (show k < N.length by omega), List.reverse_cons]
        rfl)
      clear hcell hnum hY hD
      obtain ⟨fn, tmps, assign, body, hy, hR⟩ := HY.out
      have hy' : (Instr.yield l #[.int .i64 (k : Int), .string ⟨N[k].toArray⟩]).run Tryz.prog wr = .ok (.round l fn tmps assign body) wr := hy
      clear hy
      gi_wp2
      refine hR.mono ?_
      rintro e W3 (⟨rfl, hJ3, hk3⟩ | ⟨rfl, hJx3⟩)
      · have hrow3 := HROW.out.kept hk3
        have hc3 := hrow3.1
        have HR3 := Lib.hid hrow3
        have HJ3 := Lib.hid hJ3
        clear hrow3 hk3 hJ3 hcr hx
        gi_wp2
        go_roundw
        case rel => exact ⟨k, D ++ [(k, N[k])], by omega, by go_num, hdrop, by simp only [List.length_append, List.length_cons, List.length_nil]; omega, HJ3, HR3⟩
        case measure => simp [intOf] <;> omega
      · have HJX := Lib.hid hJx3
        clear hJx3 hcr hx
        gi_wp2
        refine bodyPost_ret (results_none rfl _ _ _) rfl ?_
        exact ⟨⟨_, rfl⟩, .inr ⟨_, trivial, HJX.out⟩⟩

theorem back_in (F : Fence) (hF : Open F) (n : Nat) (a : Option Addr) (len cap : Nat) (w : World) :
    CallsIn F n Tryz.prog 111 #[.slice a len cap] w fun e w' => e = .returned (.func (.func 122) #[] #[.pointer (some ⟨w.heap.size, 0, none⟩)]) ∧ w' = w.alloc (.cells #[.slice a len cap] 41) := by
  have hro : F.round = none := hF.ro
  refine callsIn_of_wp Tryz.func111 rfl (hF.fn _) ?_ hro
  simp only [Tryz.ntmps111, List.size_toArray, List.length_cons, List.length_nil, Nat.reduceAdd, Nat.reduceSub, Array.replicate_succ, Array.replicate_zero, List.push_toArray, List.append_toArray, List.nil_append, List.cons_append]
  gi_wp2
  go_ret
  exact ⟨rfl, rfl⟩

theorem rowIn_below {Bx B : Nat} {v : Value} {N : List (List UInt8)} {w W : World} (hb : Bx < w.heap.size) (hv : ∀ k, v.ownBlock = some k → k < w.heap.size) (hW : Below w.heap.size w W) (h : RowIn Bx v B N w) : RowIn Bx v B N W :=
  h.kept ⟨hW.block _ hb, fun k hk => hW.block _ (hv k hk)⟩

theorem back_stops (F : Fence) (hF : Open F) (n : Nat) (hn : 1 ≤ n) (Bx B : Nat) (v : Value) (N : List (List UInt8)) (hN : N.length ≤ 1048576) (w : World) (hb : Bx < w.heap.size) (hv : ∀ k, v.ownBlock = some k → k < w.heap.size) (hR : RowIn Bx v B N w) :
    SeqStopsK F n Tryz.prog 122 #[.pointer (some ⟨Bx, 0, none⟩)] (fun x : Nat × List UInt8 => #[Value.int .i64 (x.1 : Nat), Value.string ⟨x.2.toArray⟩]) (KeepR Bx v) (fun ys => ys.map Prod.snd = N.reverse) (fun _ => True) N.length w := fun l J Jx W hW hJ _ hY h0 =>
  back1_in F hF n hn l Bx B v N hN J Jx (fun pre W m h => hJ pre W _ none h (drewN_grown W m) (fun _ e => by cases e)) hY W (rowIn_below hb hv hW hR) h0
end Go.Proofs.YtmaiphibpdngnaaGreat

namespace Go.Proofs.YtmaiphibpdngnaaGreat
set_option maxRecDepth 100000
open Go Go.RowKit

theorem live_nat {L : List Ino} {n : Nat} (hn : n < L.length) : liveB L (n : Int) = (L[n].kind != 0) := by
  unfold liveB
  rw [there_of L n hn, node_nat L n hn, Bool.true_and]

set_option maxHeartbeats 1000000 in
theorem there4_known (a : Option Addr) (cap : Nat) (m b k : Int) (L : List Ino) (v : Bool) (hv : liveB L k = v) (w : World) (hN : NodesIn w a cap L) :
    Calls Tryz.prog 91 #[.agg #[.slice a L.length cap, .int .i64 m, .int .i64 b], .int .i64 k] w fun e w' => e = .returned (.bool v) ∧ Below w.heap.size w w' := by
  subst hv
  have hb1 := below_box w (.cells #[.slice a L.length cap, .int .i64 m, .int .i64 b] 24)
  have HB1 := Lib.hid hb1
  have hcap := hN.1
  have hmax := hN.2.1
  unfold maxLen at hmax
  cases ht : thereB L k with
  | true =>
    obtain ⟨n, rfl, hn⟩ := there_nat ht
    obtain ⟨bb, o, rfl, hx⟩ := (hN.below hb1).2.2 n hn
    have h1 := hx.kind
    have hd0 : (0 : Int) ≤ (n : Int) := by omega
    have hd1 : (n : Int) < (L.length : Int) := by omega
    have HV := Lib.hid (live_nat (L := L) hn)
    clear hN hb1 ht hx
    cases hk : (L[n].kind != 0)
    all_goals
      have HK := Lib.hid hk
      go_enter Tryz.func91, Tryz.ntmps91
      go_wp2_with fail
      go_ret
      exact ⟨by rw [HV.out, HK.out]; rfl, HB1.out⟩
  | false =>
    have hv : liveB L k = false := by unfold liveB; rw [ht]; rfl
    have HV := Lib.hid hv
    rcases there_not ht with h | h
    · clear hN hb1 ht hv
      go_enter Tryz.func91, Tryz.ntmps91
      go_wp2_with fail
      go_ret
      exact ⟨by rw [HV.out]; rfl, HB1.out⟩
    · have h0 : (0 : Int) ≤ k := by omega
      have h1 : ¬ k < (L.length : Int) := by omega
      have h2 : decide (k < (L.length : Int)) = false := decide_eq_false h1
      clear hN hb1 ht hv
      go_enter Tryz.func91, Tryz.ntmps91
      go_wp2_with fail
      go_ret
      exact ⟨by rw [HV.out]; rfl, HB1.out⟩

theorem dir_live (L : List Ino) (k : Int) : dirB L k = (liveB L k && (nodeAt L k).kind == 2) := by
  unfold dirB liveB
  cases thereB L k with
  | false => rfl
  | true =>
    rw [Bool.true_and, Bool.true_and]
    by_cases h : (nodeAt L k).kind = 2
    · rw [h]; rfl
    · have : ((nodeAt L k).kind == 2) = false := by simpa using h
      rw [this, Bool.and_false]

set_option maxHeartbeats 1000000 in
theorem dir4_known (a : Option Addr) (cap : Nat) (m b k : Int) (L : List Ino) (v : Bool) (hv : dirB L k = v) (w : World) (hN : NodesIn w a cap L) :
    Calls Tryz.prog 59 #[.agg #[.slice a L.length cap, .int .i64 m, .int .i64 b], .int .i64 k] w fun e w' => e = .returned (.bool v) ∧ Below w.heap.size w w' := by
  subst hv
  have hb1 := below_box w (.cells #[.slice a L.length cap, .int .i64 m, .int .i64 b] 24)
  have HB1 := Lib.hid hb1
  have hcap := hN.1
  have hmax := hN.2.1
  unfold maxLen at hmax
  have HM := Lib.hid (hN.below hb1)
  have HD := Lib.hid (dir_live L k)
  cases hl : liveB L k with
  | false =>
    have HL := Lib.hid hl
    have HV := Lib.hid (show dirB L k = false by rw [HD.out, hl]; rfl)
    clear hN hb1 hl
    go_enter Tryz.func59, Tryz.ntmps59
    go_wp2_with (first | (go_at_call 91; refine (there4_known _ _ _ _ _ L _ HL.out _ HM.out).mono ?_; rintro e w2 ⟨rfl, hb2⟩) | fail)
    go_ret
    exact ⟨by rw [HV.out]; rfl, HB1.out.trans (hb2.mono (by simp))⟩
  | true =>
    obtain ⟨n, rfl, hn⟩ := there_nat (live_there hl)
    have HL := Lib.hid hl
    obtain ⟨bb, o, rfl, hx⟩ := HM.out.2.2 n hn
    have h1 := hx.kind
    have hd0 : (0 : Int) ≤ (n : Int) := by omega
    have hd1 : (n : Int) < (L.length : Int) := by omega
    have HV := Lib.hid (show dirB L (n : Int) = (L[n].kind == 2) by rw [HD.out, hl, Bool.true_and, node_nat L n hn])
    clear hN hb1 hl hx
    cases hk : (L[n].kind == 2)
    all_goals
      have HK := Lib.hid hk
      go_enter Tryz.func59, Tryz.ntmps59
      go_wp2_with (first | (go_at_call 91; refine (there4_known _ _ _ _ _ L _ HL.out _ HM.out).mono ?_; rintro e w2 ⟨rfl, hb2⟩; obtain ⟨q0, q1, q2⟩ := box3 hb2; have h2 := cell_below hb2 h1) | fail)
      go_ret
      exact ⟨by rw [HV.out, HK.out]; rfl, HB1.out.trans (hb2.mono (by simp))⟩

/-- The reference's May, where what is asked for is out of its range. -/
theorem may4_out (a : Option Addr) (cap : Nat) (m b k what : Int) (L : List Ino) (h : what < 0 ∨ 7 < what) (w : World) :
    Calls Tryz.prog 50 #[.agg #[.slice a L.length cap, .int .i64 m, .int .i64 b], .int .i64 k, .int .i64 what] w fun e w' => e = .returned (.bool false) ∧ Below w.heap.size w w' := by
  have HB1 := Lib.hid (below_box w (.cells #[.slice a L.length cap, .int .i64 m, .int .i64 b] 24))
  rcases h with h | h
  · go_enter Tryz.func50, Tryz.ntmps50
    go_wp2_with fail
    go_ret
    exact ⟨rfl, HB1.out⟩
  · have h0 : ¬ what < 0 := by omega
    go_enter Tryz.func50, Tryz.ntmps50
    go_wp2_with fail
    go_ret
    exact ⟨rfl, HB1.out⟩

set_option maxHeartbeats 2000000 in
theorem may4_known (a : Option Addr) (cap : Nat) (m b k what : Int) (L : List Ino) (hw1 : 0 ≤ what) (hw2 : what ≤ 7) (hI : AllFit L) (w : World) (hN : NodesIn w a cap L) :
    Calls Tryz.prog 50 #[.agg #[.slice a L.length cap, .int .i64 m, .int .i64 b], .int .i64 k, .int .i64 what] w fun e w' => e = .returned (.bool (mayL L k what)) ∧ Below w.heap.size w w' := by
  have hb1 := below_box w (.cells #[.slice a L.length cap, .int .i64 m, .int .i64 b] 24)
  have HB1 := Lib.hid hb1
  have hcap := hN.1
  have hmax := hN.2.1
  unfold maxLen at hmax
  have HM := Lib.hid (hN.below hb1)
  cases hl : liveB L k with
  | false =>
    have HL := Lib.hid hl
    have HV := Lib.hid (show mayL L k what = false by unfold mayL; rw [hl]; simp)
    clear hN hb1 hl
    go_enter Tryz.func50, Tryz.ntmps50
    go_wp2_with (first | (go_at_call 91; refine (there4_known _ _ _ _ _ L _ HL.out _ HM.out).mono ?_; rintro e w2 ⟨rfl, hb2⟩) | fail)
    go_ret
    exact ⟨by rw [HV.out]; rfl, HB1.out.trans (hb2.mono (by simp))⟩
  | true =>
    obtain ⟨n, rfl, hn⟩ := there_nat (live_there hl)
    have HL := Lib.hid hl
    obtain ⟨bb, o, rfl, hx⟩ := HM.out.2.2 n hn
    have h1 := hx.mode
    have hd0 : (0 : Int) ≤ (n : Int) := by omega
    have hd1 : (n : Int) < (L.length : Int) := by omega
    have HV := Lib.hid (show mayL L (n : Int) what = bitsB L[n].mode what by unfold mayL; rw [hl, node_nat L n hn, decide_eq_true hw1, decide_eq_true hw2]; rfl)
    have hmr := mode_range hI (there_of L n hn)
    rw [node_nat L n hn] at hmr
    obtain ⟨q, hq⟩ : ∃ q, q = L[n].mode := ⟨_, rfl⟩
    rw [← hq] at h1 HV hmr
    obtain ⟨hq1, hq2⟩ := hmr
    rw [HV.out]
    have HB2 := Lib.hid (show ∀ w2, Below (w.alloc (.cells #[.slice (some ⟨bb, o, none⟩) L.length cap, .int .i64 m, .int .i64 b] 24)).heap.size (w.alloc (.cells #[.slice (some ⟨bb, o, none⟩) L.length cap, .int .i64 m, .int .i64 b] 24)) w2 → Below w.heap.size w w2 from fun w2 h => HB1.out.trans (h.mono (by simp)))
    clear hN hb1 hl hx hq hI
    go_enter Tryz.func50, Tryz.ntmps50
    go_wp2_with (first | (go_at_call 91; refine (there4_known _ _ _ _ _ L _ HL.out _ HM.out).mono ?_; rintro e w2 ⟨rfl, hb2⟩; obtain ⟨q0, q1, q2⟩ := box3 hb2; have h2 := cell_below hb2 h1) | fail)
    all_goals
      go_ret
      refine ⟨?_, HB2.out _ hb2⟩
      show Ending.returned (Value.bool _) = Ending.returned (Value.bool _)
      congr 2
      unfold bitsB
      simp [*]
end Go.Proofs.YtmaiphibpdngnaaGreat

namespace Go.Proofs.YtmaiphibpdngnaaGreat
set_option maxRecDepth 100000
open Go Go.RowKit

theorem may4_at (a : Option Addr) (cap : Nat) (m b k what : Int) (L : List Ino) (hI : AllFit L) (v : Bool) (hv : mayL L k what = v) (w : World) (hN : NodesIn w a cap L) :
    Calls Tryz.prog 50 #[.agg #[.slice a L.length cap, .int .i64 m, .int .i64 b], .int .i64 k, .int .i64 what] w fun e w' => e = .returned (.bool v) ∧ Below w.heap.size w w' := by
  subst hv
  by_cases h : 0 ≤ what ∧ what ≤ 7
  · exact may4_known a cap m b k what L h.1 h.2 hI w hN
  · have e : mayL L k what = false := by
      unfold mayL
      by_cases h1 : 0 ≤ what
      · rw [decide_eq_false (show ¬ what ≤ 7 from fun h2 => h ⟨h1, h2⟩)]
        simp
      · rw [decide_eq_false h1]
        rfl
    rw [e]
    exact may4_out a cap m b k what L (by omega) w
theorem rkid_known (a : Option Addr) (cap : Nat) (m b d : Int) (nm : List UInt8) (L : List Ino) (z : Int) (hz : kidL L d nm = z) (w : World) (hN : NodesIn w a cap L) :
    Calls Tryz.prog 19 #[.agg #[.slice a L.length cap, .int .i64 m, .int .i64 b], .int .i64 d, .string ⟨nm.toArray⟩] w fun e w' => e = .returned (.int .i64 z) ∧ Below w.heap.size w w' := by
  subst hz
  exact rkid_any a cap m b d nm L w hN

theorem str_dot (x : List UInt8) : (((⟨x.toArray⟩ : ByteArray)).toList == [46]) = (x == [46]) := by rw [ByteArray.toList_eq]
set_option maxRecDepth 100000 in
set_option maxHeartbeats 4000000 in
theorem step4_any (a : Option Addr) (cap : Nat) (m b p : Int) (x : List UInt8) (L : List Ino) (hI : AllFit L) (w : World) (hN : NodesIn w a cap L) :
    Calls Tryz.prog 92 #[.agg #[.slice a L.length cap, .int .i64 m, .int .i64 b], .int .i64 p, .string ⟨x.toArray⟩] w fun e w' => e = .returned (.tuple #[.int .i64 (stepW L p x).1, .int .i64 (stepW L p x).2]) ∧ Below w.heap.size w w' := by
  obtain ⟨w1, hw1⟩ : ∃ w1, w1 = w.alloc (.cells #[.slice a L.length cap, .int .i64 m, .int .i64 b] 24) := ⟨_, rfl⟩
  have hb1 := below_box w (.cells #[.slice a L.length cap, .int .i64 m, .int .i64 b] 24)
  have hM := hN.below hb1
  have hsz : w1.heap.size = w.heap.size + 1 := by rw [hw1]; simp
  have hbox : ∀ W', Below w1.heap.size w1 W' → W'.cell? ⟨w.heap.size, 0, none⟩ = some (.slice a L.length cap) ∧ W'.cell? ⟨w.heap.size, 1, none⟩ = some (.int .i64 m) ∧ W'.cell? ⟨w.heap.size, 2, none⟩ = some (.int .i64 b) := fun W' h => box3 (by rw [← hw1]; exact h)
  rw [← hw1] at hM hb1
  have HM := Lib.hid hM
  have HB := Lib.hid hb1
  have HX := Lib.hid hbox
  have HEND := Lib.hid (show ∀ W', Below w1.heap.size w1 W' → Below w.heap.size w W' from fun W' h => HB.out.trans (h.mono (by rw [hsz]; omega)))
  have hcap := hN.1
  have hmax := hN.2.1
  unfold maxLen at hmax
  have HI := Lib.hid hI
  obtain ⟨F, hF⟩ : ∃ F, F = stepW L p x := ⟨_, rfl⟩
  rw [← hF]
  have HF := Lib.hid hF
  clear hM hN hb1 hbox hsz hI hF
  cases hd : dirB L p with
  | false =>
    have HD := Lib.hid hd
    have HV := Lib.hid (show F = (0, 20) by rw [HF.out]; unfold stepW; rw [hd, if_pos rfl])
    clear hd
    go_enter Tryz.func92, Tryz.ntmps92
    go_wp2_with fail
    rw [← hw1]
    refine (dir4_known _ _ _ _ _ L _ HD.out _ HM.out).mono ?_
    rintro e w2 ⟨rfl, hb2⟩
    go_wp2_with fail
    go_ret2
    exact ⟨by rw [HV.out]; rfl, HEND.out _ hb2⟩
  | true =>
    obtain ⟨n, rfl, hn⟩ := dir_lt hd
    obtain ⟨bb, o, rfl, hx⟩ := HM.out.2.2 n hn
    have h5' := hx.up
    have HD := Lib.hid hd
    have hd0 : (0 : Int) ≤ (n : Int) := by omega
    have hd1 : (n : Int) < (L.length : Int) := by omega
    clear hx hd
    cases hm : mayL L (n : Int) 1 with
    | false =>
      have HMY := Lib.hid hm
      have HV := Lib.hid (show F = (0, 13) by rw [HF.out]; unfold stepW; rw [HD.out, hm, if_neg (by simp), if_pos rfl])
      clear hm
      go_enter Tryz.func92, Tryz.ntmps92
      go_wp2_with fail
      rw [← hw1]
      refine (dir4_known _ _ _ _ _ L _ HD.out _ HM.out).mono ?_
      rintro e w2 ⟨rfl, hb2⟩
      have HB2 := Lib.hid hb2
      obtain ⟨q0, q1, q2⟩ := HX.out _ hb2
      clear hb2 h5'
      go_wp2_with fail
      refine (may4_at _ _ _ _ _ _ L HI.out _ HMY.out _ (HM.out.below HB2.out)).mono ?_
      rintro e w3 ⟨rfl, hb3⟩
      have HB3 := Lib.hid (HB2.out.trans (hb3.mono HB2.out.size))
      clear hb3 q0 q1 q2
      go_wp2_with fail
      go_ret2
      exact ⟨by rw [HV.out]; rfl, HEND.out _ HB3.out⟩
    | true =>
      have HMY := Lib.hid hm
      have HV := Lib.hid (show F = if x = [46] then ((n : Int), 0) else if x = [46, 46] then ((nodeAt L (n : Int)).up, 0) else if kidL L (n : Int) x < 0 then (0, 2) else (kidL L (n : Int) x, 0) by rw [HF.out]; unfold stepW; rw [HD.out, hm, if_neg (by simp), if_neg (by simp)])
      clear hm
      go_enter Tryz.func92, Tryz.ntmps92
      go_wp2_with fail
      rw [← hw1]
      refine (dir4_known _ _ _ _ _ L _ HD.out _ HM.out).mono ?_
      rintro e w2 ⟨rfl, hb2⟩
      have HB2 := Lib.hid hb2
      obtain ⟨q0, q1, q2⟩ := HX.out _ hb2
      have h5'' := cell_below hb2 h5'
      clear hb2 h5' hw1
      go_wp2_with fail
      refine (may4_at _ _ _ _ _ _ L HI.out _ HMY.out _ (HM.out.below HB2.out)).mono ?_
      rintro e w3 ⟨rfl, hb3⟩
      have HB3 := Lib.hid (HB2.out.trans (hb3.mono HB2.out.size))
      have h5 := cell_below hb3 h5''
      clear hb3 q0 q1 q2 h5''
      obtain ⟨q0, q1, q2⟩ := HX.out _ HB3.out
      cases hx1 : (x == [46]) with
      | true =>
        have HW := Lib.hid (show F = ((n : Int), 0) by rw [HV.out, if_pos (by simpa using hx1)])
        go_wp2_with fail
        go_ret2
        exact ⟨by rw [HW.out]; rfl, HEND.out _ HB3.out⟩
      | false =>
        have hne1 : ¬ x = [46] := by simpa using hx1
        cases hx2 : (x == [46, 46]) with
        | true =>
          have HW := Lib.hid (show F = (L[n].up, 0) by rw [HV.out, if_neg hne1, if_pos (by simpa using hx2), node_nat L n hn])
          clear hne1
          go_wp2_with fail
          go_ret2
          exact ⟨by rw [HW.out]; rfl, HEND.out _ HB3.out⟩
        | false =>
          have hne2 : ¬ x = [46, 46] := by simpa using hx2
          obtain ⟨z, hz⟩ : ∃ z, kidL L (n : Int) x = z := ⟨_, rfl⟩
          have HZ := Lib.hid hz
          have HW := Lib.hid (show F = if z < 0 then (0, 2) else (z, 0) by rw [HV.out, if_neg hne1, if_neg hne2, hz])
          clear hne1 hne2 hz
          go_wp2_with fail
          refine (rkid_known _ _ _ _ _ _ L z HZ.out _ (HM.out.below HB3.out)).mono ?_
          rintro e w4 ⟨rfl, hb4⟩
          have HB4 := Lib.hid (HB3.out.trans (hb4.mono HB3.out.size))
          clear hb4 q0 q1 q2 h5
          by_cases hz0 : z < 0
          · have HW2 := Lib.hid (show F = (0, 2) by rw [HW.out, if_pos hz0])
            go_wp2_with fail
            go_ret2
            exact ⟨by rw [HW2.out]; rfl, HEND.out _ HB4.out⟩
          · have HW2 := Lib.hid (show F = (z, 0) by rw [HW.out, if_neg hz0])
            have hz1 : 0 ≤ z := by omega
            clear hz0
            go_wp2_with fail
            go_ret2
            exact ⟨by rw [HW2.out]; rfl, HEND.out _ HB4.out⟩

set_option maxHeartbeats 1000000 in
theorem begin4_any (cwd : Int) (p : List UInt8) (w : World) :
    Calls Tryz.prog 58 #[.int .i64 cwd, .string ⟨p.toArray⟩] w fun e w' => e = .returned (.int .i64 (beginW cwd p)) ∧ w = w' := by
  cases h : wholeL p
  all_goals
    have HV := Lib.hid h
    have hw := rwhole_any ⟨p.toArray⟩ w
    have e1 : (⟨p.toArray⟩ : ByteArray).data.toList = p := rfl
    rw [e1, h] at hw
    have HW := Lib.hid hw
    clear hw h e1
    go_enter Tryz.func58, Tryz.ntmps58
    go_wp2_with (first | (go_at_call 65; refine HW.out.mono ?_; rintro e w' ⟨rfl, rfl⟩) | fail)
    go_ret
    exact ⟨by unfold beginW; rw [HV.out]; rfl, rfl⟩
end Go.Proofs.YtmaiphibpdngnaaGreat

namespace Go.Proofs.YtmaiphibpdngnaaGreat
set_option maxRecDepth 100000
open Go Go.RowKit

def sliceLen : Value → Nat
  | .slice _ n _ => n
  | _ => 0

def WRel (L : List Ino) (last : Bool) (R : Int × Int) (w1 : World) (pv nv lv : Value) (wr : World) : Prop :=
  ∃ (n k : Nat) (N : List (List UInt8)) (p : Int), k + n = 8 ∧ pv = .int .i64 p ∧ lv = .int .i64 k ∧ N.length ≤ 5000 + k * 2000 ∧ Hid (View wr nv N) ∧ Hid (R = wayW L last n N p) ∧ Below w1.heap.size w1 wr

theorem wrel_view {wr : World} {nv : Value} {x : List UInt8} {r : List (List UInt8)} (h : View wr nv (x :: r)) : ∃ b o cap, nv = .slice (some ⟨b, o, none⟩) (r.length + 1) cap ∧ r.length + 1 ≤ cap ∧ cap ≤ maxLen ∧ wr.cell? ⟨b, o, none⟩ = some (.string ⟨x.toArray⟩) := by
  obtain ⟨a, cap, rfl, h1, h2, h3⟩ := h
  obtain ⟨b, o, e, hc⟩ := h3 0 (by simp)
  subst e
  exact ⟨b, o, cap, rfl, h1, h2, hc⟩

set_option maxRecDepth 100000 in
set_option maxHeartbeats 8000000 in
theorem way4_any (a : Option Addr) (cap : Nat) (m b p0 : Int) (last : Bool) (N0 : List (List UInt8)) (hN0 : N0.length ≤ 5000) (v0 : Value) (L : List Ino) (hF : FitP L m b) (w : World) (hN : NodesIn w a cap L) (hV : View w v0 N0) :
    Calls Tryz.prog 57 #[.agg #[.slice a L.length cap, .int .i64 m, .int .i64 b], .int .i64 p0, v0, .bool last] w fun e w' => e = .returned (.tuple #[.int .i64 (wayW L last 8 N0 p0).1, .int .i64 (wayW L last 8 N0 p0).2]) ∧ Below w.heap.size w w' := by
  obtain ⟨w1, hw1⟩ : ∃ w1, w1 = w.alloc (.cells #[.slice a L.length cap, .int .i64 m, .int .i64 b] 24) := ⟨_, rfl⟩
  have hb1 := below_box w (.cells #[.slice a L.length cap, .int .i64 m, .int .i64 b] 24)
  have hM := hN.below hb1
  have hVM := hV.below hb1
  have hsz : w1.heap.size = w.heap.size + 1 := by rw [hw1]; simp
  have hbox : ∀ W', Below w1.heap.size w1 W' → W'.cell? ⟨w.heap.size, 0, none⟩ = some (.slice a L.length cap) ∧ W'.cell? ⟨w.heap.size, 1, none⟩ = some (.int .i64 m) ∧ W'.cell? ⟨w.heap.size, 2, none⟩ = some (.int .i64 b) := fun W' h => box3 (by rw [← hw1]; exact h)
  rw [← hw1] at hM hb1 hVM
  have HM := Lib.hid hM
  have HB := Lib.hid hb1
  have HX := Lib.hid hbox
  have HEND := Lib.hid (show ∀ W', Below w1.heap.size w1 W' → Below w.heap.size w W' from fun W' h => HB.out.trans (h.mono (by rw [hsz]; omega)))
  have hcap := hN.1
  have hmax := hN.2.1
  unfold maxLen at hmax
  have HF := Lib.hid hF
  have HVM := Lib.hid hVM
  have hgw : w.heap.size < w1.heap.size := by omega
  obtain ⟨R, hR⟩ : ∃ R, R = wayW L last 8 N0 p0 := ⟨_, rfl⟩
  rw [← hR]
  have HR := Lib.hid hR
  clear hM hN hV hVM hb1 hbox hsz hF hR
  go_enter Tryz.func57, Tryz.ntmps57
  go_wp2_with fail
  rw [← hw1]
  clear hw1
  go_loopw [1, 2, 10, 11, 12, 13, 14] (fun pv nv lv _ _ _ _ wr => WRel L last R w1 pv nv lv wr) (fun _ nv lv _ _ _ _ _ => (8 - (intOf lv).toNat) * 30000 + sliceLen nv)
  case atStart => exact ⟨8, 0, N0, p0, rfl, rfl, rfl, by omega, HVM, HR, Below.refl _ _⟩
  case round =>
    obtain ⟨n, k, N, p, hkn, rfl, rfl, hNl, hview, hgoal, hbr⟩ := hrel
    have HVW := Lib.hid hview.out
    have HG := Lib.hid hgoal.out
    have HBR := Lib.hid hbr
    have hszr := hbr.size
    obtain ⟨q0, q1, q2⟩ := HX.out _ hbr
    clear hview hgoal hbr
    cases N with
    | nil =>
      obtain ⟨na, ncap, rfl, -, -, -⟩ := HVW.out
      have HW := Lib.hid (show R = (p, 0) by rw [HG.out, wayW_nil])
      clear q0 q1 q2
      go_wp2_with fail
      go_ret2
      exact ⟨by rw [HW.out]; rfl, HEND.out _ HBR.out⟩
    | cons x r =>
      obtain ⟨nb, no, ncap, rfl, hc1, hc2, hx0⟩ := wrel_view HVW.out
      unfold maxLen at hc2
      simp only [List.length_cons] at hNl
      obtain ⟨z, hz⟩ : ∃ z, z = (stepW L p x).1 := ⟨_, rfl⟩
      obtain ⟨er, her⟩ : ∃ er, er = (stepW L p x).2 := ⟨_, rfl⟩
      have HST := Lib.hid (show stepW L p x = (z, er) by rw [hz, her])
      have H1 := Lib.hid (grown_call (wb := wr) (fun W hW => by
        have h := step4_any a cap m b p x L HF.out.ins W (HM.out.below (HBR.out.trans (hW.mono hszr)))
        rw [HST.out] at h
        exact h))
      have f0 := grown_cell q0
      have f1 := grown_cell q1
      have f2 := grown_cell q2
      have f3 := grown_cell hx0
      have hi1 : (1 : Int) ≤ ((r.length : Int) + 1) := by omega
      have hi2 : ((r.length : Int) + 1) ≤ (ncap : Int) := by omega
      have hi3 : (0 : Int) < ((r.length : Int) + 1) := by omega
      have hpos : (0 : Int) < ((r.length + 1 : Nat) : Int) := by omega
      clear hz her q0 q1 q2 hx0
      go_wp2_with fail
      refine wp_region_grown (by kernel_rfl) (by kernel_rfl) ?_
      repeat (first | go_big_quiet_skip | (go_big_quiet_want; go_big_quiet_op; (first | go_big_quiet_on | (refine ⟨_, H1.out, ?_⟩; go_big_quiet_on))))
      refine wpQuiet_nil ?_
      intro w8 hw8
      have hbg : Below wr.heap.size wr w8 := by obtain ⟨x, rfl⟩ := hw8; exact x.below
      have HB8 := Lib.hid (HBR.out.trans (hbg.mono hszr))
      have HV8 := Lib.hid (HVW.out.below hbg)
      obtain ⟨q0, q1, q2⟩ := HX.out _ HB8.out
      have hs8 := HB8.out.size
      clear hw8 hbg f0 f1 f2 f3 H1
      cases he : (er != 0) with
      | true =>
        have HW := Lib.hid (show R = (0, er) by rw [HG.out, wayW_err _ _ _ _ _ _ (by rw [HST.out]; simpa using he), HST.out])
        go_wp2_with fail
        go_ret2
        exact ⟨by rw [HW.out]; rfl, HEND.out _ HB8.out⟩
      | false =>
        have he0 : er = 0 := by simpa using he
        subst he0
        have hlive := step_ok HF.out (show (stepW L p x).2 = 0 by rw [HST.out])
        rw [HST.out] at hlive
        obtain ⟨u, hu, hul⟩ := there_nat (live_there hlive)
        have hzu : z = (u : Int) := hu
        subst hzu
        obtain ⟨bb, o, rfl, hx⟩ := (HM.out.below HB8.out).2.2 u hul
        have x0 := hx.kind
        have x3 := hx.data
        have hd0 : (0 : Int) ≤ (u : Int) := by omega
        have hd1 : (u : Int) < (L.length : Int) := by omega
        obtain ⟨ta, hta⟩ : ∃ ta, (if ncap = 1 then (some ⟨nb, no, none⟩ : Option Addr) else some ⟨nb, no + 1, none⟩) = ta := ⟨_, rfl⟩
        have htl := HV8.out.tail
        rw [hta] at htl
        have HTL := Lib.hid htl
        have HND := Lib.hid (node_nat L u hul)
        clear hx hlive hu he htl
        cases hk3 : (L[u].kind != 3) with
        | true =>
          have HGO := Lib.hid (show R = wayW L last n r (u : Int) by rw [HG.out, wayW_on _ _ _ _ _ _ _ HST.out (Or.inl (by rw [HND.out]; simpa using hk3))])
          clear x3
          go_wp2_with fail
          go_roundw
          case rel => exact ⟨n, k, r, (u : Int), hkn, rfl, rfl, by omega, HTL, HGO, HB8.out⟩
          case measure => simp [intOf, sliceLen] <;> omega
        | false =>
          have hk3' : L[u].kind = 3 := by simpa using hk3
          by_cases hlast : r = [] ∧ last = false
          · obtain ⟨rfl, rfl⟩ := hlast
            have HGO := Lib.hid (show R = wayW L false n [] (u : Int) by rw [HG.out, wayW_on _ _ _ _ _ _ _ HST.out (Or.inr ⟨rfl, rfl⟩)])
            clear x3
            go_wp2_with fail
            go_roundw
            case rel => exact ⟨n, k, [], (u : Int), hkn, rfl, rfl, by simp, HTL, HGO, HB8.out⟩
            case measure => simp [intOf, sliceLen] <;> omega
          · have HNL := Lib.hid (show ¬ ((nodeAt L (u : Int)).kind ≠ 3 ∨ (r = [] ∧ last = false)) from fun h => by
              rcases h with h | h
              · exact h (by rw [HND.out]; exact hk3')
              · exact hlast h)
            obtain ⟨hd1024, -⟩ := link_data HF.out.ins (there_of L u hul) (by rw [HND.out]; exact hk3')
            rw [HND.out] at hd1024
            obtain ⟨d, hde⟩ : ∃ d, d = L[u].data := ⟨_, rfl⟩
            rw [← hde] at x3 hd1024
            have HDE := Lib.hid (show (nodeAt L (u : Int)).data = d by rw [HND.out, hde])
            have HTLV := Lib.hid HTL.out
            cases n with
            | zero =>
              obtain rfl : k = 8 := by omega
              have HW := Lib.hid (show R = (0, 40) by rw [HG.out, wayW_loop _ _ _ _ _ _ HST.out HNL.out])
              clear hde x3
              by_cases hr0 : r = []
              · subst hr0
                obtain rfl : last = true := by
                  cases last with
                  | true => rfl
                  | false => exact absurd ⟨rfl, rfl⟩ hlast
                go_wp2_with fail
                go_ret2
                exact ⟨by rw [HW.out]; rfl, HEND.out _ HB8.out⟩
              · have hrl : ((r.length : Int) == 0) = false := by
                  rw [beq_eq_false_iff_ne]
                  exact fun e => hr0 (List.length_eq_zero_iff.1 (by omega))
                clear hr0
                go_wp2_with fail
                go_ret2
                exact ⟨by rw [HW.out]; rfl, HEND.out _ HB8.out⟩
            | succ n =>
              have hk8 : (k : Int) < 8 := by omega
              have HP := Lib.hid (show (partsL d).length ≤ 1025 by have := count_parts d; omega)
              have HGO := Lib.hid (show R = wayW L last n (partsL d ++ r) (if wholeL d then 0 else p) by rw [HG.out, wayW_link _ _ _ _ _ _ _ HST.out HNL.out, HDE.out])
              have hwh := rwhole_any ⟨d.toArray⟩
              have e1 : (⟨d.toArray⟩ : ByteArray).data.toList = d := rfl
              rw [e1] at hwh
              have HWH := Lib.hid hwh
              have hpa := rparts_any ⟨d.toArray⟩ (by show d.toArray.size ≤ _; simp; omega)
              rw [e1] at hpa
              have HPA := Lib.hid hpa
              have HRL := Lib.hid (show r.length ≤ 5000 + k * 2000 by omega)
              clear hde hwh hpa e1 HTL
              have hcase : (((r.length : Int) == 0) = true ∧ last = true) ∨ ((r.length : Int) == 0) = false := by
                by_cases hr0 : r = []
                · subst hr0
                  cases last with
                  | true => exact Or.inl ⟨by simp, rfl⟩
                  | false => exact absurd ⟨rfl, rfl⟩ hlast
                · refine Or.inr ?_
                  rw [beq_eq_false_iff_ne]
                  exact fun e => hr0 (List.length_eq_zero_iff.1 (by omega))
              clear hlast
              rcases hcase with ⟨hrl, rfl⟩ | hrl
              all_goals
                cases hw : wholeL d
                all_goals
                  have HW := Lib.hid hw
                  rw [hw] at HWH HGO
                  clear hw
                  go_wp2_with (first | (go_at_call 65; refine (HWH.out _).mono ?_; rintro e w' ⟨rfl, rfl⟩) | (go_at_call 56; refine (HPA.out _).mono ?_; rintro e w9 ⟨v9, rfl, hT9, hb9⟩; have HV9 := Lib.hid hT9.view; have HB9 := Lib.hid (HB8.out.trans (hb9.mono hs8)); have HTL9 := Lib.hid (HTLV.out.below hb9); have HP2 := Lib.hid HP.out; clear hT9 hb9 HPA) | (at_builtin; refine append_held (B := w9.heap.size) (L := []) (Or.inl ⟨rfl, rfl⟩) HV9.out (by have := HP2.out; simp only [List.length_nil]; omega) (Nat.le_refl _) rfl _ _ rfl rfl rfl ?_; intro v10 w10 hH10 hg10; rw [List.nil_append] at hH10; have hB10 : Below w9.heap.size w9 w10 := (Below.refl _ _).grown hg10 (Nat.le_refl _) (fun k hk => by cases hk); have HTL10 := Lib.hid (HTL9.out.below hB10); have HH10 := Lib.hid hH10; have hs10 := hB10.size; have HB10 := Lib.hid hB10; clear hH10 hg10 hB10 HP2) | (at_builtin; refine append_held HH10.out HTL10.out (by have := HP.out; have := HRL.out; omega) hs10 rfl _ _ rfl rfl rfl ?_; intro v11 w11 hH11 hg11; have HB11 := Lib.hid (HB9.out.trans ((HB10.out.trans ((Below.refl _ _).grown hg11 hs10 (fun k hk => (HH10.out.own hk).1))).mono HB9.out.size)); (obtain ⟨N2, hN2⟩ : ∃ N2, N2 = partsL d ++ r := ⟨_, rfl⟩); rw [← hN2] at hH11; have HN2 := Lib.hid hN2; have HV11 := Lib.hid hH11.view; (obtain ⟨na, nc, hv11⟩ : ∃ na nc, v11 = .slice na N2.length nc := (by obtain ⟨na, nc, e, -⟩ := HV11.out; exact ⟨na, nc, e⟩)); clear hH11 hg11 hN2; subst hv11) | fail)
                  go_roundw
                  case rel => exact ⟨n, k + 1, N2, _, by omega, rfl, by go_num, by have := HP.out; have := HRL.out; rw [HN2.out, List.length_append]; omega, HV11, by rw [HN2.out]; exact HGO, HB11.out⟩
                  case measure =>
                    have := HP.out
                    have := HRL.out
                    have h2 : N2.length = (partsL d).length + r.length := by rw [HN2.out, List.length_append]
                    simp only [intOf, sliceLen]
                    omega
end Go.Proofs.YtmaiphibpdngnaaGreat

namespace Go.Proofs.YtmaiphibpdngnaaGreat
set_option maxRecDepth 100000
open Go Go.RowKit

theorem longB_of (p : List UInt8) (h : p.length ≤ 1024) : longB p = (partsL p).any fun x => decide (64 < x.length) := by
  unfold longB
  rw [decide_eq_false (by omega), Bool.false_or]

set_option maxRecDepth 100000 in
set_option maxHeartbeats 4000000 in
theorem bad4_any (a : Option Addr) (cap : Nat) (m b cwd : Int) (p : List UInt8) (hp : p.length ≤ 1073741824) (L : List Ino) (w : World) (hN : NodesIn w a cap L) :
    Calls Tryz.prog 55 #[.agg #[.slice a L.length cap, .int .i64 m, .int .i64 b], .int .i64 cwd, .string ⟨p.toArray⟩] w fun e w' => e = .returned (.int .i64 (badW L cwd p)) ∧ Below w.heap.size w w' := by
  have hb1 := below_box w (.cells #[.slice a L.length cap, .int .i64 m, .int .i64 b] 24)
  have HM := Lib.hid (hN.below hb1)
  have HB1 := Lib.hid hb1
  have hs := str_len p
  obtain ⟨R, hR⟩ : ∃ R, R = badW L cwd p := ⟨_, rfl⟩
  rw [← hR]
  have HR := Lib.hid hR
  clear hN hb1 hR
  by_cases hp0 : p = []
  · subst hp0
    have HW := Lib.hid (show R = 2 by rw [HR.out]; unfold badW; rw [if_pos (Or.inl rfl)])
    go_enter Tryz.func55, Tryz.ntmps55
    go_wp2_with fail
    go_ret
    exact ⟨by rw [HW.out]; rfl, HB1.out⟩
  · have hpb : (p == []) = false := by simpa using hp0
    cases hd : dirB L cwd with
    | false =>
      have HD := Lib.hid hd
      have HW := Lib.hid (show R = 2 by rw [HR.out]; unfold badW; rw [if_pos (Or.inr hd)])
      clear hd hp0
      go_enter Tryz.func55, Tryz.ntmps55
      go_wp2_with (first | (go_at_call 59; refine (dir4_known _ _ _ _ _ L _ HD.out _ HM.out).mono ?_; rintro e w2 ⟨rfl, hb2⟩) | fail)
      go_ret
      exact ⟨by rw [HW.out]; rfl, HB1.out.trans (hb2.mono (by simp))⟩
    | true =>
      have HD := Lib.hid hd
      have HW := Lib.hid (show R = if longB p then 36 else 0 by rw [HR.out]; unfold badW; rw [if_neg (by simp [hp0, hd])])
      clear hd hp0
      by_cases hl : 1024 < p.length
      · have HW2 := Lib.hid (show R = 36 by rw [HW.out]; unfold longB; rw [decide_eq_true hl]; rfl)
        go_enter Tryz.func55, Tryz.ntmps55
        go_wp2_with (first | (go_at_call 59; refine (dir4_known _ _ _ _ _ L _ HD.out _ HM.out).mono ?_; rintro e w2 ⟨rfl, hb2⟩) | fail)
        go_ret
        exact ⟨by rw [HW2.out]; rfl, HB1.out.trans (hb2.mono (by simp))⟩
      · have HW2 := Lib.hid (show R = if (partsL p).any fun x => decide (64 < x.length) then 36 else 0 by rw [HW.out, longB_of p (by omega)])
        have hpa := rparts_any ⟨p.toArray⟩ (by rw [hs]; exact hp)
        have e1 : (⟨p.toArray⟩ : ByteArray).data.toList = p := rfl
        rw [e1] at hpa
        have HPA := Lib.hid hpa
        have HCL := Lib.hid (count_parts p)
        obtain ⟨N, hNe⟩ : ∃ N, N = partsL p := ⟨_, rfl⟩
        rw [← hNe] at HPA HW2 HCL
        have hl1 : p.length ≤ 1024 := by omega
        clear hpa e1 hNe hl HW
        go_enter Tryz.func55, Tryz.ntmps55
        go_wp2_with fail
        refine (dir4_known _ _ _ _ _ L _ HD.out _ HM.out).mono ?_
        rintro e w2 ⟨rfl, hb2⟩
        have HB2 := Lib.hid (HB1.out.trans (hb2.mono (by simp)))
        have hs2 := HB2.out.size
        clear hb2
        go_wp2_with fail
        refine (HPA.out _).mono ?_
        rintro e w3 ⟨v3, rfl, hT3, hb3⟩
        obtain ⟨na, ncap, rfl, hc1, hc2, hcell⟩ := hT3.view
        have HC := Lib.hid hcell
        have HB3 := Lib.hid (HB2.out.trans (hb3.mono hs2))
        have hN1 : N.length ≤ 1025 := by have := HCL.out; omega
        unfold maxLen at hc2
        clear hT3 hb3 hcell HPA
        go_wp2_with fail
        go_loop [8] (fun iv => ∃ k : Nat, k ≤ N.length ∧ iv = .int .i64 k ∧ Hid (∀ j (hj : j < N.length), j < k → N[j].length ≤ 64)) (fun iv => N.length - (intOf iv).toNat)
        case atStart => exact ⟨0, by omega, rfl, fun _ _ h => absurd h (Nat.not_lt_zero _)⟩
        case round =>
          obtain ⟨k, hk, rfl, hok⟩ := hrel
          by_cases hlt : k < N.length
          · obtain ⟨nb, no, rfl, hx⟩ := HC.out k hlt
            unfold strv at hx
            have hsx := str_len N[k]
            have hk0 : (0 : Int) ≤ (k : Int) := by omega
            by_cases h64 : 64 < N[k].length
            · have HW3 := Lib.hid (show R = 36 by
                rw [HW2.out, if_pos]
                rw [List.any_eq_true]
                exact ⟨N[k], List.getElem_mem _, decide_eq_true h64⟩)
              go_wp2_with fail
              go_ret
              exact ⟨by rw [HW3.out]; rfl, HB3.out⟩
            · have HOK := Lib.hid (show ∀ j (hj : j < N.length), j < k + 1 → N[j].length ≤ 64 from fun j hj hjk => by
                by_cases e : j = k
                · subst e; omega
                · exact hok.out j hj (by omega))
              go_wp2_with fail
              go_round
              case rel => exact ⟨k + 1, by omega, by go_num, HOK⟩
              case measure => simp [intOf] <;> omega
          · have HW3 := Lib.hid (show R = 0 by
              rw [HW2.out, if_neg]
              rw [List.any_eq_true]
              rintro ⟨x, hx, h⟩
              obtain ⟨j, hj, rfl⟩ := List.getElem_of_mem hx
              have h1 := hok.out j hj (by omega)
              have h2 := of_decide_eq_true h
              omega)
            go_wp2_with fail
            go_ret
            exact ⟨by rw [HW3.out]; rfl, HB3.out⟩
end Go.Proofs.YtmaiphibpdngnaaGreat

namespace Go.Proofs.YtmaiphibpdngnaaGreat
set_option maxRecDepth 100000
open Go Go.RowKit Go.Shelf

attribute [local go_sem] Oper.semAt_some

theorem own_less {w : World} {b b' : Nat} {e : TypeId} {z n : Nat} {v : Value} {xs : List Value} (h : w.ownsRow b e z v n xs) (hb : b' ≤ b) : w.ownsRow b' e z v n xs := by
  obtain ⟨h1, h2 | ⟨g, cap, cur, hv, hg, r⟩⟩ := h
  · exact ⟨h1, Or.inl h2⟩
  · exact ⟨h1, Or.inr ⟨g, cap, cur, hv, by omega, r⟩⟩

theorem parts_le (l : List UInt8) : (partsL l).length ≤ l.length + 1 := by
  have h : ∀ (l cur : List UInt8), (partsGo cur l).length ≤ l.length + 1 := by
    intro l
    induction l with
    | nil => intro cur; unfold partsGo; split <;> simp
    | cons c r ih =>
      intro cur
      unfold partsGo
      split
      · split
        · have := ih []; simp; omega
        · have := ih []; simp only [List.length_cons]; omega
      · have := ih (cur ++ [c]); simp only [List.length_cons]; omega
  exact h l []

set_option maxRecDepth 100000 in
set_option maxHeartbeats 2000000 in
theorem parts_in (F : Fence) (hF : Open F) (n : Nat) (hn : 3 ≤ n) (s : ByteArray) (hs : s.size ≤ 1073741824) (w : World) :
    CallsIn F n Tryz.prog 108 #[.string s] w fun e W' => ∃ v, e = .returned v ∧ Texts w.heap.size W' v (partsL s.data.toList) ∧ Below w.heap.size w W' := by
  have hro : F.round = none := hF.ro
  have h23 : F.fn 120 := hF.fn _
  have h1 : 1 ≤ n := by omega
  have hpl := parts_le s.data.toList
  rw [size_list] at hpl
  obtain ⟨i0, hi, hz0, hz1, hz2⟩ := info_parts infoS
  refine callsIn_of_wp_marks Tryz.func108 rfl (hF.fn _) ?_ hro
  simp only [Tryz.ntmps108, List.size_toArray, List.length_cons, List.length_nil, Nat.reduceAdd, Nat.reduceSub, Array.replicate_succ, Array.replicate_zero, List.push_toArray, List.append_toArray, List.nil_append, List.cons_append]
  gi_wp2_with (gi_at_call 120; refine (names_in F hF (n - 1) _ _).mono ?_; rintro e w' ⟨rfl, rfl⟩)
  have bO := Boxed.new w 41 (.slice none 0 0)
  have bN := Boxed.new (w.alloc (.cells #[.slice none 0 0] 41)) 9 (.string s)
  rw [World.size_alloc] at bN
  have hB0 : Below w.heap.size w ((w.alloc (.cells #[.slice none 0 0] 41)).alloc (.cells #[.string s] 9)) := ((Below.refl _ w).alloc (Nat.le_refl _) _).alloc (by simp) _
  refine wpIn_rangeFunc_ownG hro h1 (gf := 128) (lb := #[.pointer (some ⟨w.heap.size + 1, 0, none⟩)]) rfl (hF.fn _) (enters_of Tryz.func128 (by kernel_rfl) rfl)
    (names_stops F hF (n - 1) (by omega) (w.heap.size + 1) s hs _ (by simp) bN.cell) keepB_t (keepB_b (by simp)) (Below.refl _ _) (fun _ => rfl)
    (fun pre W => (∃ v, Boxed W w.heap.size 41 v ∧ W.ownsRow (w.heap.size + 2) 9 1 v pre.length (pre.map strv) ∧ True) ∧ Boxed W (w.heap.size + 1) 9 (.string s) ∧ Below w.heap.size w W)
    (fun _ _ _ => False)
    (OwnFrom.and (Own.from (holdsRow_own (w.heap.size + 2) w.heap.size 41 9 1 (fun pre : List (List UInt8) => pre.length) (fun pre => pre.map strv) (fun _ _ => True)) _) (OwnFrom.and (Own.from (boxed_own _ _ _) _) (ownFrom_below (Nat.le_refl _) (by simp; omega))))
    (fun _ _ _ _ _ hs _ _ => hs)
    ⟨⟨_, bO.alloc _, World.ownsRow_nil _ _ _ _, trivial⟩, bN, hB0⟩
    (fun x => { tmps := #[.string s, undef, .slice none 0 0, .pointer (some ⟨w.heap.size, 0, none⟩), .string ⟨x.toArray⟩, .string s, .func (.func 128) #[] #[.pointer (some ⟨w.heap.size + 1, 0, none⟩)], .string ⟨x.toArray⟩, undef, undef, undef, undef, undef], defers := [] }) ?assign ?body ?done ?stop
  case assign =>
    intro l x W K hK
    gi_wp2
    exact hK
  case body =>
    rintro l pre x W ⟨⟨v, hv, hrow, -⟩, hp, hB⟩ hlt
    have hc := hv.cell
    have hpz := hp.lt
    have hne : ∀ k, v.ownBlock = some k → k ≠ w.heap.size + 1 := fun k e => by have := (hrow.lt k e).1; omega
    gi_wp2_with (gi_at_builtin; refine wpListIn_append_own _ rfl _ _ 41 rfl (w.heap.size + 2) 9 i0 (.string ByteArray.empty) 1 16 Tryz.underlying41 hi hz0 hz1 hz2 rfl (by decide) _ _ _ rfl (hrow.alloc _) ⟨W.heap.size, 0, none⟩ 1 1 [.string ⟨x.toArray⟩] rfl rfl (cell_one_new _ _ _) (fun x hx => by simp at hx; subst hx; rfl) (by unfold maxLen; omega) (by omega) (by simp; omega) ?_; intro v' w1 hown' hgrow _; obtain ⟨g', cap', rfl⟩ := ownsRow_succ hown'; obtain ⟨hv1, hv2, hr2, hk2, hb2⟩ := hv.appended (by decide) (own_less hrow (Nat.le_add_right _ 2)) hB.size (Nat.le_refl _) (own_less hown' (Nat.le_add_right _ 2)) hgrow; have hc1 := hv1.cell; have hf1 := hv1.frozen)
    have hp1 := (hp.alloc (.cells #[.string ⟨x.toArray⟩] 9)).kept hgrow (fun e => hne _ e.symm rfl)
    refine ⟨hk2.from _, ?_, ⟨_, hv2, ?_, trivial⟩, hp1.other (by omega) _, hB.trans hb2⟩
    · exact ((hp1.other (B' := w.heap.size) (by omega) _).trans hp.symm)
    · simpa [strv] using hown'.kept (grownBy_setCell' _ w.heap.size _) (.inr (hv1.not_row (by decide) hown').symm)
  case done =>
    rintro D ys W hD rfl ⟨⟨v, hv, hrow, -⟩, -, hB⟩ hK
    have hc := hv.cell
    gi_wp2
    refine ⟨by simp, .inl ⟨_, _, rfl, run_takeDeferred hK, ?_⟩⟩
    exact ⟨_, results_tmp rfl _ _ _, v, rfl, ownsRow_putObj (own_less hrow (Nat.le_add_right _ 2)) _ hK rfl, hB.trans (belowK_b (w := w) (Nat.le_refl _) W D _ _ (by simp at hD; omega) hK rfl rfl)⟩
  case stop =>
    rintro D c pre W _ _ h _
    exact h.elim

/-- Parts, as the law calls it. -/
theorem parts_any (s : ByteArray) (hs : s.size ≤ 1073741824) (w : World) :
    Calls Tryz.prog 108 #[.string s] w fun e W' => ∃ v, e = .returned v ∧ Texts w.heap.size W' v (partsL s.data.toList) ∧ Below w.heap.size w W' :=
  callsIn_wide.1 (parts_in Fence.wide open_wide 3 (Nat.le_refl _) s hs w)
end Go.Proofs.YtmaiphibpdngnaaGreat

namespace Go.Proofs.YtmaiphibpdngnaaGreat
set_option maxRecDepth 100000
open Go Go.RowKit

set_option maxHeartbeats 1000000 in
theorem kind_known (a : Option Addr) (cap : Nat) (m b k : Int) (L : List Ino) (v : Int) (hv : kindL L k = v) (w : World) (hN : NodesIn w a cap L) :
    Calls Tryz.prog 94 #[.agg #[.slice a L.length cap, .int .i64 m, .int .i64 b], .int .i64 k] w fun e w' => e = .returned (.int .i64 v) ∧ Below w.heap.size w w' := by
  subst hv
  have hb1 := below_box w (.cells #[.slice a L.length cap, .int .i64 m, .int .i64 b] 24)
  have HB1 := Lib.hid hb1
  have hcap := hN.1
  have hmax := hN.2.1
  unfold maxLen at hmax
  cases ht : thereB L k with
  | true =>
    obtain ⟨n, rfl, hn⟩ := there_nat ht
    obtain ⟨bb, o, rfl, hx⟩ := (hN.below hb1).2.2 n hn
    have h1 := hx.kind
    have hd0 : (0 : Int) ≤ (n : Int) := by omega
    have hd1 : (n : Int) < (L.length : Int) := by omega
    have HV := Lib.hid (show kindL L (n : Int) = L[n].kind by unfold kindL; rw [ht, if_pos rfl, node_nat L n hn])
    clear hN hb1 ht hx
    go_enter Tryz.func94, Tryz.ntmps94
    go_wp2_with fail
    go_ret
    exact ⟨by rw [HV.out]; rfl, HB1.out⟩
  | false =>
    have HV := Lib.hid (show kindL L k = 0 by unfold kindL; rw [ht]; rfl)
    rcases there_not ht with h | h
    · clear hN hb1 ht
      go_enter Tryz.func94, Tryz.ntmps94
      go_wp2_with fail
      go_ret
      exact ⟨by rw [HV.out]; rfl, HB1.out⟩
    · have h0 : (0 : Int) ≤ k := by omega
      clear hN hb1 ht
      go_enter Tryz.func94, Tryz.ntmps94
      go_wp2_with fail
      go_ret
      exact ⟨by rw [HV.out]; rfl, HB1.out⟩

theorem kind_dir {L : List Ino} {k : Int} : (kindL L k != 2) = !dirB L k := by
  unfold kindL dirB
  cases thereB L k with
  | false => rfl
  | true => rw [if_pos rfl, Bool.true_and]; rfl
theorem kind_live {L : List Ino} {k : Int} : (kindL L k == 0) = !liveB L k := by
  unfold kindL liveB
  cases thereB L k with
  | false => rfl
  | true => rw [if_pos rfl, Bool.true_and]; simp [bne]

theorem bits_nat : ∀ q : Nat, q < 8 → ∀ x : Nat, x < 8 → (bits BinOp.and IntKind.i64 (q : Int) (x : Int) == (x : Int)) = bitsB (q : Int) (x : Int) := by decide +kernel
theorem bits_ok (q x : Int) (h1 : 0 ≤ q) (h2 : q ≤ 7) (h3 : 0 ≤ x) (h4 : x ≤ 7) : (bits BinOp.and IntKind.i64 q x == x) = bitsB q x := by
  obtain ⟨n, rfl⟩ : ∃ n : Nat, q = (n : Int) := ⟨q.toNat, by omega⟩
  obtain ⟨k, rfl⟩ : ∃ k : Nat, x = (k : Int) := ⟨x.toNat, by omega⟩
  exact bits_nat n (by omega) k (by omega)

set_option maxHeartbeats 2000000 in
theorem lmayw_known (a : Option Addr) (cap : Nat) (m b k what : Int) (L : List Ino) (hI : AllFit L) (v : Bool) (hv : mayL L k what = v) (w : World) (hN : NodesIn w a cap L) :
    Calls Tryz.prog 75 #[.agg #[.slice a L.length cap, .int .i64 m, .int .i64 b], .int .i64 k, .int .i64 what] w fun e w' => e = .returned (.bool v) ∧ Below w.heap.size w w' := by
  subst hv
  have hb1 := below_box w (.cells #[.slice a L.length cap, .int .i64 m, .int .i64 b] 24)
  have HB1 := Lib.hid hb1
  have hcap := hN.1
  have hmax := hN.2.1
  unfold maxLen at hmax
  have HM := Lib.hid (hN.below hb1)
  by_cases hw : 0 ≤ what ∧ what ≤ 7
  · obtain ⟨hw1, hw2⟩ := hw
    cases hl : liveB L k with
    | false =>
      obtain ⟨z, hz⟩ : ∃ z, kindL L k = z := ⟨_, rfl⟩
      have hz0 : z = 0 := by have h := kind_live (L := L) (k := k); rw [hl, hz] at h; simpa using h
      subst hz0
      have HZ := Lib.hid hz
      have HV := Lib.hid (show mayL L k what = false by unfold mayL; rw [hl]; simp)
      clear hN hb1 hl hz
      go_enter Tryz.func75, Tryz.ntmps75
      go_wp2_with (first | (go_at_call 94; refine (kind_known _ _ _ _ _ L _ HZ.out _ HM.out).mono ?_; rintro e w2 ⟨rfl, hb2⟩) | fail)
      go_ret
      exact ⟨by rw [HV.out]; rfl, HB1.out.trans (hb2.mono (by simp))⟩
    | true =>
      obtain ⟨n, rfl, hn⟩ := there_nat (live_there hl)
      obtain ⟨z, hz⟩ : ∃ z, kindL L (n : Int) = z := ⟨_, rfl⟩
      have hz0 : (z == 0) = false := by have h := kind_live (L := L) (k := (n : Int)); rw [hl, hz] at h; simpa using h
      have HZ := Lib.hid hz
      obtain ⟨bb, o, rfl, hx⟩ := HM.out.2.2 n hn
      have h1 := hx.mode
      have hd0 : (0 : Int) ≤ (n : Int) := by omega
      have hd1 : (n : Int) < (L.length : Int) := by omega
      have HV := Lib.hid (show mayL L (n : Int) what = bitsB L[n].mode what by unfold mayL; rw [hl, node_nat L n hn, decide_eq_true hw1, decide_eq_true hw2]; rfl)
      have hmr := mode_range hI (there_of L n hn)
      rw [node_nat L n hn] at hmr
      obtain ⟨q, hq⟩ : ∃ q, q = L[n].mode := ⟨_, rfl⟩
      rw [← hq] at h1 HV hmr
      obtain ⟨hq1, hq2⟩ := hmr
      rw [HV.out]
      clear hN hb1 hl hx hq hI hz
      go_enter Tryz.func75, Tryz.ntmps75
      go_wp2_with (first | (go_at_call 94; refine (kind_known _ _ _ _ _ L _ HZ.out _ HM.out).mono ?_; rintro e w2 ⟨rfl, hb2⟩; obtain ⟨q0, q1, q2⟩ := box3 hb2; have h2 := cell_below hb2 h1) | fail)
      go_ret
      refine ⟨?_, HB1.out.trans (hb2.mono (by simp))⟩
      show Ending.returned (Value.bool _) = Ending.returned (Value.bool _)
      congr 2
      exact bits_ok q what hq1 hq2 hw1 hw2
  · have HV := Lib.hid (show mayL L k what = false by
      unfold mayL
      by_cases h1 : 0 ≤ what
      · rw [decide_eq_false (show ¬ what ≤ 7 from fun h2 => hw ⟨h1, h2⟩)]
        simp
      · rw [decide_eq_false h1]
        rfl)
    by_cases h1 : what < 0
    · clear hN hb1 hw
      go_enter Tryz.func75, Tryz.ntmps75
      go_wp2_with fail
      go_ret
      exact ⟨by rw [HV.out]; rfl, HB1.out⟩
    · have h2 : 7 < what := by omega
      clear hN hb1 hw
      go_enter Tryz.func75, Tryz.ntmps75
      go_wp2_with fail
      go_ret
      exact ⟨by rw [HV.out]; rfl, HB1.out⟩

set_option maxHeartbeats 1000000 in
theorem long_any (x : List UInt8) (w : World) : Calls Tryz.prog 109 #[.string ⟨x.toArray⟩] w fun e w' => e = .returned (.bool (decide (64 < x.length))) ∧ w' = w := by
  have hs := str_len x
  by_cases h : 64 < x.length
  all_goals
    have hh : decide (64 < x.length) = _ := (by first | exact decide_eq_true h | exact decide_eq_false h)
    have HH := Lib.hid hh
    clear hh
    go_enter Tryz.func109, Tryz.ntmps109
    go_wp2_with fail
    go_ret
    refine ⟨?_, rfl⟩
    rw [HH.out]
    show Ending.returned (Value.bool _) = Ending.returned (Value.bool _)
    congr 2
    simp
    omega

set_option maxRecDepth 100000 in
set_option maxHeartbeats 4000000 in
theorem lindexF_any (N : List (List UInt8)) (hN : N.length ≤ 1048576) (v : Value) (w : World) (hV : View w v N) :
    Calls Tryz.prog 119 #[v, .func (.func 109) #[] #[]] w fun e w' => (∃ z : Int, e = .returned (.int .i64 z) ∧ decide (0 ≤ z) = N.any fun x => decide (64 < x.length)) ∧ w' = w := by
  obtain ⟨na, nc, rfl, hc1, hc2, hcell⟩ := hV
  unfold maxLen at hc2
  have HC := Lib.hid hcell
  obtain ⟨R, hR⟩ : ∃ R, R = N.any fun x => decide (64 < x.length) := ⟨_, rfl⟩
  have HR := Lib.hid hR
  rw [← hR]
  clear hcell hR
  go_enter Tryz.func119, Tryz.ntmps119
  go_wp2_with fail
  go_loop [5, 8] (fun _ iv => ∃ k : Nat, k ≤ N.length ∧ iv = .int .i64 k ∧ Hid (∀ j (hj : j < N.length), j < k → N[j].length ≤ 64)) (fun _ iv => N.length - (intOf iv).toNat)
  case atStart => exact ⟨0, by omega, rfl, fun _ _ h => absurd h (Nat.not_lt_zero _)⟩
  case round =>
    obtain ⟨k, hk, rfl, hok⟩ := hrel
    by_cases hlt : k < N.length
    · obtain ⟨nb, no, rfl, hx⟩ := HC.out k hlt
      unfold strv at hx
      have hk0 : (0 : Int) ≤ (k : Int) := by omega
      by_cases h64 : 64 < N[k].length
      · have HL := Lib.hid (long_any N[k])
        have HW3 := Lib.hid (show R = true by
          rw [HR.out, List.any_eq_true]
          exact ⟨N[k], List.getElem_mem _, decide_eq_true h64⟩)
        have HD := Lib.hid (decide_eq_true h64)
        go_wp2_with (first | (go_at_call 109; refine (HL.out _).mono ?_; rintro e w' ⟨rfl, rfl⟩; rw [HD.out]) | fail)
        go_ret
        exact ⟨⟨(k : Int), rfl, by rw [HW3.out]; exact decide_eq_true hk0⟩, rfl⟩
      · have HOK := Lib.hid (show ∀ j (hj : j < N.length), j < k + 1 → N[j].length ≤ 64 from fun j hj hjk => by
          by_cases e : j = k
          · subst e; omega
          · exact hok.out j hj (by omega))
        have HL := Lib.hid (long_any N[k])
        have HD := Lib.hid (decide_eq_false h64)
        go_wp2_with (first | (go_at_call 109; refine (HL.out _).mono ?_; rintro e w' ⟨rfl, rfl⟩; rw [HD.out]) | fail)
        go_round
        case rel => exact ⟨k + 1, by omega, by go_num, HOK⟩
        case measure => simp [intOf] <;> omega
    · have HW3 := Lib.hid (show R = false by
        rw [HR.out, List.any_eq_false]
        intro x hx
        obtain ⟨j, hj, rfl⟩ := List.getElem_of_mem hx
        have h1 := hok.out j hj (by omega)
        simpa using h1)
      go_wp2_with fail
      go_ret
      exact ⟨⟨-1, rfl, by rw [HW3.out]; rfl⟩, rfl⟩
end Go.Proofs.YtmaiphibpdngnaaGreat

namespace Go.Proofs.YtmaiphibpdngnaaGreat
set_option maxRecDepth 100000
open Go Go.RowKit

set_option maxHeartbeats 1000000 in
theorem lcontF_known (N : List (List UInt8)) (hN : N.length ≤ 1048576) (v : Value) (w : World) (hV : View w v N) (R : Bool) (hR : (N.any fun x => decide (64 < x.length)) = R) :
    Calls Tryz.prog 107 #[v, .func (.func 109) #[] #[]] w fun e w' => e = .returned (.bool R) ∧ w' = w := by
  have HV := Lib.hid hV
  have HR := Lib.hid hR
  clear hV hR
  go_enter Tryz.func107, Tryz.ntmps107
  go_wp2_with fail
  refine (lindexF_any N hN v _ HV.out).mono ?_
  rintro e w' ⟨⟨z, rfl, hz⟩, rfl⟩
  rw [HR.out] at hz
  have HZ := Lib.hid hz
  clear hz
  go_wp2_with fail
  go_ret
  refine ⟨?_, rfl⟩
  rw [← HZ.out]
  rfl

theorem lparts_view (p : List UInt8) (hp : p.length ≤ 1073741824) (w : World) :
    Calls Tryz.prog 108 #[.string ⟨p.toArray⟩] w fun e w' => ∃ v, e = .returned v ∧ View w' v (partsL p) ∧ Below w.heap.size w w' :=
  (parts_any ⟨p.toArray⟩ (by rw [str_len]; exact hp) w).mono fun e w' ⟨v, h1, h2, h3⟩ => ⟨v, h1, h2.view, h3⟩

set_option maxRecDepth 100000 in
set_option maxHeartbeats 4000000 in
theorem refused_any (a : Option Addr) (cap : Nat) (m b cwd : Int) (p : List UInt8) (hp : p.length ≤ 1073741824) (L : List Ino) (w : World) (hN : NodesIn w a cap L) :
    Calls Tryz.prog 95 #[.agg #[.slice a L.length cap, .int .i64 m, .int .i64 b], .int .i64 cwd, .string ⟨p.toArray⟩] w fun e w' => e = .returned (.int .i64 (badW L cwd p)) ∧ Below w.heap.size w w' := by
  have hb1 := below_box w (.cells #[.slice a L.length cap, .int .i64 m, .int .i64 b] 24)
  have HM := Lib.hid (hN.below hb1)
  have HB1 := Lib.hid hb1
  have hs := str_len p
  obtain ⟨R, hR⟩ : ∃ R, R = badW L cwd p := ⟨_, rfl⟩
  rw [← hR]
  have HR := Lib.hid hR
  clear hN hb1 hR
  by_cases hp0 : p = []
  · subst hp0
    have HW := Lib.hid (show R = 2 by rw [HR.out]; unfold badW; rw [if_pos (Or.inl rfl)])
    go_enter Tryz.func95, Tryz.ntmps95
    go_wp2_with fail
    go_ret
    exact ⟨by rw [HW.out]; rfl, HB1.out⟩
  · have hpb : (p == []) = false := by simpa using hp0
    obtain ⟨z, hz⟩ : ∃ z, kindL L cwd = z := ⟨_, rfl⟩
    have HZ := Lib.hid hz
    have hzd := kind_dir (L := L) (k := cwd)
    rw [hz] at hzd
    cases hd : dirB L cwd with
    | false =>
      rw [hd] at hzd
      have HW := Lib.hid (show R = 2 by rw [HR.out]; unfold badW; rw [if_pos (Or.inr hd)])
      clear hd hp0 hz
      simp only [Bool.not_false] at hzd
      go_enter Tryz.func95, Tryz.ntmps95
      go_wp2_with (first | (go_at_call 94; refine (kind_known _ _ _ _ _ L _ HZ.out _ HM.out).mono ?_; rintro e w2 ⟨rfl, hb2⟩) | fail)
      go_ret
      exact ⟨by rw [HW.out]; rfl, HB1.out.trans (hb2.mono (by simp))⟩
    | true =>
      rw [hd] at hzd
      have HW := Lib.hid (show R = if longB p then 36 else 0 by rw [HR.out]; unfold badW; rw [if_neg (by simp [hp0, hd])])
      clear hd hp0 hz
      simp only [Bool.not_true] at hzd
      by_cases hl : 1024 < p.length
      · have HW2 := Lib.hid (show R = 36 by rw [HW.out]; unfold longB; rw [decide_eq_true hl]; rfl)
        go_enter Tryz.func95, Tryz.ntmps95
        go_wp2_with (first | (go_at_call 94; refine (kind_known _ _ _ _ _ L _ HZ.out _ HM.out).mono ?_; rintro e w2 ⟨rfl, hb2⟩) | fail)
        go_ret
        exact ⟨by rw [HW2.out]; rfl, HB1.out.trans (hb2.mono (by simp))⟩
      · have hl1 : p.length ≤ 1024 := by omega
        have HCL := Lib.hid (show (partsL p).length ≤ 1048576 by have := count_parts p; omega)
        have hlf : decide (1024 < p.length) = false := decide_eq_false hl
        obtain ⟨lb, hlb⟩ : ∃ lb, ((partsL p).any fun x => decide (64 < x.length)) = lb := ⟨_, rfl⟩
        have HLB := Lib.hid hlb
        have HW2 := Lib.hid (show R = if lb = true then 36 else 0 by rw [HW.out, longB_of p hl1, hlb])
        clear hl hlb HW
        go_enter Tryz.func95, Tryz.ntmps95
        go_wp2_with fail
        refine (kind_known _ _ _ _ _ L _ HZ.out _ HM.out).mono ?_
        rintro e w2 ⟨rfl, hb2⟩
        have HB2 := Lib.hid (HB1.out.trans (hb2.mono (by simp)))
        clear hb2
        go_wp2_with fail
        refine (lparts_view p hp _).mono ?_
        rintro e w3 ⟨v3, rfl, hv3, hb3⟩
        have HV := Lib.hid hv3
        have HB3 := Lib.hid (HB2.out.trans (hb3.mono HB2.out.size))
        clear hv3 hb3
        go_wp2_with fail
        refine (lcontF_known _ HCL.out _ _ HV.out lb HLB.out).mono ?_
        rintro e w' ⟨rfl, rfl⟩
        cases lb
        all_goals
          go_wp2_with fail
          go_ret
          exact ⟨by rw [HW2.out]; rfl, HB3.out⟩
end Go.Proofs.YtmaiphibpdngnaaGreat

namespace Go.Proofs.YtmaiphibpdngnaaGreat
set_option maxRecDepth 100000
open Go Go.RowKit

set_option maxHeartbeats 1000000 in
theorem lisdir_known (a : Option Addr) (cap : Nat) (m b k : Int) (L : List Ino) (v : Bool) (hv : dirB L k = v) (w : World) (hN : NodesIn w a cap L) :
    Calls Tryz.prog 99 #[.agg #[.slice a L.length cap, .int .i64 m, .int .i64 b], .int .i64 k] w fun e w' => e = .returned (.bool v) ∧ Below w.heap.size w w' := by
  have hb1 := below_box w (.cells #[.slice a L.length cap, .int .i64 m, .int .i64 b] 24)
  have hM := hN.below hb1
  have HM := Lib.hid hM
  have hcap := hN.1
  have hmax := hN.2.1
  unfold maxLen at hmax
  clear hM hN
  by_cases h0 : 0 ≤ k
  · by_cases h1 : k < L.length
    · obtain ⟨n, rfl⟩ : ∃ n : Nat, k = (n : Int) := ⟨k.toNat, by omega⟩
      have hn : n < L.length := by omega
      have hd : dirB L (n : Int) = (L[n].kind == 2) := by unfold dirB; rw [there_of L n hn, node_nat L n hn]; rfl
      rw [hd] at hv
      subst hv
      obtain ⟨bb, o, rfl, hx⟩ := HM.out.2.2 n hn
      have x0 := hx.kind
      clear hx hd
      go_enter Tryz.func99, Tryz.ntmps99
      go_wp2_with fail
      all_goals
        go_ret
        exact ⟨rfl, hb1⟩
    · have hd : dirB L k = false := by unfold dirB thereB; rw [decide_eq_false h1, Bool.and_false, Bool.false_and]
      rw [hd] at hv
      subst hv
      clear hd
      go_enter Tryz.func99, Tryz.ntmps99
      go_wp2_with fail
      all_goals
        go_ret
        exact ⟨rfl, hb1⟩
  · have hd : dirB L k = false := by unfold dirB thereB; rw [decide_eq_false h0, Bool.false_and, Bool.false_and]
    rw [hd] at hv
    subst hv
    clear hd
    go_enter Tryz.func99, Tryz.ntmps99
    go_wp2_with fail
    all_goals
      go_ret
      exact ⟨rfl, hb1⟩
end Go.Proofs.YtmaiphibpdngnaaGreat

namespace Go.Proofs.YtmaiphibpdngnaaGreat
set_option maxRecDepth 100000
open Go Go.RowKit

set_option maxHeartbeats 1000000 in
theorem lcmp_any (n s : List UInt8) (i : Int) (w : World) :
    Calls Tryz.prog 101 #[.agg #[.string ⟨n.toArray⟩, .int .i64 i], .string ⟨s.toArray⟩] w fun e w' => e = .returned (.int .i64 (Lib.compareBytes n s)) ∧ Below w.heap.size w w' := by
  have HB := Lib.hid (below_box w (.cells #[.string ⟨n.toArray⟩, .int .i64 i] 59))
  go_enter Tryz.func101, Tryz.ntmps101
  go_wp2_with fail
  refine (Tryz.strings_Compare _ _ _).mono ?_
  rintro e w' ⟨rfl, rfl⟩
  go_wp2_with fail
  go_ret
  exact ⟨rfl, HB.out⟩

def BRel (M : List (List UInt8 × Int)) (s : List UInt8) (w : World) (iv jv : Value) (wr : World) : Prop :=
  ∃ i j : Nat, i ≤ j ∧ j ≤ M.length ∧ iv = .int .i64 i ∧ jv = .int .i64 j ∧ Hid (∀ k (hk : k < M.length), k < i → Op.bytesLess M[k].1 s = true) ∧ Hid (∀ k (hk : k < M.length), j ≤ k → Op.bytesLess M[k].1 s = false) ∧ Below w.heap.size w wr

/-- What the search answers: the first place that is not ahead of s, and whether s stands there. -/
def BAns (M : List (List UInt8 × Int)) (s : List UInt8) (e : Ending) : Prop :=
  ∃ (i : Nat) (v : Bool), e = .returned (.tuple #[.int .i64 i, .bool v]) ∧ i ≤ M.length ∧ (v = true ↔ ∃ h : i < M.length, M[i].1 = s) ∧ (∀ k (hk : k < M.length), k < i → Op.bytesLess M[k].1 s = true) ∧ (∀ k (hk : k < M.length), i ≤ k → Op.bytesLess M[k].1 s = false)

set_option maxRecDepth 100000 in
set_option maxHeartbeats 4000000 in
theorem lsearch_any (M : List (List UInt8 × Int)) (hM : M.length ≤ 1024) (hR : Rises M) (s : List UInt8) (ka : Option Addr) (kcap : Nat) (w : World) (hK : KidsIn w (.slice ka M.length kcap) M) :
    Calls Tryz.prog 100 #[.slice ka M.length kcap, .string ⟨s.toArray⟩, .func (.func 101) #[] #[]] w fun e w' => BAns M s e ∧ Below w.heap.size w w' := by
  obtain ⟨ka', kcap', e1, hkc, hkm, hkk⟩ := hK
  simp only [Value.slice.injEq] at e1
  obtain ⟨rfl, -, rfl⟩ := e1
  unfold maxLen at hkm
  have HK := Lib.hid hkk
  have HR := Lib.hid hR
  clear hkk hR
  go_enter Tryz.func100, Tryz.ntmps100
  go_wp2_with fail
  go_loopw [9, 10, 11] (fun i j _ wr => BRel M s w i j wr) (fun i j _ _ => (intOf j).toNat - (intOf i).toNat)
  case atStart => exact ⟨0, M.length, by omega, by omega, rfl, rfl, fun _ _ h => absurd h (Nat.not_lt_zero _), fun k hk h => absurd hk (by omega), Below.refl _ _⟩
  case round =>
    obtain ⟨i, j, hij, hj, rfl, rfl, hlo, hhi, hbr⟩ := hrel
    have HBR := Lib.hid hbr
    have hszr := hbr.size
    clear hbr
    by_cases hlt : i < j
    · have hih : i ≤ (i + j) / 2 := by omega
      have hhj : (i + j) / 2 < j := by omega
      have hhM : (i + j) / 2 < M.length := by omega
      obtain ⟨c1, p1, rfl, z0, z1⟩ := HK.out ((i + j) / 2) hhM
      have y0 := cell_below HBR.out z0
      have y1 := cell_below HBR.out z1
      obtain ⟨nm, hnm⟩ : ∃ nm, nm = M[(i + j) / 2].1 := ⟨_, rfl⟩
      obtain ⟨ino, hino⟩ : ∃ ino, ino = M[(i + j) / 2].2 := ⟨_, rfl⟩
      rw [← hnm] at y0
      rw [← hino] at y1
      have HNM := Lib.hid hnm
      have hc1 := cmp_le1 nm s
      clear z0 z1 hnm hino
      go_wp2_with fail
      refine (lcmp_any nm s ino _).mono ?_
      rintro e w2 ⟨rfl, hb2⟩
      have HB2 := Lib.hid (HBR.out.trans (hb2.mono hszr))
      clear hb2 y0 y1
      cases hls : Op.bytesLess nm s with
      | true =>
        have hneg := cmp_less.2 hls
        have hlo' := Lib.hid (show ∀ k (hk : k < M.length), k < (i + j) / 2 + 1 → Op.bytesLess M[k].1 s = true from fun k hk hkh => by
          by_cases e : k = (i + j) / 2
          · subst e
            rw [← HNM.out]
            exact hls
          · refine less_trans _ _ _ (HR.out.lt k ((i + j) / 2) hhM (by omega)) ?_
            rw [← HNM.out]
            exact hls)
        clear hls
        go_wp2_with fail
        go_roundw
        case rel => exact ⟨(i + j) / 2 + 1, j, by omega, hj, by go_num, rfl, hlo', hhi, HB2.out⟩
        case measure => simp [intOf] <;> omega
      | false =>
        have hneg : ¬ Lib.compareBytes nm s < 0 := fun h => by rw [cmp_less.1 h] at hls; cases hls
        have hneg' : 0 ≤ Lib.compareBytes nm s := by omega
        have hhi' := Lib.hid (show ∀ k (hk : k < M.length), (i + j) / 2 ≤ k → Op.bytesLess M[k].1 s = false from fun k hk hkh => by
          cases hb : Op.bytesLess M[k].1 s with
          | false => rfl
          | true =>
            by_cases e : k = (i + j) / 2
            · subst e
              rw [← HNM.out, hls] at hb
              cases hb
            · have h1 := less_trans _ _ _ (HR.out.lt ((i + j) / 2) k hk (by omega)) hb
              rw [← HNM.out, hls] at h1
              cases h1)
        clear hls hneg
        go_wp2_with fail
        go_roundw
        case rel => exact ⟨i, (i + j) / 2, hih, by omega, rfl, by go_num, hlo, hhi', HB2.out⟩
        case measure => simp [intOf] <;> omega
    · obtain rfl : i = j := by omega
      have HFIN := Lib.hid (show ∀ (e : Ending) (v : Bool), e = .returned (.tuple #[.int .i64 i, .bool v]) → (v = true ↔ ∃ h : i < M.length, M[i].1 = s) → BAns M s e from fun e v h1 h2 => ⟨i, v, h1, hj, h2, hlo.out, hhi.out⟩)
      by_cases hin : i < M.length
      · obtain ⟨c1, p1, rfl, z0, z1⟩ := HK.out i hin
        have y0 := cell_below HBR.out z0
        have y1 := cell_below HBR.out z1
        obtain ⟨nm, hnm⟩ : ∃ nm, nm = M[i].1 := ⟨_, rfl⟩
        obtain ⟨ino, hino⟩ : ∃ ino, ino = M[i].2 := ⟨_, rfl⟩
        rw [← hnm] at y0
        rw [← hino] at y1
        have HNM := Lib.hid hnm
        clear z0 z1 hnm hino hlt
        go_wp2_with fail
        refine (lcmp_any nm s ino _).mono ?_
        rintro e w2 ⟨rfl, hb2⟩
        have HB2 := Lib.hid (HBR.out.trans (hb2.mono hszr))
        clear hb2 y0 y1
        go_wp2_with fail
        go_ret2
        refine ⟨HFIN.out _ _ rfl ?_, HB2.out⟩
        rw [beq_iff_eq, cmp_zero, HNM.out]
        exact ⟨fun h => ⟨hin, h⟩, fun ⟨_, h⟩ => h⟩
      · have hin' : M.length ≤ i := by omega
        clear hlt
        go_wp2_with fail
        go_ret2
        exact ⟨HFIN.out _ _ rfl (by simp [hin]), HBR.out⟩

set_option maxRecDepth 100000 in
set_option maxHeartbeats 4000000 in
theorem lkid_any (a : Option Addr) (cap : Nat) (m b d : Int) (nm : List UInt8) (L : List Ino) (hR : ∀ k (h : k < L.length), L[k].kids.length ≤ 1024 ∧ Rises L[k].kids) (w : World) (hN : NodesIn w a cap L) :
    Calls Tryz.prog 77 #[.agg #[.slice a L.length cap, .int .i64 m, .int .i64 b], .int .i64 d, .string ⟨nm.toArray⟩] w fun e w' => e = .returned (.int .i64 (kidL L d nm)) ∧ Below w.heap.size w w' := by
  have hb1 := below_box w (.cells #[.slice a L.length cap, .int .i64 m, .int .i64 b] 24)
  have hM := hN.below hb1
  have hcap := hN.1
  have hmax := hN.2.1
  unfold maxLen at hmax
  have HM := Lib.hid hM
  have HB1 := Lib.hid hb1
  have HR := Lib.hid hR
  clear hM hN hb1 hR
  obtain ⟨F, hF⟩ : ∃ F, F = kidL L d nm := ⟨_, rfl⟩
  rw [← hF]
  have HF := Lib.hid hF
  clear hF
  cases hd : dirB L d with
  | false =>
    have HD := Lib.hid hd
    have hfin := Lib.hid (show F = -1 by rw [HF.out]; unfold kidL; rw [hd]; rfl)
    clear hd
    go_enter Tryz.func77, Tryz.ntmps77
    go_wp2_with fail
    refine (lisdir_known _ _ _ _ _ L _ HD.out _ HM.out).mono ?_
    rintro e w2 ⟨rfl, hb2⟩
    have HB2 := Lib.hid (HB1.out.trans (hb2.mono (by simp)))
    clear hb2
    go_wp2_with fail
    go_ret
    exact ⟨by rw [hfin.out]; rfl, HB2.out⟩
  | true =>
    obtain ⟨n, rfl, hn⟩ := there_nat (show thereB L d = true by unfold dirB at hd; rw [Bool.and_eq_true] at hd; exact hd.1)
    have HD := Lib.hid hd
    obtain ⟨bb, o, rfl, hx⟩ := HM.out.2.2 n hn
    obtain ⟨kv, hk1, hks⟩ := hx.kids
    obtain ⟨M, hMe⟩ : ∃ M, M = L[n].kids := ⟨_, rfl⟩
    rw [← hMe] at hks
    obtain ⟨ka, kcap, rfl, hkc, hkm, hkk⟩ := hks
    obtain ⟨hM1, hM2⟩ : M.length ≤ 1024 ∧ Rises M := by rw [hMe]; exact HR.out n hn
    have HM2 := Lib.hid hM2
    have hfin := Lib.hid (show F = findK M nm by rw [HF.out]; unfold kidL; rw [hd, node_nat L n hn, hMe]; rfl)
    have hd0 : (0 : Int) ≤ (n : Int) := by omega
    have HK := Lib.hid (show KidsIn _ (.slice ka M.length kcap) M from ⟨ka, kcap, rfl, hkc, hkm, hkk⟩)
    unfold maxLen at hkm
    clear hd hx hMe hkk hM2
    go_enter Tryz.func77, Tryz.ntmps77
    go_wp2_with fail
    refine (lisdir_known _ _ _ _ _ L _ HD.out _ HM.out).mono ?_
    rintro e w2 ⟨rfl, hb2⟩
    obtain ⟨q0, q1, q2⟩ := box3 hb2
    have h3 := cell_below hb2 hk1
    have HB2 := Lib.hid (HB1.out.trans (hb2.mono (by simp)))
    have HK2 := Lib.hid (HK.out.below hb2)
    have hs2 := HB2.out.size
    clear hb2 hk1
    go_wp2_with fail
    refine (lsearch_any M hM1 HM2.out nm ka kcap _ HK2.out).mono ?_
    rintro e w3 ⟨⟨i, v, rfl, hi, hv, hlo, hhi⟩, hb3⟩
    have HB3 := Lib.hid (HB2.out.trans (hb3.mono hs2))
    have HA := Lib.hid (findK_at HM2.out nm i hlo hhi)
    have HV := Lib.hid hv
    have HK3 := Lib.hid (HK2.out.below hb3)
    clear hb3 hlo hhi hv h3 q0 q1 q2
    cases v with
    | false =>
      have HE := Lib.hid (show F = -1 by
        rw [hfin.out]
        refine HA.out.2 (fun hi e => ?_)
        have h := HV.out.2 ⟨hi, e⟩
        cases h)
      go_wp2_with fail
      go_ret
      exact ⟨by rw [HE.out]; rfl, HB3.out⟩
    | true =>
      obtain ⟨hil, he⟩ := HV.out.1 (by simp)
      have HE := Lib.hid (show F = M[i].2 by rw [hfin.out]; exact HA.out.1 hil he)
      obtain ⟨ka', kcap', e1, -, -, hkk⟩ := HK3.out
      simp only [Value.slice.injEq] at e1
      obtain ⟨rfl, -, rfl⟩ := e1
      obtain ⟨c1, p1, rfl, z0, z1⟩ := hkk i hil
      have hi0 : (0 : Int) ≤ (i : Int) := by omega
      have hil' : (i : Int) < (M.length : Int) := by omega
      clear he hkk z0
      go_wp2_with fail
      go_ret
      exact ⟨by rw [HE.out]; rfl, HB3.out⟩
theorem lkid_known (a : Option Addr) (cap : Nat) (m b d : Int) (nm : List UInt8) (L : List Ino) (hR : ∀ k (h : k < L.length), L[k].kids.length ≤ 1024 ∧ Rises L[k].kids) (z : Int) (hz : kidL L d nm = z) (w : World) (hN : NodesIn w a cap L) :
    Calls Tryz.prog 77 #[.agg #[.slice a L.length cap, .int .i64 m, .int .i64 b], .int .i64 d, .string ⟨nm.toArray⟩] w fun e w' => e = .returned (.int .i64 z) ∧ Below w.heap.size w w' := by
  subst hz
  exact lkid_any a cap m b d nm L hR w hN
end Go.Proofs.YtmaiphibpdngnaaGreat
