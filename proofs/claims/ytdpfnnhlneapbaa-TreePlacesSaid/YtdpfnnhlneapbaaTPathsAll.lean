/-
  A range over a function whose rounds always go on, for an iterator that itself ranges over a function: what the caller keeps may not hang on blocks of rounds that the iterator lays and turns.
  Plain words for tree's paths; what a round of List keeps.
  tree's paths, of the landed code: an iterator that goes down by itself.
  tree's List, of the landed code, at whatever fit tree that going down ends in.
-/
import Derived.RangeFuncBox
import Derived.RangeFuncLeaves
import Derived.RangeFuncNested
import Derived.RangeFuncBound
import Derived.RangeFuncCalls
import Derived.RangeFuncWrites
import Derived.Shelf.Abstract
import Derived.WalkKit
import Derived.OwnWalkIn
import Derived.TacticsInMore
import Derived.LoopNIn
import Derived.LoopIn
import Derived.Maps.AppendAt
import Derived.Test.YtdpfnnhlneapbaaProg
import Derived.Test.YtdpfnnhlneapbaaTLList0
import Derived.Test.YtdpfnnhlneapbaaTLPath
import Derived.Test.YtdpfnnhlneapbaaTreeListDefs
import Derived.Test.YtdpfnnhlneapbaaTLPlace
import Derived.Deep.AppendLies
namespace Go.Proofs.Ytdpfnnhlneapbaa
open Go Go.RowKit

/-- What an iterator owes a caller whose rounds always go on. -/
def SeqOwn {α : Type} (F : Fence) (n : Nat) (P : Program) (g : Nat) (lb : Array Value) (encs : α → Array Value) (Kp : World → World → Prop) (S : List α → Prop) (N : Nat) (w : World) : Prop :=
  ∀ (l : Nat) (J : List α → World → Prop) (W : World), Below w.heap.size w W → OwnFrom W.heap.size J →
    (∀ pre x W1, J pre W1 → pre.length < N → YieldAt F (n - 1) P l (encs x) W1 fun e W' => e = .returned (.bool true) ∧ J (pre ++ [x]) W' ∧ Kp W1 W' ∧ KeepsFrom W.heap.size W1 W') →
    J [] W →
    CallsIn F n P g (#[.func (.yield l) #[] #[]] ++ lb) W fun e W' => (∃ v, e = .returned v) ∧ ∃ xs, S xs ∧ J xs W'

theorem room_free {F : Fence} (hd : F.depth = none) (k : Nat) : F.room k := fun d h => by rw [hd] at h; cases h
theorem yield_free {F : Fence} (hd : F.depth = none) {m : Nat} (m' : Nat) {P : Program} {l : Nat} {args : Array Value} {W : World} {R : Ending → World → Prop} (h : YieldAt F m P l args W R) : YieldAt F m' P l args W R := by
  obtain ⟨fn, tmps, assign, body, hy, hF, hR⟩ := h
  exact ⟨fn, tmps, assign, body, hy, hF, fun c cs _ => hR c cs (room_free hd _)⟩

/-- A block that is no row of cells stays where another is put. -/
theorem put_keeps {W : World} {r : Nat} (o' : Obj) {B : Nat} (hr : r < B) : KeepsFrom B W (W.putObj r o') :=
  ⟨by simp [World.putObj], fun k o hk ho _ => (World.putObj_heap_other (by omega)).trans ho⟩

theorem range_own {α : Type} {F : Fence} {n : Nat} {P : Program} {g : Operand} {ps : Array Tmp} {assign body : Code} {Q : Exit → Act → World → Prop} {a : Act} {w : World}
    (hro : F.round = none) (hdep : F.depth = none) {gf : Nat} {lb : Array Value} (hg : a.eval g = .func (.func gf) #[] lb) (hFg : F.fn gf) (eg : ∀ args w, (callFunc gf args).run P w = .ok (.enter gf args) w)
    {encs : α → Array Value} {Kp : World → World → Prop} {S : List α → Prop} {N : Nat} {w0 : World} (hseq : SeqOwn F (n - 1) P gf lb encs Kp S N w0)
    (hKt : ∀ {A B C : World}, Kp A B → Kp B C → Kp A C) (hKb : ∀ (W : World) (l : Nat) (o o' : Obj), w.heap.size ≤ l → W.heap[l]? = some o → o.isCells = false → o.isWalk = false → Kp W (W.putObj l o')) (hb0 : Below w0.heap.size w0 w) (hps : ∀ x, (encs x).size = ps.size)
    (I : List α → World → Prop) (hI : OwnFrom w.heap.size I) (h0 : I [] w) (a₁ : α → Act)
    (hassign : ∀ (l : Nat) (x : α) (W : World) (K : Act → World → Prop), K (a₁ x) W →
      assign.wpIn (F.inRound l) (n - 1 - 1) P (Exit.then K (fun _ _ _ => False)) { tmps := (ps.zip (encs x)).foldl (fun t (p, v) => t.setIfInBounds p v) a.tmps, defers := [] } W)
    (hbody : ∀ (l : Nat) (pre : List α) (x : α) (W : World), I pre W → pre.length < N → body.wpIn (F.inRound l) (n - 1 - 1) P (ownPostG w.heap.size Kp I (fun _ _ _ => False) (pre ++ [x]) W) (a₁ x) W)
    (hdone : ∀ (D : Nat) (xs : List α) (W : World), w.heap.size ≤ D → S xs → I xs W → W.heap[D]? = some (.deferred (some [])) → Q .normal { a with defers := { target := .collected D, args := #[] } :: a.defers } W) :
    (Code.rangeFunc g ps assign body).wpIn F n P Q a w := by
  refine wpIn_rangeFunc ?_
  intro fn hfn
  rw [hro]
  obtain ⟨rc, hrc⟩ : ∃ rc : LoopState → Loop, rc = fun st => { state := st, pending := none, fn, tmps := a.tmps, params := ps, assign, body, defers := w.heap.size } := ⟨_, rfl⟩
  have hrp : ∀ st, (rc st).params = ps ∧ (rc st).tmps = a.tmps ∧ (rc st).fn = fn ∧ (rc st).assign = assign ∧ (rc st).body = body ∧ (rc st).state = st ∧ (rc st).pending = none := fun st => by subst hrc; exact ⟨rfl, rfl, rfl, rfl, rfl, rfl, rfl⟩
  have hrs : ∀ st st', { rc st with state := st' } = rc st' := fun st st' => by subst hrc; rfl
  obtain ⟨V, hV⟩ : ∃ V, V = (w.alloc (.deferred (some []))).alloc (.loop (rc .ready)) := ⟨_, rfl⟩
  have hVs : V.heap.size = w.heap.size + 2 := by rw [hV]; simp
  have hVl : V.heap[w.heap.size + 1]? = some (.loop (rc .ready)) := by
    have h := World.alloc_heap_new (w.alloc (.deferred (some []))) (.loop (rc .ready))
    rw [World.size_alloc, ← hV] at h
    exact h
  have hVk : V.heap[w.heap.size]? = some (.deferred (some [])) := by
    rw [hV]
    exact (Below.heap_alloc _ _ _ (by simp)).trans (World.alloc_heap_new w _)
  have hVI : I [] V := by rw [hV]; exact hI.alloc _ (hI.alloc _ h0)
  have hVb : Below w0.heap.size w0 V := by rw [hV]; exact hb0.trans ((((Below.refl _ w).alloc (Nat.le_refl _) _).alloc (by simp) _).mono hb0.size)
  refine ⟨w.heap.size + 1, [{ target := .collected w.heap.size, args := #[] }], V, { target := .fn (.func gf) lb, args := #[.func (.yield (w.heap.size + 1)) #[] #[]] }, V, gf, #[.func (.yield (w.heap.size + 1)) #[] #[]] ++ lb, V, ?_, ?_, ?_, ?_, ?_, ?_⟩
  · rw [hV, hrc]
    exact run_enterLoop_outer _ _ _ _ _
  · simp only [resolve, hg]
    simp [go_sem]
  · intro f' hf'
    simp [Target.leads] at hf'
    subst hf'
    exact hFg
  · simp [invoke, go_sem, eg]
  · intro h
    rw [hdep] at h
    cases h
  · -- what holds between two rounds, as the iterator is told
    have hbook : ∀ {A B : World} {row : Option Nat}, A.grownBy B row → (∀ r, row = some r → V.heap.size ≤ r ∧ ∃ o : Obj, A.heap[r]? = some o ∧ o.isCells = false) → ∀ (k : Nat) (o : Obj), k < V.heap.size → A.heap[k]? = some o → B.heap[k]? = some o := fun hgr hr k o hk ho =>
      (hgr.block k (Array.getElem?_eq_some_iff.1 ho).1 (fun e => by have := (hr k e.symm).1; omega)).trans ho
    refine (hseq (w.heap.size + 1) (fun pre W => I pre W ∧ W.heap[w.heap.size + 1]? = some (.loop (rc .ready)) ∧ W.heap[w.heap.size]? = some (.deferred (some []))) V hVb ?_ ?_ ⟨hVI, hVl, hVk⟩).mono ?_
    · rintro s A B row ⟨h1, h2, h3⟩ hgr hr
      exact ⟨hI s A B row h1 hgr (fun r e => ⟨by have := (hr r e).1; omega, (hr r e).2⟩), hbook hgr hr _ _ (by omega) h2, hbook hgr hr _ _ (by omega) h3⟩
    · rintro pre x W ⟨hi, hl, hk⟩ hlen
      obtain ⟨rp, rt, rf, ra, rb, rs, -⟩ := hrp .ready
      have hlt : w.heap.size + 1 < W.heap.size := (Array.getElem?_eq_some_iff.1 hl).1
      have hy := run_yield (P := P) (args := encs x) hl (by rw [rp]; exact hps x)
      rw [rp, rt, rf, ra, rb] at hy
      have hbeg := run_beginRound (P := P) hl rs
      rw [hrs] at hbeg
      refine ⟨fn, _, assign, body, hy, roundIn_of_wpIn hfn (hassign _ x W _ ⟨_, hbeg, ?_⟩)⟩
      obtain ⟨U, hU⟩ : ∃ U, U = W.putObj (w.heap.size + 1) (.loop (rc .busy)) := ⟨_, rfl⟩
      have hUl : U.heap[w.heap.size + 1]? = some (.loop (rc .busy)) := by rw [hU]; exact World.putObj_heap_same hlt
      have hUk : U.heap[w.heap.size]? = some (.deferred (some [])) := by rw [hU]; exact (World.putObj_heap_other (by omega)).trans hk
      have hUI : I pre U := by rw [hU]; exact hI.putObj _ hi (by omega) hl rfl
      have hUK : Kp W U := by rw [hU]; exact hKb _ _ _ _ (by omega) hl rfl rfl
      have hUF : KeepsFrom V.heap.size W U := by rw [hU]; exact put_keeps _ (by omega)
      rw [← hU]
      refine wpIn_mono (hbody _ pre x U hUI hlen) ?_
      rintro e a3 W3 hp
      cases e with
      | normal =>
        obtain ⟨hk3, hkp3, hi3⟩ := hp
        have hl3 := hk3.same _ _ (by omega) hUl rfl
        have hd3 := hk3.same _ _ (Nat.le_refl _) hUk rfl
        have hend := run_endRound (P := P) none hl3
        have hst : ({ rc .busy with state := if (none : Option Code).isNone then .ready else .done, pending := none } : Loop) = rc .ready := by subst hrc; rfl
        rw [hst] at hend
        have hlt3 : w.heap.size + 1 < W3.heap.size := (Array.getElem?_eq_some_iff.1 hl3).1
        refine ⟨_, _, hend, rfl, ⟨hI.putObj _ hi3 (by omega) hl3 rfl, World.putObj_heap_same hlt3, (World.putObj_heap_other (by omega)).trans hd3⟩, hKt (hKt hUK hkp3) (hKb _ _ _ _ (by omega) hl3 rfl rfl), ?_⟩
        exact (hUF.trans ⟨hk3.size, fun k o hk ho hc => hk3.same k o (by omega) ho hc⟩).trans (put_keeps _ (by omega))
      | ret => exact hp.2.elim
      | exit id => exact hp.2.elim
      | goto t => exact hp.2.elim
      | panic ch => exact hp.elim
      | outgrown => exact hp.elim
    · rintro e W2 ⟨⟨v, rfl⟩, xs, hS, hi, hl, hk⟩
      obtain ⟨-, -, -, -, -, rs, rpn⟩ := hrp .ready
      have hend := run_endLoop (P := P) hl (by rw [rs]; simp)
      rw [rpn] at hend
      exact ⟨none, _, hend, hdone _ xs _ (Nat.le_refl _) hS (hI.putObj _ hi (by omega) hl rfl) ((World.putObj_heap_other (by omega)).trans hk)⟩
end Go.Proofs.Ytdpfnnhlneapbaa

namespace Go.Proofs.Ytdpfnnhlneapbaa
open Go Go.RowKit

/-- All paths of what is in directory d, at place p. -/
def lpathsGo (L : List Ino) : Nat → Int → List UInt8 → List (List UInt8)
  | 0, _, _ => []
  | f + 1, d, p => if dirB L d = true then (nodeAt L d).kids.flatMap (fun e => joinP p e.1 :: lpathsGo L f e.2 (joinP p e.1)) else []
def lpathOne (L : List Ino) (f : Nat) (p : List UInt8) (e : List UInt8 × Int) : List (List UInt8) := joinP p e.1 :: lpathsGo L f e.2 (joinP p e.1)
theorem lpaths_dir (L : List Ino) (f : Nat) (d : Int) (p : List UInt8) (h : dirB L d = true) : lpathsGo L (f + 1) d p = (nodeAt L d).kids.flatMap (lpathOne L f p) := by
  unfold lpathsGo
  rw [if_pos h]
  rfl
theorem lpaths_not (L : List Ino) (f : Nat) (d : Int) (p : List UInt8) (h : dirB L d = false) : lpathsGo L f d p = [] := by
  cases f with
  | zero => rfl
  | succ f =>
    unfold lpathsGo
    rw [h]
    rfl
/-- Going down from d ends within f steps. -/
def Depth (L : List Ino) : Nat → Int → Prop
  | 0, d => dirB L d = false
  | f + 1, d => dirB L d = true → ∀ e ∈ (nodeAt L d).kids, Depth L f e.2

theorem joinP_len (a b : List UInt8) : (joinP a b).length ≤ a.length + 1 + b.length := by
  unfold joinP
  split
  · omega
  · split
    · omega
    · split
      · simp only [List.length_append]; omega
      · simp only [List.length_append, List.length_cons]; omega

/-- The list's box is laid; its row, if it has one, is there. -/
def GoodW (B : Nat) (W : World) : Prop := ∃ v, Boxed W B 39 v ∧ ∀ g, v.ownBlock = some g → g < W.heap.size
/-- Block k is neither the list's box nor its row. -/
def SafeB (B : Nat) (W : World) (k : Nat) : Prop := k < W.heap.size ∧ k ≠ B ∧ ∀ v, Boxed W B 39 v → v.ownBlock ≠ some k
/-- What a round of List keeps. -/
def KpL (n₀ B : Nat) (W W' : World) : Prop :=
  Below n₀ W W' ∧ ∀ v, Boxed W B 39 v → (∀ g, v.ownBlock = some g → g < W.heap.size) → ∃ v', Boxed W' B 39 v' ∧ (∀ g, v'.ownBlock = some g → g < W'.heap.size ∧ (v.ownBlock = some g ∨ W.heap.size ≤ g)) ∧
    ∀ k, k < W.heap.size → k ≠ B → v.ownBlock ≠ some k → ∀ o, W.heap[k]? = some o → o.isCells = true → W'.heap[k]? = some o

theorem Boxed.one {W : World} {B : Nat} {t : TypeId} {v v' : Value} (h : Boxed W B t v) (h' : Boxed W B t v') : v = v' := by
  have e : some (Obj.cells #[v] t (0, 0)) = some (Obj.cells #[v'] t (0, 0)) := h.symm.trans h'
  simpa using e

theorem KpL.trans {n₀ B : Nat} {X Y Z : World} (h : KpL n₀ B X Y) (k : KpL n₀ B Y Z) : KpL n₀ B X Z := by
  refine ⟨h.1.trans k.1, fun v hv hg => ?_⟩
  obtain ⟨v', hv', hg', hk'⟩ := h.2 v hv hg
  obtain ⟨v2, hv2, hg2, hk2⟩ := k.2 v' hv' (fun g e => (hg' g e).1)
  have hsz := h.1.size
  refine ⟨v2, hv2, fun g e => ?_, fun i hi hiB hio o ho hc => ?_⟩
  · obtain ⟨h1, h2⟩ := hg2 g e
    refine ⟨h1, ?_⟩
    rcases h2 with h2 | h2
    · exact (hg' g h2).2
    · exact Or.inr (by omega)
  · refine hk2 i (by omega) hiB (fun e => ?_) o (hk' i hi hiB hio o ho hc) hc
    rcases (hg' i e).2 with h3 | h3
    · exact hio h3
    · omega
theorem KpL.put {n₀ B m : Nat} (hn : n₀ ≤ m) (W : World) (l : Nat) (o o' : Obj) (hl : m ≤ l) (ho : W.heap[l]? = some o) (hc : o.isCells = false) : KpL n₀ B W (W.putObj l o') := by
  have hother : ∀ (k : Nat) (o2 : Obj), W.heap[k]? = some o2 → o2.isCells = true → (W.putObj l o').heap[k]? = some o2 := fun k o2 hk h2 => by
    refine (World.putObj_heap_other (fun e => ?_)).trans hk
    subst e
    rw [ho] at hk
    cases hk
    rw [hc] at h2
    cases h2
  refine ⟨⟨rfl, rfl, rfl, by simp [World.putObj], fun i hi => World.putObj_heap_other (by omega)⟩, fun v hv hg => ⟨v, hother _ _ hv rfl, fun g e => ⟨by have := hg g e; simpa [World.putObj] using this, Or.inl e⟩, fun k _ _ _ o2 hk h2 => hother k o2 hk h2⟩⟩
theorem KpL.good {n₀ B : Nat} {W W' : World} (h : KpL n₀ B W W') (hg : GoodW B W) : GoodW B W' := by
  obtain ⟨v, hv, hg⟩ := hg
  obtain ⟨v', hv', hg', -⟩ := h.2 v hv hg
  exact ⟨v', hv', fun g e => (hg' g e).1⟩
theorem KpL.safe {n₀ B : Nat} {W W' : World} (h : KpL n₀ B W W') (hg : GoodW B W) {k : Nat} (hs : SafeB B W k) : SafeB B W' k ∧ ∀ o, W.heap[k]? = some o → o.isCells = true → W'.heap[k]? = some o := by
  obtain ⟨v, hv, hg⟩ := hg
  obtain ⟨v', hv', hg', hk'⟩ := h.2 v hv hg
  obtain ⟨h1, h2, h3⟩ := hs
  have hsz := h.1.size
  refine ⟨⟨by omega, h2, fun u hu e => ?_⟩, fun o ho hc => hk' k h1 h2 (h3 v hv) o ho hc⟩
  rw [Boxed.one hu hv'] at e
  rcases (hg' k e).2 with h4 | h4
  · exact h3 v hv h4
  · omega
/-- What only makes memory keeps all of this. -/
theorem GoodW.below {B : Nat} {W W' : World} (hg : GoodW B W) (h : Below W.heap.size W W') : GoodW B W' := by
  obtain ⟨v, hv, hg⟩ := hg
  exact ⟨v, (h.block B hv.lt).trans hv, fun g e => Nat.lt_of_lt_of_le (hg g e) h.size⟩
theorem SafeB.below {B : Nat} {W W' : World} (hg : GoodW B W) (h : Below W.heap.size W W') {k : Nat} (hs : SafeB B W k) : SafeB B W' k := by
  obtain ⟨v, hv, hg⟩ := hg
  obtain ⟨h1, h2, h3⟩ := hs
  refine ⟨Nat.lt_of_lt_of_le h1 h.size, h2, fun u hu e => ?_⟩
  have hv' : Boxed W' B 39 v := (h.block B hv.lt).trans hv
  rw [Boxed.one hu hv'] at e
  exact h3 v hv e
/-- What is made is safe. -/
theorem SafeB.new {B : Nat} {W W' : World} (hg : GoodW B W) (h : Below W.heap.size W W') {k : Nat} (h1 : W.heap.size ≤ k) (h2 : k < W'.heap.size) : SafeB B W' k := by
  obtain ⟨v, hv, hg⟩ := hg
  have hb := hv.lt
  refine ⟨h2, by omega, fun u hu e => ?_⟩
  have hv' : Boxed W' B 39 v := (h.block B hv.lt).trans hv
  rw [Boxed.one hu hv'] at e
  have := hg k e
  omega
theorem below_grown {W W' : World} (h : Below W.heap.size W W') : W.grownBy W' none := ⟨h.os, h.tape, h.output, h.size, fun k hk _ => h.block k hk⟩
/-- Marks of loops that are over. -/
def markOf (D : Nat) : Deferred := { target := .collected D, args := #[] }
def Marks (m : Nat) (Ds : List Nat) (W : World) : Prop := Ds.Nodup ∧ ∀ D ∈ Ds, m ≤ D ∧ W.heap[D]? = some (.deferred (some []))
theorem leaves_marks {F : Fence} {n : Nat} {P : Program} {fn : Func} {tmps : Array Value} {R : Ending → World → Prop} {m : Nat} {J : World → Prop}
    (hJ : ∀ W D o, J W → m ≤ D → W.heap[D]? = some o → o.isCells = false → J (W.putObj D (.deferred none))) (hfin : ∀ W, J W → ∃ v, (results fn tmps).run P W = .ok v W ∧ R (.returned v) W) :
    ∀ (Ds : List Nat) (W : World), Marks m Ds W → J W → LeavesInM F n P fn tmps R (Ds.map markOf) .returning W
  | [], W, _, h => hfin W h
  | D :: Ds, W, ⟨hnd, hm⟩, h => by
    obtain ⟨h1, h2⟩ := hm D List.mem_cons_self
    obtain ⟨hn1, hn2⟩ := List.nodup_cons.1 hnd
    refine ⟨by simp, .inl ⟨D, _, rfl, run_takeDeferred h2, ?_⟩⟩
    refine leaves_marks hJ hfin Ds _ ⟨hn2, fun E hE => ?_⟩ (hJ W D _ h h1 h2 rfl)
    obtain ⟨e1, e2⟩ := hm E (List.mem_cons_of_mem _ hE)
    exact ⟨e1, (World.putObj_heap_other (fun e => hn1 (by rw [← e]; exact hE))).trans e2⟩

/-- What stands while paths goes through a directory. -/
structure InvP (n₀ B By Bt : Nat) (w0 W0 W : World) : Prop where
  below : Below n₀ w0 W
  good : GoodW B W
  size : W0.heap.size ≤ W.heap.size
  sy : SafeB B W By
  st : SafeB B W Bt
  sp : SafeB B W (Bt + 2)
  by_ : W.heap[By]? = W0.heap[By]?
  bt : W.heap[Bt]? = W0.heap[Bt]?
  bp : W.heap[Bt + 2]? = W0.heap[Bt + 2]?
theorem InvP.grow {n₀ B By Bt : Nat} {w0 W0 W W' : World} (h : InvP n₀ B By Bt w0 W0 W) (hn : n₀ ≤ W.heap.size) (hb : Below W.heap.size W W') : InvP n₀ B By Bt w0 W0 W' :=
  ⟨h.below.trans (hb.mono hn), h.good.below hb, Nat.le_trans h.size hb.size, h.sy.below h.good hb, h.st.below h.good hb, h.sp.below h.good hb, (hb.block _ h.sy.1).trans h.by_, (hb.block _ h.st.1).trans h.bt, (hb.block _ h.sp.1).trans h.bp⟩
/-- The three boxes hold cells. -/
structure CellsAt (By Bt : Nat) (W0 : World) : Prop where
  cy : ∃ o, W0.heap[By]? = some o ∧ o.isCells = true
  ct : ∃ o, W0.heap[Bt]? = some o ∧ o.isCells = true
  cp : ∃ o, W0.heap[Bt + 2]? = some o ∧ o.isCells = true
theorem InvP.kept {n₀ B By Bt : Nat} {w0 W0 W W' : World} (h : InvP n₀ B By Bt w0 W0 W) (hc : CellsAt By Bt W0) (hk : KpL n₀ B W W') : InvP n₀ B By Bt w0 W0 W' := by
  obtain ⟨⟨oy, y1, y2⟩, ⟨ot, t1, t2⟩, ⟨op, p1, p2⟩⟩ := hc
  have a := hk.safe h.good h.sy
  have b := hk.safe h.good h.st
  have c := hk.safe h.good h.sp
  exact ⟨h.below.trans hk.1, hk.good h.good, Nat.le_trans h.size hk.1.size, a.1, b.1, c.1, (a.2 _ (h.by_.trans y1) y2).trans y1.symm, (b.2 _ (h.bt.trans t1) t2).trans t1.symm, (c.2 _ (h.bp.trans p1) p2).trans p1.symm⟩
theorem InvP.own {α : Type} {n₀ B By Bt m : Nat} {w0 W0 : World} (hn : n₀ ≤ m) (hc : CellsAt By Bt W0) (h0 : n₀ ≤ W0.heap.size) : OwnFrom m (fun (_ : α) W => InvP n₀ B By Bt w0 W0 W) := by
  intro s X Y row h hg hr
  obtain ⟨⟨oy, y1, y2⟩, ⟨ot, t1, t2⟩, ⟨op, p1, p2⟩⟩ := hc
  have hcell : ∀ (k : Nat) (o : Obj), X.heap[k]? = some o → o.isCells = true → Y.heap[k]? = some o := fun k o hk ho => (grownBy_keeps_cells hg (fun r e => (hr r e).2) hk ho).trans hk
  have hback : ∀ (v : Value), Boxed Y B 39 v → Boxed X B 39 v := fun v hv => by
    obtain ⟨u, hu, -⟩ := h.good
    have h1 : Boxed Y B 39 u := hcell _ _ hu rfl
    rw [Boxed.one hv h1]
    exact hu
  have hsafe : ∀ k, SafeB B X k → SafeB B Y k := fun k hs => ⟨Nat.lt_of_lt_of_le hs.1 hg.size, hs.2.1, fun v hv => hs.2.2 v (hback v hv)⟩
  refine ⟨h.below.grown hg (Nat.le_trans h0 h.size) (fun k e => Nat.le_trans hn (hr k e).1), ?_, Nat.le_trans h.size hg.size, hsafe _ h.sy, hsafe _ h.st, hsafe _ h.sp, (hcell _ _ (h.by_.trans y1) y2).trans y1.symm, (hcell _ _ (h.bt.trans t1) t2).trans t1.symm, (hcell _ _ (h.bp.trans p1) p2).trans p1.symm⟩
  obtain ⟨u, hu, hg2⟩ := h.good
  exact ⟨u, hcell _ _ hu rfl, fun g e => Nat.lt_of_lt_of_le (hg2 g e) hg.size⟩
theorem Marks.own {α : Type} {m m' : Nat} {Ds : List Nat} (hD : ∀ D ∈ Ds, D < m) : OwnFrom m (fun (_ : α) W => Marks m' Ds W) := fun _ X Y row h hg hr =>
  ⟨h.1, fun D hd => ⟨(h.2 D hd).1, (hg.block D (Array.getElem?_eq_some_iff.1 (h.2 D hd).2).1 (fun e => by have := (hr D e.symm).1; have := hD D hd; omega)).trans (h.2 D hd).2⟩⟩
theorem OwnFrom.less {β : Type} {m m' : Nat} {I : β → World → Prop} (h : OwnFrom m I) (hm : m ≤ m') : OwnFrom m' I := fun s X Y row hs hg hr => h s X Y row hs hg (fun r e => ⟨Nat.le_trans hm (hr r e).1, (hr r e).2⟩)
theorem Marks.below {m : Nat} {Ds : List Nat} {W W' : World} (h : Marks m Ds W) (hb : Below W.heap.size W W') : Marks m Ds W' :=
  ⟨h.1, fun D hD => ⟨(h.2 D hD).1, (hb.block D (Array.getElem?_eq_some_iff.1 (h.2 D hD).2).1).trans (h.2 D hD).2⟩⟩
theorem Marks.keeps {m : Nat} {Ds : List Nat} {W W' : World} (h : Marks m Ds W) (hb : KeepsFrom m W W') : Marks m Ds W' :=
  ⟨h.1, fun D hD => ⟨(h.2 D hD).1, hb.same D _ (h.2 D hD).1 (h.2 D hD).2 rfl⟩⟩
end Go.Proofs.Ytdpfnnhlneapbaa

namespace Go.Proofs.Ytdpfnnhlneapbaa
open Go Go.RowKit Go.Shelf

attribute [local go_sem] Oper.semAt_some

set_option maxRecDepth 100000 in
set_option maxHeartbeats 4000000 in
theorem paths1_not (F : Fence) (hO : Open F) (hdep : F.depth = none) (B n₀ : Nat) (w0 : World) (hn0 : w0.heap.size = n₀) (a : Option Addr) (cap : Nat) (m b : Int) (L : List Ino) (hN : NodesIn w0 a cap L) (d : Int) (p : List UInt8) (n N Bt : Nat) (w : World) (hd : dirB L d = false) (hbw : Below n₀ w0 w)
    (g0 : Bt + 2 < w.heap.size) (e0 : w.heap[Bt]? = some (.cells #[.slice a L.length cap, .int .i64 m, .int .i64 b] 24)) (e1 : w.heap[Bt + 1]? = some (.cells #[.int .i64 d] 3)) (e2 : w.heap[Bt + 2]? = some (.cells #[.string ⟨p.toArray⟩] 9)) :
    SeqOwn F n Try.prog 60 #[.pointer (some ⟨Bt, 0, none⟩), .pointer (some ⟨Bt + 1, 0, none⟩), .pointer (some ⟨Bt + 2, 0, none⟩)] (fun x : List UInt8 => #[Value.string ⟨x.toArray⟩]) (KpL n₀ B) (fun ys => ys = []) N w := by
  intro l J W hW hJ hY h0
  have HJ := Lib.hid hJ
  have HH0 := Lib.hid h0
  clear hY hJ h0
  have hro : F.round = none := hO.ro
  have hfd : F.fn 27 := hO.fn _
  have hfj : F.fn 61 := hO.fn _
  have hfp : F.fn 43 := hO.fn _
  have hbW : Below n₀ w0 W := hbw.trans (hW.mono (by rw [← hn0]; exact hbw.size))
  have hNW := hN.below (by rw [hn0]; exact hbW)
  have k0 : W.heap[Bt]? = some (.cells #[.slice a L.length cap, .int .i64 m, .int .i64 b] 24) := (hW.block _ (by omega)).trans e0
  have k1 : W.heap[Bt + 1]? = some (.cells #[.int .i64 d] 3) := (hW.block _ (by omega)).trans e1
  have q0 : W.cell? ⟨Bt, 0, none⟩ = some (.slice a L.length cap) := by simp only [World.cell?, k0]; rfl
  have q1 : W.cell? ⟨Bt, 1, none⟩ = some (.int .i64 m) := by simp only [World.cell?, k0]; rfl
  have q2 : W.cell? ⟨Bt, 2, none⟩ = some (.int .i64 b) := by simp only [World.cell?, k0]; rfl
  have q3 : W.cell? ⟨Bt + 1, 0, none⟩ = some (.int .i64 d) := by simp only [World.cell?, k1]; rfl
  have g0 : Bt < W.heap.size := cell_lt q0
  have g1 : Bt + 1 < W.heap.size := cell_lt q3
  have HNW := Lib.hid hNW
  have HD := Lib.hid hd
  clear hbw e0 e1 e2 hbW hNW k0 k1 hW hd
  refine callsIn_of_wp_marks Try.func60 rfl (hO.fn _) ?_ hro
  simp only [Try.ntmps60, List.size_toArray, List.length_cons, List.length_nil, Nat.reduceAdd, Nat.reduceSub, Array.replicate_succ, Array.replicate_zero, List.push_toArray, List.append_toArray, List.nil_append, List.cons_append]
  gi_wp2_with (gi_at_call 27; refine (hO.calls (lisdir_known _ _ _ _ _ L _ HD.out _ (HNW.out.below (below_box _ _)))).mono ?_; rintro e w2 ⟨rfl, hb2⟩; have hb2' : Below W.heap.size W w2 := (below_box _ _).trans (hb2.mono (by simp)); have HJ2 := Lib.hid (HJ.out [] W w2 none HH0.out (below_grown hb2') (fun _ e => by cases e)))
  exact leaves_marks (m := W.heap.size) (J := fun X => J [] X) (fun X D o' h hD ho hc => HJ.out.putObj _ h hD ho hc) (fun X h => ⟨_, results_none rfl _ _ _, ⟨_, rfl⟩, _, rfl, h⟩) [] _ ⟨List.nodup_nil, by simp⟩ HJ2.out

theorem join_text (p x : List UInt8) (hp : p.length ≤ 1073741824) (hx : x.length ≤ 1073741824) (w : World) :
    Calls Try.prog 61 #[.string ⟨p.toArray⟩, .string ⟨x.toArray⟩] w fun e w' => e = .returned (.string ⟨(joinP p x).toArray⟩) ∧ w = w' :=
  join_any ⟨p.toArray⟩ ⟨x.toArray⟩ hp hx w

set_option maxRecDepth 100000 in
set_option maxHeartbeats 4000000 in
theorem paths1_own (F : Fence) (hO : Open F) (hdep : F.depth = none) (B n₀ : Nat) (hB : n₀ ≤ B) (w0 : World) (hn0 : w0.heap.size = n₀) (a : Option Addr) (cap : Nat) (m b : Int) (L : List Ino) (hN : NodesIn w0 a cap L) (hS : Short64 L) (hT : KidsThere L) :
    ∀ (f : Nat) (d : Int) (p : List UInt8) (n Bt : Nat) (w : World), Depth L f d → p.length + f * 65 ≤ 1048576 → n₀ ≤ Bt → Below n₀ w0 w → GoodW B w → SafeB B w Bt → SafeB B w (Bt + 1) → SafeB B w (Bt + 2) →
      w.heap[Bt]? = some (.cells #[.slice a L.length cap, .int .i64 m, .int .i64 b] 24) → w.heap[Bt + 1]? = some (.cells #[.int .i64 d] 3) → w.heap[Bt + 2]? = some (.cells #[.string ⟨p.toArray⟩] 9) →
      SeqOwn F n Try.prog 60 #[.pointer (some ⟨Bt, 0, none⟩), .pointer (some ⟨Bt + 1, 0, none⟩), .pointer (some ⟨Bt + 2, 0, none⟩)] (fun x : List UInt8 => #[Value.string ⟨x.toArray⟩]) (KpL n₀ B) (fun ys => ys = lpathsGo L f d p) (lpathsGo L f d p).length w := by
  intro f
  induction f with
  | zero =>
    intro d p n Bt w hdepth hpl hnBt hbw hgood s0 s1 s2 e0 e1 e2
    have h := paths1_not F hO hdep B n₀ w0 hn0 a cap m b L hN d p n 0 Bt w hdepth hbw s2.1 e0 e1 e2
    exact h
  | succ f ih =>
    intro d p n Bt w hdepth hpl hnBt hbw hgood s0 s1 s2 e0 e1 e2
    cases hd : dirB L d with
    | false =>
      rw [lpaths_not L _ d p hd]
      exact paths1_not F hO hdep B n₀ w0 hn0 a cap m b L hN d p n _ Bt w hd hbw s2.1 e0 e1 e2
    | true =>
    intro l J W hW hJ hY h0
    have IH := Lib.hid ih
    have HY := Lib.hid hY
    have HJ := Lib.hid hJ
    have HH0 := Lib.hid h0
    clear ih hY hJ h0
    have hro : F.round = none := hO.ro
    have hfd : F.fn 27 := hO.fn _
    have hfj : F.fn 61 := hO.fn _
    have hfp : F.fn 43 := hO.fn _
    have hbW : Below n₀ w0 W := hbw.trans (hW.mono (by rw [← hn0]; exact hbw.size))
    have hNW := hN.below (by rw [hn0]; exact hbW)
    have k0 : W.heap[Bt]? = some (.cells #[.slice a L.length cap, .int .i64 m, .int .i64 b] 24) := (hW.block _ s0.1).trans e0
    have k1 : W.heap[Bt + 1]? = some (.cells #[.int .i64 d] 3) := (hW.block _ s1.1).trans e1
    have k2 : W.heap[Bt + 2]? = some (.cells #[.string ⟨p.toArray⟩] 9) := (hW.block _ s2.1).trans e2
    have q0 : W.cell? ⟨Bt, 0, none⟩ = some (.slice a L.length cap) := by simp only [World.cell?, k0]; rfl
    have q1 : W.cell? ⟨Bt, 1, none⟩ = some (.int .i64 m) := by simp only [World.cell?, k0]; rfl
    have q2 : W.cell? ⟨Bt, 2, none⟩ = some (.int .i64 b) := by simp only [World.cell?, k0]; rfl
    have q3 : W.cell? ⟨Bt + 1, 0, none⟩ = some (.int .i64 d) := by simp only [World.cell?, k1]; rfl
    have g0 : Bt < W.heap.size := cell_lt q0
    have g1 : Bt + 1 < W.heap.size := cell_lt q3
    have HNW := Lib.hid hNW
    have HN := Lib.hid hN
    have HG := Lib.hid (hgood.below hW)
    have HS0 := Lib.hid (s0.below hgood hW)
    have HS2 := Lib.hid (s2.below hgood hW)
    have HBW := Lib.hid hbW
    have HK0 := Lib.hid k0
    have HK2 := Lib.hid k2
    have HDEP := Lib.hid hdepth
    have HSH := Lib.hid hS
    have HTH := Lib.hid hT
    clear hbw hgood s0 s1 s2 e0 e1 e2 hbW hNW hN k0 k1 k2 hdepth hW
    · obtain ⟨z, rfl, hz⟩ := dir_lt hd
      have HD := Lib.hid hd
      have HLP := Lib.hid (lpaths_dir L f (z : Int) p hd)
      obtain ⟨bb, o, rfl, hx⟩ := HN.out.2.2 z hz
      obtain ⟨kv, x40, hks⟩ := hx.kids
      have HBW0 := Lib.hid (show ∀ X, Below n₀ w0 X → Below w0.heap.size w0 X from fun X h => by rw [hn0]; exact h)
      have x4 := cell_below (HBW0.out _ HBW.out) x40
      obtain ⟨M, hMe⟩ : ∃ M, M = L[z].kids := ⟨_, rfl⟩
      rw [← hMe] at hks
      have HME := Lib.hid hMe
      have hMl : M.length ≤ 1024 := by rw [hMe]; exact (HSH.out z hz).1
      obtain ⟨ka, kcap, rfl, hk1, hk2, hk3⟩ := hks
      have HKM := Lib.hid hk3
      have gb : bb < W.heap.size := cell_lt x4
      have hz0 : (0 : Int) ≤ (z : Int) := by omega
      unfold maxLen at hk2
      clear hd hx hMe hk3 x40
      refine callsIn_of_wp_marks Try.func60 rfl (hO.fn _) ?_ hro
      simp only [Try.ntmps60, List.size_toArray, List.length_cons, List.length_nil, Nat.reduceAdd, Nat.reduceSub, Array.replicate_succ, Array.replicate_zero, List.push_toArray, List.append_toArray, List.nil_append, List.cons_append]
      gi_wp2_with (gi_at_call 27; refine (hO.calls (lisdir_known _ _ _ _ _ L _ HD.out _ (HNW.out.below (below_box _ _)))).mono ?_; rintro e w2 ⟨rfl, hb2⟩; have hb2' : Below W.heap.size W w2 := (below_box _ _).trans (hb2.mono (by simp)); have r0 := cell_below hb2' q0; have r1 := cell_below hb2' q1; have r2 := cell_below hb2' q2; have r3 := cell_below hb2' q3; have s4 := cell_below hb2' x4)
      have hG2 := HG.out.below hb2'
      have hly : (W.alloc (.cells #[.func (.yield l) #[] #[]] 70)).heap.size = W.heap.size + 1 := by simp
      have hyb : w2.heap[W.heap.size]? = some (.cells #[.func (.yield l) #[] #[]] 70) := (hb2.block _ (by rw [hly]; omega)).trans (new_block _ _)
      have hs2 := hb2'.size
      have hs21 : W.heap.size + 1 ≤ w2.heap.size := by have := hb2.size; rw [hly] at this; exact this
      have hnW : n₀ ≤ W.heap.size := by have := HBW.out.size; omega
      have hbt2 := (hb2'.block _ HS0.out.1).trans HK0.out
      have hbp2 := (hb2'.block _ HS2.out.1).trans HK2.out
      have HI2 := Lib.hid (show InvP n₀ B W.heap.size Bt w0 w2 w2 from ⟨HBW.out.trans (hb2'.mono hnW), hG2, Nat.le_refl _, SafeB.new HG.out hb2' (Nat.le_refl _) (by omega), HS0.out.below HG.out hb2', HS2.out.below HG.out hb2', rfl, rfl, rfl⟩)
      have HCA := Lib.hid (show CellsAt W.heap.size Bt w2 from ⟨⟨_, hyb, rfl⟩, ⟨_, hbt2, rfl⟩, ⟨_, hbp2, rfl⟩⟩)
      have HYB := Lib.hid hyb
      have HBT := Lib.hid hbt2
      have HBP := Lib.hid hbp2
      have HJ2 := Lib.hid (HJ.out [] W w2 none HH0.out (below_grown hb2') (fun _ e => by cases e))
      have HLEN := Lib.hid (show (lpathsGo L (f + 1) (z : Int) p).length = (M.flatMap (lpathOne L f p)).length by rw [HLP.out, node_nat L z hz, HME.out])
      clear hb2 hb2' r0 r1 r2 r3 s4 hG2 hly hyb hbt2 hbp2 q0 q1 q2 q3 x4 g0 g1 gb
      refine wpIn_loop (fun a' W' => ∃ (k : Nat) (Ds : List Nat) (u6 u7 u8 u21 u22 u23 u24 u25 u26 u27 u28 u29 u30 u31 u32 u33 u34 u35 u36 u37 u38 u39 u40 u41 u42 : Value), k ≤ M.length ∧ a' = { tmps := #[.func (.yield l) #[] #[], .pointer (some ⟨Bt, 0, none⟩), .pointer (some ⟨Bt + 1, 0, none⟩), .pointer (some ⟨Bt + 2, 0, none⟩), .pointer (some ⟨W.heap.size, 0, none⟩), undef, u6, u7, u8, .agg #[.slice (some ⟨bb, o, none⟩) L.length cap, .int .i64 m, .int .i64 b], .int .i64 (z : Int), .bool true, .bool false, .pointer (some ⟨Bt, 0, none⟩), .slice (some ⟨bb, o, none⟩) L.length cap, .int .i64 (z : Int), .pointer (some ⟨bb, o + z * 6, none⟩), .pointer (some ⟨bb, o + z * 6 + 4, none⟩), .slice ka M.length kcap, .int .i64 (M.length : Int), .int .i64 (k : Int), u21, u22, u23, u24, u25, u26, u27, u28, u29, u30, u31, u32, u33, u34, u35, u36, u37, u38, u39, u40, u41, u42], defers := Ds.map markOf } ∧
        J ((M.take k).flatMap (lpathOne L f p)) W' ∧ InvP n₀ B W.heap.size Bt w0 w2 W' ∧ Marks W.heap.size Ds W') (fun a' _ => M.length - (intOf (a'.tmps.getD 20 undef)).toNat) ?_ ?_
      · exact ⟨0, [], undef, undef, undef, undef, undef, undef, undef, undef, undef, undef, undef, undef, undef, undef, undef, undef, undef, undef, undef, undef, undef, undef, undef, undef, undef, by omega, rfl, HJ2.out, HI2.out, List.nodup_nil, by simp⟩
      · rintro a' wr ⟨k, Ds, u6, u7, u8, u21, u22, u23, u24, u25, u26, u27, u28, u29, u30, u31, u32, u33, u34, u35, u36, u37, u38, u39, u40, u41, u42, hk, rfl, hJk, hinv, hmk⟩
        have HJK := Lib.hid hJk
        have HINV := Lib.hid hinv
        have HMK := Lib.hid hmk
        have hszr := hinv.size
        clear hJk hinv hmk HJ2 HI2
        by_cases hlt : k < M.length
        · obtain ⟨c1, p1, rfl, z0, z1⟩ := HKM.out k hlt
          have hbr := HINV.out.below
          have y0 := cell_below (HBW0.out _ hbr) z0
          have y1 := cell_below (HBW0.out _ hbr) z1
          have gc : c1 < wr.heap.size := cell_lt y0
          have gy := HINV.out.sy.1
          have gt := HINV.out.st.1
          have gp := HINV.out.sp.1
          have hyb := HINV.out.by_.trans HYB.out
          have hbp := HINV.out.bp.trans HBP.out
          have cy : wr.cell? ⟨W.heap.size, 0, none⟩ = some (.func (.yield l) #[] #[]) := by simp only [World.cell?, hyb]; rfl
          have cp : wr.cell? ⟨Bt + 2, 0, none⟩ = some (.string ⟨p.toArray⟩) := by simp only [World.cell?, hbp]; rfl
          have hnl := (HSH.out z hz).2 M[k] (by rw [← HME.out]; exact List.getElem_mem _)
          have hjp := join_text p M[k].1 (by omega) (by omega)
          have HJP := Lib.hid hjp
          obtain ⟨D0, hD0⟩ : ∃ D0, D0 = (M.take k).flatMap (lpathOne L f p) := ⟨_, rfl⟩
          obtain ⟨p', hp'⟩ : ∃ p', p' = joinP p M[k].1 := ⟨_, rfl⟩
          have hft := flat_take M (lpathOne L f p) k hlt
          have hfl := flat_len M (lpathOne L f p) (k + 1)
          have hone : lpathOne L f p M[k] = p' :: lpathsGo L f M[k].2 p' := by rw [hp']; rfl
          rw [hft, ← hD0, hone, ← HLEN.out] at hfl
          rw [← hD0, hone] at hft
          have hpl' := joinP_len p M[k].1
          rw [← hp'] at hpl' hjp
          have HFT := Lib.hid hft
          have HFL := Lib.hid (show D0.length + 1 + (lpathsGo L f M[k].2 p').length ≤ (lpathsGo L (f + 1) (z : Int) p).length by simp only [List.length_append, List.length_cons] at hfl; omega)
          rw [← hD0] at HJK
          have hn0r : n₀ ≤ wr.heap.size := Nat.le_trans hnW (Nat.le_trans (by omega) HINV.out.size)
          have hWwr : W.heap.size ≤ wr.heap.size := Nat.le_of_lt gy
          have hA : Below wr.heap.size wr (wr.alloc (.cells #[.string ⟨M[k].1.toArray⟩, .int .i64 M[k].2] 49)) := below_box _ _
          have hinvA := HINV.out.grow hn0r hA
          have HIA := Lib.hid hinvA
          have HMA := Lib.hid (HMK.out.below hA)
          have HSE := Lib.hid (SafeB.new HINV.out.good hA (Nat.le_refl _) (by simp))
          have HEB := Lib.hid (new_block wr (.cells #[.string ⟨M[k].1.toArray⟩, .int .i64 M[k].2] 49))
          have HYA := Lib.hid (HY.out D0 p' (wr.alloc (.cells #[.string ⟨M[k].1.toArray⟩, .int .i64 M[k].2] 49)) (HJ.out.alloc _ HJK.out) (by have := HFL.out; omega))
          have HPP := Lib.hid hp'
          have HPL := Lib.hid (show p'.length + f * 65 ≤ 1048576 by rw [Nat.add_mul] at hpl; omega)
          have HJP := Lib.hid hjp
          clear z0 z1 hbr hyb hbp hjp hft hfl hone hpl' hinvA hA hp' hD0
          gi_wp2_with (first | (gi_at_call 61; refine (hO.calls (HJP.out _)).mono ?_; rintro e w' ⟨rfl, rfl⟩; obtain ⟨fn, tmps, assign, body, hy, hR⟩ := HYA.out) | fail)
          clear cy cp y0 y1
          refine hR.mono ?_
          rintro e W3 ⟨rfl, hJ3, hK3, hF3⟩
          have hi3 := HIA.out.kept HCA.out hK3
          have he3 := (hK3.safe HIA.out.good HSE.out).2 _ HEB.out rfl
          have HM3 := Lib.hid (HMA.out.keeps hF3)
          have HJ3 := Lib.hid hJ3
          have hbt3 := hi3.bt.trans HBT.out
          have d0 : W3.cell? ⟨Bt, 0, none⟩ = some (.slice (some ⟨bb, o, none⟩) L.length cap) := by simp only [World.cell?, hbt3]; rfl
          have d1 : W3.cell? ⟨Bt, 1, none⟩ = some (.int .i64 m) := by simp only [World.cell?, hbt3]; rfl
          have d2 : W3.cell? ⟨Bt, 2, none⟩ = some (.int .i64 b) := by simp only [World.cell?, hbt3]; rfl
          have d3 : W3.cell? ⟨wr.heap.size, 1, none⟩ = some (.int .i64 M[k].2) := by simp only [World.cell?, he3]; rfl
          have g3 : Bt < W3.heap.size := cell_lt d0
          have g4 : wr.heap.size < W3.heap.size := cell_lt d3
          have HI3 := Lib.hid hi3
          clear hy hR hJ3 hK3 hF3 hi3 he3 hbt3
          gi_wp2_with (first | (gi_at_call 43; refine (paths_in F hO _ _ _ _ _ _ _ _ _).mono ?_; rintro e w4 ⟨rfl, hw4⟩) | fail)
          rw [← hw4]
          have b4 : Below W3.heap.size W3 w4 := by rw [hw4]; exact (((Below.refl _ W3).alloc (Nat.le_refl _) _).alloc (by simp) _).alloc (by simp; omega) _
          have s4 : w4.heap.size = W3.heap.size + 3 := by rw [hw4]; simp
          have x0 : w4.heap[W3.heap.size]? = some (.cells #[.slice (some ⟨bb, o, none⟩) L.length cap, .int .i64 m, .int .i64 b] 24) := by
            rw [hw4]
            exact (Below.heap_alloc _ _ _ (by simp; omega)).trans ((Below.heap_alloc _ _ _ (by simp)).trans (World.alloc_heap_new W3 _))
          have x1 : w4.heap[W3.heap.size + 1]? = some (.cells #[.int .i64 M[k].2] 3) := by
            have h := World.alloc_heap_new (W3.alloc (.cells #[.slice (some ⟨bb, o, none⟩) L.length cap, .int .i64 m, .int .i64 b] 24)) (.cells #[.int .i64 M[k].2] 3)
            rw [World.size_alloc] at h
            rw [hw4]
            exact (Below.heap_alloc _ _ _ (by simp)).trans h
          have x2 : w4.heap[W3.heap.size + 2]? = some (.cells #[.string ⟨p'.toArray⟩] 9) := by
            have h := World.alloc_heap_new ((W3.alloc (.cells #[.slice (some ⟨bb, o, none⟩) L.length cap, .int .i64 m, .int .i64 b] 24)).alloc (.cells #[.int .i64 M[k].2] 3)) (.cells #[.string ⟨p'.toArray⟩] 9)
            rw [World.size_alloc, World.size_alloc] at h
            rw [hw4]
            exact h
          clear hw4 d0 d1 d2 d3
          have hnw3 : n₀ ≤ W3.heap.size := by omega
          have hI4 := HI3.out.grow hnw3 b4
          have hM4 := HM3.out.below b4
          have hJ4 := HJ.out _ W3 w4 none HJ3.out (below_grown b4) (fun _ e => by cases e)
          have hG3 := HI3.out.good
          have hDk : Depth L f M[k].2 := HDEP.out HD.out M[k] (by rw [node_nat L z hz, ← HME.out]; exact List.getElem_mem _)
          have hDs : ∀ D ∈ Ds, D < w4.heap.size := fun D hD => (Array.getElem?_eq_some_iff.1 (hM4.2 D hD).2).1
          have hw2 : n₀ ≤ w2.heap.size := by omega
          have HFT2 := Lib.hid (show D0 ++ p' :: lpathsGo L f M[k].2 p' = (M.take (k + 1)).flatMap (lpathOne L f p) from HFT.out.symm)
          refine range_own hro hdep (gf := 60) (lb := #[.pointer (some ⟨W3.heap.size, 0, none⟩), .pointer (some ⟨W3.heap.size + 1, 0, none⟩), .pointer (some ⟨W3.heap.size + 2, 0, none⟩)]) rfl (hO.fn _) (enters_of Try.func60 (by kernel_rfl) rfl)
            (encs := fun x : List UInt8 => #[Value.string ⟨x.toArray⟩]) (Kp := KpL n₀ B) (S := fun ys => ys = lpathsGo L f M[k].2 p') (N := (lpathsGo L f M[k].2 p').length) (w0 := w4)
            (IH.out M[k].2 p' (n - 1) W3.heap.size w4 hDk HPL.out hnw3 hI4.below hI4.good (SafeB.new hG3 b4 (Nat.le_refl _) (by omega)) (SafeB.new hG3 b4 (by omega) (by omega)) (SafeB.new hG3 b4 (by omega) (by omega)) x0 x1 x2)
            (fun h k => h.trans k) (fun X l o o' hl ho hc _ => KpL.put (m := w4.heap.size) (by omega) X l o o' hl ho hc) (Below.refl _ _) (fun _ => rfl)
            (fun pre X => J (D0 ++ p' :: pre) X ∧ InvP n₀ B W.heap.size Bt w0 w2 X ∧ Marks W.heap.size Ds X)
            (OwnFrom.and (fun s X Y row hs hg hr => HJ.out (D0 ++ p' :: s) X Y row hs hg (fun r e => ⟨by have := (hr r e).1; omega, (hr r e).2⟩)) (OwnFrom.and (InvP.own (by omega) HCA.out hw2) (Marks.own hDs)))
            ⟨hJ4, hI4, hM4⟩
            (fun x => { tmps := #[.func (.yield l) #[] #[], .pointer (some ⟨Bt, 0, none⟩), .pointer (some ⟨Bt + 1, 0, none⟩), .pointer (some ⟨Bt + 2, 0, none⟩), .pointer (some ⟨W.heap.size, 0, none⟩), undef, .pointer (some ⟨wr.heap.size, 0, none⟩), .string ⟨p'.toArray⟩, .string ⟨x.toArray⟩, .agg #[.slice (some ⟨bb, o, none⟩) L.length cap, .int .i64 m, .int .i64 b], .int .i64 (z : Int), .bool true, .bool false, .pointer (some ⟨Bt, 0, none⟩), .slice (some ⟨bb, o, none⟩) L.length cap, .int .i64 (z : Int), .pointer (some ⟨bb, o + z * 6, none⟩), .pointer (some ⟨bb, o + z * 6 + 4, none⟩), .slice (some ⟨c1, p1, none⟩) M.length kcap, .int .i64 (M.length : Int), .int .i64 (k : Int), .bool true, .pointer (some ⟨c1, p1 + k * 2, none⟩), .agg #[.string ⟨M[k].1.toArray⟩, .int .i64 M[k].2], .string ⟨p.toArray⟩, .pointer (some ⟨wr.heap.size, 0, none⟩), .string ⟨M[k].1.toArray⟩, .string ⟨p'.toArray⟩, .func (.yield l) #[] #[], .string ⟨p'.toArray⟩, .bool true, .bool false, .agg #[.slice (some ⟨bb, o, none⟩) L.length cap, .int .i64 m, .int .i64 b], .pointer (some ⟨wr.heap.size, 1, none⟩), .int .i64 M[k].2, .string ⟨p'.toArray⟩, .func (.func 60) #[] #[.pointer (some ⟨W3.heap.size, 0, none⟩), .pointer (some ⟨W3.heap.size + 1, 0, none⟩), .pointer (some ⟨W3.heap.size + 2, 0, none⟩)], .string ⟨x.toArray⟩, u38, u39, u40, u41, u42], defers := [] }) ?assign ?body ?done
          case assign =>
            intro l x W K hK
            gi_wp2
            exact hK
          case body =>
            rintro l' pre x X ⟨hJx, hIx, hMx⟩ hltx
            have hyb := hIx.by_.trans HYB.out
            have cy : X.cell? ⟨W.heap.size, 0, none⟩ = some (.func (.yield l) #[] #[]) := by simp only [World.cell?, hyb]; rfl
            have gyx := hIx.sy.1
            have HIX := Lib.hid hIx
            have HMX := Lib.hid hMx
            obtain ⟨fn', t', as', bo', hy', hF', hR'⟩ := HY.out (D0 ++ p' :: pre) x X hJx (by have := HFL.out; simp only [List.length_append, List.length_cons]; omega)
            have hfree : ∀ m', RoundIn F m' Try.prog l fn' t' as' bo' X _ := fun m' => ⟨hF', fun c cs _ => hR' c cs (room_free hdep _)⟩
            have HFR := Lib.hid hfree
            clear hfree hR' hJx hIx hMx hyb
            gi_wp2
            refine (show RoundIn (F.inRound l') (n - 1 - 1 - 1) Try.prog l fn' t' as' bo' X _ from HFR.out _).mono ?_
            rintro e X2 ⟨rfl, hJ2, hK2, hF2⟩
            have HI2 := Lib.hid (HIX.out.kept HCA.out hK2)
            have HM2 := Lib.hid (HMX.out.keeps hF2)
            have HF2 := Lib.hid (show KeepsFrom w4.heap.size X X2 from ⟨hF2.size, fun k o hk ho hc => hF2.same k o (by omega) ho hc⟩)
            have HK2' := Lib.hid hK2
            have HJ2' := Lib.hid (show J (D0 ++ p' :: (pre ++ [x])) X2 by
              have e : D0 ++ p' :: (pre ++ [x]) = D0 ++ p' :: pre ++ [x] := by simp
              rw [e]
              exact hJ2)
            clear hJ2 hK2 hF2 hy' cy
            gi_wp2
            exact ⟨HF2.out, HK2'.out, HJ2'.out, HI2.out, HM2.out⟩
          case done =>
            rintro D xs X hD rfl ⟨hJx, hIx, hMx⟩ hKD
            rw [HFT2.out] at hJx
            have HJX := Lib.hid hJx
            have HIX := Lib.hid hIx
            have HMX := Lib.hid (show Marks W.heap.size (D :: Ds) X from ⟨List.nodup_cons.2 ⟨fun h => by have := hDs D h; omega, hMx.1⟩, fun E hE => by
              rcases List.mem_cons.1 hE with rfl | hE
              · exact ⟨by omega, hKD⟩
              · exact hMx.2 E hE⟩)
            clear hJx hIx hMx hKD hJ4 hI4 hM4 hDk hDs x0 x1 x2 b4 hG3
            gi_wp2
            refine ⟨⟨k + 1, D :: Ds, _, _, _, _, _, _, _, _, _, _, _, _, _, _, _, _, _, _, _, _, _, _, _, _, _, by omega, rfl, HJX.out, HIX.out, HMX.out⟩, ?_⟩
            show M.length - ((k : Int) + 1).toNat < M.length - ((k : Int)).toNat
            omega
        · have hall : M.take k = M := List.take_of_length_le (by omega)
          have HJA := Lib.hid (show J (lpathsGo L (f + 1) (z : Int) p) wr by
            have h := HJK.out
            rw [hall] at h
            rw [HLP.out, node_nat L z hz, ← HME.out]
            exact h)
          clear hall HJK
          gi_wp2
          refine leaves_marks (m := W.heap.size) (J := fun X => J (lpathsGo L (f + 1) (z : Int) p) X) (fun X D o' h hD ho hc => HJ.out.putObj _ h hD ho hc) (fun X h => ⟨_, results_none rfl _ _ _, ⟨_, rfl⟩, _, rfl, h⟩) Ds wr HMK.out HJA.out
end Go.Proofs.Ytdpfnnhlneapbaa

namespace Go.Proofs.Ytdpfnnhlneapbaa
open Go Go.RowKit Go.Shelf

attribute [local go_sem] Oper.semAt_some

theorem wpListIn_append_lies {F : Fence} {n : Nat} {P : Program} (w : World) {ops : Array Oper} {rest : List Oper} {o : Oper} {a : Act} {Q : Exit → Act → World → Prop} (hgd : o.guard = none) (s x : Operand) (t : TypeId)
    (ho : o.op = .call { callee := .builtin .append, args := #[s, x], argTypes := #[t, t] })
    (base : Nat) (e : TypeId) (i : TypeInfo) (z : Value) (size bytes : Nat) (ht : P.underlying t = some (.slice e)) (hi : P.info? e = some i) (hz : i.zero = some z)
    (hsize : i.size = size) (hby : i.bytes = bytes) (hzs : z.cells.size = size) (hsz : 0 < size)
    (v : Value) (k : Nat) (xs : List Value) (hs : a.eval s = v) (hown : w.ownsRow base e size v k xs)
    (ad : Addr) (m c : Nat) (news : List Value) (hx : a.eval x = .slice (some ad) m c) (hl : news.length = m * size) (hnews : ∀ j u, news[j]? = some u → w.cell? (ad.add j) = some u) (h1 : ∀ u ∈ news, u.oneCell' = true)
    (hm : 0 < m) (h63 : k + m ≤ maxLen) (hbytes : (k + m) * bytes ≤ 140737488355328) (hbase : base ≤ w.heap.size) (H : Nat) (hH : w.heap.size = H)
    (h : ∀ g cap w', w'.ownsRow base e size (.slice (some ⟨g, 0, none⟩) (k + m) cap) (k + m) (xs ++ news) → w.grownBy w' v.ownBlock → (v.ownBlock = some g ∨ g = H) → g < w'.heap.size → wpListIn F n P ops Q rest (a.put o.dst (.slice (some ⟨g, 0, none⟩) (k + m) cap)) w') : wpListIn F n P ops Q (o :: rest) a w := by
  refine wpListIn_plain hgd fun K hK' => ?_
  obtain ⟨g, cap, w', hrun, r1, r2, r3, r4⟩ := run_append_lies (P := P) w t o.type base e i z size bytes ht hi hz hsize hby hzs hsz v k xs hown ad m c news hl hnews h1 hm h63 hbytes hbase H hH
  unfold Oper.wpIn
  refine ⟨?_, ?_⟩
  · simp [Oper.about, ho, resolve, Target.leads, Sem.run_pure]
  · rw [Oper.semAt_plain F _ _ (by rw [ho]; intro c hc'; cases hc')]
    simp [execOp, ho, resolve, invoke, builtin, hs, hx, hrun, Result.andThen]
    exact hK' _ _ (h g cap w' r1 r2 r3 r4)

theorem own_lessL {w : World} {b b' : Nat} {e : TypeId} {z n : Nat} {v : Value} {xs : List Value} (h : w.ownsRow b e z v n xs) (hb : b' ≤ b) : w.ownsRow b' e z v n xs := by
  obtain ⟨h1, h2 | ⟨g, cap, cur, hv, hg, r⟩⟩ := h
  · exact ⟨h1, Or.inl h2⟩
  · exact ⟨h1, Or.inr ⟨g, cap, cur, hv, by omega, r⟩⟩

theorem texts_lessL {w : World} {b b' : Nat} {v : Value} {L : List (List UInt8)} (h : Texts b w v L) (hb : b' ≤ b) : Texts b' w v L := own_lessL h hb

/-- Block B holds a list of the texts L, in a row that lies from block b on. -/
def ListAt (b B : Nat) (W : World) (L : List (List UInt8)) : Prop := ∃ v, Boxed W B 39 v ∧ Texts b W v L
theorem listAt_own (b B : Nat) : Own (fun (pre : List (List UInt8)) W => ListAt b B W pre) := fun s X Y row ⟨v, hv, hr⟩ hg hrow => by
  obtain ⟨v', h1, h2, -⟩ := holdsRow_own b B 39 9 1 (fun pre : List (List UInt8) => pre.length) (fun pre => pre.map strv) (fun _ _ => True) s X Y row ⟨v, hv, hr, trivial⟩ hg hrow
  exact ⟨v', h1, h2⟩

/-- What a round of List keeps: the list has grown by one text. -/
theorem kpl_append {n₀ B b : Nat} {X w1 : World} {v : Value} {D : List (List UInt8)} {tmp : Obj} {g cap k : Nat} {ys : List Value} (hv : Boxed X B 39 v) (hrow : Texts b X v D) (hnb : n₀ ≤ b) (hbX : b ≤ X.heap.size) (hB : n₀ ≤ B)
    (hown : w1.ownsRow b 9 1 (.slice (some ⟨g, 0, none⟩) k cap) k ys) (hgrow : (X.alloc tmp).grownBy w1 v.ownBlock) (hat : v.ownBlock = some g ∨ g = X.heap.size + 1) (hlt : g < w1.heap.size) :
    Boxed w1 B 39 v ∧ KpL n₀ B X (w1.setCell ⟨B, 0, none⟩ (.slice (some ⟨g, 0, none⟩) k cap)) ∧ Boxed (w1.setCell ⟨B, 0, none⟩ (.slice (some ⟨g, 0, none⟩) k cap)) B 39 (.slice (some ⟨g, 0, none⟩) k cap) ∧
      (w1.setCell ⟨B, 0, none⟩ (.slice (some ⟨g, 0, none⟩) k cap)).ownsRow b 9 1 (.slice (some ⟨g, 0, none⟩) k cap) k ys ∧ KeepsOthers X (w1.setCell ⟨B, 0, none⟩ (.slice (some ⟨g, 0, none⟩) k cap)) := by
  obtain ⟨h1, h2, h3, h4, h5⟩ := hv.appended (n₀ := n₀) (by decide) (own_lessL hrow hnb) (by omega) hB (own_lessL hown hnb) hgrow
  have hss := (grownBy_setCell' w1 B (.slice (some ⟨g, 0, none⟩) k cap))
  have hsz := hgrow.size
  rw [World.size_alloc] at hsz
  have hs2 := hss.size
  refine ⟨h1, ⟨h5, fun u hu hg => ⟨_, h2, fun i e => ?_, fun i hi hiB hio o ho _ => ?_⟩⟩, h2, ?_, h4⟩
  · obtain rfl : g = i := by simpa [Value.ownBlock] using e
    refine ⟨by omega, ?_⟩
    rw [Boxed.one hu hv]
    rcases hat with h | h
    · exact Or.inl h
    · exact Or.inr (by omega)
  · rw [Boxed.one hu hv] at hio
    exact (hss.block i (by omega) (by simpa using hiB)).trans ((hgrow.block i (by simp; omega) (fun e => hio e.symm)).trans ((Below.heap_alloc X tmp i hi).trans ho))
  · exact hown.kept hss (.inr (h1.not_row (by decide) hown).symm)

set_option maxRecDepth 100000 in
set_option maxHeartbeats 2000000 in
theorem llist_any (a : Option Addr) (cap : Nat) (m b : Int) (L : List Ino) (n : Nat) (hL : L.length ≤ 1000) (hS : Sized L) (hB : usedB L ≤ 4611686018427387904) (hF : FitP L m b) (hS64 : Short64 L) (hT : KidsThere L) (hn : n ≤ 10000) (hD : Depth L n 0) (hlen : (lpathsGo L n 0 [47]).length ≤ 1048576) (w : World) (hN : NodesIn w a cap L) :
    Calls Try.prog 23 #[.agg #[.slice a L.length cap, .int .i64 m, .int .i64 b]] w fun e W' => ∃ v, e = .returned v ∧ Texts w.heap.size W' v (lpathsGo L n 0 [47]) ∧ Below w.heap.size w W' := by
  have hb1 := below_box w (.cells #[.slice a L.length cap, .int .i64 m, .int .i64 b] 24)
  obtain ⟨w1, hw1⟩ : ∃ w1, w1 = w.alloc (.cells #[.slice a L.length cap, .int .i64 m, .int .i64 b] 24) := ⟨_, rfl⟩
  have hM := hN.below hb1
  have hsz : w1.heap.size = w.heap.size + 1 := by rw [hw1]; simp
  have hbox : ∀ W', Below w1.heap.size w1 W' → W'.cell? ⟨w.heap.size, 0, none⟩ = some (.slice a L.length cap) ∧ W'.cell? ⟨w.heap.size, 1, none⟩ = some (.int .i64 m) ∧ W'.cell? ⟨w.heap.size, 2, none⟩ = some (.int .i64 b) := fun W' h => box3 (by rw [← hw1]; exact h)
  rw [← hw1] at hM hb1
  have HM := Lib.hid hM
  have HB1 := Lib.hid hb1
  have HX := Lib.hid hbox
  have HS := Lib.hid hS
  have HSZ := Lib.hid hsz
  have HFIT := Lib.hid hF
  have HEND := Lib.hid (show ∀ W', Below w1.heap.size w1 W' → Below w.heap.size w W' from fun W' h => HB1.out.trans (h.mono (by rw [hsz]; omega)))
  clear hM hN hb1 hbox hS hsz hF
  refine (callsIn_wide (n := 4)).1 ?_
  obtain ⟨F, hF⟩ : ∃ F, F = Fence.wide := ⟨_, rfl⟩
  have hO : Open F := by rw [hF]; exact open_wide
  have hdep : F.depth = none := by rw [hF]; rfl
  rw [← hF]
  clear hF
  have hro : F.round = none := hO.ro
  have h13 : F.fn 13 := hO.fn _
  have h43 : F.fn 43 := hO.fn _
  refine callsIn_of_wp_marks Try.func23 rfl (hO.fn _) ?_ hro
  simp only [Try.ntmps23, List.size_toArray, List.length_cons, List.length_nil, Nat.reduceAdd, Nat.reduceSub, Array.replicate_succ, Array.replicate_zero, List.push_toArray, List.append_toArray, List.nil_append, List.cons_append]
  gi_wp2_with (gi_at_call 13; (rw [← hw1]); clear hw1; refine (hO.calls (lfit_any _ _ _ _ L hL HS.out hB _ HM.out)).mono ?_; rintro e w2 ⟨⟨v, rfl, hv⟩, hb2⟩; (obtain rfl : v = true := hv.2 HFIT.out); clear hv; have HB2 := Lib.hid hb2; (obtain ⟨q0, q1, q2⟩ := HX.out _ hb2); (have gw2 : w.heap.size < w2.heap.size := by have := hb2.size; rw [HSZ.out] at this; omega); clear hb2)
  gi_wp2_with (gi_at_call 43; refine (paths_in F hO (4 - 1) _ _ _ _ _ _ _ _).mono ?_; rintro e w' ⟨rfl, rfl⟩)
  have bL := Boxed.new w2 39 (.slice none 0 0)
  obtain ⟨w3, hw3⟩ : ∃ w3, w3 = (((w2.alloc (.cells #[.slice none 0 0] 39)).alloc (.cells #[.slice a L.length cap, .int .i64 m, .int .i64 b] 24)).alloc (.cells #[.int .i64 0] 3)).alloc (.cells #[.string ⟨#[47]⟩] 9) := ⟨_, rfl⟩
  have hs3 : w3.heap.size = w2.heap.size + 4 := by rw [hw3]; simp
  have hb23 : Below w2.heap.size w2 w3 := by rw [hw3]; exact (((below_box w2 _).alloc (by simp) _).alloc (by simp; omega) _).alloc (by simp; omega) _
  have bL3 : Boxed w3 w2.heap.size 39 (.slice none 0 0) := by rw [hw3]; exact ((bL.alloc _).alloc _).alloc _
  have e1 : (w2.alloc (.cells #[.slice none 0 0] 39)).heap.size = w2.heap.size + 1 := by simp
  have e2 : ((w2.alloc (.cells #[.slice none 0 0] 39)).alloc (.cells #[.slice a L.length cap, .int .i64 m, .int .i64 b] 24)).heap.size = w2.heap.size + 1 + 1 := by simp
  have HT3 := Lib.hid (show w3.cell? ⟨w2.heap.size + 1, 0, none⟩ = some (.slice a L.length cap) ∧ w3.cell? ⟨w2.heap.size + 1, 1, none⟩ = some (.int .i64 m) ∧ w3.cell? ⟨w2.heap.size + 1, 2, none⟩ = some (.int .i64 b) ∧ w3.cell? ⟨w2.heap.size + 1 + 1, 0, none⟩ = some (.int .i64 0) by
    have hq : Below (w2.heap.size + 1 + 1) ((w2.alloc (.cells #[.slice none 0 0] 39)).alloc (.cells #[.slice a L.length cap, .int .i64 m, .int .i64 b] 24)) w3 := by
      rw [hw3, ← e2]
      exact (below_box _ _).alloc (by simp) _
    have h3 := box3 (w := w2.alloc (.cells #[.slice none 0 0] 39)) (W' := w3) (x := .slice a L.length cap) (y := .int .i64 m) (z := .int .i64 b) (t := 24) (by rw [e2]; exact hq)
    rw [e1] at h3
    refine ⟨h3.1, h3.2.1, h3.2.2, ?_⟩
    have hq2 : Below (((w2.alloc (.cells #[.slice none 0 0] 39)).alloc (.cells #[.slice a L.length cap, .int .i64 m, .int .i64 b] 24)).alloc (.cells #[.int .i64 0] 3)).heap.size (((w2.alloc (.cells #[.slice none 0 0] 39)).alloc (.cells #[.slice a L.length cap, .int .i64 m, .int .i64 b] 24)).alloc (.cells #[.int .i64 0] 3)) w3 := by
      rw [hw3]
      exact below_box _ _
    refine cell_below hq2 ?_
    rw [← e2]
    simp only [World.cell?, new_block]
    rfl)
  have HB3 := Lib.hid (HB2.out.trans (hb23.mono HB2.out.size))
  have hx0 : w3.heap[w2.heap.size + 1]? = some (.cells #[.slice a L.length cap, .int .i64 m, .int .i64 b] 24) := by
    have h := World.alloc_heap_new (w2.alloc (.cells #[.slice none 0 0] 39)) (.cells #[.slice a L.length cap, .int .i64 m, .int .i64 b] 24)
    rw [e1] at h
    rw [hw3]
    exact (Below.heap_alloc _ _ _ (by simp)).trans ((Below.heap_alloc _ _ _ (by simp)).trans h)
  have hx1 : w3.heap[w2.heap.size + 1 + 1]? = some (.cells #[.int .i64 0] 3) := by
    have h := World.alloc_heap_new ((w2.alloc (.cells #[.slice none 0 0] 39)).alloc (.cells #[.slice a L.length cap, .int .i64 m, .int .i64 b] 24)) (.cells #[.int .i64 0] 3)
    rw [e2] at h
    rw [hw3]
    exact (Below.heap_alloc _ _ _ (by simp)).trans h
  have hx2 : w3.heap[w2.heap.size + 1 + 2]? = some (.cells #[.string ⟨[47].toArray⟩] 9) := by
    have h := World.alloc_heap_new (((w2.alloc (.cells #[.slice none 0 0] 39)).alloc (.cells #[.slice a L.length cap, .int .i64 m, .int .i64 b] 24)).alloc (.cells #[.int .i64 0] 3)) (.cells #[.string ⟨#[47]⟩] 9)
    rw [World.size_alloc, e2] at h
    rw [hw3]
    exact h
  rw [← hw3]
  clear hw3 e1 e2 bL q0 q1 q2
  have hs2 := HB2.out.size
  have hgood : GoodW w2.heap.size w3 := ⟨_, bL3, fun g e => by simp [Value.ownBlock] at e⟩
  have hsafe : ∀ k, w2.heap.size < k → k < w3.heap.size → SafeB w2.heap.size w3 k := fun k h1 h2 => ⟨h2, by omega, fun v hv e => by rw [Boxed.one hv bL3] at e; simp [Value.ownBlock] at e⟩
  refine range_own hro hdep (gf := 60) (lb := #[.pointer (some ⟨w2.heap.size + 1, 0, none⟩), .pointer (some ⟨w2.heap.size + 1 + 1, 0, none⟩), .pointer (some ⟨w2.heap.size + 1 + 2, 0, none⟩)]) rfl (hO.fn _) (enters_of Try.func60 (by kernel_rfl) rfl)
    (encs := fun x : List UInt8 => #[Value.string ⟨x.toArray⟩]) (Kp := KpL w1.heap.size w2.heap.size) (S := fun ys => ys = lpathsGo L n 0 [47]) (N := (lpathsGo L n 0 [47]).length) (w0 := w3)
    (paths1_own F hO hdep w2.heap.size w1.heap.size hs2 w1 rfl a cap m b L HM.out hS64 hT n 0 [47] (4 - 1) (w2.heap.size + 1) w3 hD (by simp; omega) (by omega) HB3.out hgood (hsafe _ (by omega) (by omega)) (hsafe _ (by omega) (by omega)) (hsafe _ (by omega) (by omega)) hx0 hx1 hx2)
    (fun h k => h.trans k) (fun X l o o' hl ho hc _ => KpL.put (m := w3.heap.size) (by omega) X l o o' hl ho hc) (Below.refl _ _) (fun _ => rfl)
    (fun pre W => ListAt w1.heap.size w2.heap.size W pre ∧ Below w1.heap.size w1 W)
    (OwnFrom.and (Own.from (listAt_own _ _) _) (ownFrom_below (Nat.le_refl _) (by omega)))
    ⟨⟨_, bL3, World.ownsRow_nil _ _ _ _⟩, HB3.out⟩
    (fun x => { tmps := #[.agg #[.slice a L.length cap, .int .i64 m, .int .i64 b], .pointer (some ⟨w.heap.size, 0, none⟩), .slice none 0 0, .pointer (some ⟨w2.heap.size, 0, none⟩), .string ⟨x.toArray⟩, .agg #[.slice a L.length cap, .int .i64 m, .int .i64 b], .bool true, .bool false, .agg #[.slice a L.length cap, .int .i64 m, .int .i64 b], .func (.func 60) #[] #[.pointer (some ⟨w2.heap.size + 1, 0, none⟩), .pointer (some ⟨w2.heap.size + 1 + 1, 0, none⟩), .pointer (some ⟨w2.heap.size + 1 + 2, 0, none⟩)], .string ⟨x.toArray⟩, undef, undef, undef, undef, undef], defers := [] }) ?assign ?body ?done
  case assign =>
    intro l x W K hK
    gi_wp2
    exact hK
  case body =>
    rintro l pre x X ⟨⟨v, hv, hrow⟩, hbl⟩ hltx
    obtain ⟨i0, hi, hz0, hz1, hz2⟩ := info_parts infoS
    have hc := hv.cell
    have hf := hv.frozen
    have gB := hv.lt
    have hbX := hbl.size
    have HV := Lib.hid hv
    have HBL := Lib.hid hbl
    have HO := Lib.hid (show X.ownsRow w1.heap.size 9 1 v pre.length (pre.map strv) from hrow)
    clear hv hbl hrow
    gi_wp2_with (first | (gi_at_builtin; (refine wpListIn_append_lies _ rfl _ _ 39 rfl w1.heap.size 9 i0 (.string ByteArray.empty) 1 16 Try.underlying39 hi hz0 hz1 hz2 rfl (by decide) _ _ _ rfl (HO.out.alloc _) ⟨X.heap.size, 0, none⟩ 1 1 [.string ⟨x.toArray⟩] rfl rfl (cell_one_new _ _ _) (fun x hx => by simp at hx; subst hx; rfl) (by decide) (by unfold maxLen; omega) (by omega) (by simp; omega) _ rfl ?_); intro g' cap' wa hown hgrow hat hlt'; rw [World.size_alloc] at hat; obtain ⟨hv1, hk2, hv2, hr2, ho2⟩ := kpl_append HV.out HO.out (Nat.le_refl _) hbX hs2 hown hgrow hat hlt'; have hc1 := hv1.cell; have hf1 := hv1.frozen) | fail)
    refine ⟨ho2.from _, hk2, ⟨_, hv2, ?_⟩, HBL.out.trans hk2.1⟩
    unfold Texts
    rw [List.length_append, List.map_append]
    exact hr2
  case done =>
    rintro D ys X hD rfl ⟨⟨v, hv, hrow⟩, hBl⟩ hK
    have hc := hv.cell
    gi_wp2
    refine ⟨by simp, .inl ⟨_, _, rfl, run_takeDeferred hK, ?_⟩⟩
    obtain ⟨v', hv', hr'⟩ := OwnFrom.putObj (s := lpathsGo L n 0 [47]) (Own.from (listAt_own w1.heap.size w2.heap.size) w3.heap.size) (.deferred none) ⟨v, hv, hrow⟩ hD hK rfl
    have hv2 : Boxed (X.putObj D (.deferred none)) w2.heap.size 39 v := (World.putObj_heap_other (by omega)).trans hv
    obtain rfl := Boxed.one hv' hv2
    exact ⟨_, results_tmp rfl _ _ _, _, rfl, texts_lessL hr' HB1.out.size, HEND.out _ (hBl.trans (belowK_b (w := w1) (Nat.le_refl _) X D _ _ (by omega) hK rfl rfl))⟩
end Go.Proofs.Ytdpfnnhlneapbaa
