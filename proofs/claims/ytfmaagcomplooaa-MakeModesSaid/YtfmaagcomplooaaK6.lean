/-
  Rows of texts that lie anywhere in a block: read, cut, appended to; the block of a way, and what its calls leave as it was.
  A region that draws its order, in a round of a range over a function: what is shown for it as for any code (whatever the order) holds in the round.
  The law of a range over a function whose rounds change what the iterator goes by: a state of one's own in the place of the list of what was handed out.
  slices.Backward over a row of texts: each with its place, the last one first.
-/
import Derived.Deep.AppendSrc
import Derived.RangeFuncBox
import Derived.RangeFuncWrites
import Derived.Lib.Hide
import Derived.Test.YtfmaagcomplooaaK1
import Derived.RangeFuncLeaves
import Derived.RangeFuncNested
import Derived.RangeFuncBound
import Derived.RangeFuncCalls
import Derived.Shelf.Abstract
import Derived.WalkKit
import Derived.OwnWalkIn
import Derived.OrdersIn
import Derived.Orders
import Derived.Deep.Quiet
import Derived.OrdersHeld
import Derived.Scope
import Derived.WalkMore
import Derived.Test.YtfmaagcomplooaaProg
import Derived.Test.YtfmaagcomplooaaK5
namespace Go.Proofs.Ytfmaagcomplooaa
set_option maxRecDepth 100000
open Go Go.RowKit

/-- The slice v reads as the texts L. -/
def View (w : World) (v : Value) (L : List (List UInt8)) : Prop :=
  ∃ a cap, v = .slice a L.length cap ∧ L.length ≤ cap ∧ cap ≤ maxLen ∧ ∀ i (hi : i < L.length), ∃ b o, a = some ⟨b, o, none⟩ ∧ w.cell? ⟨b, o + i, none⟩ = some (strv L[i])
/-- The slice v holds the texts L in a row of one's own, from block B on. -/
def Held (B : Nat) (w : World) (v : Value) (L : List (List UInt8)) : Prop :=
  (v = .slice none 0 0 ∧ L = []) ∨ ∃ g o cap cur, v = .slice (some ⟨g, o, none⟩) L.length cap ∧ B ≤ g ∧ L.length ≤ cap ∧ cap ≤ maxLen ∧ w.heap[g]? = some (.cells cur 9 (0, 0)) ∧ o + cap ≤ cur.size ∧ ∀ i (hi : i < L.length), cur[o + i]? = some (strv L[i])

theorem cell_in {w : World} {g i : Nat} {cur : Array Value} {t : TypeId} {fr : Nat × Nat} {u : Value} (h : w.heap[g]? = some (.cells cur t fr)) (hi : cur[i]? = some u) : w.cell? ⟨g, i, none⟩ = some u := by
  simp only [World.cell?, h]
  simpa using hi

theorem Held.view {B : Nat} {w : World} {v : Value} {L : List (List UInt8)} (h : Held B w v L) : View w v L := by
  rcases h with ⟨rfl, rfl⟩ | ⟨g, o, cap, cur, rfl, -, h2, h3, h4, -, h6⟩
  · exact ⟨none, 0, rfl, Nat.le_refl _, Nat.zero_le _, fun i hi => absurd hi (Nat.not_lt_zero _)⟩
  · exact ⟨_, cap, rfl, h2, h3, fun i hi => ⟨g, o, rfl, cell_in h4 (h6 i hi)⟩⟩
theorem Texts.held {B : Nat} {w : World} {v : Value} {L : List (List UInt8)} (h : Texts B w v L) : Held B w v L := by
  obtain ⟨h1, h2 | ⟨g, cap, cur, rfl, hg, hh, hn, hm, hs, ht⟩⟩ := h
  · obtain ⟨rfl, hn⟩ := h2
    exact Or.inl ⟨rfl, List.length_eq_zero_iff.1 hn⟩
  · refine Or.inr ⟨g, 0, cap, cur, rfl, hg, hn, hm, hh, by omega, fun i hi => ?_⟩
    have e1 : (cur.toList.take (L.length * 1))[i]? = (L.map strv)[i]? := by rw [ht]
    rw [List.getElem?_take, if_pos (by omega), List.getElem?_map, List.getElem?_eq_getElem hi] at e1
    rw [Nat.zero_add, ← Array.getElem?_toList]
    exact e1
theorem Texts.view {B : Nat} {w : World} {v : Value} {L : List (List UInt8)} (h : Texts B w v L) : View w v L := h.held.view
theorem View.below {w w' : World} {v : Value} {L : List (List UInt8)} (h : View w v L) (hb : Below w.heap.size w w') : View w' v L := by
  obtain ⟨a, cap, h1, h2, h3, h4⟩ := h
  refine ⟨a, cap, h1, h2, h3, fun i hi => ?_⟩
  obtain ⟨b, o, e1, e2⟩ := h4 i hi
  exact ⟨b, o, e1, cell_below hb e2⟩
theorem Held.kept {B : Nat} {w w' : World} {v : Value} {L : List (List UInt8)} (h : Held B w v L) (hk : ∀ g, v.ownBlock = some g → w'.heap[g]? = w.heap[g]?) : Held B w' v L := by
  rcases h with h | ⟨g, o, cap, cur, rfl, h1, h2, h3, h4, h5, h6⟩
  · exact Or.inl h
  · exact Or.inr ⟨g, o, cap, cur, rfl, h1, h2, h3, (hk g rfl).trans h4, h5, h6⟩
theorem Held.less {B B' : Nat} {w : World} {v : Value} {L : List (List UInt8)} (h : Held B w v L) (hB : B' ≤ B) : Held B' w v L := by
  rcases h with h | ⟨g, o, cap, cur, rfl, h1, h2⟩
  · exact Or.inl h
  · exact Or.inr ⟨g, o, cap, cur, rfl, by omega, h2⟩
theorem Held.own {B : Nat} {w : World} {v : Value} {L : List (List UInt8)} (h : Held B w v L) {g : Nat} (hg : v.ownBlock = some g) : B ≤ g ∧ ∃ cur, w.heap[g]? = some (.cells cur 9 (0, 0)) := by
  rcases h with ⟨rfl, -⟩ | ⟨g', o, cap, cur, rfl, h1, -, -, h4, -⟩
  · cases hg
  · obtain rfl : g' = g := by simpa [Value.ownBlock] using hg
    exact ⟨h1, cur, h4⟩
/-- The first or the last one is cut off. -/
theorem Held.tail {B : Nat} {w : World} {x : List UInt8} {L : List (List UInt8)} {g o cap : Nat} (h : Held B w (.slice (some ⟨g, o, none⟩) (L.length + 1) cap) (x :: L)) : Held B w (.slice (if cap = 1 then some ⟨g, o, none⟩ else some ⟨g, o + 1, none⟩) L.length (cap - 1)) L := by
  rcases h with ⟨h, -⟩ | ⟨g', o', cap', cur, e, h1, h2, h3, h4, h5, h6⟩
  · cases h
  · simp only [Value.slice.injEq, Option.some.injEq, Addr.mk.injEq, List.length_cons] at e h2
    obtain ⟨⟨rfl, rfl, -⟩, -, rfl⟩ := e
    by_cases hc : cap = 1
    · rw [if_pos hc]
      have h0 : L = [] := List.length_eq_zero_iff.1 (by omega)
      subst h0
      exact Or.inr ⟨g, o, cap - 1, cur, rfl, h1, by simp, by unfold maxLen at *; omega, h4, by omega, fun i hi => absurd hi (Nat.not_lt_zero _)⟩
    · rw [if_neg hc]
      refine Or.inr ⟨g, o + 1, cap - 1, cur, rfl, h1, by omega, by unfold maxLen at *; omega, h4, by omega, fun i hi => ?_⟩
      have := h6 (i + 1) (by simp only [List.length_cons]; omega)
      rw [show o + 1 + i = o + (i + 1) by omega, this]
      rfl
theorem Held.init {B : Nat} {w : World} {x : List UInt8} {L : List (List UInt8)} {g o cap : Nat} (h : Held B w (.slice (some ⟨g, o, none⟩) (L.length + 1) cap) (L ++ [x])) : Held B w (.slice (some ⟨g, o, none⟩) L.length cap) L := by
  rcases h with ⟨h, -⟩ | ⟨g', o', cap', cur, e, h1, h2, h3, h4, h5, h6⟩
  · cases h
  · simp only [Value.slice.injEq, Option.some.injEq, Addr.mk.injEq, List.length_append, List.length_cons, List.length_nil] at e h2
    obtain ⟨⟨rfl, rfl, -⟩, -, rfl⟩ := e
    refine Or.inr ⟨g, o, cap, cur, rfl, h1, by omega, h3, h4, h5, fun i hi => ?_⟩
    have := h6 i (by simp only [List.length_append, List.length_cons, List.length_nil]; omega)
    rw [this, List.getElem_append_left hi]
theorem View.tail {w : World} {x : List UInt8} {L : List (List UInt8)} {b o cap : Nat} (h : View w (.slice (some ⟨b, o, none⟩) (L.length + 1) cap) (x :: L)) : View w (.slice (if cap = 1 then some ⟨b, o, none⟩ else some ⟨b, o + 1, none⟩) L.length (cap - 1)) L := by
  obtain ⟨a, cap', e, h1, h2, h3⟩ := h
  simp only [Value.slice.injEq, List.length_cons] at e h1
  obtain ⟨rfl, -, rfl⟩ := e
  refine ⟨_, cap - 1, rfl, by omega, by unfold maxLen at *; omega, fun i hi => ?_⟩
  obtain ⟨b', o', e1, e2⟩ := h3 (i + 1) (by simp only [List.length_cons]; omega)
  simp only [Option.some.injEq, Addr.mk.injEq] at e1
  obtain ⟨rfl, rfl, -⟩ := e1
  refine ⟨b, o + 1, by rw [if_neg (by omega)], ?_⟩
  rw [show o + 1 + i = o + (i + 1) by omega, e2]
  rfl
theorem View.init {w : World} {x : List UInt8} {L : List (List UInt8)} {b o cap : Nat} (h : View w (.slice (some ⟨b, o, none⟩) (L.length + 1) cap) (L ++ [x])) : View w (.slice (some ⟨b, o, none⟩) L.length cap) L := by
  obtain ⟨a, cap', e, h1, h2, h3⟩ := h
  simp only [Value.slice.injEq, List.length_append, List.length_cons, List.length_nil] at e h1
  obtain ⟨rfl, -, rfl⟩ := e
  refine ⟨_, cap, rfl, by omega, h2, fun i hi => ?_⟩
  obtain ⟨b', o', e1, e2⟩ := h3 i (by simp only [List.length_append, List.length_cons, List.length_nil]; omega)
  refine ⟨b', o', e1, ?_⟩
  rw [e2, List.getElem_append_left hi]

theorem add_n (b o n : Nat) : (⟨b, o, none⟩ : Addr).add n = ⟨b, o + n, none⟩ := by
  unfold Addr.add
  split
  · rename_i h
    rw [h]
    rfl
  · rfl
theorem View.src {w : World} {x : Value} {L : List (List UInt8)} (h : View w x L) : Src Try.prog 1 42 x L.length (L.map strv) w := by
  obtain ⟨a, cap, rfl, h1, h2, h3⟩ := h
  cases a with
  | none =>
    have h0 : L = [] := by
      cases L with
      | nil => rfl
      | cons y r =>
        obtain ⟨b, o, e, -⟩ := h3 0 (by simp)
        cases e
    subst h0
    exact Src.ofNil w Try.underlying42 cap
  | some a =>
    refine Src.ofSlice w Try.underlying42 a L.length cap _ (by simp) (fun j u hu => ?_) (fun u hu => ?_)
    · rw [List.getElem?_map] at hu
      by_cases hj : j < L.length
      · rw [List.getElem?_eq_getElem hj] at hu
        obtain ⟨b, o, e, hc⟩ := h3 j hj
        simp only [Option.some.injEq] at e
        subst e
        rw [add_n, hc]
        exact hu
      · rw [List.getElem?_eq_none (by omega)] at hu
        cases hu
    · obtain ⟨z, -, rfl⟩ := List.mem_map.1 hu
      rfl

theorem info_str : ∃ i, Try.prog.info? 9 = some i ∧ i.zero = some (.string ByteArray.empty) ∧ i.size = 1 ∧ i.bytes = 16 := info_parts infoS

/-- append. -/
theorem run_append_held {B : Nat} {w : World} {v x : Value} {L L2 : List (List UInt8)} (h : Held B w v L) (hx : View w x L2) (hn : L.length + L2.length ≤ 1048576) (hB : B ≤ w.heap.size) (ty : TypeId) :
    ∃ v' w', (Builtin.append_ #[42, 42] ty #[v, x]).run Try.prog w = .ok v' w' ∧ Held B w' v' (L ++ L2) ∧ w.grownBy w' v.ownBlock ∧ ∀ k, v'.ownBlock = some k → v.ownBlock = some k ∨ w.heap.size ≤ k := by
  obtain ⟨i0, hi, hz0, hz1, hz2⟩ := info_str
  have hs := hx.src
  rw [← hz1] at hs
  have hlen : (L2.map strv).length = L2.length := by simp
  have hcell : ∀ i (hi : i < (L ++ L2).length), (L.map strv ++ L2.map strv)[i]? = some (strv (L ++ L2)[i]) := fun i hi => by
    rw [← List.map_append, List.getElem?_map, List.getElem?_eq_getElem hi]
    rfl
  -- a new row
  have grow : ∀ (base : Option Addr) (sCap : Nat) (row : Option Nat), sCap < L.length + L2.length → (Builtin.firstCells i0.size L.length (.slice base L.length sCap)).run Try.prog w.drew = .ok (L.map strv).toArray w.drew →
      ∃ v' w', (Builtin.append_ #[42, 42] ty #[.slice base L.length sCap, x]).run Try.prog w = .ok v' w' ∧ Held B w' v' (L ++ L2) ∧ w.grownBy w' row ∧ ∀ k, v'.ownBlock = some k → row = some k ∨ w.heap.size ≤ k := by
    intro base sCap row hlt hold
    have hr := run_append_grow_src w 42 42 ty 9 i0 (.string ByteArray.empty) Try.underlying42 hi hz0 base L.length sCap (L.map strv) hold x L2.length (L2.map strv) hs hlt (by omega) (growslice_fits (by omega) (by rw [hz2]; omega))
    refine ⟨_, _, hr, Or.inr ⟨w.heap.size, 0, _, _, by rw [List.length_append], hB, ?_, ?_, heap_alloc_new w.drew _, ?_, fun i hi => ?_⟩, ⟨rfl, rfl, rfl, by simp, fun k hk _ => Below.heap_alloc w.drew _ k hk⟩, fun k hk => Or.inr (by simp only [Value.ownBlock, Option.some.injEq] at hk; omega)⟩
    · rw [List.length_append]; exact grownCap_ge w _ sCap _
    · exact grownCap_le_maxLen w _ sCap _ (by unfold maxLen; omega)
    · have hge := grownCap_ge w (L.length + L2.length) sCap 9
      simp only [Array.size_append, List.size_toArray, List.length_append, List.length_map, size_zeroCells]
      show _ ≤ _ + _ * 1
      omega
    · have h1 := hcell i hi
      have hi' : i < (L.map strv ++ L2.map strv).length := by simpa using hi
      rw [Nat.zero_add, Array.getElem?_append_left (by simpa using hi')]
      rw [List.getElem?_toArray]
      exact h1
  rcases h with ⟨rfl, rfl⟩ | ⟨g, o, cap, cur, rfl, h1, h2, h3, h4, h5, h6⟩
  · by_cases hm : L2 = []
    · subst hm
      refine ⟨.slice none 0 0, w, ?_, Or.inl ⟨rfl, rfl⟩, ⟨rfl, rfl, rfl, Nat.le_refl _, fun _ _ _ => rfl⟩, fun k hk => by cases hk⟩
      have hc := hs.cells
      have hl := hs.len
      simp only [List.length_nil, List.map_nil] at hc hl
      have hl0 : ∀ w', (Builtin.lenOf (.slice none 0 0)).run Try.prog w' = .ok 0 w' := fun _ => rfl
      simp [Builtin.append_, run_underlying Try.underlying42, sizeOf, typeInfo, hi, hl, hc]
    · have hpos : 0 < L2.length := by
        cases L2 with
        | nil => exact absurd rfl hm
        | cons y r => simp
      exact grow none 0 _ (by simpa using hpos) (run_firstCells_none w.drew i0.size 0 0 0)
  · by_cases hroom : L.length + L2.length ≤ cap
    · have hst := run_storeCells_at Try.prog g (o + L.length) 9 (L2.map strv) 0 cur w h4 (by rw [hlen]; omega) hs.one
      simp only [Nat.add_zero] at hst
      have hc := hs.cells
      have hl := hs.len
      have hrun : (Builtin.append_ #[42, 42] ty #[.slice (some ⟨g, o, none⟩) L.length cap, x]).run Try.prog w = .ok (.slice (some ⟨g, o, none⟩) (L.length + L2.length) cap)
          (w.setRow g (cur.toList.take (o + L.length) ++ L2.map strv ++ cur.toList.drop (o + L.length + (L2.map strv).length)).toArray) := by
        rw [hz1] at hc
        simp [Builtin.append_, run_underlying Try.underlying42, sizeOf, typeInfo, hi, hz1, hl, hc, hroom, Addr.add_lit, hst]
      refine ⟨_, _, hrun, Or.inr ⟨g, o, cap, _, by rw [List.length_append], h1, by rw [List.length_append]; omega, h3, setRow_heap w g cur _ 9 _ h4, ?_, fun i hi => ?_⟩, ⟨rfl, rfl, rfl, by simp, fun k _ hk => setRow_other w g k _ (fun e => hk (by simp [Value.ownBlock, e]))⟩, fun k hk => Or.inl hk⟩
      · simp only [List.size_toArray, List.length_append, List.length_take, List.length_drop, List.length_map, Array.length_toList]
        omega
      · have hci := hcell i hi
        rw [List.length_append] at hi
        rw [List.getElem?_toArray]
        have hz : (cur.toList.take (o + L.length)).length = o + L.length := by
          rw [List.length_take, Array.length_toList]
          exact Nat.min_eq_left (show o + L.length ≤ cur.size by omega)
        by_cases hiL : i < L.length
        · have hlt : o + i < (cur.toList.take (o + L.length)).length := by omega
          rw [List.append_assoc, List.getElem?_append_left hlt, List.getElem?_take, if_pos (show o + i < o + L.length by omega), Array.getElem?_toList, h6 i hiL, List.getElem_append_left hiL]
        · have hge : (cur.toList.take (o + L.length)).length ≤ o + i := by omega
          have hlt : i - L.length < (L2.map strv).length := by omega
          rw [List.append_assoc, List.getElem?_append_right hge, hz, show o + i - (o + L.length) = i - L.length by omega, List.getElem?_append_left hlt]
          rw [List.getElem?_append_right (by rw [List.length_map]; omega), List.length_map] at hci
          exact hci
    · refine grow _ cap _ (by omega) ?_
      have hf := run_firstCells_some (P := Try.prog) w.drew i0.size L.length ⟨g, o, none⟩ L.length cap (L.map strv) (by rw [hz1]; simp) (fun j u hu => by
        rw [List.getElem?_map] at hu
        by_cases hj : j < L.length
        · rw [List.getElem?_eq_getElem hj] at hu
          rw [add_n]
          show w.cell? ⟨g, o + j, none⟩ = some u
          rw [cell_in h4 (h6 j hj)]
          exact hu
        · rw [List.getElem?_eq_none (by omega)] at hu
          cases hu)
      exact hf

theorem append_held {B : Nat} {w : World} {v x : Value} {L L2 : List (List UInt8)} (hT : Held B w v L) (hS : View w x L2) (hn : L.length + L2.length ≤ 1048576) (hB : B ≤ w.heap.size)
    {ops : Array Oper} {rest : List Oper} {o : Oper} {a : Act} {Q : Exit → Act → World → Prop} (hgd : o.guard = none) (s y : Operand)
    (ho : o.op = .call { callee := .builtin .append, args := #[s, y], argTypes := #[42, 42] }) (hs : a.eval s = v) (hx : a.eval y = x)
    (h : ∀ v' w', Held B w' v' (L ++ L2) → w.grownBy w' v.ownBlock → wpList Try.prog ops Q rest (a.put o.dst v') w') : wpList Try.prog ops Q (o :: rest) a w := by
  obtain ⟨v', w', hrun, h1, h2, -⟩ := run_append_held hT hS hn hB o.type
  refine wpList_plain hgd fun K hK => ?_
  unfold Oper.wp
  simp [execOp, ho, resolve, invoke, builtin, hs, hx, hrun, Result.andThen]
  exact hK _ _ (h v' w' h1 h2)

theorem step_append_held {B : Nat} {w : World} {v x : Value} {L L2 : List (List UInt8)} (hT : Held B w v L) (hS : View w x L2) (hn : L.length + L2.length ≤ 1048576) (hB : B ≤ w.heap.size)
    {ops : Array Oper} {o : Oper} {a : Act} {K : Act → World → Prop} {Q : Exit → Act → World → Prop} {E : Prop} (hgd : o.guard = none) (s y : Operand)
    (ho : o.op = Op.call { callee := Callee.builtin Builtin.append, args := #[s, y], argTypes := #[42, 42] }) (hs : a.eval s = v) (hx : a.eval y = x)
    (hK : ∀ v' w', Held B w' v' (L ++ L2) → w.grownBy w' v.ownBlock → (∀ k, v'.ownBlock = some k → v.ownBlock = some k ∨ w.heap.size ≤ k) → K (a.put o.dst v') w') :
    if Region.wanted o (yielded ops a.tmps) = true then Oper.wp Try.prog o a w K Q else E := by
  have hw : Region.wanted o (yielded ops a.tmps) = true := by simp [Region.wanted, hgd]
  rw [if_pos hw]
  obtain ⟨v', w', hrun, h1, h2, h3⟩ := run_append_held hT hS hn hB o.type
  unfold Oper.wp
  simp [execOp, ho, resolve, invoke, builtin, hs, hx, hrun, Result.andThen]
  exact hK _ _ h1 h2 h3

/-- No row of texts. -/
def notText : Obj → Bool
  | .cells _ t _ => t != 9
  | _ => true
/-- The way's block. -/
def WayAt (n₀ g : Nat) (T : Value × Value × Value) (W : World) (p : Int) (st : List (List UInt8)) (links : Int) : Prop :=
  g < n₀ ∧ ∃ v, W.heap[g]? = some (.cells #[T.1, T.2.1, T.2.2, .int .i64 p, v, .int .i64 links] 87 (0, 0)) ∧ Held n₀ W v st
/-- What a call on a way leaves as it was. -/
structure Moved (g : Nat) (W W' : World) : Prop where
  below : Below g W W'
  kept : ∀ (k : Nat) (o : Obj), W.heap[k]? = some o → k ≠ g → notText o = true → W'.heap[k]? = some o
theorem Moved.refl (g : Nat) (W : World) : Moved g W W := ⟨Below.refl _ _, fun _ _ h _ _ => h⟩
theorem Moved.trans {g : Nat} {A B C : World} (h : Moved g A B) (k : Moved g B C) : Moved g A C := ⟨h.below.trans k.below, fun i o hi hg ho => k.kept i o (h.kept i o hi hg ho) hg ho⟩
theorem Moved.of_below {g : Nat} {W W' : World} (h : Below W.heap.size W W') (hg : g ≤ W.heap.size) : Moved g W W' := ⟨h.mono hg, fun k _o hk _ _ => (h.block k (Array.getElem?_eq_some_iff.1 hk).1).trans hk⟩
theorem not_text {o : Obj} (h : o.isCells = false) : notText o = true := by cases o <;> first | rfl | cases h
theorem Moved.set {g : Nat} (W : World) (i : Nat) (u : Value) : Moved g W (W.setCell ⟨g, i, none⟩ u) :=
  ⟨(Below.refl _ _).setCell (p := ⟨g, i, none⟩) (Nat.le_refl _) _, fun k _o hk hg _ => (Below.heap_setCell W ⟨g, i, none⟩ u k hg).trans hk⟩
theorem Moved.grown {n₀ g : Nat} {W W' : World} {v : Value} {st : List (List UInt8)} (hg : W.grownBy W' v.ownBlock) (hv : Held n₀ W v st) (hn : g < n₀) (hs : g ≤ W.heap.size) : Moved g W W' := by
  refine ⟨(Below.refl _ _).grown hg hs (fun k hk => by have := (hv.own hk).1; omega), fun k o hk _ ho => ?_⟩
  refine (hg.block k (Array.getElem?_eq_some_iff.1 hk).1 (fun e => ?_)).trans hk
  obtain ⟨-, cur, hc⟩ := hv.own e.symm
  rw [hc] at hk
  cases hk
  cases ho

theorem set_heap {W : World} {g : Nat} {cs : Array Value} {t : TypeId} {fr : Nat × Nat} (h : W.heap[g]? = some (.cells cs t fr)) (i : Nat) (u : Value) : (W.setCell ⟨g, i, none⟩ u).heap[g]? = some (.cells (cs.setIfInBounds i u) t fr) := by
  obtain ⟨hlt, hk⟩ := Array.getElem?_eq_some_iff.1 h
  show (W.heap.modify g _)[g]? = _
  rw [Array.getElem?_eq_getElem (by rw [Array.size_modify]; exact hlt), Array.getElem_modify_self, hk]
  rfl
theorem held_set {n₀ g : Nat} {W : World} {v : Value} {st : List (List UInt8)} (h : Held n₀ W v st) (hg : g < n₀) (i : Nat) (u : Value) : Held n₀ (W.setCell ⟨g, i, none⟩ u) v st :=
  h.kept fun k hk => Below.heap_setCell W ⟨g, i, none⟩ u k (by have := (h.own hk).1; show k ≠ g; omega)
theorem WayAt.lt {n₀ g : Nat} {T : Value × Value × Value} {W : World} {p : Int} {st : List (List UInt8)} {links : Int} (h : WayAt n₀ g T W p st links) : g < W.heap.size := by
  obtain ⟨_, v, h, -⟩ := h
  exact (Array.getElem?_eq_some_iff.1 h).1
theorem WayAt.below {n₀ g : Nat} {T : Value × Value × Value} {W W' : World} {p : Int} {st : List (List UInt8)} {links : Int} (h : WayAt n₀ g T W p st links) (hb : Below W.heap.size W W') : WayAt n₀ g T W' p st links := by
  have hlt := h.lt
  obtain ⟨hg, v, h1, h2⟩ := h
  refine ⟨hg, v, (hb.block g hlt).trans h1, h2.kept fun k hk => ?_⟩
  obtain ⟨-, cur, hc⟩ := h2.own hk
  exact hb.block k (Array.getElem?_eq_some_iff.1 hc).1
theorem WayAt.drew {n₀ g : Nat} {T : Value × Value × Value} {W : World} {p : Int} {st : List (List UInt8)} {links : Int} (h : WayAt n₀ g T W p st links) : WayAt n₀ g T W.drew p st links := h
/-- What turns no cells leaves a way. -/
theorem WayAt.own {n₀ g : Nat} {T : Value × Value × Value} {W W' : World} {p : Int} {st : List (List UInt8)} {links : Int} (h : WayAt n₀ g T W p st links) {row : Option Nat} (hg : W.grownBy W' row) (hr : ∀ r, row = some r → ∃ o : Obj, W.heap[r]? = some o ∧ o.isCells = false) : WayAt n₀ g T W' p st links := by
  obtain ⟨h0, v, h1, h2⟩ := h
  refine ⟨h0, v, (grownBy_keeps_cells hg hr h1 rfl).trans h1, h2.kept fun k hk => ?_⟩
  obtain ⟨-, cur, hc⟩ := h2.own hk
  exact grownBy_keeps_cells hg hr hc rfl
end Go.Proofs.Ytfmaagcomplooaa

namespace Go.Proofs.Ytfmaagcomplooaa
set_option maxRecDepth 100000
open Go Go.RowKit

/-- No operation defers a call. -/
def noDefers (ops : Array Oper) : Bool := ops.toList.all fun o => match o.op with | .defer _ => false | _ => true
theorem noDefers_spec {ops : Array Oper} (h : noDefers ops = true) {i : Nat} {o : Oper} (ho : ops[i]? = some o) : ∀ c, o.op ≠ .defer c := by
  intro c hc
  have h1 := List.all_eq_true.1 h o (by
    obtain ⟨hi, rfl⟩ := Array.getElem?_eq_some_iff.1 ho
    simp)
  rw [hc] at h1
  cases h1

/-- The end of a region that neither panics nor leaves. -/
def onlyN (K : Act → World → Prop) (e : Exit) (a : Act) (w : World) : Prop := e = .normal ∧ K a w

theorem oper_in {ro : Option Nat} {n : Nat} {P : Program} {o : Oper} {a : Act} {w : World} {K K' R : Act → World → Prop} {Q : Exit → Act → World → Prop} (hd : ∀ c, o.op ≠ .defer c)
    (h : o.wp P a w K (onlyN R)) (hK : ∀ a w, K a w → K' a w) : o.wpIn { Fence.wide with round := ro } n P a w K' Q := by
  refine ⟨fun _ _ => trivial, ?_⟩
  rw [Oper.semAt_eq _ _ _ hd]
  unfold Oper.wp at h
  generalize (execOp a.eval o).run P w = r at h ⊢
  cases r with
  | ok x w' =>
    cases x with
    | value v => exact hK _ _ h
    | skip => exact hK _ _ h
    | defer d => exact hK _ _ h
    | enter f args =>
      refine ⟨fun h0 => (by cases h0), ?_⟩
      refine (show CallsIn Fence.wide (n - 1) P f args w' _ from callsIn_wide.2 (Calls.mono h fun e w'' he => ?_))
      cases e with
      | returned v => exact hK _ _ he
      | panicked c => exact absurd he.1 (by simp)
      | outgrown => obtain ⟨_, _, h1, _⟩ := he; cases h1
    | row row args =>
      refine ⟨fun h0 => (by cases h0), ?_⟩
      intro c cs _
      obtain ⟨v, w'', hr, hs⟩ := h c cs
      exact ⟨v, w'', hK _ _ hr, stepsIn_wide.2 hs⟩
    | _ => exact h.elim
  | halt x w' =>
    cases x with
    | panic v => exact absurd h.1 (by simp)
    | _ => exact h.elim

theorem op_in {ro : Option Nat} {n : Nat} {P : Program} {ops : Array Oper} {i : Nat} {a : Act} {w : World} {K K' R : Act → World → Prop} {Q : Exit → Act → World → Prop} (hd : noDefers ops = true)
    (h : wpOp P ops (onlyN R) i K a w) (hK : ∀ a w, K a w → K' a w) : wpOpIn { Fence.wide with round := ro } n P ops Q i K' a w := by
  unfold wpOp at h
  unfold wpOpIn
  cases ho : ops[i]? with
  | none => simp only [ho] at h ⊢; exact hK _ _ h
  | some o =>
    simp only [ho] at h ⊢
    split
    · rename_i hw
      rw [if_pos hw] at h
      rcases h with h | ⟨_, _, _, h1, _⟩
      · exact oper_in (noDefers_spec hd ho) h hK
      · cases h1
    · rename_i hw
      rw [if_neg hw] at h
      exact ⟨fun _ _ => trivial, hK _ _ h⟩

theorem any_in {ro : Option Nat} {n : Nat} {P : Program} {md : Region.Mode} {ops : Array Oper} {R : Act → World → Prop} {Q : Exit → Act → World → Prop} (hd : noDefers ops = true) (hQ : ∀ a w, R a w → Q .normal a w) :
    ∀ (fuel : Nat) (listed : Array Bool) (a : Act) (w : World), wpAny P md ops (onlyN R) fuel listed a w → wpAnyIn { Fence.wide with round := ro } n P md ops Q fuel listed a w
  | 0, _, _, _, h => ⟨h.1, hQ _ _ h.2.2⟩
  | fuel + 1, _listed, _a, _w, h => ⟨fun h0 => hQ _ _ (h.1 h0).2, fun i hi => op_in hd (h.2 i hi) fun a' w' h' => any_in hd hQ fuel _ a' w' h'⟩

/-- A region in a round, whatever its order. -/
theorem region_in {ro : Option Nat} {n : Nat} {P : Program} {id : Nat} {ops : Array Oper} {Q : Exit → Act → World → Prop} {a : Act} {w : World} (hm : P.follows .mixedOrders = true) (hd : noDefers ops = true)
    (h : wpAny P .any ops (onlyN (Q .normal)) ops.size (Array.replicate ops.size false) a w.drew) : (Code.region id ops true).wpIn { Fence.wide with round := ro } n P Q a w :=
  wpIn_region_any hm (any_in hd (fun _ _ h => h) _ _ _ _ h)

/-- A quiet region in a round. -/
theorem region_in_quiet {ro : Option Nat} {n : Nat} {P : Program} {id : Nat} {ops : List Oper} {C : World → Prop} {Q : Exit → Act → World → Prop} {a : Act} {w : World} (hm : P.follows .mixedOrders = true) (hd : noDefers ops.toArray = true)
    (hB : Region.lexB .any ops.toArray = true) (hC : C w.drew)
    (h : wpQuiet P ops.toArray C (fun a' => ∀ w', C w' → Q .normal a' w') ops a) : (Code.region id ops.toArray true).wpIn { Fence.wide with round := ro } n P Q a w := by
  refine region_in hm hd ?_
  simp only [Region.lexB, Bool.and_eq_true] at hB
  refine wpAny_of_quiet (Q := fun a' => ∀ w', C w' → Q .normal a' w') (fun _ w' hw' h => ⟨rfl, h w' hw'⟩) _ _ _ _ hC ?_
  have := wpAnyQ_lex (C := C) (md := .any) hB.1 ops 0 (Array.replicate ops.toArray.size false) a (by simp) (by simpa using hB.2) (by simpa using h)
  simpa using this

/-- A region with held cells in a round. -/
theorem region_in_held {ro : Option Nat} {n : Nat} {P : Program} {id : Nat} {ops : Array Oper} {S : World → Prop} {Q : Exit → Act → World → Prop} {a : Act} {w : World} (hm : P.follows .mixedOrders = true) (hd : noDefers ops = true)
    (h : wpAnyH P .any ops (onlyN (Q .normal)) S ops.size (Array.replicate ops.size false) a w.drew) : (Code.region id ops true).wpIn { Fence.wide with round := ro } n P Q a w :=
  region_in hm hd (wpAny_of_held _ _ _ _ h)

/-! ### A function that holds a label -/

theorem stepR_scope {P : Program} {b : Frame} {a : Act} {k : List Item} {cs : List Frame} {w : World} {c : Code} : step P (lone (b.atR a (.code (.scope c) :: k)) cs w) = .next (lone (b.atR a (.code c :: .inScope c :: k)) cs w) :=
  step_lone_go (by simp [stepG, stepG.exec, Frame.atR])
theorem stepR_inScope {P : Program} {b : Frame} {a : Act} {k : List Item} {cs : List Frame} {w : World} {c : Code} : step P (lone (b.atR a (.inScope c :: k)) cs w) = .next (lone (b.atR a k) cs w) :=
  step_lone_go (by simp [stepG, stepG.exec, Frame.atR])
theorem scope_in {F : Fence} {n : Nat} {P : Program} {Q : Exit → Act → World → Prop} {a : Act} {w : World} {c : Code} (hro : F.round = none) (h : c.wpIn F n P (Exit.noGoto Q) a w) : (Code.scope c).wpIn F n P Q a w := by
  intro b k cs hb0 hb hr
  have h0 : (lone (b.atR a (.code (.scope c) :: k)) cs w).fenced P F := fenced_calm hb hr rfl
  have hbn : b.roundOf = none := hb0.trans hro
  obtain ⟨e, a₁, w₁, hq, harr⟩ := h b (.inScope c :: k) cs hb0 hb hr
  cases e with
  | normal => exact ⟨.normal, a₁, w₁, hq, .head h0 stepR_scope (StepsIn.trans harr (.one (fenced_calm hb hr rfl) stepR_inScope))⟩
  | exit id => exact ⟨.exit id, a₁, w₁, hq, fun k' hk => .head h0 stepR_scope (harr.1 k' (by simp [exitTo, hk])), fun hs => (by rw [hbn] at hs; cases hs)⟩
  | goto l => exact hq.elim
  | ret => exact ⟨_, a₁, w₁, hq, .of_steps (.one h0 stepR_scope) harr⟩
  | panic ch => exact ⟨_, a₁, w₁, hq, .of_steps (.one h0 stepR_scope) harr⟩
  | outgrown => exact ⟨_, a₁, w₁, hq, .of_steps (.one h0 stepR_scope) harr⟩
theorem label_in {F : Fence} {n : Nat} {P : Program} {Q : Exit → Act → World → Prop} {a : Act} {w : World} {l : Nat} {c : Code} (h : c.wpIn F n P Q a w) : (Code.seq (.label l) c).wpIn F n P Q a w := wpIn_seq (wpIn_label h)

/-! ### A range over a function whose rounds change what the iterator goes by -/

/-- How the body of a round may be left. -/
def stPost {σ : Type} (B : Nat) (T : σ → Prop) (I : σ → World → Prop) (Ix : Code → World → Prop) (W : World) : Exit → Act → World → Prop
  | .normal, _, W' => KeepsFrom B W W' ∧ ∃ s', T s' ∧ I s' W'
  | .ret, _, W' => KeepsFrom B W W' ∧ Ix .ret W'
  | .exit id, _, W' => KeepsFrom B W W' ∧ Ix (.exit id) W'
  | .goto t, _, W' => KeepsFrom B W W' ∧ Ix (.goto t) W'
  | .panic _, _, _ => False
  | .outgrown, _, _ => False

/-- What an iterator owes a caller that keeps a state. -/
def SeqSt {σ : Type} (F : Fence) (n : Nat) (P : Program) (g : Nat) (lb : Array Value) (E : σ → Array Value) (I Ip : σ → World → Prop) (Nx : σ → σ → Prop) (S : World → Prop) (s0 : σ) : Prop :=
  ∀ (l : Nat) (G Jx : World → Prop) (W : World), (∀ A B, G A → KeepsOthers A B → G B) →
    (∀ s W1, Ip s W1 → G W1 → YieldAt F (n - 1) P l (E s) W1 fun e W' => (e = .returned (.bool true) ∧ ∃ s', Nx s s' ∧ I s' W' ∧ G W') ∨ (e = .returned (.bool false) ∧ Jx W')) →
    I s0 W → G W →
    CallsIn F n P g (#[.func (.yield l) #[] #[]] ++ lb) W fun e W' => (∃ v, e = .returned v) ∧ ((S W' ∧ G W') ∨ Jx W')

theorem range_st {σ : Type} {F : Fence} {n : Nat} {P : Program} {g : Operand} {ps : Array Tmp} {assign body : Code} {Q : Exit → Act → World → Prop} {a : Act} {w : World}
    (hro : F.round = none) (h1 : 1 ≤ n) {gf : Nat} {lb : Array Value} (hg : a.eval g = .func (.func gf) #[] lb) (hFg : F.fn gf) (eg : ∀ args w, (callFunc gf args).run P w = .ok (.enter gf args) w)
    {E : σ → Array Value} {I Ip : σ → World → Prop} {Nx : σ → σ → Prop} {S : World → Prop} {s0 : σ} (hseq : SeqSt F (n - 1) P gf lb E I Ip Nx S s0) (hps : ∀ s, (E s).size = ps.size)
    (Ix : Code → World → Prop) (hI : OwnFrom w.heap.size I) (hIp : OwnFrom w.heap.size Ip) (hIx : ∀ c, OwnFrom w.heap.size (fun (_ : Unit) W => Ix c W)) (hS : OwnFrom w.heap.size (fun (_ : Unit) W => S W)) (h0 : I s0 w) (a₁ : σ → Act)
    (hassign : ∀ (l : Nat) (s : σ) (W : World) (K : Act → World → Prop), K (a₁ s) W →
      assign.wpIn (F.inRound l) (n - 1 - 1) P (Exit.then K (fun _ _ _ => False)) { tmps := (ps.zip (E s)).foldl (fun t (p, v) => t.setIfInBounds p v) a.tmps, defers := [] } W)
    (hbody : ∀ (l : Nat) (s : σ) (W : World), Ip s W → body.wpIn (F.inRound l) (n - 1 - 1) P (stPost w.heap.size (Nx s) I Ix W) (a₁ s) W)
    (hdone : ∀ (D : Nat) (W : World), w.heap.size ≤ D → S W → W.heap[D]? = some (.deferred (some [])) → Q .normal { a with defers := { target := .collected D, args := #[] } :: a.defers } W)
    (hstop : ∀ (D : Nat) (c : Code) (W : World), w.heap.size ≤ D → Ix c W → W.heap[D]? = some (.deferred (some [])) → c.wpIn F n P Q { a with defers := { target := .collected D, args := #[] } :: a.defers } W) :
    (Code.rangeFunc g ps assign body).wpIn F n P Q a w := by
  refine wpIn_rangeFunc ?_
  intro fn hfn
  rw [hro]
  obtain ⟨rc, hrc⟩ : ∃ rc : LoopState → Option Code → Loop, rc = fun st pe => { state := st, pending := pe, fn, tmps := a.tmps, params := ps, assign, body, defers := w.heap.size } := ⟨_, rfl⟩
  obtain ⟨V, hV⟩ : ∃ V, V = (w.alloc (.deferred (some []))).alloc (.loop (rc .ready none)) := ⟨_, rfl⟩
  have hVl : V.heap[w.heap.size + 1]? = some (.loop (rc .ready none)) := by
    have h := World.alloc_heap_new (w.alloc (.deferred (some []))) (.loop (rc .ready none))
    rw [World.size_alloc, ← hV] at h
    exact h
  have hVk : V.heap[w.heap.size]? = some (.deferred (some [])) := by
    rw [hV]
    exact (Below.heap_alloc _ _ _ (by simp)).trans (World.alloc_heap_new w _)
  have hVI : I s0 V := by rw [hV]; exact hI.alloc _ (hI.alloc _ h0)
  refine ⟨w.heap.size + 1, [{ target := .collected w.heap.size, args := #[] }], V, { target := .fn (.func gf) lb, args := #[.func (.yield (w.heap.size + 1)) #[] #[]] }, V, gf, #[.func (.yield (w.heap.size + 1)) #[] #[]] ++ lb, V, ?_, ?_, ?_, ?_, fun _ => h1, ?_⟩
  · rw [hV, hrc]
    exact run_enterLoop_outer _ _ _ _ _
  · simp only [resolve, hg]
    simp [go_sem]
  · intro f' hf'
    simp [Target.leads] at hf'
    subst hf'
    exact hFg
  · simp [invoke, go_sem, eg]
  · refine (hseq (w.heap.size + 1) (fun W => W.heap[w.heap.size + 1]? = some (.loop (rc .ready none)) ∧ W.heap[w.heap.size]? = some (.deferred (some [])))
      (fun W => ∃ c, Ix c W ∧ W.heap[w.heap.size + 1]? = some (.loop (rc .done (some c))) ∧ W.heap[w.heap.size]? = some (.deferred (some []))) V
      (fun A B h hk => ⟨hk.same _ _ h.1 rfl, hk.same _ _ h.2 rfl⟩) ?_ hVI ⟨hVl, hVk⟩).mono ?_
    · rintro s W hi ⟨hl, hk⟩
      have hlt : w.heap.size + 1 < W.heap.size := (Array.getElem?_eq_some_iff.1 hl).1
      have hy := run_yield (P := P) (args := E s) hl (by rw [hrc]; exact hps s)
      rw [hrc] at hy
      have hbeg := run_beginRound (P := P) hl (by rw [hrc])
      refine ⟨fn, _, assign, body, hy, roundIn_of_wpIn hfn (hassign _ s W _ ⟨_, hbeg, ?_⟩)⟩
      obtain ⟨U, hU⟩ : ∃ U, U = W.putObj (w.heap.size + 1) (.loop { rc .ready none with state := .busy }) := ⟨_, rfl⟩
      have hUl : U.heap[w.heap.size + 1]? = some (.loop { rc .ready none with state := .busy }) := by rw [hU]; exact World.putObj_heap_same hlt
      have hUk : U.heap[w.heap.size]? = some (.deferred (some [])) := by rw [hU]; exact (World.putObj_heap_other (by omega)).trans hk
      have hUI : Ip s U := by rw [hU]; exact hIp.putObj _ hi (by omega) hl rfl
      rw [← hU]
      have fin : ∀ (jump : Option Code) (W3 : World), KeepsFrom w.heap.size U W3 →
          (Instr.endRound (w.heap.size + 1) jump).run P W3 = .ok (.bool jump.isNone) (W3.putObj (w.heap.size + 1) (.loop (rc (if jump.isNone then .ready else .done) jump))) ∧
          W3.heap[w.heap.size + 1]? = some (.loop { rc .ready none with state := .busy }) ∧
          (W3.putObj (w.heap.size + 1) (.loop (rc (if jump.isNone then .ready else .done) jump))).heap[w.heap.size + 1]? = some (.loop (rc (if jump.isNone then .ready else .done) jump)) ∧
          (W3.putObj (w.heap.size + 1) (.loop (rc (if jump.isNone then .ready else .done) jump))).heap[w.heap.size]? = some (.deferred (some [])) := fun jump W3 hk3 => by
        have hl3 := hk3.same _ _ (by omega) hUl rfl
        have := run_endRound (P := P) jump hl3
        rw [hrc] at this ⊢
        exact ⟨this, by rw [hrc] at hl3; exact hl3, World.putObj_heap_same (Array.getElem?_eq_some_iff.1 hl3).1, (World.putObj_heap_other (by omega)).trans (hk3.same _ _ (Nat.le_refl _) hUk rfl)⟩
      refine wpIn_mono (hbody _ s U hUI) ?_
      rintro e a3 W3 hp
      cases e with
      | normal =>
        obtain ⟨hk3, s', hn3, hi3⟩ := hp
        obtain ⟨hr, hl3, hl4, hk4⟩ := fin none W3 hk3
        exact ⟨_, _, hr, .inl ⟨rfl, s', hn3, hI.putObj _ hi3 (by omega) hl3 rfl, hl4, hk4⟩⟩
      | ret =>
        obtain ⟨hk3, hi3⟩ := hp
        obtain ⟨hr, hl3, hl4, hk4⟩ := fin (some .ret) W3 hk3
        exact ⟨_, _, hr, .inr ⟨rfl, .ret, (hIx _).putObj (s := ()) _ hi3 (by omega) hl3 rfl, hl4, hk4⟩⟩
      | exit id =>
        obtain ⟨hk3, hi3⟩ := hp
        obtain ⟨hr, hl3, hl4, hk4⟩ := fin (some (.exit id)) W3 hk3
        exact ⟨_, _, hr, .inr ⟨rfl, .exit id, (hIx _).putObj (s := ()) _ hi3 (by omega) hl3 rfl, hl4, hk4⟩⟩
      | goto t =>
        obtain ⟨hk3, hi3⟩ := hp
        obtain ⟨hr, hl3, hl4, hk4⟩ := fin (some (.goto t)) W3 hk3
        exact ⟨_, _, hr, .inr ⟨rfl, .goto t, (hIx _).putObj (s := ()) _ hi3 (by omega) hl3 rfl, hl4, hk4⟩⟩
      | panic ch => exact hp.elim
      | outgrown => exact hp.elim
    · rintro e W2 ⟨⟨v, rfl⟩, (⟨hi, hl, hk⟩ | ⟨c, hi, hl, hk⟩)⟩
      · exact ⟨none, _, by have := run_endLoop (P := P) hl (by rw [hrc]; simp); rw [hrc] at this; exact this, hdone _ _ (Nat.le_refl _) (hS.putObj (s := ()) _ hi (by omega) hl rfl) ((World.putObj_heap_other (by omega)).trans hk)⟩
      · exact ⟨some c, _, by have := run_endLoop (P := P) hl (by rw [hrc]; simp); rw [hrc] at this; exact this, hstop _ c _ (Nat.le_refl _) ((hIx c).putObj (s := ()) _ hi (by omega) hl rfl) ((World.putObj_heap_other (by omega)).trans hk)⟩
end Go.Proofs.Ytfmaagcomplooaa

namespace Go.Proofs.Ytfmaagcomplooaa
set_option maxRecDepth 100000
open Go Go.RowKit Go.Shelf

attribute [local go_sem] Oper.semAt_some

/-- The box and the row stand as they stood. -/
def KeepR (Bx : Nat) (v : Value) (W W' : World) : Prop := W'.heap[Bx]? = W.heap[Bx]? ∧ ∀ k, v.ownBlock = some k → W'.heap[k]? = W.heap[k]?
theorem keepR_t {Bx : Nat} {v : Value} {A B C : World} (h : KeepR Bx v A B) (k : KeepR Bx v B C) : KeepR Bx v A C := ⟨k.1.trans h.1, fun i hi => (k.2 i hi).trans (h.2 i hi)⟩
theorem keepR_b {Bx : Nat} {v : Value} {w : World} (hb : Bx < w.heap.size) (hv : ∀ k, v.ownBlock = some k → k < w.heap.size) (W : World) (l : Nat) (o o' : Obj) (hl : w.heap.size ≤ l) (_ : W.heap[l]? = some o) (_ : o.isCells = false) (_ : o.isWalk = false) : KeepR Bx v W (W.putObj l o') :=
  ⟨World.putObj_heap_other (by omega), fun k hk => World.putObj_heap_other (by have := hv k hk; omega)⟩

theorem drewN_grown (W : World) (m : Nat) : W.grownBy (W.drewN m) none := ⟨rfl, rfl, rfl, Nat.le_refl _, fun _ _ _ => rfl⟩

/-- The row and its box as they stand in a world. -/
def RowIn (Bx : Nat) (v : Value) (B : Nat) (N : List (List UInt8)) (W : World) : Prop := W.cell? ⟨Bx, 0, none⟩ = some v ∧ Held B W v N
theorem RowIn.kept {Bx B : Nat} {v : Value} {N : List (List UInt8)} {W W' : World} (h : RowIn Bx v B N W) (hk : KeepR Bx v W W') : RowIn Bx v B N W' :=
  ⟨(World.cell?_of_block (w := W) (a := ⟨Bx, 0, none⟩) hk.1).trans h.1, h.2.kept hk.2⟩

set_option maxRecDepth 100000 in
set_option maxHeartbeats 4000000 in
theorem back1_in (F : Fence) (hF : Open F) (n : Nat) (hn : 1 ≤ n) (l Bx B : Nat) (v : Value) (N : List (List UInt8)) (hN : N.length ≤ 1048576) (J Jx : List (Nat × List UInt8) → World → Prop)
    (_hdr : ∀ pre W m, J pre W → J pre (W.drewN m))
    (hY : ∀ pre x W, J pre W → pre.length < N.length → YieldAt F (n - 1) Try.prog l #[.int .i64 (x.1 : Nat), .string ⟨x.2.toArray⟩] W fun e W' =>
      (e = .returned (.bool true) ∧ J (pre ++ [x]) W' ∧ KeepR Bx v W W') ∨ (e = .returned (.bool false) ∧ Jx (pre ++ [x]) W'))
    (W : World) (hR : RowIn Bx v B N W) (h0 : J [] W) :
    CallsIn F n Try.prog 87 #[.func (.yield l) #[] #[], .pointer (some ⟨Bx, 0, none⟩)] W fun e W' => (∃ u, e = .returned u) ∧
      ((∃ ys, ys.map Prod.snd = N.reverse ∧ J ys W') ∨ (∃ pre, True ∧ Jx pre W')) := by
  have hro : F.round = none := hF.ro
  obtain ⟨hc, hheld⟩ := hR
  obtain ⟨na, nc, rfl, hc1, hc2, -⟩ := hheld.view
  have HR := Lib.hid (show RowIn Bx (.slice na N.length nc) B N W from ⟨hc, hheld⟩)
  unfold maxLen at hc2
  refine callsIn_of_wp Try.func87 rfl (hF.fn _) ?_ hro
  simp only [Try.ntmps87, List.size_toArray, List.length_cons, List.length_nil, Nat.reduceAdd, Nat.reduceSub, Array.replicate_succ, Array.replicate_zero, List.push_toArray, List.append_toArray, List.nil_append, List.cons_append]
  gi_wp2
  gi_loopw [3] (fun iv wr => ∃ (k : Nat) (D : List (Nat × List UInt8)), k ≤ N.length ∧ iv = .int .i64 ((k : Int) - 1) ∧ Hid (D.map Prod.snd = (N.drop k).reverse) ∧ D.length + k = N.length ∧ Hid (J D wr) ∧ Hid (RowIn Bx (.slice na N.length nc) B N wr)) (fun iv _ => (intOf iv + 1).toNat)
  case atStart => exact ⟨N.length, [], Nat.le_refl _, by go_num, by simp [Hid], by simp, h0, HR.out⟩
  case round =>
    obtain ⟨k, D, hk, rfl, hD, hDl, hJ, hrow⟩ := hrel
    have HROW := Lib.hid hrow.out
    have hcr := hrow.out.1
    cases k with
    | zero =>
      have hfin := Lib.hid (show D.map Prod.snd = N.reverse by have := hD.out; simpa using this)
      clear hcr
      gi_wp2
      go_end0
      exact ⟨⟨_, rfl⟩, .inl ⟨D, hfin.out, hJ.out⟩⟩
    | succ k =>
      obtain ⟨na', nc', e, -, -, hcell⟩ := HROW.out.2.view
      simp only [Value.slice.injEq] at e
      obtain ⟨rfl, -, rfl⟩ := e
      obtain ⟨nb, no, rfl, hx⟩ := hcell k (by omega)
      unfold strv at hx
      have hk0 : (0 : Int) ≤ (k : Int) := by omega
      have hk1 : (k : Int) < (N.length : Int) := by omega
      have hnum : ((k + 1 : Nat) : Int) - 1 = (k : Int) := by omega
      rw [hnum]
      have HY := Lib.hid (hY D (k, N[k]) wr hJ.out (by omega))
      have hdrop := Lib.hid (show (D ++ [(k, N[k])]).map Prod.snd = (N.drop k).reverse by
        rw [List.map_append, hD.out, List.drop_eq_getElem_cons (show k < N.length by omega), List.reverse_cons]
        rfl)
      clear hcell hnum hY hD
      obtain ⟨fn, tmps, assign, body, hy, hR⟩ := HY.out
      have hy' : (Instr.yield l #[.int .i64 (k : Int), .string ⟨N[k].toArray⟩]).run Try.prog wr = .ok (.round l fn tmps assign body) wr := hy
      clear hy
      gi_wp2
      refine hR.mono ?_
      rintro e W3 (⟨rfl, hJ3, hk3⟩ | ⟨rfl, hJx3⟩)
      · have hrow3 := HROW.out.kept hk3
        have hc3 := hrow3.1
        have HR3 := Lib.hid hrow3
        have HJ3 := Lib.hid hJ3
        clear hrow3 hk3 hJ3 hcr hx
        gi_wp2
        go_roundw
        case rel => exact ⟨k, D ++ [(k, N[k])], by omega, by go_num, hdrop, by simp only [List.length_append, List.length_cons, List.length_nil]; omega, HJ3, HR3⟩
        case measure => simp [intOf] <;> omega
      · have HJX := Lib.hid hJx3
        clear hJx3 hcr hx
        gi_wp2
        refine bodyPost_ret (results_none rfl _ _ _) rfl ?_
        exact ⟨⟨_, rfl⟩, .inr ⟨_, trivial, HJX.out⟩⟩

theorem back_in (F : Fence) (hF : Open F) (n : Nat) (a : Option Addr) (len cap : Nat) (w : World) :
    CallsIn F n Try.prog 74 #[.slice a len cap] w fun e w' => e = .returned (.func (.func 87) #[] #[.pointer (some ⟨w.heap.size, 0, none⟩)]) ∧ w' = w.alloc (.cells #[.slice a len cap] 42) := by
  have hro : F.round = none := hF.ro
  refine callsIn_of_wp Try.func74 rfl (hF.fn _) ?_ hro
  simp only [Try.ntmps74, List.size_toArray, List.length_cons, List.length_nil, Nat.reduceAdd, Nat.reduceSub, Array.replicate_succ, Array.replicate_zero, List.push_toArray, List.append_toArray, List.nil_append, List.cons_append]
  gi_wp2
  go_ret
  exact ⟨rfl, rfl⟩

theorem rowIn_below {Bx B : Nat} {v : Value} {N : List (List UInt8)} {w W : World} (hb : Bx < w.heap.size) (hv : ∀ k, v.ownBlock = some k → k < w.heap.size) (hW : Below w.heap.size w W) (h : RowIn Bx v B N w) : RowIn Bx v B N W :=
  h.kept ⟨hW.block _ hb, fun k hk => hW.block _ (hv k hk)⟩

theorem back_stops (F : Fence) (hF : Open F) (n : Nat) (hn : 1 ≤ n) (Bx B : Nat) (v : Value) (N : List (List UInt8)) (hN : N.length ≤ 1048576) (w : World) (hb : Bx < w.heap.size) (hv : ∀ k, v.ownBlock = some k → k < w.heap.size) (hR : RowIn Bx v B N w) :
    SeqStopsK F n Try.prog 87 #[.pointer (some ⟨Bx, 0, none⟩)] (fun x : Nat × List UInt8 => #[Value.int .i64 (x.1 : Nat), Value.string ⟨x.2.toArray⟩]) (KeepR Bx v) (fun ys => ys.map Prod.snd = N.reverse) (fun _ => True) N.length w := fun l J Jx W hW hJ _ hY h0 =>
  back1_in F hF n hn l Bx B v N hN J Jx (fun pre W m h => hJ pre W _ none h (drewN_grown W m) (fun _ e => by cases e)) hY W (rowIn_below hb hv hW hR) h0
end Go.Proofs.Ytfmaagcomplooaa
