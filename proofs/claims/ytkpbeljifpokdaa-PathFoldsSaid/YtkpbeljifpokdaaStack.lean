/-
  path's stack of names: push, pop, text.
-/
import Derived.Test.YtkpbeljifpokdaaParts
import Derived.Test.YtkpbeljifpokdaaShelf
import Derived.Lib.Join
namespace Go.Proofs.Ytkpbeljifpokdaa
open Go Go.RowKit

/-- Block B holds a stack of the names L, in a row that lies from block n₀ on. -/
def Stack (n₀ B : Nat) (W : World) (L : List (List UInt8)) : Prop := ∃ v, Boxed W B 36 v ∧ Texts n₀ W v L

/-- What a call on the stack in block B leaves as it was. -/
structure Left (B : Nat) (W W' : World) : Prop where
  others : KeepsOthers W W'
  below : Below B W W'
  next : W'.heap[B + 1]? = W.heap[B + 1]?

theorem texts_less {w : World} {b b' : Nat} {v : Value} {L : List (List UInt8)} (h : Texts b w v L) (hb : b' ≤ b) : Texts b' w v L := own_less h hb

set_option maxHeartbeats 1000000 in
theorem push_any (B : Nat) (x : List UInt8) (L : List (List UInt8)) (W : World) (hS : Stack (B + 2) B W L) (hB2 : B + 2 ≤ W.heap.size) (hlen : L.length ≤ 1073741824) :
    Calls Try.prog 26 #[.pointer (some ⟨B, 0, none⟩), .string ⟨x.toArray⟩] W fun e W' => (∃ u, e = .returned u) ∧ Stack (B + 2) B W' (L ++ [x]) ∧ Left B W W' := by
  obtain ⟨v, hv, hrow⟩ := hS
  obtain ⟨i0, hi, hz0, hz1, hz2⟩ := info_parts infoS
  have HO := Lib.hid (show W.ownsRow (B + 2) 9 1 v L.length (L.map strv) from hrow)
  have hc := hv.cell
  have hf := hv.frozen
  go_enter Try.func26, Try.ntmps26
  go_wp2_with (first | (at_builtin; (refine wpList_append_own _ rfl _ _ 25 rfl (B + 2) 9 i0 (.string ByteArray.empty) 1 16 Try.underlying25 hi hz0 hz1 hz2 rfl (by decide) _ _ _ rfl (HO.out.alloc _) ⟨W.heap.size, 0, none⟩ 1 1 [.string ⟨x.toArray⟩] rfl rfl (cell_one_new _ _ _) (fun x hx => by simp at hx; subst hx; rfl) (by unfold maxLen; omega) (by omega) (by simp; omega) ?_); intro v' w1 hown' hgrow _; obtain ⟨g', cap', rfl⟩ := ownsRow_succ hown'; obtain ⟨hv1, hv2, hr2, hk2, hb2⟩ := hv.appended (by decide) (own_less HO.out (Nat.le_add_right _ 2)) (show B ≤ W.heap.size by omega) (Nat.le_refl _) (own_less hown' (Nat.le_add_right _ 2)) hgrow; have hc1 := hv1.cell; have hf1 := hv1.frozen) | fail)
  go_end0
  refine ⟨⟨_, rfl⟩, ⟨_, hv2, Texts.grow (hown'.kept (grownBy_setCell' _ B _) (.inr (hv1.not_row (by decide) hown').symm))⟩, hk2, hb2, ?_⟩
  have hne : some (B + 1) ≠ v.ownBlock := fun e => by have := (HO.out.lt (B + 1) e.symm).1; omega
  have h1 := hgrow.block (B + 1) (by simp; omega) hne
  have h2 := (grownBy_setCell' w1 B (.slice (some ⟨g', 0, none⟩) (L.length + 1) cap')).block (B + 1) (by have := hgrow.size; simp at this; omega) (by simp)
  exact h2.trans (h1.trans (Below.heap_alloc _ _ _ (by omega)))

theorem Stack.pop0 {n₀ B : Nat} {W : World} (h : Stack n₀ B W []) : Stack n₀ B W ([] : List (List UInt8)).dropLast := h

set_option maxHeartbeats 1000000 in
theorem pop_any (B : Nat) (L : List (List UInt8)) (W : World) (hS : Stack (B + 2) B W L) (hB2 : B + 2 ≤ W.heap.size) (hlen : L.length ≤ 1073741824) :
    Calls Try.prog 27 #[.pointer (some ⟨B, 0, none⟩)] W fun e W' => (∃ u, e = .returned u) ∧ Stack (B + 2) B W' L.dropLast ∧ Left B W W' := by
  obtain ⟨v, hv, hrow⟩ := hS
  have hc := hv.cell
  have hf := hv.frozen
  have HV := Lib.hid hv
  rcases hrow.forms with ⟨rfl, rfl⟩ | ⟨g, cap, rfl, hB, hg, hcap, hmax, -⟩
  · have HR := Lib.hid hrow
    clear hrow hv
    go_enter Try.func27, Try.ntmps27
    go_wp2_with fail
    go_end0
    exact ⟨⟨_, rfl⟩, ⟨_, HV.out, HR.out⟩, KeepsOthers.refl _, Below.refl _ _, rfl⟩
  · unfold maxLen at hmax
    by_cases h0 : L.length = 0
    · obtain rfl : L = [] := List.length_eq_zero_iff.1 h0
      have HR := Lib.hid hrow
      clear hrow hv
      go_enter Try.func27, Try.ntmps27
      go_wp2_with fail
      go_end0
      exact ⟨⟨_, rfl⟩, ⟨_, HV.out, HR.out⟩, KeepsOthers.refl _, Below.refl _ _, rfl⟩
    · obtain ⟨m, hm⟩ : ∃ m, L.length = m + 1 := ⟨L.length - 1, by omega⟩
      rw [hm] at hrow hc HV hcap hlen
      have HR := Lib.hid (hrow.init hm)
      clear hrow hv
      go_enter Try.func27, Try.ntmps27
      go_wp2_with fail
      go_end0
      refine ⟨⟨_, rfl⟩, ⟨_, HV.out.set _, ?_⟩, KeepsOthers.setCell _ _ _, (Below.refl _ _).setCell (p := ⟨B, 0, none⟩) (Nat.le_refl _) _, ?_⟩
      · exact HR.out.kept (grownBy_setCell' W B _) (.inr (by intro e; simp [Value.ownBlock] at e; omega))
      · exact (grownBy_setCell' W B (.slice (some ⟨g, 0, none⟩) m cap)).block (B + 1) (by omega) (by simp)

theorem join_same : ∀ L : List (List UInt8), Lib.join L [47] = joinL L
  | [] => rfl
  | [x] => by rw [Lib.join_one]; rfl
  | x :: y :: r => by
    have ih := join_same (y :: r)
    rw [Lib.join_cons] at ih ⊢
    simp only [joinL, ← ih, Lib.joinTail, List.map_cons, List.flatten_cons]
    simp

set_option maxHeartbeats 1000000 in
theorem text_any (B : Nat) (L : List (List UInt8)) (W : World) (hS : Stack (B + 2) B W L) (hB2 : B + 2 ≤ W.heap.size) (hlen : total L ≤ 1099511627776) :
    Calls Try.prog 28 #[.pointer (some ⟨B, 0, none⟩)] W fun e W' => e = .returned (.string ⟨(joinL L).toArray⟩) ∧ Below W.heap.size W W' := by
  obtain ⟨v, hv, hrow⟩ := hS
  have hc := hv.cell
  have hf := hv.frozen
  rcases hrow.forms with ⟨rfl, rfl⟩ | ⟨g, cap, rfl, hB, hg, hcap, hmax, hcell⟩
  · clear hrow hv
    go_enter Try.func28, Try.ntmps28
    go_wp2_with (first | (go_at_call 35; refine (Try.strings_Join_none _ _ _ _).mono ?_; rintro e w' ⟨rfl, rfl⟩) | fail)
    go_ret
    exact ⟨rfl, Below.refl _ _⟩
  · have hlist : ∀ M : List (List UInt8), (M.map fun x : List UInt8 => (⟨x.toArray⟩ : ByteArray)).map (·.data.toList) = M := by
      intro M
      rw [List.map_map]
      conv => rhs; rw [← List.map_id M]
      rfl
    have hlens : L.length ≤ total L := by
      have h : ∀ L : List (List UInt8), L.length ≤ total L := by
        intro L
        induction L with
        | nil => simp [total]
        | cons x r ih => simp only [List.length_cons, total]; omega
      exact h L
    have hjl := join_le L
    have HJ := Lib.hid (Try.strings_Join g 0 cap (L.map fun x : List UInt8 => (⟨x.toArray⟩ : ByteArray)) ⟨#[47]⟩ W
      (fun j x hx => by
        rw [List.getElem?_map] at hx
        obtain ⟨y, hy, rfl⟩ := Option.map_eq_some_iff.1 hx
        obtain ⟨hj, rfl⟩ := List.getElem?_eq_some_iff.1 hy
        rw [Nat.zero_add]
        exact hcell j hj) hg (by rw [List.length_map]; omega) (by rw [List.length_map]; exact hcap)
      (by rw [hlist]; show (Lib.join L [47]).length ≤ _; rw [join_same]; omega))
    rw [hlist, List.length_map] at HJ
    have hsame : Lib.join L (⟨#[47]⟩ : ByteArray).data.toList = joinL L := join_same L
    rw [hsame] at HJ
    clear hrow hv hlist hcell hsame
    go_enter Try.func28, Try.ntmps28
    go_wp2_with (first | (go_at_call 35; refine HJ.out.mono ?_; rintro e w' ⟨rfl, hb⟩) | fail)
    go_ret
    exact ⟨rfl, hb⟩
end Go.Proofs.Ytkpbeljifpokdaa
