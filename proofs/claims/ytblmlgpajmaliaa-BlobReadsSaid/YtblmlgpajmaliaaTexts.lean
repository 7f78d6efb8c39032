/-
  Rows of texts: what a walk reads of them; joining names by a slash.
-/
import Derived.Test.YtblmlgpajmaliaaPathRef
namespace Go.Proofs.Ytblmlgpajmaliaa
set_option maxRecDepth 100000
open Go Go.RowKit

/-- A row of texts, laid open. -/
theorem Texts.forms {B : Nat} {w : World} {v : Value} {L : List (List UInt8)} (h : Texts B w v L) :
    (v = .slice none 0 0 ∧ L = []) ∨ ∃ g cap : Nat, v = .slice (some ⟨g, 0, none⟩) L.length cap ∧ B ≤ g ∧ g < w.heap.size ∧ L.length ≤ cap ∧ cap ≤ maxLen ∧
      ∀ i (hi : i < L.length), w.cell? ⟨g, i, none⟩ = some (strv L[i]) := by
  obtain ⟨h1, h2 | ⟨g, cap, cur, rfl, hg, hh, hn, hm, hs, ht⟩⟩ := h
  · obtain ⟨rfl, hn⟩ := h2
    exact Or.inl ⟨rfl, List.length_eq_zero_iff.1 hn⟩
  · refine Or.inr ⟨g, cap, rfl, hg, (Array.getElem?_eq_some_iff.1 hh).1, hn, hm, fun i hi => ?_⟩
    have e : cur.toList[i]? = some (strv L[i]) := by
      have e1 : (cur.toList.take (L.length * 1))[i]? = (L.map strv)[i]? := by rw [ht]
      rw [List.getElem?_take, if_pos (by omega), List.getElem?_map, List.getElem?_eq_getElem hi] at e1
      exact e1
    simp only [World.cell?, hh]
    rw [Array.getElem?_toList] at e
    simpa using e

theorem Texts.below {B : Nat} {w w' : World} {v : Value} {L : List (List UInt8)} (h : Texts B w v L) (hb : Below w.heap.size w w') : Texts B w' v L :=
  h.kept (row := none) ⟨hb.os, hb.tape, hb.output, hb.size, fun k hk _ => hb.block k hk⟩ (by
    cases hv : v.ownBlock with
    | none => exact Or.inl rfl
    | some k => exact Or.inr (by simp))

/-- Names with a slash between. -/
def joinL : List (List UInt8) → List UInt8
  | [] => []
  | [x] => x
  | x :: y :: r => x ++ 47 :: joinL (y :: r)

theorem join_snoc : ∀ (D : List (List UInt8)) (x : List UInt8), D ≠ [] → joinL (D ++ [x]) = joinL D ++ 47 :: x
  | [], x, h => absurd rfl h
  | [d], x, _ => by simp [joinL]
  | d :: e :: r, x, _ => by
    have ih := join_snoc (e :: r) x (by simp)
    simp only [List.cons_append] at ih ⊢
    simp only [joinL, ih, List.append_assoc, List.cons_append]

/-- How many bytes names take, a slash behind each. -/
def total : List (List UInt8) → Nat
  | [] => 0
  | x :: r => x.length + 1 + total r
theorem total_append : ∀ (D E : List (List UInt8)), total (D ++ E) = total D + total E
  | [], E => by simp [total]
  | d :: r, E => by simp only [List.cons_append, total, total_append r E]; omega
theorem join_le : ∀ (D : List (List UInt8)), (joinL D).length ≤ total D
  | [] => by simp [joinL]
  | [x] => by simp [joinL, total]
  | x :: y :: r => by
    have ih := join_le (y :: r)
    simp only [joinL, List.length_append, List.length_cons, total] at ih ⊢
    omega
theorem total_take (L : List (List UInt8)) (k : Nat) : total (L.take k) ≤ total L := by
  have h := total_append (L.take k) (L.drop k)
  rw [List.take_append_drop] at h
  omega
theorem total_go : ∀ (l cur : List UInt8), total (partsGo cur l) ≤ cur.length + l.length + 1
  | [], cur => by
    unfold partsGo
    split
    · simp [total]
    · simp [total]
  | c :: r, cur => by
    unfold partsGo
    split
    · split
      · have := total_go r []
        simp at this ⊢
        omega
      · have := total_go r []
        simp only [total, List.length_cons, List.length_nil] at this ⊢
        omega
    · have := total_go r (cur ++ [c])
      simp at this ⊢
      omega
theorem total_parts (l : List UInt8) : total (partsL l) ≤ l.length + 1 := by
  have := total_go l []
  simpa [partsL] using this

theorem strv_cat (a b : List UInt8) : Value.string ((⟨a.toArray⟩ : ByteArray) ++ (⟨b.toArray⟩ : ByteArray)) = strv (a ++ b) := by
  rw [ByteArray.mk_append_mk]
  unfold strv
  congr 2

end Go.Proofs.Ytblmlgpajmaliaa
