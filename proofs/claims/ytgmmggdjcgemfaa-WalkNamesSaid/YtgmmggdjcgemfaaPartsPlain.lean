/-
  Plain laws on a path's names.
-/
import Derived.Test.YtgmmggdjcgemfaaTexts
namespace Go.Proofs.Ytgmmggdjcgemfaa
open Go Go.RowKit

/-- A name: not empty, without a slash. -/
def NameL (x : List UInt8) : Prop := x ≠ [] ∧ ∀ c ∈ x, c ≠ 47
theorem go_names : ∀ (l cur : List UInt8), (∀ c ∈ cur, c ≠ 47) → ∀ x ∈ partsGo cur l, NameL x
  | [], cur, hc, x, hx => by
    unfold partsGo at hx
    split at hx
    · cases hx
    · rename_i h
      rw [List.mem_singleton] at hx
      subst hx
      exact ⟨h, hc⟩
  | c :: r, cur, hc, x, hx => by
    unfold partsGo at hx
    split at hx
    · split at hx
      · exact go_names r [] (fun _ h => by cases h) x hx
      · rename_i h
        rw [List.mem_cons] at hx
        rcases hx with rfl | hx
        · exact ⟨h, hc⟩
        · exact go_names r [] (fun _ h => by cases h) x hx
    · rename_i h
      refine go_names r (cur ++ [c]) (fun d hd => ?_) x hx
      rw [List.mem_append, List.mem_singleton] at hd
      rcases hd with hd | rfl
      · exact hc d hd
      · exact h
theorem parts_names (l : List UInt8) : ∀ x ∈ partsL l, NameL x := go_names l [] (fun _ h => by cases h)
theorem go_slash (b : List UInt8) : ∀ (a cur : List UInt8), partsGo cur (a ++ 47 :: b) = partsGo cur a ++ partsL b
  | [], cur => by
    simp only [List.nil_append, partsGo, if_true, partsL]
    split
    · rfl
    · rfl
  | c :: r, cur => by
    simp only [List.cons_append]
    rw [partsGo, partsGo]
    split
    · split
      · exact go_slash b r []
      · rw [go_slash b r []]; rfl
    · exact go_slash b r (cur ++ [c])
theorem parts_slash (a b : List UInt8) : partsL (a ++ 47 :: b) = partsL a ++ partsL b := go_slash b a []
theorem go_name : ∀ (x cur : List UInt8), (∀ c ∈ x, c ≠ 47) → cur ++ x ≠ [] → partsGo cur x = [cur ++ x]
  | [], cur, _, h => by
    rw [partsGo, if_neg (by simpa using h)]
    simp
  | c :: r, cur, hx, h => by
    rw [partsGo, if_neg (hx c (List.mem_cons_self ..)), go_name r (cur ++ [c]) (fun d hd => hx d (List.mem_cons_of_mem _ hd)) (by simp)]
    simp
theorem parts_name (x : List UInt8) (h : NameL x) : partsL x = [x] := by
  have := go_name x [] h.2 (by simpa using h.1)
  simpa [partsL] using this
theorem parts_join : ∀ (L : List (List UInt8)), (∀ x ∈ L, NameL x) → partsL (joinL L) = L
  | [], _ => by simp [joinL, partsL, partsGo]
  | [x], h => by simp only [joinL]; exact parts_name x (h x (List.mem_singleton.2 rfl))
  | x :: y :: r, h => by
    simp only [joinL]
    rw [parts_slash, parts_name x (h x (List.mem_cons_self ..)), parts_join (y :: r) (fun z hz => h z (List.mem_cons_of_mem _ hz))]
    rfl
theorem parts_root (L : List (List UInt8)) (h : ∀ x ∈ L, NameL x) : partsL (47 :: joinL L) = L := by
  have := parts_slash [] (joinL L)
  rw [List.nil_append] at this
  rw [this, parts_join L h]
  simp [partsL, partsGo]
end Go.Proofs.Ytgmmggdjcgemfaa
