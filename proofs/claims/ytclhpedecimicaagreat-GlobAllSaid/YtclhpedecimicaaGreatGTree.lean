/-
  The tree of the laws' example: it is fit; what its patterns tell.
-/
import Derived.Test.YtclhpedecimicaaGreatK20
import Derived.Test.YtclhpedecimicaaGreatK17
namespace Go.Proofs.YtclhpedecimicaaGreat
set_option maxRecDepth 100000
open Go Go.RowKit

def fil : Ino := ⟨1, 6, 1, [], [], 0⟩
def T11 : List Ino := [⟨2, 7, 0, [], [([46, 100], 3), ([97], 1), ([98], 2)], 0⟩, fil, ⟨2, 7, 1, [], [([99], 4)], 0⟩, fil, fil, noIno, noIno, noIno]
theorem t11_len : T11.length = 8 := rfl
theorem t11_all {P : (k : Nat) → k < T11.length → Prop} (h0 : P 0 (by decide)) (h1 : P 1 (by decide)) (h2 : P 2 (by decide)) (h3 : P 3 (by decide)) (h4 : P 4 (by decide)) (h5 : P 5 (by decide)) (h6 : P 6 (by decide)) (h7 : P 7 (by decide)) : ∀ k (h : k < T11.length), P k h := by
  intro k h
  rcases k with _ | _ | _ | _ | _ | _ | _ | _ | k
  · exact h0
  · exact h1
  · exact h2
  · exact h3
  · exact h4
  · exact h5
  · exact h6
  · exact h7
  · exact absurd h (by rw [t11_len]; omega)
theorem kids_nil (L : List Ino) : KidsFit L [] := ⟨by decide, fun k h => absurd h (Nat.not_lt_zero _)⟩
theorem t11_fit : FitP T11 8 100 := by
  refine ⟨⟨by decide, by decide, by decide, by decide +kernel, by decide⟩, by decide +kernel, by decide +kernel, ?_, ⟨?_, ?_⟩, ?_⟩
  · refine t11_all ⟨by decide +kernel, by decide, ?_⟩ ⟨by decide +kernel, kids_nil _⟩ ⟨by decide +kernel, by decide, ?_⟩ ⟨by decide +kernel, kids_nil _⟩ ⟨by decide +kernel, kids_nil _⟩ ⟨by decide +kernel, kids_nil _⟩ ⟨by decide +kernel, kids_nil _⟩ ⟨by decide +kernel, kids_nil _⟩
    · intro k h
      have h3 : k < 3 := h
      rcases k with _ | _ | _ | k
      · exact ⟨(show nameOkL ([46, 100] : List UInt8) = true from by decide +kernel), fun t ht => by omega, (show thereB T11 3 = true from by decide +kernel)⟩
      · exact ⟨(show nameOkL ([97] : List UInt8) = true from by decide +kernel), fun t ht => (by obtain rfl : t = 0 := (by omega); exact (show Op.bytesLess [46, 100] [97] = true from by decide +kernel)), (show thereB T11 1 = true from by decide +kernel)⟩
      · exact ⟨(show nameOkL ([98] : List UInt8) = true from by decide +kernel), fun t ht => (by obtain rfl : t = 1 := (by omega); exact (show Op.bytesLess [97] [98] = true from by decide +kernel)), (show thereB T11 2 = true from by decide +kernel)⟩
      · omega
    · intro k h
      have h3 : k < 1 := h
      obtain rfl : k = 0 := by omega
      exact ⟨(show nameOkL ([99] : List UInt8) = true from by decide +kernel), fun t ht => by omega, (show thereB T11 4 = true from by decide +kernel)⟩
  · refine t11_all ?_ ?_ ?_ ?_ ?_ ?_ ?_ ?_
    · intro e he hd
      have he2 : e = ([46, 100], 3) ∨ e = ([97], 1) ∨ e = ([98], 2) := by simpa [T11] using he
      rcases he2 with rfl | rfl | rfl
      · exact absurd hd (by decide +kernel)
      · exact absurd hd (by decide +kernel)
      · decide +kernel
    · intro e he; cases he
    · intro e he hd
      have he2 : e = ([99], 4) := by simpa [T11] using he
      subst he2
      exact absurd hd (by decide +kernel)
    all_goals (intro e he; cases he)
  · refine t11_all ?_ ?_ ?_ ?_ ?_ ?_ ?_ ?_
    all_goals exact ⟨by decide +kernel, by unfold MayHave; decide +kernel⟩
  · refine t11_all ?_ ?_ ?_ ?_ ?_ ?_ ?_ ?_
    all_goals (intro _; decide +kernel)
theorem run11a : runW T11 0 (begW T11 0 [42]) (ptsL [42] []) = some [([97], 0), ([98], 0)] := by kernel_rfl
theorem run11b : runW T11 0 (begW T11 0 [46, 42]) (ptsL [46, 42] []) = some [([46, 100], 0)] := by kernel_rfl
theorem run11c : runW T11 0 (begW T11 0 [42, 47, 99]) (ptsL [42, 47, 99] []) = some [([98, 47, 99], 0)] := by kernel_rfl
theorem run11d : runW T11 0 (begW T11 0 [120, 42]) (ptsL [120, 42] []) = some [] := by kernel_rfl
theorem g11a : globW T11 0 [42] [] = [[97], [98]] := by
  unfold globW
  rw [if_neg (by decide +kernel), run11a]
  exact List.mergeSort_of_pairwise (by decide +kernel)
theorem g11b : globW T11 0 [46, 42] [] = [[46, 100]] := by
  unfold globW
  rw [if_neg (by decide +kernel), run11b]
  exact List.mergeSort_of_pairwise (by decide +kernel)
theorem g11c : globW T11 0 [42, 47, 99] [] = [[98, 47, 99]] := by
  unfold globW
  rw [if_neg (by decide +kernel), run11c]
  exact List.mergeSort_of_pairwise (by decide +kernel)
theorem g11d : globW T11 0 [120, 42] [] = [] := by
  unfold globW
  rw [if_neg (by decide +kernel), run11d]
  exact List.mergeSort_of_pairwise List.Pairwise.nil
end Go.Proofs.YtclhpedecimicaaGreat
