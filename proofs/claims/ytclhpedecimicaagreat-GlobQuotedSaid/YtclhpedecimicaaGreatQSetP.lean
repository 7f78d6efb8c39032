/-
  A set's reading, place by place.
-/
import Derived.Test.YtclhpedecimicaaGreatK3
namespace Go.Proofs.YtclhpedecimicaaGreat
set_option maxRecDepth 100000
open Go Go.RowKit

/-- So many members of a set were read, up to a place. -/
def SetR (L : Pl) (q E : Nat) (F : List Mb) (p : Nat) (ms : List Mb) : Prop :=
  q ≤ p ∧ p ≤ E ∧ ((ms = [] ∧ p = q ∧ q < E ∧ q + mbN (L.drop q) ≤ E ∧ F = mbF (L.drop q) :: mbs (L.drop (q + mbN (L.drop q))) ∧ clE (L.drop (q + mbN (L.drop q))) = some (E - (q + mbN (L.drop q)))) ∨
  (F = ms ++ mbs (L.drop p) ∧ clE (L.drop p) = some (E - p)))
theorem setR_next {L : Pl} {q E p : Nat} {F ms : List Mb} (h : SetR L q E F p ms) (hlt : p < E) (hE : E < L.length) : SetR L q E F (p + mbN (L.drop p)) (ms ++ [mbF (L.drop p)]) := by
  obtain ⟨h1, h2, ⟨rfl, rfl, h3, h4, h5, h6⟩ | ⟨h3, h4⟩⟩ := h
  · exact ⟨by omega, h4, Or.inr ⟨by rw [h5]; rfl, h6⟩⟩
  · have hL : L.drop p ≠ [] := by
      intro e
      have := congrArg List.length e
      rw [List.length_drop] at this
      simp at this; omega
    have h5 : isP (L.drop p) 0 93 = false := by
      cases hc : isP (L.drop p) 0 93 with
      | false => rfl
      | true =>
        rw [clE_yes hc] at h4
        have := Option.some.inj h4
        omega
    rw [clE_more hL h5, List.drop_drop] at h4
    rw [mbs_more hL h5, List.drop_drop] at h3
    cases hk : clE (L.drop (p + mbN (L.drop p))) with
    | none => rw [hk] at h4; cases h4
    | some k =>
      rw [hk] at h4
      have h6 : k + mbN (L.drop p) = E - p := Option.some.inj h4
      exact ⟨by omega, by omega, Or.inr ⟨by rw [h3]; simp, by rw [hk]; congr 1; omega⟩⟩
theorem setR_end {L : Pl} {q E p : Nat} {F ms : List Mb} (h : SetR L q E F p ms) (hlt : ¬ p < E) : ms = F := by
  obtain ⟨h1, h2, ⟨rfl, rfl, h3, -⟩ | ⟨h3, h4⟩⟩ := h
  · omega
  · have h5 : clE (L.drop p) = some 0 := by rw [h4]; congr 1; omega
    have h6 := (clE_lt _ _ (Nat.le_refl _) 0 h5).2
    rw [mbs_yes h6, List.append_nil] at h3
    exact h3.symm
/-- A set, by its place. -/
theorem setP_none {L : Pl} {i q : Nat} (hq : q = i + bang (L.drop i)) (h : ¬ q < L.length ∨ clE (L.drop (q + mbN (L.drop q))) = none) : setP (L.drop i) = none := by
  unfold setP
  rw [List.drop_drop, ← hq]
  rcases h with h | h
  · rw [if_pos (List.drop_eq_nil_of_le (by omega))]
  · split
    · rfl
    · rw [List.drop_drop, h]
theorem setP_some {L : Pl} {i q k : Nat} (hq : q = i + bang (L.drop i)) (h : q < L.length) (hk : clE (L.drop (q + mbN (L.drop q))) = some k) : setP (L.drop i) = some (isP L i 33, mbF (L.drop q) :: mbs (L.drop (q + mbN (L.drop q))), q + mbN (L.drop q) + k + 1 - i) := by
  unfold setP
  rw [List.drop_drop, ← hq]
  have hL : L.drop q ≠ [] := by
    intro e
    have := congrArg List.length e
    rw [List.length_drop] at this
    simp at this; omega
  rw [if_neg hL, List.drop_drop, hk]
  simp only [isP_drop, Nat.add_zero]
  congr 3
  omega
theorem bang_at (L : Pl) (i : Nat) : bang (L.drop i) = if isP L i 33 = true then 1 else 0 := by
  unfold bang
  rw [isP_drop, Nat.add_zero]
end Go.Proofs.YtclhpedecimicaaGreat
