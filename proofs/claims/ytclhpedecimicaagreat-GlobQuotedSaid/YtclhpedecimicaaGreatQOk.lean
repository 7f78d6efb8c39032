/-
  Names of classes, members of sets: no longer than the pattern.
-/
import Derived.Test.YtclhpedecimicaaGreatK16
namespace Go.Proofs.YtclhpedecimicaaGreat
set_option maxRecDepth 100000
open Go Go.RowKit

def Wt.fine : Wt → Prop
  | .set _ l => l.length ≤ 200000 ∧ ∀ m ∈ l, m.ok
  | _ => True
theorem mbF_ok {L : Pl} (h : L.length ≤ 100000) : (mbF L).ok := by
  unfold mbF
  split
  · rename_i k hk
    show (List.map Prod.fst (List.take k (List.drop 2 L))).length ≤ maxLen
    rw [List.length_map, List.length_take, List.length_drop]
    unfold maxLen; omega
  · split <;> trivial
theorem mbsF_ok : ∀ (f : Nat) (L : Pl), L.length ≤ 100000 → ∀ m ∈ mbsF f L, m.ok
  | 0, _, _, m, hm => by cases hm
  | f + 1, L, h, m, hm => by
    unfold mbsF at hm
    split at hm
    · cases hm
    · split at hm
      · cases hm
      · rcases List.mem_cons.1 hm with rfl | hm
        · exact mbF_ok h
        · exact mbsF_ok f _ (by rw [List.length_drop]; omega) m hm
theorem setP_ok {L : Pl} (h : L.length ≤ 100000) {t : Bool} {l : List Mb} {n : Nat} (hs : setP L = some (t, l, n)) : l.length ≤ 200000 ∧ ∀ m ∈ l, m.ok := by
  unfold setP at hs
  split at hs
  · cases hs
  · split at hs
    · cases hs
    · cases hs
      have h1 := mbs_len ((L.drop (bang L)).drop (mbN (L.drop (bang L))))
      simp only [List.length_drop] at h1
      refine ⟨by simp only [List.length_cons]; omega, fun m hm => ?_⟩
      rcases List.mem_cons.1 hm with rfl | hm
      · exact mbF_ok (by rw [List.length_drop]; omega)
      · exact mbsF_ok _ _ (by simp only [List.length_drop]; omega) m hm
theorem wt1_ok {L : Pl} (h : L.length ≤ 100000) : (wt1 L).1.fine := by
  unfold wt1
  split
  · trivial
  · split
    · trivial
    · split
      · split
        · rename_i t l n hs
          exact setP_ok (by rw [List.length_drop]; omega) hs
        · trivial
      · trivial
theorem rawF_ok : ∀ (f : Nat) (L : Pl), L.length ≤ 100000 → ∀ x ∈ rawF f L, x.fine
  | 0, _, _, x, hx => by cases hx
  | f + 1, L, h, x, hx => by
    unfold rawF at hx
    split at hx
    · cases hx
    · rcases List.mem_cons.1 hx with rfl | hx
      · exact wt1_ok h
      · exact rawF_ok f _ (by rw [List.length_drop]; omega) x hx
theorem fold_mem (l : List Wt) : ∀ (r : List Wt) (x : Wt), x ∈ l.foldl pushW r → x ∈ r ∨ x ∈ l := by
  induction l with
  | nil => intro r x h; exact Or.inl h
  | cons y l ih =>
    intro r x h
    rcases ih _ x h with h | h
    · unfold pushW at h
      split at h
      · exact Or.inl h
      · rw [List.mem_append, List.mem_singleton] at h
        rcases h with h | rfl
        · exact Or.inl h
        · exact Or.inr (List.mem_cons_self ..)
    · exact Or.inr (List.mem_cons_of_mem _ h)
theorem rowP_ok (p q : List UInt8) (h : p.length ≤ 100000) : ∀ x ∈ rowP p q, x.fine := by
  intro x hx
  unfold rowP at hx
  rcases fold_mem _ _ _ hx with hx | hx
  · cases hx
  · exact rawF_ok _ _ (by rw [pl_len]; exact h) x hx
end Go.Proofs.YtclhpedecimicaaGreat
