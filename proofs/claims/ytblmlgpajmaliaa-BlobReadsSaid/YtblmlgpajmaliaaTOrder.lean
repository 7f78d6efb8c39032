/-
  Plain laws on the order of names, and on looking one up in names that rise.
-/
import Derived.Lib.Bytealg
import Derived.Test.YtblmlgpajmaliaaTreeKid
namespace Go.Proofs.Ytblmlgpajmaliaa
set_option maxRecDepth 100000
open Go Go.RowKit

theorem less_irrefl : ∀ a : List UInt8, Op.bytesLess a a = false
  | [] => rfl
  | c :: r => by
    simp only [Op.bytesLess, less_irrefl r, Bool.and_false, Bool.or_false, decide_eq_false_iff_not]
    exact UInt8.lt_irrefl c
theorem less_trans : ∀ a b c : List UInt8, Op.bytesLess a b = true → Op.bytesLess b c = true → Op.bytesLess a c = true
  | _, [], _, h, _ => by simp [Op.bytesLess] at h
  | _, _ :: _, [], _, h => by simp [Op.bytesLess] at h
  | [], _ :: _, _ :: _, _, _ => rfl
  | x :: a, y :: b, z :: c, h1, h2 => by
    simp only [Op.bytesLess, Bool.or_eq_true, decide_eq_true_eq, Bool.and_eq_true, beq_iff_eq] at h1 h2 ⊢
    rcases h1 with h1 | ⟨rfl, h1⟩
    · rcases h2 with h2 | ⟨rfl, h2⟩
      · exact Or.inl (UInt8.lt_trans h1 h2)
      · exact Or.inl h1
    · rcases h2 with h2 | ⟨rfl, h2⟩
      · exact Or.inl h2
      · exact Or.inr ⟨rfl, less_trans a b c h1 h2⟩
theorem cmp_cases : ∀ a b : List UInt8, (Lib.compareBytes a b = -1 ∧ Op.bytesLess a b = true) ∨ (Lib.compareBytes a b = 0 ∧ a = b) ∨ (Lib.compareBytes a b = 1 ∧ Op.bytesLess b a = true)
  | [], [] => Or.inr (Or.inl ⟨rfl, rfl⟩)
  | [], _ :: _ => Or.inl ⟨rfl, rfl⟩
  | _ :: _, [] => Or.inr (Or.inr ⟨rfl, rfl⟩)
  | x :: a, y :: b => by
    simp only [Lib.compareBytes, Op.bytesLess, Bool.or_eq_true, decide_eq_true_eq, Bool.and_eq_true, beq_iff_eq]
    by_cases h1 : x < y
    · rw [if_pos h1]
      exact Or.inl ⟨rfl, Or.inl h1⟩
    · rw [if_neg h1]
      by_cases h2 : y < x
      · rw [if_pos h2]
        exact Or.inr (Or.inr ⟨rfl, Or.inl h2⟩)
      · rw [if_neg h2]
        have e : x = y := by
          apply UInt8.toNat_inj.1
          have a1 : ¬ x.toNat < y.toNat := h1
          have a2 : ¬ y.toNat < x.toNat := h2
          omega
        subst e
        rcases cmp_cases a b with ⟨h, h'⟩ | ⟨h, rfl⟩ | ⟨h, h'⟩
        · exact Or.inl ⟨h, Or.inr ⟨rfl, h'⟩⟩
        · exact Or.inr (Or.inl ⟨h, rfl⟩)
        · exact Or.inr (Or.inr ⟨h, Or.inr ⟨rfl, h'⟩⟩)
theorem cmp_less {a b : List UInt8} : Lib.compareBytes a b < 0 ↔ Op.bytesLess a b = true := by
  rcases cmp_cases a b with ⟨h, h'⟩ | ⟨h, rfl⟩ | ⟨h, h'⟩
  · simp [h, h']
  · simp [h, less_irrefl]
  · constructor
    · intro h2; omega
    · intro h2
      have := less_trans a b a h2 h'
      rw [less_irrefl] at this
      cases this
theorem cmp_zero {a b : List UInt8} : Lib.compareBytes a b = 0 ↔ a = b := by
  rcases cmp_cases a b with ⟨h, h'⟩ | ⟨h, rfl⟩ | ⟨h, h'⟩
  · constructor
    · intro h2; omega
    · rintro rfl; rw [less_irrefl] at h'; cases h'
  · simp [h]
  · constructor
    · intro h2; omega
    · rintro rfl; rw [less_irrefl] at h'; cases h'
theorem cmp_le1 (a b : List UInt8) : -1 ≤ Lib.compareBytes a b ∧ Lib.compareBytes a b ≤ 1 := by
  rcases cmp_cases a b with ⟨h, _⟩ | ⟨h, _⟩ | ⟨h, _⟩ <;> omega

/-- Names that rise. -/
def Rises (M : List (List UInt8 × Int)) : Prop := ∀ k (h : k < M.length), ∀ t (ht : k = t + 1), Op.bytesLess (M[t]'(by omega)).1 M[k].1 = true
theorem Rises.lt {M : List (List UInt8 × Int)} (h : Rises M) (i : Nat) : ∀ (j : Nat) (hj : j < M.length) (hij : i < j), Op.bytesLess (M[i]'(by omega)).1 M[j].1 = true := by
  intro j
  induction j with
  | zero => intro _ h; omega
  | succ j ih =>
    intro hj hij
    have h1 := h (j + 1) hj j rfl
    by_cases e : i = j
    · subst e
      exact h1
    · exact less_trans _ _ _ (ih (by omega) (by omega)) h1

theorem findK_none (M : List (List UInt8 × Int)) (s : List UInt8) (h : ∀ k (hk : k < M.length), M[k].1 ≠ s) : findK M s = -1 := by
  induction M with
  | nil => rfl
  | cons e r ih =>
    unfold findK
    rw [if_neg (show e.1 ≠ s from h 0 (Nat.succ_pos _))]
    exact ih (fun k hk => h (k + 1) (Nat.succ_lt_succ hk))
theorem findK_some (M : List (List UInt8 × Int)) (s : List UInt8) (i : Nat) (hi : i < M.length) (hs : M[i].1 = s) (h : ∀ k (hk : k < i), (M[k]'(by omega)).1 ≠ s) : findK M s = M[i].2 := by
  induction M generalizing i with
  | nil => exact absurd hi (Nat.not_lt_zero _)
  | cons e r ih =>
    unfold findK
    cases i with
    | zero =>
      rw [if_pos (show e.1 = s from hs)]
      rfl
    | succ i =>
      rw [if_neg (show e.1 ≠ s from h 0 (Nat.succ_pos _))]
      exact ih i (Nat.lt_of_succ_lt_succ hi) hs (fun k hk => h (k + 1) (Nat.succ_lt_succ hk))
/-- In names that rise what stands at the first place that is not ahead of a name is it, or there is none. -/
theorem findK_at {M : List (List UInt8 × Int)} (h : Rises M) (s : List UInt8) (i : Nat) (h1 : ∀ k (hk : k < M.length), k < i → Op.bytesLess M[k].1 s = true) (h2 : ∀ k (hk : k < M.length), i ≤ k → Op.bytesLess M[k].1 s = false) :
    (∀ hi : i < M.length, M[i].1 = s → findK M s = M[i].2) ∧ ((∀ hi : i < M.length, M[i].1 ≠ s) → findK M s = -1) := by
  have ha : ∀ k (hk : k < M.length), k < i → M[k].1 ≠ s := fun k hk hki e => by
    have := h1 k hk hki
    rw [e, less_irrefl] at this
    cases this
  refine ⟨fun hi e => findK_some M s i hi e (fun k hk => ha k (by omega) hk), fun hn => findK_none M s (fun k hk => ?_)⟩
  by_cases hki : k < i
  · exact ha k hk hki
  · by_cases e : k = i
    · subst e
      exact hn hk
    · intro es
      have h3 := h.lt i k hk (by omega)
      rw [es] at h3
      rw [h2 i (by omega) (Nat.le_refl _)] at h3
      cases h3
end Go.Proofs.Ytblmlgpajmaliaa
