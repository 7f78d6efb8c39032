/-
  Plain laws on new trees: they can be, and use just their root.
-/
import Derived.Test.YtblmlgpajmaliaaTreeNew
import Derived.Test.YtblmlgpajmaliaaTPlain2
namespace Go.Proofs.Ytblmlgpajmaliaa
set_option maxRecDepth 100000
open Go Go.RowKit

theorem new_len {n : Nat} (b : Int) (h : 1 ≤ n) : (newT n b).nodes.length = n := by show (rootIno :: List.replicate (n - 1) noIno).length = n; simp; omega
theorem new_at {n : Nat} (b : Int) (k : Nat) (hk : k < (newT n b).nodes.length) : (newT n b).nodes[k] = if k = 0 then rootIno else noIno := by
  cases k with
  | zero => rfl
  | succ k =>
    rw [if_neg (by omega)]
    have e : ∀ (M : List Ino) (h : k + 1 < M.length), M = rootIno :: List.replicate (n - 1) noIno → M[k + 1] = noIno := by
      intro M h hM
      subst hM
      simp
    exact e _ hk rfl
theorem new_kids {n : Nat} (b : Int) (k : Nat) (hk : k < (newT n b).nodes.length) : (newT n b).nodes[k].kids = [] := by
  rw [new_at]
  split <;> rfl
theorem new_kidsOf (n : Nat) (b : Int) : kidsOf (newT n b).nodes = [] := by
  unfold kidsOf
  rw [List.flatMap_eq_nil_iff]
  intro x hx
  obtain ⟨k, hk, rfl⟩ := List.getElem_of_mem hx
  exact new_kids b k hk
theorem used_rep : ∀ n : Nat, usedN (List.replicate n noIno) = 0 ∧ usedB (List.replicate n noIno) = 0
  | 0 => ⟨rfl, rfl⟩
  | n + 1 => by
    have h := used_rep n
    rw [List.replicate_succ]
    exact ⟨by simp only [usedN, h.1]; rfl, by simp only [usedB, h.2]; rfl⟩
theorem new_usedN (n : Nat) (b : Int) : usedN (newT n b).nodes = 1 := by
  show usedN (rootIno :: List.replicate (n - 1) noIno) = 1
  simp only [usedN, (used_rep (n - 1)).1]
  rfl
theorem new_usedB (n : Nat) (b : Int) : usedB (newT n b).nodes = 0 := by
  show usedB (rootIno :: List.replicate (n - 1) noIno) = 0
  simp only [usedB, (used_rep (n - 1)).2]
  rfl
theorem new_fit {n : Nat} {b : Int} (h1 : 1 ≤ n) (h2 : n ≤ 256) (h3 : 0 ≤ b) (h4 : b ≤ 65536) : FitP (newT n b).nodes (n : Int) b := by
  have hl := new_len b h1
  have hI : AllFit (newT n b).nodes := fun k hk => by
    rw [new_kids]
    refine ⟨?_, Nat.zero_le _, fun i hi => absurd hi (Nat.not_lt_zero _)⟩
    rw [new_at]
    split <;> rfl
  have hdir : ∀ k (hk : k < (newT n b).nodes.length), dirB (newT n b).nodes (k : Int) = true → k = 0 := fun k hk hd => by
    have h5 := (dir_nat hk).1 hd
    rw [new_at] at h5
    by_cases e : k = 0
    · exact e
    · rw [if_neg e] at h5
      cases h5
  refine ⟨⟨by omega, by omega, by omega, by rw [new_usedB]; omega, h4⟩, ?_, rfl, hI, ⟨fun d hd e he => ?_, fun k hk => ?_⟩, fun k hk hd => ?_⟩
  · exact (dir_nat (L := (newT n b).nodes) (n := 0) (by omega)).2 rfl
  · rw [new_kids] at he
    cases he
  · have hc : (countL (newT n b).nodes)[k]'(by rw [countL_len]; exact hk) = 0 := by
      rw [countL_get _ (kids_pos (kids_there hI)) k hk, new_kidsOf]
      rfl
    rw [hc]
    refine ⟨by rw [new_at]; split <;> rfl, ?_⟩
    unfold MayHave
    rw [if_pos]
    rw [new_at]
    by_cases e : k = 0
    · exact Or.inl (by omega)
    · rw [if_neg e]
      exact Or.inr rfl
  · have e := hdir k hk hd
    subst e
    rw [hl]
    obtain ⟨t, rfl⟩ : ∃ t, n = t + 1 := ⟨n - 1, by omega⟩
    rfl
theorem new_sized (n : Nat) (b : Int) : Sized (newT n b).nodes := fun k hk => by
  rw [new_kids]
  refine ⟨?_, fun e he => by cases he⟩
  rw [new_at]
  split <;> exact Nat.zero_le _
theorem new_short (n : Nat) (b : Int) : Short64 (newT n b).nodes := fun k hk => by
  rw [new_kids]
  exact ⟨Nat.zero_le _, fun e he => by cases he⟩
theorem new_kid (n : Nat) (b : Int) (s : List UInt8) : kidL (newT n b).nodes 0 s = -1 := by
  unfold kidL
  split
  · rfl
  · rfl
end Go.Proofs.Ytblmlgpajmaliaa
