/-
  Plain laws on trees: how many names an inode has; each directory's Up is one.
-/
import Derived.Test.YtblmlgpajmaliaaTPlain0
namespace Go.Proofs.Ytblmlgpajmaliaa
set_option maxRecDepth 100000
open Go Go.RowKit

/-- How many of the names M are of inode k. -/
def namesOf (M : List (List UInt8 × Int)) (k : Int) : Nat := (M.filter fun e => e.2 == k).length

theorem bump1_get (c : List Int) (j : Int) (hj : 0 ≤ j) (k : Nat) (hk : k < c.length) : (bump1 c j)[k]'(by simpa [bump1] using hk) = c[k] + (if j = (k : Int) then 1 else 0) := by
  unfold bump1
  rw [List.getElem_set]
  by_cases h : j.toNat = k
  · rw [if_pos h, if_pos (by omega), List.getD_eq_getElem?_getD]
    subst h
    rw [List.getElem?_eq_getElem hk]
    rfl
  · rw [if_neg h, if_neg (by omega)]
    omega
theorem bump_get (M : List (List UInt8 × Int)) : ∀ (c : List Int) (k : Nat) (hk : k < c.length), (∀ e ∈ M, 0 ≤ e.2) → (bump c M)[k]'(by rw [bump_len]; exact hk) = c[k] + (namesOf M k : Int) := by
  induction M with
  | nil => intro c k hk _; simp [bump, namesOf]
  | cons e r ih =>
    intro c k hk hM
    have h1 := bump1_get c e.2 (hM e (by simp)) k hk
    have h2 := ih (bump1 c e.2) k (by simpa [bump1] using hk) (fun x hx => hM x (by simp [hx]))
    refine (show _ = _ from h2).trans ?_
    rw [h1]
    unfold namesOf
    by_cases h : e.2 = (k : Int)
    · rw [if_pos h, List.filter_cons_of_pos (by simpa using h), List.length_cons]
      omega
    · rw [if_neg h, List.filter_cons_of_neg (by simpa using h)]
      omega
theorem countL_get (L : List Ino) (h0 : ∀ e ∈ kidsOf L, 0 ≤ e.2) (k : Nat) (hk : k < L.length) : (countL L)[k]'(by rw [countL_len]; exact hk) = (namesOf (kidsOf L) k : Int) := by
  unfold countL
  rw [bump_get (kidsOf L) (zeros L.length) k (by simpa [zeros] using hk) h0]
  simp [zeros]

theorem mem_kidsOf {L : List Ino} {e : List UInt8 × Int} : e ∈ kidsOf L ↔ ∃ d, ∃ h : d < L.length, e ∈ L[d].kids := by
  unfold kidsOf
  rw [List.mem_flatMap]
  constructor
  · rintro ⟨x, hx, he⟩
    obtain ⟨d, hd, rfl⟩ := List.getElem_of_mem hx
    exact ⟨d, hd, he⟩
  · rintro ⟨d, hd, he⟩
    exact ⟨L[d], List.getElem_mem _, he⟩

/-- A tree that can be. -/
structure FitP (L : List Ino) (m b : Int) : Prop where
  limits : Limits L m b
  root : dirB L 0 = true
  rootUp : (nodeAt L 0).up = 0
  ins : AllFit L
  names : NamesFit L
  leads : AllLead L

theorem kids_there {L : List Ino} (h : AllFit L) : KidsThere L := fun k hk => ⟨(h k hk).2.1, fun e he => by
  obtain ⟨i, hi, rfl⟩ := List.getElem_of_mem he
  exact ((h k hk).2.2 i hi).there⟩
theorem there_pos {L : List Ino} {k : Int} (h : thereB L k = true) : 0 ≤ k := by
  obtain ⟨n, rfl, _⟩ := there_nat h
  omega
theorem kids_pos {L : List Ino} (h : KidsThere L) : ∀ e ∈ kidsOf L, 0 ≤ e.2 := fun e he => by
  obtain ⟨d, hd, he⟩ := mem_kidsOf.1 he
  exact there_pos ((h d hd).2 e he)

/-- What has names is a directory. -/
theorem dir_of_kids {x : Ino} (h : aloneB x = true) (hk : x.kids ≠ []) : x.kind = 2 := by
  have hl : x.kids.length ≠ 0 := fun e => hk (List.length_eq_zero_iff.1 e)
  unfold aloneB at h
  split at h
  · simp [hl] at h
  · split at h
    · cases h
    · split at h
      · simp [hl] at h
      · split at h
        · simp [hl] at h
        · split at h
          · assumption
          · cases h

theorem ups_in {L : List Ino} (hr : dirB L 0 = true) (hu : (nodeAt L 0).up = 0) (hI : AllFit L) (hN : NamesFit L) : UpsIn L := by
  intro k hk h2
  by_cases hk0 : k = 0
  · subst hk0
    have e : nodeAt L 0 = L[0] := node_nat L 0 hk
    rw [e] at hu
    rw [hu]
    exact hr
  · obtain ⟨_, hm⟩ := hN.2 k hk
    rw [countL_get L (kids_pos (kids_there hI)) k hk] at hm
    unfold MayHave at hm
    rw [if_neg (by omega), if_pos h2] at hm
    have hpos : 0 < namesOf (kidsOf L) k := by omega
    obtain ⟨e, he⟩ := List.exists_mem_of_length_pos hpos
    obtain ⟨he1, he2⟩ := List.mem_filter.1 he
    obtain ⟨d, hd, hed⟩ := mem_kidsOf.1 he1
    have hek : e.2 = (k : Int) := by simpa using he2
    have hup := hN.1 d hd e hed (by rw [hek]; exact (dir_nat hk).2 h2)
    rw [hek, node_nat L k hk] at hup
    rw [hup]
    exact (dir_nat hd).2 (dir_of_kids (hI d hd).1 (List.ne_nil_of_mem hed))
end Go.Proofs.Ytblmlgpajmaliaa
