/-
  Plain words and laws on trees that can be (no landed code in it).
  Plain laws on trees: how many names an inode has; each directory's Up is one.
-/
import Derived.Laws.MakeOwn
import Derived.Test.YtclhpedecimicaaGreatK9
import Derived.Test.YtclhpedecimicaaGreatK5
import Derived.Test.YtclhpedecimicaaGreatK4
namespace Go.Proofs.YtclhpedecimicaaGreat
set_option maxRecDepth 100000
open Go Go.RowKit

/-- A call that tells whether p. -/
def TellsP (p : Prop) (e : Ending) : Prop := ∃ v, e = .returned (.bool v) ∧ (v = true ↔ p)
theorem TellsP.no {p : Prop} {e : Ending} (he : e = .returned (.bool false)) (h : ¬ p) : TellsP p e := ⟨false, he, by simpa using h⟩
theorem TellsP.yes {p : Prop} {e : Ending} (he : e = .returned (.bool true)) (h : p) : TellsP p e := ⟨true, he, by simpa using h⟩
theorem TellsP.of {p : Prop} {e : Ending} {b : Bool} (he : e = .returned (.bool b)) (h : b = true ↔ p) : TellsP p e := ⟨b, he, h⟩
theorem TellsP.is {p q : Prop} {e : Ending} (h : TellsP p e) (hpq : p ↔ q) : TellsP q e := by
  obtain ⟨v, h1, h2⟩ := h
  exact ⟨v, h1, h2.trans hpq⟩
/-- How many names an inode of a kind may have. -/
def MayHave (kind ino n : Int) : Prop := if ino = 0 ∨ kind = 0 then n = 0 else if kind = 2 then n = 1 else 1 ≤ n
/-- Going Up leads to the root, in fewer steps than n. -/
def leadsL (L : List Ino) : Nat → Int → Bool
  | 0, _ => false
  | n + 1, k => if k = 0 then true else leadsL L n (nodeAt L k).up
theorem leads_succ (L : List Ino) (n : Nat) (k : Int) : leadsL L (n + 1) k = if k = 0 then true else leadsL L n (nodeAt L k).up := rfl
/-- Each directory's Up is there. -/
def UpsIn (L : List Ino) : Prop := ∀ k (h : k < L.length), L[k].kind = 2 → dirB L L[k].up = true
theorem dir_nat {L : List Ino} {n : Nat} (hn : n < L.length) : dirB L (n : Int) = true ↔ L[n].kind = 2 := by
  unfold dirB
  rw [there_of L n hn, node_nat L n hn]
  simp
def AllLead (L : List Ino) : Prop := ∀ k (_ : k < L.length), dirB L (k : Int) = true → leadsL L L.length (k : Int) = true
theorem infoInt : (Tryz.prog.info? 3).map (fun i => (i.zero, i.size, i.bytes)) = some (some (.int .i64 0), 1, 8) := by kernel_rfl
theorem made_int (n : Nat) : madeCells (Value.int .i64 0).cells (n * 1) = ((List.replicate n (0 : Int)).map intv).toArray := by
  unfold madeCells
  apply Array.ext
  · simp
  · intro i h1 h2
    simp only [Array.getElem_map, List.getElem_toArray, List.getElem_map, List.getElem_replicate, Array.getElem_range]
    show (#[Value.int .i64 0] : Array Value)[i % 1]! = intv 0
    rw [Nat.mod_one]
    rfl
theorem bump_app (A B : List (List UInt8 × Int)) (c : List Int) : bump c (A ++ B) = bump (bump c A) B := by
  unfold bump
  rw [List.foldl_append]
theorem low_bump (M : List (List UInt8 × Int)) : ∀ (c : List Int) (x : Int), 0 ≤ x → Low c x → Low (bump c M) (x + M.length) := by
  induction M with
  | nil => intro c x _ h; simpa [bump] using h
  | cons e r ih =>
    intro c x hx h
    have h1 := ih (bump1 c e.2) (x + 1) (by omega) (h.bump1 e.2 hx)
    rw [show x + ((e :: r).length : Int) = x + 1 + (r.length : Int) by simp only [List.length_cons]; omega]
    exact h1
def zeros (n : Nat) : List Int := List.replicate n 0
theorem low_zeros (n : Nat) : Low (zeros n) 0 := by
  intro z hz
  have := List.eq_of_mem_replicate hz
  omega
def kidsOf (L : List Ino) : List (List UInt8 × Int) := L.flatMap (·.kids)
theorem kidsOf_take (L : List Ino) (d : Nat) (hd : d < L.length) : kidsOf (L.take (d + 1)) = kidsOf (L.take d) ++ L[d].kids := by
  unfold kidsOf
  rw [List.take_succ_eq_append_getElem hd, List.flatMap_append]
  simp
theorem kidsOf_len (c : Nat) : ∀ (L : List Ino), (∀ k (h : k < L.length), L[k].kids.length ≤ c) → (kidsOf L).length ≤ L.length * c
  | [], _ => Nat.zero_le _
  | x :: r, h => by
    have h0 : x.kids.length ≤ c := h 0 (Nat.succ_pos _)
    have h1 := kidsOf_len c r (fun k hk => h (k + 1) (Nat.succ_lt_succ hk))
    unfold kidsOf at h1 ⊢
    simp only [List.flatMap_cons, List.length_append, List.length_cons]
    rw [Nat.succ_mul]
    omega
/-- How many names each inode has. -/
def countL (L : List Ino) : List Int := bump (zeros L.length) (kidsOf L)
theorem countL_len (L : List Ino) : (countL L).length = L.length := by unfold countL; rw [bump_len]; simp [zeros]
/-- Each directory's names of directories are of such as have it for their Up. -/
def UpFits (L : List Ino) : Prop := ∀ d (h : d < L.length), ∀ e ∈ L[d].kids, dirB L e.2 = true → (nodeAt L e.2).up = d
def LinksFit (L : List Ino) : Prop := ∀ k (h : k < L.length), L[k].links = (countL L)[k]'(by rw [countL_len]; exact h) ∧ MayHave L[k].kind k ((countL L)[k]'(by rw [countL_len]; exact h))
def NamesFit (L : List Ino) : Prop := UpFits L ∧ LinksFit L
/-- What the names ask of a tree: they are of inodes that are there, and not too many. -/
def KidsThere (L : List Ino) : Prop := ∀ k (h : k < L.length), L[k].kids.length ≤ 1024 ∧ ∀ e ∈ L[k].kids, thereB L e.2 = true
/-- What holds of a name, at its place. -/
structure NameFit (L : List Ino) (M : List (List UInt8 × Int)) (k : Nat) (h : k < M.length) : Prop where
  name : nameOkL M[k].1 = true
  order : ∀ t (ht : k = t + 1), Op.bytesLess (M[t]'(by omega)).1 M[k].1 = true
  there : thereB L M[k].2 = true
def KidsFit (L : List Ino) (M : List (List UInt8 × Int)) : Prop := M.length ≤ 1024 ∧ ∀ k (h : k < M.length), NameFit L M k h
/-- No text is longer than any machine's. -/
def Sized (L : List Ino) : Prop := ∀ k (h : k < L.length), L[k].data.length ≤ 4611686018427387904 ∧ ∀ e ∈ L[k].kids, e.1.length ≤ 4611686018427387904
def AllFit (L : List Ino) : Prop := ∀ k (h : k < L.length), aloneB L[k] = true ∧ KidsFit L L[k].kids
def Limits (L : List Ino) (m b : Int) : Prop := 1 ≤ L.length ∧ (L.length : Int) ≤ m ∧ m ≤ 256 ∧ (usedB L : Int) ≤ b ∧ b ≤ 65536
theorem usedB_le (c : Nat) : ∀ (L : List Ino), (∀ k (h : k < L.length), L[k].data.length ≤ c) → usedB L ≤ L.length * c
  | [], _ => Nat.zero_le _
  | x :: r, h => by
    have h0 := h 0 (Nat.succ_pos _)
    have h1 := usedB_le c r (fun k hk => h (k + 1) (Nat.succ_lt_succ hk))
    simp only [usedB, List.length_cons]
    have h0' : x.data.length ≤ c := h0
    rw [Nat.succ_mul]
    omega
def Short64 (L : List Ino) : Prop := ∀ k (h : k < L.length), L[k].kids.length ≤ 1024 ∧ ∀ e ∈ L[k].kids, e.1.length ≤ 64
end Go.Proofs.YtclhpedecimicaaGreat

namespace Go.Proofs.YtclhpedecimicaaGreat
set_option maxRecDepth 100000
open Go Go.RowKit

/-- How many of the names M are of inode k. -/
def namesOf (M : List (List UInt8 × Int)) (k : Int) : Nat := (M.filter fun e => e.2 == k).length

theorem bump1_get (c : List Int) (j : Int) (hj : 0 ≤ j) (k : Nat) (hk : k < c.length) : (bump1 c j)[k]'(by simpa [bump1] using hk) = c[k] + (if j = (k : Int) then 1 else 0) := by
  unfold bump1
  rw [List.getElem_set]
  by_cases h : j.toNat = k
  · rw [if_pos h, if_pos (by omega), List.getD_eq_getElem?_getD]
    subst h
    rw [List.getElem?_eq_getElem hk]
    rfl
  · rw [if_neg h, if_neg (by omega)]
    omega
theorem bump_get (M : List (List UInt8 × Int)) : ∀ (c : List Int) (k : Nat) (hk : k < c.length), (∀ e ∈ M, 0 ≤ e.2) → (bump c M)[k]'(by rw [bump_len]; exact hk) = c[k] + (namesOf M k : Int) := by
  induction M with
  | nil => intro c k hk _; simp [bump, namesOf]
  | cons e r ih =>
    intro c k hk hM
    have h1 := bump1_get c e.2 (hM e (by simp)) k hk
    have h2 := ih (bump1 c e.2) k (by simpa [bump1] using hk) (fun x hx => hM x (by simp [hx]))
    refine (show _ = _ from h2).trans ?_
    rw [h1]
    unfold namesOf
    by_cases h : e.2 = (k : Int)
    · rw [if_pos h, List.filter_cons_of_pos (by simpa using h), List.length_cons]
      omega
    · rw [if_neg h, List.filter_cons_of_neg (by simpa using h)]
      omega
theorem countL_get (L : List Ino) (h0 : ∀ e ∈ kidsOf L, 0 ≤ e.2) (k : Nat) (hk : k < L.length) : (countL L)[k]'(by rw [countL_len]; exact hk) = (namesOf (kidsOf L) k : Int) := by
  unfold countL
  rw [bump_get (kidsOf L) (zeros L.length) k (by simpa [zeros] using hk) h0]
  simp [zeros]

theorem mem_kidsOf {L : List Ino} {e : List UInt8 × Int} : e ∈ kidsOf L ↔ ∃ d, ∃ h : d < L.length, e ∈ L[d].kids := by
  unfold kidsOf
  rw [List.mem_flatMap]
  constructor
  · rintro ⟨x, hx, he⟩
    obtain ⟨d, hd, rfl⟩ := List.getElem_of_mem hx
    exact ⟨d, hd, he⟩
  · rintro ⟨d, hd, he⟩
    exact ⟨L[d], List.getElem_mem _, he⟩

/-- A tree that can be. -/
structure FitP (L : List Ino) (m b : Int) : Prop where
  limits : Limits L m b
  root : dirB L 0 = true
  rootUp : (nodeAt L 0).up = 0
  ins : AllFit L
  names : NamesFit L
  leads : AllLead L

theorem kids_there {L : List Ino} (h : AllFit L) : KidsThere L := fun k hk => ⟨(h k hk).2.1, fun e he => by
  obtain ⟨i, hi, rfl⟩ := List.getElem_of_mem he
  exact ((h k hk).2.2 i hi).there⟩
theorem there_pos {L : List Ino} {k : Int} (h : thereB L k = true) : 0 ≤ k := by
  obtain ⟨n, rfl, _⟩ := there_nat h
  omega
theorem kids_pos {L : List Ino} (h : KidsThere L) : ∀ e ∈ kidsOf L, 0 ≤ e.2 := fun e he => by
  obtain ⟨d, hd, he⟩ := mem_kidsOf.1 he
  exact there_pos ((h d hd).2 e he)

/-- What has names is a directory. -/
theorem dir_of_kids {x : Ino} (h : aloneB x = true) (hk : x.kids ≠ []) : x.kind = 2 := by
  have hl : x.kids.length ≠ 0 := fun e => hk (List.length_eq_zero_iff.1 e)
  unfold aloneB at h
  split at h
  · simp [hl] at h
  · split at h
    · cases h
    · split at h
      · simp [hl] at h
      · split at h
        · simp [hl] at h
        · split at h
          · assumption
          · cases h

theorem ups_in {L : List Ino} (hr : dirB L 0 = true) (hu : (nodeAt L 0).up = 0) (hI : AllFit L) (hN : NamesFit L) : UpsIn L := by
  intro k hk h2
  by_cases hk0 : k = 0
  · subst hk0
    have e : nodeAt L 0 = L[0] := node_nat L 0 hk
    rw [e] at hu
    rw [hu]
    exact hr
  · obtain ⟨_, hm⟩ := hN.2 k hk
    rw [countL_get L (kids_pos (kids_there hI)) k hk] at hm
    unfold MayHave at hm
    rw [if_neg (by omega), if_pos h2] at hm
    have hpos : 0 < namesOf (kidsOf L) k := by omega
    obtain ⟨e, he⟩ := List.exists_mem_of_length_pos hpos
    obtain ⟨he1, he2⟩ := List.mem_filter.1 he
    obtain ⟨d, hd, hed⟩ := mem_kidsOf.1 he1
    have hek : e.2 = (k : Int) := by simpa using he2
    have hup := hN.1 d hd e hed (by rw [hek]; exact (dir_nat hk).2 h2)
    rw [hek, node_nat L k hk] at hup
    rw [hup]
    exact (dir_nat hd).2 (dir_of_kids (hI d hd).1 (List.ne_nil_of_mem hed))
end Go.Proofs.YtclhpedecimicaaGreat
