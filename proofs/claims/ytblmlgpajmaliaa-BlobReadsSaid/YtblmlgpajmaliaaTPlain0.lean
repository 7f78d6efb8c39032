/-
  Plain words and laws on trees that can be (no landed code in it).
-/
import Derived.Laws.MakeOwn
import Derived.Test.YtblmlgpajmaliaaTreeKidsDefs
import Derived.Test.YtblmlgpajmaliaaTreeRoot
import Derived.Test.YtblmlgpajmaliaaTreeAlone
namespace Go.Proofs.Ytblmlgpajmaliaa
set_option maxRecDepth 100000
open Go Go.RowKit

/-- A call that tells whether p. -/
def TellsP (p : Prop) (e : Ending) : Prop := ∃ v, e = .returned (.bool v) ∧ (v = true ↔ p)
theorem TellsP.no {p : Prop} {e : Ending} (he : e = .returned (.bool false)) (h : ¬ p) : TellsP p e := ⟨false, he, by simpa using h⟩
theorem TellsP.yes {p : Prop} {e : Ending} (he : e = .returned (.bool true)) (h : p) : TellsP p e := ⟨true, he, by simpa using h⟩
theorem TellsP.of {p : Prop} {e : Ending} {b : Bool} (he : e = .returned (.bool b)) (h : b = true ↔ p) : TellsP p e := ⟨b, he, h⟩
theorem TellsP.is {p q : Prop} {e : Ending} (h : TellsP p e) (hpq : p ↔ q) : TellsP q e := by
  obtain ⟨v, h1, h2⟩ := h
  exact ⟨v, h1, h2.trans hpq⟩
/-- How many names an inode of a kind may have. -/
def MayHave (kind ino n : Int) : Prop := if ino = 0 ∨ kind = 0 then n = 0 else if kind = 2 then n = 1 else 1 ≤ n
/-- Going Up leads to the root, in fewer steps than n. -/
def leadsL (L : List Ino) : Nat → Int → Bool
  | 0, _ => false
  | n + 1, k => if k = 0 then true else leadsL L n (nodeAt L k).up
theorem leads_succ (L : List Ino) (n : Nat) (k : Int) : leadsL L (n + 1) k = if k = 0 then true else leadsL L n (nodeAt L k).up := rfl
/-- Each directory's Up is there. -/
def UpsIn (L : List Ino) : Prop := ∀ k (h : k < L.length), L[k].kind = 2 → dirB L L[k].up = true
theorem dir_nat {L : List Ino} {n : Nat} (hn : n < L.length) : dirB L (n : Int) = true ↔ L[n].kind = 2 := by
  unfold dirB
  rw [there_of L n hn, node_nat L n hn]
  simp
def AllLead (L : List Ino) : Prop := ∀ k (_ : k < L.length), dirB L (k : Int) = true → leadsL L L.length (k : Int) = true
theorem infoInt : (Try.prog.info? 3).map (fun i => (i.zero, i.size, i.bytes)) = some (some (.int .i64 0), 1, 8) := by kernel_rfl
theorem made_int (n : Nat) : madeCells (Value.int .i64 0).cells (n * 1) = ((List.replicate n (0 : Int)).map intv).toArray := by
  unfold madeCells
  apply Array.ext
  · simp
  · intro i h1 h2
    simp only [Array.getElem_map, List.getElem_toArray, List.getElem_map, List.getElem_replicate, Array.getElem_range]
    show (#[Value.int .i64 0] : Array Value)[i % 1]! = intv 0
    rw [Nat.mod_one]
    rfl
theorem bump_app (A B : List (List UInt8 × Int)) (c : List Int) : bump c (A ++ B) = bump (bump c A) B := by
  unfold bump
  rw [List.foldl_append]
theorem low_bump (M : List (List UInt8 × Int)) : ∀ (c : List Int) (x : Int), 0 ≤ x → Low c x → Low (bump c M) (x + M.length) := by
  induction M with
  | nil => intro c x _ h; simpa [bump] using h
  | cons e r ih =>
    intro c x hx h
    have h1 := ih (bump1 c e.2) (x + 1) (by omega) (h.bump1 e.2 hx)
    rw [show x + ((e :: r).length : Int) = x + 1 + (r.length : Int) by simp only [List.length_cons]; omega]
    exact h1
def zeros (n : Nat) : List Int := List.replicate n 0
theorem low_zeros (n : Nat) : Low (zeros n) 0 := by
  intro z hz
  have := List.eq_of_mem_replicate hz
  omega
def kidsOf (L : List Ino) : List (List UInt8 × Int) := L.flatMap (·.kids)
theorem kidsOf_take (L : List Ino) (d : Nat) (hd : d < L.length) : kidsOf (L.take (d + 1)) = kidsOf (L.take d) ++ L[d].kids := by
  unfold kidsOf
  rw [List.take_succ_eq_append_getElem hd, List.flatMap_append]
  simp
theorem kidsOf_len (c : Nat) : ∀ (L : List Ino), (∀ k (h : k < L.length), L[k].kids.length ≤ c) → (kidsOf L).length ≤ L.length * c
  | [], _ => Nat.zero_le _
  | x :: r, h => by
    have h0 : x.kids.length ≤ c := h 0 (Nat.succ_pos _)
    have h1 := kidsOf_len c r (fun k hk => h (k + 1) (Nat.succ_lt_succ hk))
    unfold kidsOf at h1 ⊢
    simp only [List.flatMap_cons, List.length_append, List.length_cons]
    rw [Nat.succ_mul]
    omega
/-- How many names each inode has. -/
def countL (L : List Ino) : List Int := bump (zeros L.length) (kidsOf L)
theorem countL_len (L : List Ino) : (countL L).length = L.length := by unfold countL; rw [bump_len]; simp [zeros]
/-- Each directory's names of directories are of such as have it for their Up. -/
def UpFits (L : List Ino) : Prop := ∀ d (h : d < L.length), ∀ e ∈ L[d].kids, dirB L e.2 = true → (nodeAt L e.2).up = d
def LinksFit (L : List Ino) : Prop := ∀ k (h : k < L.length), L[k].links = (countL L)[k]'(by rw [countL_len]; exact h) ∧ MayHave L[k].kind k ((countL L)[k]'(by rw [countL_len]; exact h))
def NamesFit (L : List Ino) : Prop := UpFits L ∧ LinksFit L
/-- What the names ask of a tree: they are of inodes that are there, and not too many. -/
def KidsThere (L : List Ino) : Prop := ∀ k (h : k < L.length), L[k].kids.length ≤ 1024 ∧ ∀ e ∈ L[k].kids, thereB L e.2 = true
/-- What holds of a name, at its place. -/
structure NameFit (L : List Ino) (M : List (List UInt8 × Int)) (k : Nat) (h : k < M.length) : Prop where
  name : nameOkL M[k].1 = true
  order : ∀ t (ht : k = t + 1), Op.bytesLess (M[t]'(by omega)).1 M[k].1 = true
  there : thereB L M[k].2 = true
def KidsFit (L : List Ino) (M : List (List UInt8 × Int)) : Prop := M.length ≤ 1024 ∧ ∀ k (h : k < M.length), NameFit L M k h
/-- No text is longer than any machine's. -/
def Sized (L : List Ino) : Prop := ∀ k (h : k < L.length), L[k].data.length ≤ 4611686018427387904 ∧ ∀ e ∈ L[k].kids, e.1.length ≤ 4611686018427387904
def AllFit (L : List Ino) : Prop := ∀ k (h : k < L.length), aloneB L[k] = true ∧ KidsFit L L[k].kids
def Limits (L : List Ino) (m b : Int) : Prop := 1 ≤ L.length ∧ (L.length : Int) ≤ m ∧ m ≤ 256 ∧ (usedB L : Int) ≤ b ∧ b ≤ 65536
theorem usedB_le (c : Nat) : ∀ (L : List Ino), (∀ k (h : k < L.length), L[k].data.length ≤ c) → usedB L ≤ L.length * c
  | [], _ => Nat.zero_le _
  | x :: r, h => by
    have h0 := h 0 (Nat.succ_pos _)
    have h1 := usedB_le c r (fun k hk => h (k + 1) (Nat.succ_lt_succ hk))
    simp only [usedB, List.length_cons]
    have h0' : x.data.length ≤ c := h0
    rw [Nat.succ_mul]
    omega
def Short64 (L : List Ino) : Prop := ∀ k (h : k < L.length), L[k].kids.length ≤ 1024 ∧ ∀ e ∈ L[k].kids, e.1.length ≤ 64
end Go.Proofs.Ytblmlgpajmaliaa
