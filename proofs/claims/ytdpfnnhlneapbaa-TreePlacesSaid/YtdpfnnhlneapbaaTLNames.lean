/-
  tree's namesFit, of the landed code: each inode has as many names as its Links say.
-/
import Derived.Deep.QuietTactic
import Derived.BigQuiet
import Derived.Laws.MakeOwn
import Derived.Test.YtdpfnnhlneapbaaTreeKidsDefs
import Derived.Test.YtdpfnnhlneapbaaTLUps
import Derived.Test.YtdpfnnhlneapbaaTreeSame
namespace Go.Proofs.Ytdpfnnhlneapbaa
open Go Go.RowKit

theorem infoInt : (Try.prog.info? 3).map (fun i => (i.zero, i.size, i.bytes)) = some (some (.int .i64 0), 1, 8) := by kernel_rfl
theorem made_int (n : Nat) : madeCells (Value.int .i64 0).cells (n * 1) = ((List.replicate n (0 : Int)).map intv).toArray := by
  unfold madeCells
  apply Array.ext
  · simp
  · intro i h1 h2
    simp only [Array.getElem_map, List.getElem_toArray, List.getElem_map, List.getElem_replicate, Array.getElem_range]
    show (#[Value.int .i64 0] : Array Value)[i % 1]! = intv 0
    rw [Nat.mod_one]
    rfl

theorem bump_app (A B : List (List UInt8 × Int)) (c : List Int) : bump c (A ++ B) = bump (bump c A) B := by
  unfold bump
  rw [List.foldl_append]
theorem low_bump (M : List (List UInt8 × Int)) : ∀ (c : List Int) (x : Int), 0 ≤ x → Low c x → Low (bump c M) (x + M.length) := by
  induction M with
  | nil => intro c x _ h; simpa [bump] using h
  | cons e r ih =>
    intro c x hx h
    have h1 := ih (bump1 c e.2) (x + 1) (by omega) (h.bump1 e.2 hx)
    rw [show x + ((e :: r).length : Int) = x + 1 + (r.length : Int) by simp only [List.length_cons]; omega]
    exact h1
def zeros (n : Nat) : List Int := List.replicate n 0
theorem low_zeros (n : Nat) : Low (zeros n) 0 := by
  intro z hz
  have := List.eq_of_mem_replicate hz
  omega

def kidsOf (L : List Ino) : List (List UInt8 × Int) := L.flatMap (·.kids)
theorem kidsOf_take (L : List Ino) (d : Nat) (hd : d < L.length) : kidsOf (L.take (d + 1)) = kidsOf (L.take d) ++ L[d].kids := by
  unfold kidsOf
  rw [List.take_succ_eq_append_getElem hd, List.flatMap_append]
  simp
theorem kidsOf_len (c : Nat) : ∀ (L : List Ino), (∀ k (h : k < L.length), L[k].kids.length ≤ c) → (kidsOf L).length ≤ L.length * c
  | [], _ => Nat.zero_le _
  | x :: r, h => by
    have h0 : x.kids.length ≤ c := h 0 (Nat.succ_pos _)
    have h1 := kidsOf_len c r (fun k hk => h (k + 1) (Nat.succ_lt_succ hk))
    unfold kidsOf at h1 ⊢
    simp only [List.flatMap_cons, List.length_append, List.length_cons]
    rw [Nat.succ_mul]
    omega

/-- How many names each inode has. -/
def countL (L : List Ino) : List Int := bump (zeros L.length) (kidsOf L)
theorem countL_len (L : List Ino) : (countL L).length = L.length := by unfold countL; rw [bump_len]; simp [zeros]

/-- Each directory's names of directories are of such as have it for their Up. -/
def UpFits (L : List Ino) : Prop := ∀ d (h : d < L.length), ∀ e ∈ L[d].kids, dirB L e.2 = true → (nodeAt L e.2).up = d
def LinksFit (L : List Ino) : Prop := ∀ k (h : k < L.length), L[k].links = (countL L)[k]'(by rw [countL_len]; exact h) ∧ MayHave L[k].kind k ((countL L)[k]'(by rw [countL_len]; exact h))
def NamesFit (L : List Ino) : Prop := UpFits L ∧ LinksFit L

/-- What the names ask of a tree: they are of inodes that are there, and not too many. -/
def KidsThere (L : List Ino) : Prop := ∀ k (h : k < L.length), L[k].kids.length ≤ 1024 ∧ ∀ e ∈ L[k].kids, thereB L e.2 = true

def NRel (L : List Ino) (C : Nat) (w1 : World) (iv : Value) (wr : World) : Prop :=
  ∃ d : Nat, d ≤ L.length ∧ iv = .int .i64 d ∧ Hid (∀ d' (h : d' < L.length), d' < d → ∀ e ∈ L[d'].kids, dirB L e.2 = true → (nodeAt L e.2).up = d') ∧ CountIn wr C (bump (zeros L.length) (kidsOf (L.take d))) ∧ Below w1.heap.size w1 wr
def NRel2 (L : List Ino) (C d : Nat) (M : List (List UInt8 × Int)) (w1 wn : World) (iv : Value) (wr : World) : Prop :=
  ∃ j : Nat, j ≤ M.length ∧ iv = .int .i64 j ∧ Hid (∀ i (h : i < M.length), i < j → dirB L M[i].2 = true → (nodeAt L M[i].2).up = d) ∧ CountIn wr C (bump (zeros L.length) (kidsOf (L.take d) ++ M.take j)) ∧ Below w1.heap.size w1 wr ∧ wn.heap.size ≤ wr.heap.size
def NRel3 (L : List Ino) (C : Nat) (w1 : World) (iv : Value) (wr : World) : Prop :=
  ∃ i : Nat, i ≤ L.length ∧ iv = .int .i64 i ∧ Hid (∀ k (h : k < L.length), k < i → L[k].links = (countL L)[k]'(by rw [countL_len]; exact h) ∧ MayHave L[k].kind k ((countL L)[k]'(by rw [countL_len]; exact h))) ∧ CountIn wr C (countL L) ∧ Below w1.heap.size w1 wr

theorem CountIn.step {W : World} {C : Nat} {c : List Int} (h : CountIn W C c) (o : Obj) (u : Nat) (z : Int) : CountIn ((W.alloc o).setCell ⟨C, u, none⟩ (.int .i64 z)) C (c.set u z) := (h.below (below_box W o)).set u z
end Go.Proofs.Ytdpfnnhlneapbaa
