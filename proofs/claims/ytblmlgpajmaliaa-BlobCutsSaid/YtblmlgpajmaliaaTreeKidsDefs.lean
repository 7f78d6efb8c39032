/-
  Plain words for the reference's kids, and how the counts lie in memory.
-/
import Derived.BigRegion
import Derived.RangeFuncBox
import Derived.StillTailTactics
import Derived.Deep.Draws
import Derived.Laws.Cover1
import Derived.Test.YtblmlgpajmaliaaTreeKid
import Derived.Test.YtblmlgpajmaliaaPathRef2
namespace Go.Proofs.Ytblmlgpajmaliaa
set_option maxRecDepth 100000
open Go Go.RowKit

def intv (z : Int) : Value := .int .i64 z
/-- Block C holds the numbers c. -/
def CountIn (W : World) (C : Nat) (c : List Int) : Prop := W.heap[C]? = some (.cells (c.map intv).toArray 3 (0, 0))

theorem CountIn.cell {W : World} {C : Nat} {c : List Int} (h : CountIn W C c) (i : Nat) (hi : i < c.length) : W.cell? ⟨C, i, none⟩ = some (.int .i64 c[i]) := by
  simp only [World.cell?, show W.heap[C]? = _ from h]
  simp [hi, intv]
theorem CountIn.frozen {W : World} {C : Nat} {c : List Int} (h : CountIn W C c) (i : Nat) : W.frozen? ⟨C, i, none⟩ = false := by
  simp only [World.frozen?, show W.heap[C]? = _ from h]
  simp
theorem CountIn.below {W W' : World} {C : Nat} {c : List Int} (h : CountIn W C c) (hb : Below W.heap.size W W') : CountIn W' C c :=
  (hb.block C (Array.getElem?_eq_some_iff.1 h).1).trans h
theorem CountIn.set {W : World} {C : Nat} {c : List Int} (h : CountIn W C c) (i : Nat) (z : Int) : CountIn (W.setCell ⟨C, i, none⟩ (.int .i64 z)) C (c.set i z) := by
  show (W.setCell ⟨C, i, none⟩ (.int .i64 z)).heap[C]? = _
  have e : (c.map intv).toArray.setIfInBounds i (.int .i64 z) = ((c.set i z).map intv).toArray := by
    apply Array.ext'
    simp [intv, List.map_set]
  rw [← e]
  simp only [World.setCell, Array.getElem?_modify, show W.heap[C]? = _ from h, Option.map_some]
  simp

/-- What holds of a name of directory d, at its place. -/
structure KidOk (L : List Ino) (d : Nat) (M : List (List UInt8 × Int)) (k : Nat) (h : k < M.length) : Prop where
  name : nameOkL M[k].1 = true
  order : ∀ t (ht : k = t + 1), Op.bytesLess (M[t]'(by omega)).1 M[k].1 = true
  there : thereB L M[k].2 = true
  kind : (nodeAt L M[k].2).kind ≠ 0
  dir : ¬ ((nodeAt L M[k].2).kind = 2 ∧ (M[k].2 = 0 ∨ (nodeAt L M[k].2).up ≠ d))
def KidsOk (L : List Ino) (d : Nat) (M : List (List UInt8 × Int)) : Prop := ∀ k (h : k < M.length), KidOk L d M k h
def bump1 (c : List Int) (j : Int) : List Int := c.set j.toNat (c.getD j.toNat 0 + 1)
def bump (c : List Int) (M : List (List UInt8 × Int)) : List Int := M.foldl (fun c e => bump1 c e.2) c
theorem bump_len (M : List (List UInt8 × Int)) : ∀ c, (bump c M).length = c.length := by
  induction M with
  | nil => intro c; rfl
  | cons e r ih => intro c; show (bump (bump1 c e.2) r).length = _; rw [ih]; simp [bump1]
theorem bump_snoc (M : List (List UInt8 × Int)) (k : Nat) (hk : k < M.length) (c : List Int) : bump c (M.take (k + 1)) = bump1 (bump c (M.take k)) M[k].2 := by
  rw [List.take_succ_eq_append_getElem hk]
  unfold bump
  rw [List.foldl_append]
  rfl
/-- Numbers from 0 to x. -/
def Low (c : List Int) (x : Int) : Prop := ∀ z ∈ c, 0 ≤ z ∧ z ≤ x
theorem Low.bump1 {c : List Int} {x : Int} (h : Low c x) (j : Int) (hx : 0 ≤ x) : Low (bump1 c j) (x + 1) := by
  intro z hz
  unfold Proofs.Ytblmlgpajmaliaa.bump1 at hz
  rcases List.mem_or_eq_of_mem_set hz with h1 | rfl
  · have := h z h1; omega
  · rw [List.getD_eq_getElem?_getD]
    cases hc : c[j.toNat]? with
    | none => simp; omega
    | some y => have := h y (List.mem_of_getElem? hc); simp; omega

theorem rname_known (s : ByteArray) (hs : s.size ≤ 9223372036854775807) (v : Bool) (h : nameOkL s.data.toList = v) (w : World) : Calls Try.prog 34 #[.string s] w fun e w' => e = .returned (.bool v) ∧ w' = w := by
  subst h
  exact (rname_any s (by unfold maxLen; exact hs) w).mono fun e w' h => ⟨h.1, h.2.symm⟩

end Go.Proofs.Ytblmlgpajmaliaa
