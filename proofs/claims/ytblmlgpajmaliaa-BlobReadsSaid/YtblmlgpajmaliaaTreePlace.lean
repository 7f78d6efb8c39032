/-
  The reference's Place: a directory's path from the root.
-/
import Derived.Test.YtblmlgpajmaliaaTreeKid
namespace Go.Proofs.Ytblmlgpajmaliaa
set_option maxRecDepth 100000
open Go Go.RowKit

def kidsTo (M : List (List UInt8 × Int)) (d : Int) (s : List UInt8) : List UInt8 := M.foldl (fun s e => if e.2 = d then 47 :: e.1 ++ s else s) s
def placeGo (L : List Ino) : Nat → Int → List UInt8 → List UInt8
  | 0, _, s => s
  | n + 1, d, s => if d = 0 then s else placeGo L n (nodeAt L d).up (kidsTo (nodeAt L (nodeAt L d).up).kids d s)
def placeL (L : List Ino) (d : Int) : List UInt8 := if dirB L d then (if placeGo L (L.length + 1) d [] = [] then [47] else placeGo L (L.length + 1) d []) else []

theorem place_succ (L : List Ino) (n : Nat) (d : Int) (s : List UInt8) : placeGo L (n + 1) d s = if d = 0 then s else placeGo L n (nodeAt L d).up (kidsTo (nodeAt L (nodeAt L d).up).kids d s) := rfl
theorem kidsTo_drop (M : List (List UInt8 × Int)) (k : Nat) (hk : k < M.length) (d : Int) (s : List UInt8) : kidsTo (M.drop k) d s = kidsTo (M.drop (k + 1)) d (if M[k].2 = d then 47 :: M[k].1 ++ s else s) := by
  rw [List.drop_eq_getElem_cons hk]
  rfl

/-- What going up asks of a tree: each directory's Up is one; names and directories are not too long. -/
def Climbs (L : List Ino) : Prop := ∀ k (h : k < L.length), (L[k].kind = 2 → dirB L L[k].up = true) ∧ L[k].kids.length ≤ 1024 ∧ ∀ e ∈ L[k].kids, e.1.length ≤ 64

theorem slash_cat3 (x s : List UInt8) : ((⟨#[47]⟩ : ByteArray) ++ (⟨x.toArray⟩ : ByteArray)) ++ (⟨s.toArray⟩ : ByteArray) = ⟨(47 :: x ++ s).toArray⟩ := by
  rw [show (⟨#[47]⟩ : ByteArray) = ⟨[47].toArray⟩ from rfl, ByteArray.mk_append_mk, ByteArray.mk_append_mk]
  rfl

def PlaceRel (L : List Ino) (n0 : Nat) (dv sv iv : Value) : Prop :=
  ∃ (d i : Nat) (s : List UInt8), d < L.length ∧ dirB L d = true ∧ i ≤ L.length + 1 ∧ dv = .int .i64 d ∧ iv = .int .i64 i ∧ sv = .string ⟨s.toArray⟩ ∧ s.length ≤ i * 66560 ∧ Hid (placeGo L (L.length + 1) (n0 : Int) [] = placeGo L (L.length + 1 - i) (d : Int) s)

end Go.Proofs.Ytblmlgpajmaliaa
