/-
  Plain words for the reference's list: all paths beneath a directory.
-/
import Derived.BigRegion
import Derived.Deep.Draws
import Derived.Test.YtogheigpcppeiaaK2
import Derived.Test.YtogheigpcppeiaaAppStep
namespace Go.Proofs.Ytogheigpcppeiaa
set_option maxRecDepth 100000
open Go Go.RowKit

theorem own_less3 {w : World} {b b' : Nat} {v : Value} {L : List (List UInt8)} (h : Texts b w v L) (hb : b' ≤ b) : Texts b' w v L := by
  obtain ⟨h1, h2 | ⟨g, cap, cur, hv, hg, r⟩⟩ := h
  · exact ⟨h1, Or.inl h2⟩
  · exact ⟨h1, Or.inr ⟨g, cap, cur, hv, by omega, r⟩⟩

def listGo (L : List Ino) : Nat → Int → List UInt8 → List (List UInt8)
  | 0, _, _ => []
  | n + 1, d, p => (nodeAt L d).kids.flatMap fun e => (p ++ 47 :: e.1) :: (if (nodeAt L e.2).kind = 2 then listGo L n e.2 (p ++ 47 :: e.1) else [])
/-- One name's paths. -/
def listOne (L : List Ino) (n : Nat) (p : List UInt8) (e : List UInt8 × Int) : List (List UInt8) := (p ++ 47 :: e.1) :: (if (nodeAt L e.2).kind = 2 then listGo L n e.2 (p ++ 47 :: e.1) else [])
theorem list_succ (L : List Ino) (n : Nat) (d : Int) (p : List UInt8) : listGo L (n + 1) d p = (nodeAt L d).kids.flatMap (listOne L n p) := rfl

/-- What going down asks of a tree: each name's inode is there, and no name is too long. -/
def Falls (L : List Ino) : Prop := ∀ k (h : k < L.length), ∀ e ∈ L[k].kids, thereB L e.2 = true ∧ e.1.length ≤ 64

theorem flat_take {α β : Type} (M : List α) (f : α → List β) (k : Nat) (hk : k < M.length) : (M.take (k + 1)).flatMap f = (M.take k).flatMap f ++ f M[k] := by
  rw [List.take_succ_eq_append_getElem hk, List.flatMap_append]
  simp
theorem flat_len {α β : Type} (M : List α) (f : α → List β) (k : Nat) : ((M.take k).flatMap f).length ≤ (M.flatMap f).length := by
  have h := congrArg (fun l => (l.flatMap f).length) (List.take_append_drop k M)
  simp only [List.flatMap_append, List.length_append] at h
  omega

theorem cat_slash (p x : List UInt8) : ((⟨p.toArray⟩ : ByteArray) ++ (⟨#[47]⟩ : ByteArray)) ++ (⟨x.toArray⟩ : ByteArray) = ⟨(p ++ 47 :: x).toArray⟩ := by
  rw [show (⟨#[47]⟩ : ByteArray) = ⟨[47].toArray⟩ from rfl, ByteArray.mk_append_mk, ByteArray.mk_append_mk, List.append_assoc]
  rfl

end Go.Proofs.Ytogheigpcppeiaa
