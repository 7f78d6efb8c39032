/-
  The reference's Kid: what a directory has of a name.
-/
import Derived.Test.YtblmlgpajmaliaaTrees
namespace Go.Proofs.Ytblmlgpajmaliaa
set_option maxRecDepth 100000
open Go Go.RowKit

def noIno : Ino := ⟨0, 0, 0, [], [], 0⟩
def nodeAt (L : List Ino) (k : Int) : Ino := L.getD k.toNat noIno
def dirB (L : List Ino) (k : Int) : Bool := thereB L k && (nodeAt L k).kind == 2

def findK : List (List UInt8 × Int) → List UInt8 → Int
  | [], _ => -1
  | e :: r, s => if e.1 = s then e.2 else findK r s
def kidL (L : List Ino) (d : Int) (s : List UInt8) : Int := if dirB L d then findK (nodeAt L d).kids s else -1

theorem there_nat {L : List Ino} {k : Int} (h : thereB L k = true) : ∃ n : Nat, k = (n : Int) ∧ n < L.length := by
  unfold thereB at h
  rw [Bool.and_eq_true, decide_eq_true_eq, decide_eq_true_eq] at h
  exact ⟨k.toNat, by omega, by omega⟩
theorem there_not {L : List Ino} {k : Int} (h : thereB L k = false) : k < 0 ∨ (L.length : Int) ≤ k := by
  unfold thereB at h
  rw [Bool.and_eq_false_iff, decide_eq_false_iff_not, decide_eq_false_iff_not] at h
  omega
theorem node_nat (L : List Ino) (n : Nat) (h : n < L.length) : nodeAt L (n : Int) = L[n] := by
  unfold nodeAt
  rw [Int.toNat_natCast, List.getD_eq_getElem?_getD, List.getElem?_eq_getElem h]
  rfl
theorem there_of (L : List Ino) (n : Nat) (h : n < L.length) : thereB L (n : Int) = true := by
  unfold thereB
  rw [decide_eq_true (by omega), decide_eq_true (by omega)]
  rfl
theorem findK_drop (M : List (List UInt8 × Int)) (k : Nat) (hk : k < M.length) (s : List UInt8) : findK (M.drop k) s = if M[k].1 = s then M[k].2 else findK (M.drop (k + 1)) s := by
  rw [List.drop_eq_getElem_cons hk]
  rfl

/-- The reference's there, of a tree's inodes. -/
theorem rthere_known (a : Option Addr) (cap : Nat) (m b k : Int) (L : List Ino) (v : Bool) (hv : thereB L k = v) (w : World) :
    Calls Try.prog 27 #[.agg #[.slice a L.length cap, .int .i64 m, .int .i64 b], .int .i64 k] w fun e w' => e = .returned (.bool v) ∧ Below w.heap.size w w' := by
  subst hv
  exact rthere_any a cap L.length m b k w

end Go.Proofs.Ytblmlgpajmaliaa
