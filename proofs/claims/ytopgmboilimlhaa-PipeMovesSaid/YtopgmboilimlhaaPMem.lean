/-
  Pipes in memory: boxes of four.
-/
import Derived.Lib.MinMax
import Derived.Laws.IdiomStrings
import Derived.Test.YtopgmboilimlhaaBlk
import Derived.Test.YtopgmboilimlhaaTextCut
import Derived.Test.YtopgmboilimlhaaPPlain
namespace Go.Proofs.Ytopgmboilimlhaa
set_option maxRecDepth 100000
open Go Go.RowKit

/-- A pipe is stored in a block of four. -/
def put4 (W : World) (k : Nat) (x y z u : Value) : World := (((W.setCell ⟨k, 0, none⟩ x).setCell ⟨k, 1, none⟩ y).setCell ⟨k, 2, none⟩ z).setCell ⟨k, 3, none⟩ u
theorem put4_block {W : World} {k : Nat} {a b c d : Value} {t : TypeId} (h : W.heap[k]? = some (.cells #[a, b, c, d] t (0, 0))) (x y z u : Value) : (put4 W k x y z u).heap[k]? = some (.cells #[x, y, z, u] t (0, 0)) := blk_set (blk_set (blk_set (blk_set h 0 x) 1 y) 2 z) 3 u
theorem put4_cells {W : World} {k : Nat} {a b c d : Value} {t : TypeId} (h : W.heap[k]? = some (.cells #[a, b, c, d] t (0, 0))) (x y z u : Value) : (put4 W k x y z u).cell? ⟨k, 0, none⟩ = some x ∧ (put4 W k x y z u).cell? ⟨k, 1, none⟩ = some y ∧ (put4 W k x y z u).cell? ⟨k, 2, none⟩ = some z ∧ (put4 W k x y z u).cell? ⟨k, 3, none⟩ = some u :=
  ⟨blk_cell (put4_block h x y z u) 0, blk_cell (put4_block h x y z u) 1, blk_cell (put4_block h x y z u) 2, blk_cell (put4_block h x y z u) 3⟩
theorem put4_below {B : Nat} {w W : World} {k : Nat} (h : Below B w W) (hk : B ≤ k) (x y z u : Value) : Below B w (put4 W k x y z u) := (((h.setCell hk _).setCell hk _).setCell hk _).setCell hk _
theorem put4_size (W : World) (k : Nat) (x y z u : Value) : (put4 W k x y z u).heap.size = W.heap.size := by unfold put4; simp [World.setCell]
theorem data_text {p : Pip} {D : ByteArray} (h : D = ⟨p.data.toArray⟩) : D.data.toList = p.data ∧ D.size = p.data.length := by
  have h1 : D.data.toList = p.data := by rw [h]
  exact ⟨h1, by rw [← h1]; exact Array.length_toList.symm⟩
theorem text_no {D : ByteArray} (h : D.data.toList ≠ []) : (D.data.toList == []) = false ∧ D.toList.isEmpty = false := by
  rw [ByteArray.toList_eq]
  cases h1 : D.data.toList with
  | nil => exact absurd h1 h
  | cons c r => exact ⟨rfl, rfl⟩
theorem two_below (w : World) (A B : Obj) : Below w.heap.size w ((w.alloc A).alloc B) := (below_box w _).alloc (by simp) _
end Go.Proofs.Ytopgmboilimlhaa
