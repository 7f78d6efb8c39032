/-
  Blocks of a world: their cells; boxes that are laid.
-/
import Derived.Test.YtclhpedecimicaaDoorTrees
namespace Go.Proofs.YtclhpedecimicaaDoor
set_option maxRecDepth 100000
open Go Go.RowKit

theorem blk_cell {W : World} {k : Nat} {cs : Array Value} {t : TypeId} (h : W.heap[k]? = some (.cells cs t (0, 0))) (j : Nat) : W.cell? ⟨k, j, none⟩ = cs[j]? := cell_of_row W k j cs t (0, 0) h
theorem blk_free {W : World} {k : Nat} {cs : Array Value} {t : TypeId} (h : W.heap[k]? = some (.cells cs t (0, 0))) (j : Nat) : W.frozen? ⟨k, j, none⟩ = false := by simp [World.frozen?, h]
theorem blk_set {W : World} {k : Nat} {cs : Array Value} {t : TypeId} (h : W.heap[k]? = some (.cells cs t (0, 0))) (j : Nat) (u : Value) : (W.setCell ⟨k, j, none⟩ u).heap[k]? = some (.cells (cs.setIfInBounds j u) t (0, 0)) := by
  have hlt := lt_of_block h
  have h' : W.heap[k] = .cells cs t (0, 0) := by simpa [Array.getElem?_eq_getElem hlt] using h
  show (W.heap.modify k _)[k]? = _
  rw [Array.getElem?_eq_getElem (by simpa using hlt), Array.getElem_modify_self, h']
  rfl
/-- A tree is stored in a block of three. -/
def put3 (W : World) (k : Nat) (x y z : Value) : World := ((W.setCell ⟨k, 0, none⟩ x).setCell ⟨k, 1, none⟩ y).setCell ⟨k, 2, none⟩ z
theorem put3_block {W : World} {k : Nat} {a b c : Value} {t : TypeId} (h : W.heap[k]? = some (.cells #[a, b, c] t (0, 0))) (x y z : Value) : (put3 W k x y z).heap[k]? = some (.cells #[x, y, z] t (0, 0)) := blk_set (blk_set (blk_set h 0 x) 1 y) 2 z
theorem put3_cells {W : World} {k : Nat} {a b c : Value} {t : TypeId} (h : W.heap[k]? = some (.cells #[a, b, c] t (0, 0))) (x y z : Value) : (put3 W k x y z).cell? ⟨k, 0, none⟩ = some x ∧ (put3 W k x y z).cell? ⟨k, 1, none⟩ = some y ∧ (put3 W k x y z).cell? ⟨k, 2, none⟩ = some z :=
  ⟨blk_cell (put3_block h x y z) 0, blk_cell (put3_block h x y z) 1, blk_cell (put3_block h x y z) 2⟩
theorem put3_other {W : World} {k j : Nat} (h : j ≠ k) (x y z : Value) : (put3 W k x y z).heap[j]? = W.heap[j]? :=
  (Below.heap_setCell _ _ _ _ h).trans ((Below.heap_setCell _ _ _ _ h).trans (Below.heap_setCell _ _ _ _ h))
theorem put3_below {B : Nat} {w W : World} {k : Nat} (h : Below B w W) (hk : B ≤ k) (x y z : Value) : Below B w (put3 W k x y z) := ((h.setCell hk _).setCell hk _).setCell hk _
theorem put3_size (W : World) (k : Nat) (x y z : Value) : (put3 W k x y z).heap.size = W.heap.size := by unfold put3; simp [World.setCell]
/-- Two boxes that are laid one behind the other. -/
theorem two_boxes (w : World) (A B : Array Value) (s t : TypeId) : ∃ w2, w2 = (w.alloc (.cells A s)).alloc (.cells B t) ∧ Below w.heap.size w w2 ∧ w2.heap.size = w.heap.size + 2 ∧ w2.heap[w.heap.size]? = some (.cells A s (0, 0)) ∧ w2.heap[w.heap.size + 1]? = some (.cells B t (0, 0)) := by
  refine ⟨_, rfl, (below_box w _).alloc (by simp) _, by simp, ?_, ?_⟩
  · rw [Below.heap_alloc _ _ _ (by simp)]; exact new_block _ _
  · have := new_block (w.alloc (.cells A s)) (.cells B t)
    rw [World.size_alloc] at this
    exact this
end Go.Proofs.YtclhpedecimicaaDoor
