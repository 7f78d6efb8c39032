/-
  Rows that a call makes: ints, bools, words of bits; a cell of a row read and written.
-/
import Derived.Lib.BufferWrite
import Derived.Laws.OwnMore
import Derived.Test.YtfldhggmgepcjaaBlk
namespace Go.Proofs.Ytfldhggmgepcjaa
set_option maxRecDepth 100000
open Go Go.RowKit

theorem infoI : (Try.prog.info? 3).map (fun i => (i.zero, i.size, i.bytes)) = some (some (.int .i64 0), 1, 8) := by kernel_rfl
theorem infoB : (Try.prog.info? 4).map (fun i => (i.zero, i.size, i.bytes)) = some (some (.bool false), 1, 1) := by kernel_rfl
theorem infoW : (Try.prog.info? 64).map (fun i => (i.zero, i.size, i.bytes)) = some (some (.int .u64 0), 1, 8) := by kernel_rfl
theorem made_row (z : Value) (n : Nat) : madeCells #[z] n = (List.replicate n z).toArray := by
  apply Array.ext'
  rw [toList_madeCells_one]
theorem run_make_ints (W : World) (c : Int) (n : Nat) (hc : c = (n : Int)) (hn : n ≤ 1000000) : (Instr.makeSlice 49 (.int .i64 c) (.int .i64 c)).run Try.prog W = .ok (.slice (some ⟨W.heap.size, 0, none⟩) n n) (W.alloc (.cells (List.replicate n (.int .i64 0)).toArray 3)) := by
  subst hc
  obtain ⟨i0, hi, hz0, hz1, hz2⟩ := info_parts infoI
  have h := run_makeSlice (P := Try.prog) W 49 3 i0 (.int .i64 0) Try.underlying49 hi hz0 .i64 .i64 (n : Int) (n : Int) (by omega) (Int.le_refl _) (by rw [hz1]; simp; omega) (by rw [hz2]; omega) (by omega)
  rw [hz1, Int.toNat_natCast, Nat.mul_one] at h
  rw [← made_row]
  exact h
theorem run_make_bools (W : World) (c : Int) (n : Nat) (hc : c = (n : Int)) (hn : n ≤ 1000000) : (Instr.makeSlice 29 (.int .i64 c) (.int .i64 c)).run Try.prog W = .ok (.slice (some ⟨W.heap.size, 0, none⟩) n n) (W.alloc (.cells (List.replicate n (.bool false)).toArray 4)) := by
  subst hc
  obtain ⟨i0, hi, hz0, hz1, hz2⟩ := info_parts infoB
  have h := run_makeSlice (P := Try.prog) W 29 4 i0 (.bool false) Try.underlying29 hi hz0 .i64 .i64 (n : Int) (n : Int) (by omega) (Int.le_refl _) (by rw [hz1]; simp; omega) (by rw [hz2]; omega) (by omega)
  rw [hz1, Int.toNat_natCast, Nat.mul_one] at h
  rw [← made_row]
  exact h
theorem run_make_words (W : World) (c : Int) (n : Nat) (hc : c = (n : Int)) (hn : n ≤ 1000000) : (Instr.makeSlice 42 (.int .i64 c) (.int .i64 c)).run Try.prog W = .ok (.slice (some ⟨W.heap.size, 0, none⟩) n n) (W.alloc (.cells (List.replicate n (.int .u64 0)).toArray 64)) := by
  subst hc
  obtain ⟨i0, hi, hz0, hz1, hz2⟩ := info_parts infoW
  have h := run_makeSlice (P := Try.prog) W 42 64 i0 (.int .u64 0) Try.underlying42 hi hz0 .i64 .i64 (n : Int) (n : Int) (by omega) (Int.le_refl _) (by rw [hz1]; simp; omega) (by rw [hz2]; omega) (by omega)
  rw [hz1, Int.toNat_natCast, Nat.mul_one] at h
  rw [← made_row]
  exact h

/-- A row of values in a block. -/
def RowAt (W : World) (g : Nat) (l : List Value) (t : TypeId) : Prop := W.heap[g]? = some (.cells l.toArray t (0, 0))
theorem RowAt.cell {W : World} {g : Nat} {l : List Value} {t : TypeId} (h : RowAt W g l t) {j : Nat} {v : Value} (hj : l[j]? = some v) : W.cell? ⟨g, j, none⟩ = some v := by
  rw [blk_cell h j, List.getElem?_toArray]; exact hj
theorem RowAt.free {W : World} {g : Nat} {l : List Value} {t : TypeId} (h : RowAt W g l t) (j : Nat) : W.frozen? ⟨g, j, none⟩ = false := blk_free h j
theorem RowAt.set {W : World} {g : Nat} {l : List Value} {t : TypeId} (h : RowAt W g l t) (j : Nat) (u : Value) : RowAt (W.setCell ⟨g, j, none⟩ u) g (l.set j u) t := by
  have := blk_set h j u
  rw [List.setIfInBounds_toArray] at this
  exact this
theorem RowAt.lt {W : World} {g : Nat} {l : List Value} {t : TypeId} (h : RowAt W g l t) : g < W.heap.size := lt_of_block h
theorem RowAt.below {W W' : World} {g : Nat} {l : List Value} {t : TypeId} (h : RowAt W g l t) (hb : Below W.heap.size W W') : RowAt W' g l t := by
  unfold RowAt; rw [hb.block g h.lt]; exact h
theorem RowAt.other {W : World} {g k : Nat} {l : List Value} {t : TypeId} (h : RowAt W g l t) (hk : g ≠ k) (j : Nat) (u : Value) : RowAt (W.setCell ⟨k, j, none⟩ u) g l t := (Below.heap_setCell _ _ _ _ hk).trans h
theorem set_size (W : World) (k j : Nat) (u : Value) : (W.setCell ⟨k, j, none⟩ u).heap.size = W.heap.size := by simp [World.setCell]
end Go.Proofs.Ytfldhggmgepcjaa
