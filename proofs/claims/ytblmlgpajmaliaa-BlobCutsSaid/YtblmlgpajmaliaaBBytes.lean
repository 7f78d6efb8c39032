/-
  Bytes in rows: make, copy of a text, a row of bytes as a text.
-/
import Derived.Lib.BufferWrite
import Derived.Lib.MinMax
import Derived.Laws.OwnMore
import Derived.Laws.IdiomStrings
import Derived.Test.YtblmlgpajmaliaaMkOwn
import Derived.Test.YtblmlgpajmaliaaBPlain
namespace Go.Proofs.Ytblmlgpajmaliaa
set_option maxRecDepth 100000
open Go Go.RowKit

def rowB (l : List UInt8) : Array Value := (Lib.byteCells l).toArray
theorem rowB_get (l : List UInt8) (j : Nat) (hj : j < l.length) : (rowB l)[j]? = some (.int .u8 (l[j].toNat : Int)) := by simp [rowB, Lib.byteCells, hj]
theorem rowB_size (l : List UInt8) : (rowB l).size = l.length := by simp [rowB, Lib.byteCells]
theorem infoU : (Try.prog.info? 5).map (fun i => (i.zero, i.size, i.bytes)) = some (some (.int .u8 0), 1, 1) := by kernel_rfl
theorem made_bytes (n : Nat) : madeCells #[.int .u8 0] n = rowB (List.replicate n 0) := by
  apply Array.ext'
  rw [toList_madeCells_one]
  simp [rowB, Lib.byteCells]

theorem run_make_bytes (W : World) (c : Int) (n : Nat) (hc : c = (n : Int)) (hn : n ≤ 1000000) : (Instr.makeSlice 53 (.int .i64 c) (.int .i64 c)).run Try.prog W = .ok (.slice (some ⟨W.heap.size, 0, none⟩) n n) (W.alloc (.cells (rowB (List.replicate n 0)) 5)) := by
  subst hc
  obtain ⟨i0, hi, hz0, hz1, hz2⟩ := info_parts infoU
  have h := run_makeSlice (P := Try.prog) W 53 5 i0 (.int .u8 0) Try.underlying53 hi hz0 .i64 .i64 (n : Int) (n : Int) (by omega) (Int.le_refl _) (by rw [hz1]; simp; omega) (by rw [hz2]; omega) (by omega)
  rw [hz1, Int.toNat_natCast, Nat.mul_one] at h
  rw [← made_bytes]
  exact h
theorem run_str (W : World) (g cap : Nat) (l : List UInt8) (t : TypeId) (hg : W.heap[g]? = some (.cells (rowB l) t (0, 0))) : (convert 53 9 (.slice (some ⟨g, 0, none⟩) l.length cap)).run Try.prog W = .ok (.string ⟨l.toArray⟩) W :=
  run_convert_bytes_back W 53 9 5 ⟨g, 0, none⟩ cap l Try.underlying53 Try.underlying5 Try.underlying9 (fun j hj => by
    rw [zero_add_addr, blk_cell hg j]
    exact rowB_get l j hj)
theorem run_copy_bytes (W : World) (g o dLen dCap : Nat) (s : ByteArray) (l : List UInt8) (t : TypeId) (hg : W.heap[g]? = some (.cells (rowB l) t (0, 0))) (hfit : o + min s.size dLen ≤ l.length) (ty : TypeId) :
    (Builtin.copy_ #[53, 9] ty #[.slice (some ⟨g, o, none⟩) dLen dCap, .string s]).run Try.prog W = .ok (goInt ((min s.size dLen : Nat) : Int)) (W.setRow g (rowB (l.take o ++ s.data.toList.take dLen ++ l.drop (o + min s.size dLen)))) := by
  obtain ⟨i0, hi, hz0, hz1, hz2⟩ := info_parts infoU
  have hl : s.data.toList.length = s.size := Array.length_toList
  have hlen : (Lib.byteCells (s.data.toList.take dLen)).length = min s.size dLen := by rw [Lib.byteCells_length, List.length_take, hl]; omega
  have hst := run_storeCells_at Try.prog g o t (Lib.byteCells (s.data.toList.take dLen)) 0 (rowB l) W hg (by rw [hlen, rowB_size]; omega) (Lib.byteCells_one _)
  rw [hlen] at hst
  have htk : List.take (Nat.min s.size dLen) (List.map (fun b : UInt8 => Value.int IntKind.u8 (b.toNat : Int)) s.data.toList) = Lib.byteCells (s.data.toList.take dLen) := by
    unfold Lib.byteCells
    rw [← List.map_take]
    congr 1
    have h2 : s.data.toList.take (Nat.min s.size dLen) = s.data.toList.take dLen := by
      rw [List.take_eq_take_iff, hl]
      show min (min s.size dLen) s.size = min dLen s.size
      omega
    exact h2
  have hrow : ((rowB l).toList.take o ++ Lib.byteCells (s.data.toList.take dLen) ++ (rowB l).toList.drop (o + min s.size dLen)).toArray = rowB (l.take o ++ s.data.toList.take dLen ++ l.drop (o + min s.size dLen)) := by
    unfold rowB
    rw [Lib.byteCells_append, Lib.byteCells_append]
    simp [Lib.byteCells]
  simp only [Nat.add_zero] at hst
  rw [hrow] at hst
  simp [Builtin.copy_, run_underlying Try.underlying53, Builtin.lenOf, Builtin.firstCells, sizeOf, typeInfo, hi]
  rw [htk, hst, List.append_assoc]
  rfl

set_option maxHeartbeats 1000000 in
theorem rzeros7 (k : Int) (hk : k ≤ 1000000) (w : World) : Calls Try.prog 24 #[.int .i64 k] w fun e w' => e = .returned (.string ⟨(List.replicate k.toNat (0 : UInt8)).toArray⟩) ∧ Below w.heap.size w w' := by
  have hmk := run_make_bytes w (max k 0) k.toNat (by omega) (by omega)
  have hcv := run_str (w.alloc (.cells (rowB (List.replicate k.toNat 0)) 5)) w.heap.size k.toNat (List.replicate k.toNat 0) 5 (new_block w _)
  rw [List.length_replicate] at hcv
  have HB := Lib.hid (below_box w (.cells (rowB (List.replicate k.toNat 0)) 5))
  go_enter Try.func24, Try.ntmps24
  go_wp2_with fail
  go_ret
  exact ⟨rfl, HB.out⟩
end Go.Proofs.Ytblmlgpajmaliaa
