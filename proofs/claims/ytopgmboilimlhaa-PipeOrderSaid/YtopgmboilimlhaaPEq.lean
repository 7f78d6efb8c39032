/-
  Pipes compared: one with itself.
-/
import Derived.Laws.StructEq
import Derived.Test.YtopgmboilimlhaaPMem
namespace Go.Proofs.Ytopgmboilimlhaa
set_option maxRecDepth 100000
open Go Go.RowKit

theorem pip_guard : Try.prog.eqGuardType Try.prog.depth 23 = false := by kernel_rfl
theorem eq_pip_in (a : ByteArray) (i j k : Int) (W : World) : (Op.equalIn 10000 23 (.agg #[.string a, .int .i64 i, .int .i64 j, .int .i64 k]) (.agg #[.string a, .int .i64 i, .int .i64 j, .int .i64 k])).run Try.prog W = .ok true W := by
  have hS : Try.prog.underlying 23 = some (.struct (Try.prog.fieldsOf 23)) := by kernel_rfl
  have hp : Try.prog.stoodInHeld 23 = false := by kernel_rfl
  have u3 := Try.underlying3
  have u9 := Try.underlying9
  have a3 := Try.isAgg3
  have z3 := Try.sizeOf3
  have a9 := Try.isAgg9
  have z9 := Try.sizeOf9
  rw [show (10000 : Nat) = 9999 + 1 from rfl, run_equalIn_agg W 9999 23 _ _ hS hp]
  simp only [Program.fieldsOf, Try.underlying23]
  go_simp
theorem eq_pip (a : ByteArray) (i j k : Int) (W : World) : (binOp .eql 23 (.agg #[.string a, .int .i64 i, .int .i64 j, .int .i64 k]) (.agg #[.string a, .int .i64 i, .int .i64 j, .int .i64 k])).run Try.prog W = .ok (.bool true) W := by
  rw [run_eql_struct, eq_pip_in]
  rfl
theorem neq_pip (a : ByteArray) (i j k : Int) (W : World) : (binOp .neq 23 (.agg #[.string a, .int .i64 i, .int .i64 j, .int .i64 k]) (.agg #[.string a, .int .i64 i, .int .i64 j, .int .i64 k])).run Try.prog W = .ok (.bool false) W := by
  rw [run_neq_struct, eq_pip_in]
  rfl
end Go.Proofs.Ytopgmboilimlhaa
