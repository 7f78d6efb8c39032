/-
  awake of the laws: chapter 10's examples.
-/
import Derived.Test.YtfldhggmgepcjaaQMagic
namespace Go.Proofs.Ytfldhggmgepcjaa
set_option maxRecDepth 100000
open Go Go.RowKit

theorem ex1 : decide (Mat (raw (plL [97, 42, 91, 33, 48, 45, 57, 93] [])) [97, 98, 49, 99]) = true := by kernel_rfl
theorem ex2 : decide (Mat (raw (plL [97, 42, 91, 33, 48, 45, 57, 93] [])) [97, 98, 49]) = false := by kernel_rfl
theorem ex3 : decide (Mat (raw (plL [91, 91, 58, 100, 105, 103, 105, 116, 58, 93, 93] [])) [53]) = true := by kernel_rfl
theorem ex4 : decide (Mat (raw (plL [91, 97] [])) [91, 97]) = true := by kernel_rfl
theorem ex5 : decide (Mat (raw (plL [42] [49])) [120]) = false := by kernel_rfl
theorem ex6 : pickL (fitsB (rowP [97, 42] []) [97, 98, 99]) true = 3 := by kernel_rfl
theorem ex7 : sufI (rowP [63] []) [97, 98, 99] false = 2 := by kernel_rfl

set_option maxHeartbeats 4000000 in
theorem lawakeq (w : World) : Calls Try.prog 5 #[] w fun e w' => e = .returned (.bool true) ∧ Below w.heap.size w w' := by
  have C1 := fun W => lmatch ⟨#[97, 42, 91, 33, 48, 45, 57, 93]⟩ ⟨#[]⟩ ⟨#[97, 98, 49, 99]⟩ (by decide) (by decide) W
  have C2 := fun W => lmatch ⟨#[97, 42, 91, 33, 48, 45, 57, 93]⟩ ⟨#[]⟩ ⟨#[97, 98, 49]⟩ (by decide) (by decide) W
  have C3 := fun W => lmatch ⟨#[91, 91, 58, 100, 105, 103, 105, 116, 58, 93, 93]⟩ ⟨#[]⟩ ⟨#[53]⟩ (by decide) (by decide) W
  have C4 := fun W => lmatch ⟨#[91, 97]⟩ ⟨#[]⟩ ⟨#[91, 97]⟩ (by decide) (by decide) W
  have C5 := fun W => lmatch ⟨#[42]⟩ ⟨#[49]⟩ ⟨#[120]⟩ (by decide) (by decide) W
  have C6 := fun W => lprefix ⟨#[97, 42]⟩ ⟨#[]⟩ ⟨#[97, 98, 99]⟩ (by decide) (by decide) true W
  have C7 := fun W => lsuffix ⟨#[63]⟩ ⟨#[]⟩ ⟨#[97, 98, 99]⟩ (by decide) (by decide) false W
  rw [show decide (Mat (raw (plL (ByteArray.mk #[97, 42, 91, 33, 48, 45, 57, 93]).data.toList (ByteArray.mk #[]).data.toList)) (ByteArray.mk #[97, 98, 49, 99]).data.toList) = true from ex1] at C1
  rw [show decide (Mat (raw (plL (ByteArray.mk #[97, 42, 91, 33, 48, 45, 57, 93]).data.toList (ByteArray.mk #[]).data.toList)) (ByteArray.mk #[97, 98, 49]).data.toList) = false from ex2] at C2
  rw [show decide (Mat (raw (plL (ByteArray.mk #[91, 91, 58, 100, 105, 103, 105, 116, 58, 93, 93]).data.toList (ByteArray.mk #[]).data.toList)) (ByteArray.mk #[53]).data.toList) = true from ex3] at C3
  rw [show decide (Mat (raw (plL (ByteArray.mk #[91, 97]).data.toList (ByteArray.mk #[]).data.toList)) (ByteArray.mk #[91, 97]).data.toList) = true from ex4] at C4
  rw [show decide (Mat (raw (plL (ByteArray.mk #[42]).data.toList (ByteArray.mk #[49]).data.toList)) (ByteArray.mk #[120]).data.toList) = false from ex5] at C5
  rw [show pickL (fitsB (rowP (ByteArray.mk #[97, 42]).data.toList (ByteArray.mk #[]).data.toList) (ByteArray.mk #[97, 98, 99]).data.toList) true = 3 from ex6] at C6
  rw [show sufI (rowP (ByteArray.mk #[63]).data.toList (ByteArray.mk #[]).data.toList) (ByteArray.mk #[97, 98, 99]).data.toList false = 2 from ex7] at C7
  go_enter Try.func5, Try.ntmps5
  go_wp2_with fail
  refine (C1 _).mono ?_
  rintro e w1 ⟨rfl, hb⟩
  have HB1 := Lib.hid hb
  clear hb
  go_wp2_with fail
  refine (C2 _).mono ?_
  rintro e w2 ⟨rfl, hb⟩
  have HB2 := Lib.hid (below_two HB1.out hb)
  clear hb
  go_wp2_with fail
  refine (C3 _).mono ?_
  rintro e w3 ⟨rfl, hb⟩
  have HB3 := Lib.hid (below_two HB2.out hb)
  clear hb
  go_wp2_with fail
  refine (C4 _).mono ?_
  rintro e w4 ⟨rfl, hb⟩
  have HB4 := Lib.hid (below_two HB3.out hb)
  clear hb
  go_wp2_with fail
  refine (C5 _).mono ?_
  rintro e w5 ⟨rfl, hb⟩
  have HB5 := Lib.hid (below_two HB4.out hb)
  clear hb
  go_wp2_with fail
  refine (C6 _).mono ?_
  rintro e w6 ⟨rfl, hb⟩
  have HB6 := Lib.hid (below_two HB5.out hb)
  clear hb
  go_wp2_with fail
  refine (C7 _).mono ?_
  rintro e w7 ⟨rfl, hb⟩
  have HB7 := Lib.hid (below_two HB6.out hb)
  clear hb
  go_wp2_with fail
  go_ret
  exact ⟨rfl, HB7.out⟩
end Go.Proofs.Ytfldhggmgepcjaa
