/-
  The small functions of chars and of its reference: which bytes are digits, begin names, are blanks.
-/
import Derived.WalkKit
import Derived.Lib.Hide
import Derived.Deep.QuietTactic
import Derived.BigQuiet
import Derived.Test.YtclhpedecimicaaDoorProg
namespace Go.Proofs.YtclhpedecimicaaDoor
set_option maxRecDepth 100000
open Go Go.RowKit

theorem ret_bool {a b : Bool} (h : a = b) : Ending.returned (.bool a) = .returned (.bool b) := by rw [h]

def digB (n : Int) : Bool := decide (48 ≤ n) && decide (n ≤ 57)
def upB (n : Int) : Bool := decide (65 ≤ n) && decide (n ≤ 90)
def loB (n : Int) : Bool := decide (97 ≤ n) && decide (n ≤ 122)
def begB (n : Int) : Bool := loB n || upB n || decide (n = 95)
def blaB (n : Int) : Bool := decide (n = 32) || decide (n = 9)

theorem digit_any (n : Int) (w : World) : Calls Tryd.prog 33 #[.int .u8 n] w fun e w' => e = .returned (.bool (digB n)) ∧ w = w' := by
  by_cases h1 : 48 ≤ n <;> by_cases h2 : n ≤ 57 <;> go_enter Tryd.func33, Tryd.ntmps33 <;> go_wp2 <;> go_ret <;> exact ⟨by simp [digB, h1, h2], rfl⟩
theorem rdigit_any (n : Int) (w : World) : Calls Tryd.prog 17 #[.int .u8 n] w fun e w' => e = .returned (.bool (digB n)) ∧ w = w' := by
  by_cases h1 : 48 ≤ n <;> by_cases h2 : n ≤ 57 <;> go_enter Tryd.func17, Tryd.ntmps17 <;> go_wp2 <;> go_ret <;> exact ⟨by simp [digB, h1, h2], rfl⟩
theorem begins_any (n : Int) (w : World) : Calls Tryd.prog 32 #[.int .u8 n] w fun e w' => e = .returned (.bool (begB n)) ∧ w = w' := by
  by_cases h1 : 97 ≤ n <;> by_cases h2 : n ≤ 122 <;> by_cases h3 : 65 ≤ n <;> by_cases h4 : n ≤ 90 <;> cases h5 : (n == 95) <;> go_enter Tryd.func32, Tryd.ntmps32 <;> go_wp2 <;> go_ret <;> exact ⟨by simp at h5; simp [begB, loB, upB, h1, h2, h3, h4, h5], rfl⟩
theorem rbegins_any (n : Int) (w : World) : Calls Tryd.prog 16 #[.int .u8 n] w fun e w' => e = .returned (.bool (begB n)) ∧ w = w' := by
  by_cases h1 : 97 ≤ n <;> by_cases h2 : n ≤ 122 <;> by_cases h3 : 65 ≤ n <;> by_cases h4 : n ≤ 90 <;> cases h5 : (n == 95) <;> go_enter Tryd.func16, Tryd.ntmps16 <;> go_wp2 <;> go_ret <;> exact ⟨by simp at h5; simp [begB, loB, upB, h1, h2, h3, h4, h5], rfl⟩
end Go.Proofs.YtclhpedecimicaaDoor
