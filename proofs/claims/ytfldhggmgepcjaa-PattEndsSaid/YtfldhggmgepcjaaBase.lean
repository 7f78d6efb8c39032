/-
  The small functions of chars and of its reference: which bytes are digits, begin names, are blanks.
-/
import Derived.WalkKit
import Derived.Lib.Hide
import Derived.Deep.QuietTactic
import Derived.BigQuiet
import Derived.Test.YtfldhggmgepcjaaProg
namespace Go.Proofs.Ytfldhggmgepcjaa
set_option maxRecDepth 100000
open Go Go.RowKit

theorem ret_bool {a b : Bool} (h : a = b) : Ending.returned (.bool a) = .returned (.bool b) := by rw [h]

def digB (n : Int) : Bool := decide (48 ≤ n) && decide (n ≤ 57)
def upB (n : Int) : Bool := decide (65 ≤ n) && decide (n ≤ 90)
def loB (n : Int) : Bool := decide (97 ≤ n) && decide (n ≤ 122)
def begB (n : Int) : Bool := loB n || upB n || decide (n = 95)
def blaB (n : Int) : Bool := decide (n = 32) || decide (n = 9)

theorem digit_any (n : Int) (w : World) : Calls Try.prog 70 #[.int .u8 n] w fun e w' => e = .returned (.bool (digB n)) ∧ w = w' := by
  by_cases h1 : 48 ≤ n <;> by_cases h2 : n ≤ 57 <;> go_enter Try.func70, Try.ntmps70 <;> go_wp2 <;> go_ret <;> exact ⟨by simp [digB, h1, h2], rfl⟩
theorem rdigit_any (n : Int) (w : World) : Calls Try.prog 41 #[.int .u8 n] w fun e w' => e = .returned (.bool (digB n)) ∧ w = w' := by
  by_cases h1 : 48 ≤ n <;> by_cases h2 : n ≤ 57 <;> go_enter Try.func41, Try.ntmps41 <;> go_wp2 <;> go_ret <;> exact ⟨by simp [digB, h1, h2], rfl⟩
theorem within_any (n l h : Int) (w : World) : Calls Try.prog 40 #[.int .u8 n, .int .u8 l, .int .u8 h] w fun e w' => e = .returned (.bool (decide (l ≤ n) && decide (n ≤ h))) ∧ w = w' := by
  by_cases h1 : l ≤ n <;> by_cases h2 : n ≤ h <;> go_enter Try.func40, Try.ntmps40 <;> go_wp2 <;> go_ret <;> exact ⟨by simp [h1, h2], rfl⟩
theorem blank_any (n : Int) (w : World) : Calls Try.prog 71 #[.int .u8 n] w fun e w' => e = .returned (.bool (blaB n)) ∧ w = w' := by
  cases h1 : (n == 32) <;> cases h2 : (n == 9) <;> go_enter Try.func71, Try.ntmps71 <;> go_wp2 <;> go_ret <;> exact ⟨by simp at h1 h2; simp [blaB, h1, h2], rfl⟩
theorem rblank_any (n : Int) (w : World) : Calls Try.prog 42 #[.int .u8 n] w fun e w' => e = .returned (.bool (blaB n)) ∧ w = w' := by
  cases h1 : (n == 32) <;> cases h2 : (n == 9) <;> go_enter Try.func42, Try.ntmps42 <;> go_wp2 <;> go_ret <;> exact ⟨by simp at h1 h2; simp [blaB, h1, h2], rfl⟩
end Go.Proofs.Ytfldhggmgepcjaa
