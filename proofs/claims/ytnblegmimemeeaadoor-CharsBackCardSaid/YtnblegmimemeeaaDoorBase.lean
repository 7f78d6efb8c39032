/-
  The small functions of chars and of its reference: which bytes are digits, begin names, are blanks.
-/
import Derived.WalkKit
import Derived.Lib.Hide
import Derived.Deep.QuietTactic
import Derived.BigQuiet
import Derived.Test.YtnblegmimemeeaaDoorProg
namespace Go.Proofs.YtnblegmimemeeaaDoor
open Go Go.RowKit

theorem ret_bool {a b : Bool} (h : a = b) : Ending.returned (.bool a) = .returned (.bool b) := by rw [h]

def digB (n : Int) : Bool := decide (48 ≤ n) && decide (n ≤ 57)
def upB (n : Int) : Bool := decide (65 ≤ n) && decide (n ≤ 90)
def loB (n : Int) : Bool := decide (97 ≤ n) && decide (n ≤ 122)
def begB (n : Int) : Bool := loB n || upB n || decide (n = 95)
def blaB (n : Int) : Bool := decide (n = 32) || decide (n = 9)

theorem digit_any (n : Int) (w : World) : Calls Tryd.prog 8 #[.int .u8 n] w fun e w' => e = .returned (.bool (digB n)) ∧ w = w' := by
  by_cases h1 : 48 ≤ n <;> by_cases h2 : n ≤ 57 <;> go_enter Tryd.func8, Tryd.ntmps8 <;> go_wp2 <;> go_ret <;> exact ⟨by simp [digB, h1, h2], rfl⟩
theorem rdigit_any (n : Int) (w : World) : Calls Tryd.prog 9 #[.int .u8 n] w fun e w' => e = .returned (.bool (digB n)) ∧ w = w' := by
  by_cases h1 : 48 ≤ n <;> by_cases h2 : n ≤ 57 <;> go_enter Tryd.func9, Tryd.ntmps9 <;> go_wp2 <;> go_ret <;> exact ⟨by simp [digB, h1, h2], rfl⟩
theorem within_any (n l h : Int) (w : World) : Calls Tryd.prog 25 #[.int .u8 n, .int .u8 l, .int .u8 h] w fun e w' => e = .returned (.bool (decide (l ≤ n) && decide (n ≤ h))) ∧ w = w' := by
  by_cases h1 : l ≤ n <;> by_cases h2 : n ≤ h <;> go_enter Tryd.func25, Tryd.ntmps25 <;> go_wp2 <;> go_ret <;> exact ⟨by simp [h1, h2], rfl⟩
theorem blank_any (n : Int) (w : World) : Calls Tryd.prog 12 #[.int .u8 n] w fun e w' => e = .returned (.bool (blaB n)) ∧ w = w' := by
  cases h1 : (n == 32) <;> cases h2 : (n == 9) <;> go_enter Tryd.func12, Tryd.ntmps12 <;> go_wp2 <;> go_ret <;> exact ⟨by simp at h1 h2; simp [blaB, h1, h2], rfl⟩
theorem rblank_any (n : Int) (w : World) : Calls Tryd.prog 13 #[.int .u8 n] w fun e w' => e = .returned (.bool (blaB n)) ∧ w = w' := by
  cases h1 : (n == 32) <;> cases h2 : (n == 9) <;> go_enter Tryd.func13, Tryd.ntmps13 <;> go_wp2 <;> go_ret <;> exact ⟨by simp at h1 h2; simp [blaB, h1, h2], rfl⟩
theorem begins_any (n : Int) (w : World) : Calls Tryd.prog 10 #[.int .u8 n] w fun e w' => e = .returned (.bool (begB n)) ∧ w = w' := by
  by_cases h1 : 97 ≤ n <;> by_cases h2 : n ≤ 122 <;> by_cases h3 : 65 ≤ n <;> by_cases h4 : n ≤ 90 <;> cases h5 : (n == 95) <;> go_enter Tryd.func10, Tryd.ntmps10 <;> go_wp2 <;> go_ret <;> exact ⟨by simp at h5; simp [begB, loB, upB, h1, h2, h3, h4, h5], rfl⟩
theorem rbegins_any (n : Int) (w : World) : Calls Tryd.prog 11 #[.int .u8 n] w fun e w' => e = .returned (.bool (begB n)) ∧ w = w' := by
  by_cases h1 : 97 ≤ n <;> by_cases h2 : n ≤ 122 <;> by_cases h3 : 65 ≤ n <;> by_cases h4 : n ≤ 90 <;> cases h5 : (n == 95) <;> go_enter Tryd.func11, Tryd.ntmps11 <;> go_wp2 <;> go_ret <;> exact ⟨by simp at h5; simp [begB, loB, upB, h1, h2, h3, h4, h5], rfl⟩
end Go.Proofs.YtnblegmimemeeaaDoor
