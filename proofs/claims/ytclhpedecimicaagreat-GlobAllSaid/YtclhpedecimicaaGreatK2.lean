/-
  A region that draws its order, whose calls make memory and turn nothing that was there: every operation is quiet in the class of the worlds that have grown out of the one at its beginning.
  The small functions of chars and of its reference: which bytes are digits, begin names, are blanks.
-/
import Derived.Deep.QuietTactic
import Derived.BigQuiet
import Derived.Test.YtclhpedecimicaaGreatTrees
import Derived.WalkKit
import Derived.Lib.Hide
import Derived.Test.YtclhpedecimicaaGreatProg
namespace Go.Proofs.YtclhpedecimicaaGreat
set_option maxRecDepth 100000
open Go Go.RowKit

/-- A world that has grown out of wb. -/
structure Grown (wb : World) where
  W : World
  below : Below wb.heap.size wb W

instance (wb : World) : Nonempty (Grown wb) := ⟨⟨wb, Below.refl _ _⟩⟩

theorem wp_region_grown {P : Program} {id : Nat} {Q : Exit → Act → World → Prop} {a : Act} {w : World} {l : List Oper} (hm : P.follows .mixedOrders = true) (hB : Region.lexB .any l.toArray = true)
    (h : wpQuiet P l.toArray (fun w' => ∃ x : Grown w, w' = x.W) (fun a' => ∀ w', (∃ x : Grown w, w' = x.W) → Q .normal a' w') l a) : (Code.region id l.toArray true).wp P Q a w :=
  wp_region_quiet (C := fun w' => ∃ x : Grown w, w' = x.W) hm hB ⟨⟨{ w with drawn := w.drawn + 1 }, ⟨rfl, rfl, rfl, Nat.le_refl _, fun _ _ => rfl⟩⟩, rfl⟩ (by simpa using h)

theorem grown_call {wb : World} {P : Program} {f : FuncId} {args : Array Value} {v : Value} (h : ∀ W, Below wb.heap.size wb W → Calls P f args W fun e w' => e = .returned v ∧ Below W.heap.size W w') :
    ∀ x : Grown wb, Calls P f args x.W fun e w'' => e = .returned v ∧ ∃ y : Grown wb, w'' = y.W :=
  fun x => (h x.W x.below).mono fun _e w'' h' => ⟨h'.1, ⟨w'', x.below.trans (h'.2.mono x.below.size)⟩, rfl⟩
theorem grown_cell {wb : World} {a : Addr} {v : Value} (h : wb.cell? a = some v) : ∀ x : Grown wb, x.W.cell? a = some v := fun x => cell_below x.below h
end Go.Proofs.YtclhpedecimicaaGreat

namespace Go.Proofs.YtclhpedecimicaaGreat
set_option maxRecDepth 100000
open Go Go.RowKit

theorem ret_bool {a b : Bool} (h : a = b) : Ending.returned (.bool a) = .returned (.bool b) := by rw [h]

def digB (n : Int) : Bool := decide (48 ≤ n) && decide (n ≤ 57)
def upB (n : Int) : Bool := decide (65 ≤ n) && decide (n ≤ 90)
def loB (n : Int) : Bool := decide (97 ≤ n) && decide (n ≤ 122)
def begB (n : Int) : Bool := loB n || upB n || decide (n = 95)
def blaB (n : Int) : Bool := decide (n = 32) || decide (n = 9)

theorem digit_any (n : Int) (w : World) : Calls Tryz.prog 171 #[.int .u8 n] w fun e w' => e = .returned (.bool (digB n)) ∧ w = w' := by
  by_cases h1 : 48 ≤ n <;> by_cases h2 : n ≤ 57 <;> go_enter Tryz.func171, Tryz.ntmps171 <;> go_wp2 <;> go_ret <;> exact ⟨by simp [digB, h1, h2], rfl⟩
theorem rdigit_any (n : Int) (w : World) : Calls Tryz.prog 118 #[.int .u8 n] w fun e w' => e = .returned (.bool (digB n)) ∧ w = w' := by
  by_cases h1 : 48 ≤ n <;> by_cases h2 : n ≤ 57 <;> go_enter Tryz.func118, Tryz.ntmps118 <;> go_wp2 <;> go_ret <;> exact ⟨by simp [digB, h1, h2], rfl⟩
theorem within_any (n l h : Int) (w : World) : Calls Tryz.prog 117 #[.int .u8 n, .int .u8 l, .int .u8 h] w fun e w' => e = .returned (.bool (decide (l ≤ n) && decide (n ≤ h))) ∧ w = w' := by
  by_cases h1 : l ≤ n <;> by_cases h2 : n ≤ h <;> go_enter Tryz.func117, Tryz.ntmps117 <;> go_wp2 <;> go_ret <;> exact ⟨by simp [h1, h2], rfl⟩
theorem blank_any (n : Int) (w : World) : Calls Tryz.prog 172 #[.int .u8 n] w fun e w' => e = .returned (.bool (blaB n)) ∧ w = w' := by
  cases h1 : (n == 32) <;> cases h2 : (n == 9) <;> go_enter Tryz.func172, Tryz.ntmps172 <;> go_wp2 <;> go_ret <;> exact ⟨by simp at h1 h2; simp [blaB, h1, h2], rfl⟩
theorem rblank_any (n : Int) (w : World) : Calls Tryz.prog 119 #[.int .u8 n] w fun e w' => e = .returned (.bool (blaB n)) ∧ w = w' := by
  cases h1 : (n == 32) <;> cases h2 : (n == 9) <;> go_enter Tryz.func119, Tryz.ntmps119 <;> go_wp2 <;> go_ret <;> exact ⟨by simp at h1 h2; simp [blaB, h1, h2], rfl⟩
end Go.Proofs.YtclhpedecimicaaGreat
