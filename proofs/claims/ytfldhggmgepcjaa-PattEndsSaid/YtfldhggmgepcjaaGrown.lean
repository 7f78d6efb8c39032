/-
  A region that draws its order, whose calls make memory and turn nothing that was there: every operation is quiet in the class of the worlds that have grown out of the one at its beginning.
-/
import Derived.Deep.QuietTactic
import Derived.BigQuiet
import Derived.Test.YtfldhggmgepcjaaTrees
namespace Go.Proofs.Ytfldhggmgepcjaa
set_option maxRecDepth 100000
open Go Go.RowKit

/-- A world that has grown out of wb. -/
structure Grown (wb : World) where
  W : World
  below : Below wb.heap.size wb W

instance (wb : World) : Nonempty (Grown wb) := ⟨⟨wb, Below.refl _ _⟩⟩

theorem wp_region_grown {P : Program} {id : Nat} {Q : Exit → Act → World → Prop} {a : Act} {w : World} {l : List Oper} (hm : P.follows .mixedOrders = true) (hB : Region.lexB .any l.toArray = true)
    (h : wpQuiet P l.toArray (fun w' => ∃ x : Grown w, w' = x.W) (fun a' => ∀ w', (∃ x : Grown w, w' = x.W) → Q .normal a' w') l a) : (Code.region id l.toArray true).wp P Q a w :=
  wp_region_quiet (C := fun w' => ∃ x : Grown w, w' = x.W) hm hB ⟨⟨{ w with drawn := w.drawn + 1 }, ⟨rfl, rfl, rfl, Nat.le_refl _, fun _ _ => rfl⟩⟩, rfl⟩ (by simpa using h)

theorem grown_call {wb : World} {P : Program} {f : FuncId} {args : Array Value} {v : Value} (h : ∀ W, Below wb.heap.size wb W → Calls P f args W fun e w' => e = .returned v ∧ Below W.heap.size W w') :
    ∀ x : Grown wb, Calls P f args x.W fun e w'' => e = .returned v ∧ ∃ y : Grown wb, w'' = y.W :=
  fun x => (h x.W x.below).mono fun _e w'' h' => ⟨h'.1, ⟨w'', x.below.trans (h'.2.mono x.below.size)⟩, rfl⟩
theorem grown_cell {wb : World} {a : Addr} {v : Value} (h : wb.cell? a = some v) : ∀ x : Grown wb, x.W.cell? a = some v := fun x => cell_below x.below h
end Go.Proofs.Ytfldhggmgepcjaa
