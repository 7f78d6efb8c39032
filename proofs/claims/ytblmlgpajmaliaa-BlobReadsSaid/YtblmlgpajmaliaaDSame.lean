/-
  The reference's Own and Same: a copy of a tree; trees that are alike.
-/
import Derived.Test.YtblmlgpajmaliaaDOwnM
import Derived.Test.YtblmlgpajmaliaaMkROwn
import Derived.Test.YtblmlgpajmaliaaTreeSame
namespace Go.Proofs.Ytblmlgpajmaliaa
set_option maxRecDepth 100000
open Go Go.RowKit

theorem rown6 (a : Option Addr) (cap : Nat) (m b : Int) (L : List Ino) (hF : FitP L m b) (w : World) (hN : NodesIn w a cap L) :
    Calls Try.prog 18 #[.agg #[.slice a L.length cap, .int .i64 m, .int .i64 b]] w fun e w' => ∃ g cap' vs, e = .returned (.agg #[.slice (some ⟨g, 0, none⟩) L.length cap', .int .i64 m, .int .i64 b]) ∧ RefT w' g cap' L vs ∧ w.heap.size ≤ g ∧ Below w.heap.size w w' := by
  obtain ⟨l1, l2, l3, l4, l5⟩ := hF.limits
  refine (rown_any a cap m b L (by omega) (by omega) w hN).mono ?_
  rintro e w' ⟨g, cap', vs, rfl, h1, h2, h3, h4⟩
  refine ⟨g, cap', vs, rfl, ?_, h2, h4⟩
  exact RefT.of_kids h1 h3 h2 h4.size h4.block
theorem rsame6 (a a' : Option Addr) (cap cap' : Nat) (m b : Int) (L : List Ino) (hL : L.length ≤ 1000) (w : World) (hN : NodesIn w a cap L) (hN' : NodesIn w a' cap' L) :
    Calls Try.prog 16 #[.agg #[.slice a L.length cap, .int .i64 m, .int .i64 b], .agg #[.slice a' L.length cap', .int .i64 m, .int .i64 b]] w fun e w' => e = .returned (.bool true) ∧ Below w.heap.size w w' :=
  (rsame3_any a a' cap cap' m b m b L L hL w hN hN').mono fun e w' h => by
    obtain ⟨⟨v, he, hv⟩, hb⟩ := h
    exact ⟨by rw [he, hv.2 rfl], hb⟩
end Go.Proofs.Ytblmlgpajmaliaa
