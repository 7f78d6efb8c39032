/-
  The reference's Fit and Same, answers known ahead.
-/
import Derived.Test.YtblmlgpajmaliaaTRFit2
import Derived.Test.YtblmlgpajmaliaaTPlain2
import Derived.Test.YtblmlgpajmaliaaTreeSame
import Derived.Test.YtblmlgpajmaliaaMkSized
namespace Go.Proofs.Ytblmlgpajmaliaa
set_option maxRecDepth 100000
open Go Go.RowKit

theorem rsame_val6 (a a' : Option Addr) (cap cap' : Nat) (m b : Int) (L M : List Ino) (hL : L.length ≤ 1000) (v : Bool) (hv : v = true ↔ L = M) (w : World) (hN : NodesIn w a cap L) (hN' : NodesIn w a' cap' M) :
    Calls Try.prog 16 #[.agg #[.slice a L.length cap, .int .i64 m, .int .i64 b], .agg #[.slice a' M.length cap', .int .i64 m, .int .i64 b]] w fun e w' => e = .returned (.bool v) ∧ Below w.heap.size w w' :=
  (rsame3_any a a' cap cap' m b m b L M hL w hN hN').mono fun e w' h => by
    obtain ⟨⟨v', he, hv'⟩, hb⟩ := h
    refine ⟨?_, hb⟩
    rw [he]
    have : v' = v := by
      rw [Bool.eq_iff_iff, hv', hv]
      exact ⟨fun e => congrArg Tre.nodes e, fun e => by rw [e]⟩
    rw [this]
theorem rfit_yes6 (a : Option Addr) (cap : Nat) (m b : Int) (L : List Ino) (hL : L.length ≤ 300) (hF : FitP L m b) (w : World) (hN : NodesIn w a cap L) :
    Calls Try.prog 17 #[.agg #[.slice a L.length cap, .int .i64 m, .int .i64 b]] w fun e w' => e = .returned (.bool true) ∧ Below w.heap.size w w' :=
  (rfit_any a cap m b L hL (sized_fit hF) w hN).mono fun e w' h => by
    obtain ⟨⟨v, he, hv⟩, hb⟩ := h
    exact ⟨by rw [he, hv.2 (ref_iff.2 hF)], hb⟩
end Go.Proofs.Ytblmlgpajmaliaa
