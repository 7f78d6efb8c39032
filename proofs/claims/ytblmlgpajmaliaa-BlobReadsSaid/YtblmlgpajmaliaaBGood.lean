/-
  good: which trees the laws of layer 7 speak of.
-/
import Derived.Test.YtblmlgpajmaliaaTRFit2
import Derived.Test.YtblmlgpajmaliaaTPlain2
import Derived.Test.YtblmlgpajmaliaaMkOwn
namespace Go.Proofs.Ytblmlgpajmaliaa
set_option maxRecDepth 100000
open Go Go.RowKit

/-- What good answers. -/
def Good7 (L : List Ino) (m b : Int) (e : Ending) : Prop := ∃ v : Bool, e = .returned (.bool v) ∧ (v = true → L.length ≤ 300 ∧ FitP L m b)

set_option maxHeartbeats 4000000 in
theorem good7_any (a : Option Addr) (cap : Nat) (m b : Int) (L : List Ino) (hS : Sized L) (w : World) (hN : NodesIn w a cap L) :
    Calls Try.prog 8 #[.agg #[.slice a L.length cap, .int .i64 m, .int .i64 b]] w fun e w' => Good7 L m b e ∧ Below w.heap.size w w' := by
  obtain ⟨w1, hw1⟩ : ∃ w1, w1 = w.alloc (.cells #[.slice a L.length cap, .int .i64 m, .int .i64 b] 24) := ⟨_, rfl⟩
  have hb1 : Below w.heap.size w w1 := by rw [hw1]; exact below_box w _
  have HM := Lib.hid (hN.below hb1)
  have HB1 := Lib.hid hb1
  have HS := Lib.hid hS
  clear hN hS hb1
  by_cases hl : L.length ≤ 300
  · have hl2 : decide ((L.length : Int) ≤ 300) = true := decide_eq_true (by omega)
    go_enter Try.func8, Try.ntmps8
    go_wp2_with fail
    rw [← hw1]
    clear hw1
    refine (rfit_any _ _ _ _ L hl HS.out _ HM.out).mono ?_
    rintro e w2 ⟨⟨v, rfl, hv⟩, hb2⟩
    have HV := Lib.hid hv
    have HB2 := Lib.hid (HB1.out.trans (hb2.mono HB1.out.size))
    clear hv hb2
    go_wp2_with fail
    go_ret
    exact ⟨⟨v, rfl, fun e => ⟨hl, ref_iff.1 (by subst e; exact HV.out.1 rfl)⟩⟩, HB2.out⟩
  · have hl2 : decide ((L.length : Int) ≤ 300) = false := decide_eq_false (by omega)
    go_enter Try.func8, Try.ntmps8
    go_wp2_with fail
    rw [← hw1]
    clear hw1
    go_ret
    exact ⟨⟨false, rfl, fun e => by cases e⟩, HB1.out⟩
end Go.Proofs.Ytblmlgpajmaliaa
