/-
  nodes.HasRoom of the landed code: whether so many bytes more find room.
-/
import Derived.Test.YtblmlgpajmaliaaTLUsed
namespace Go.Proofs.Ytblmlgpajmaliaa
set_option maxRecDepth 100000
open Go Go.RowKit

set_option maxHeartbeats 1000000 in
theorem lroom_any (a : Option Addr) (cap : Nat) (m b : Int) (n : Int) (hn : -281474976710656 ≤ n ∧ n ≤ 281474976710656) (L : List Ino) (hL : L.length ≤ 1000) (hB : usedB L ≤ 1048576) (w : World) (hN : NodesIn w a cap L) :
    Calls Try.prog 32 #[.agg #[.slice a L.length cap, .int .i64 m, .int .i64 b], .int .i64 n] w fun e w' => e = .returned (.bool (decide ((usedB L : Int) + n ≤ b))) ∧ Below w.heap.size w w' := by
  have hb1 := below_box w (.cells #[.slice a L.length cap, .int .i64 m, .int .i64 b] 24)
  have HM := Lib.hid (hN.below hb1)
  have HB1 := Lib.hid hb1
  clear hN hb1
  go_enter Try.func32, Try.ntmps32
  go_wp2_with fail
  refine (lused_any _ _ _ _ L hL (by omega) _ HM.out).mono ?_
  rintro e w2 ⟨rfl, hb2⟩
  obtain ⟨q0, q1, q2⟩ := box3 hb2
  have HB2 := Lib.hid (HB1.out.trans (hb2.mono (by simp)))
  have hw : IntKind.i64.wrap ((usedB L : Int) + n) = (usedB L : Int) + n := by rw [IntKind.wrap_i64]; omega
  clear hb2
  go_wp2_with fail
  go_ret
  exact ⟨rfl, HB2.out⟩
end Go.Proofs.Ytblmlgpajmaliaa
