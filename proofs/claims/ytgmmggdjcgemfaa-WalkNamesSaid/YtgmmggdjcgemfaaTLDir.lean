/-
  tree's isDir, of the landed code.
-/
import Derived.Test.YtgmmggdjcgemfaaTreeKid
namespace Go.Proofs.Ytgmmggdjcgemfaa
open Go Go.RowKit

set_option maxHeartbeats 1000000 in
theorem lisdir_known (a : Option Addr) (cap : Nat) (m b k : Int) (L : List Ino) (v : Bool) (hv : dirB L k = v) (w : World) (hN : NodesIn w a cap L) :
    Calls Try.prog 55 #[.agg #[.slice a L.length cap, .int .i64 m, .int .i64 b], .int .i64 k] w fun e w' => e = .returned (.bool v) ∧ Below w.heap.size w w' := by
  have hb1 := below_box w (.cells #[.slice a L.length cap, .int .i64 m, .int .i64 b] 24)
  have hM := hN.below hb1
  have HM := Lib.hid hM
  have hcap := hN.1
  have hmax := hN.2.1
  unfold maxLen at hmax
  clear hM hN
  by_cases h0 : 0 ≤ k
  · by_cases h1 : k < L.length
    · obtain ⟨n, rfl⟩ : ∃ n : Nat, k = (n : Int) := ⟨k.toNat, by omega⟩
      have hn : n < L.length := by omega
      have hd : dirB L (n : Int) = (L[n].kind == 2) := by unfold dirB; rw [there_of L n hn, node_nat L n hn]; rfl
      rw [hd] at hv
      subst hv
      obtain ⟨bb, o, rfl, hx⟩ := HM.out.2.2 n hn
      have x0 := hx.kind
      clear hx hd
      go_enter Try.func55, Try.ntmps55
      go_wp2_with fail
      all_goals
        go_ret
        exact ⟨rfl, hb1⟩
    · have hd : dirB L k = false := by unfold dirB thereB; rw [decide_eq_false h1, Bool.and_false, Bool.false_and]
      rw [hd] at hv
      subst hv
      clear hd
      go_enter Try.func55, Try.ntmps55
      go_wp2_with fail
      all_goals
        go_ret
        exact ⟨rfl, hb1⟩
  · have hd : dirB L k = false := by unfold dirB thereB; rw [decide_eq_false h0, Bool.false_and, Bool.false_and]
    rw [hd] at hv
    subst hv
    clear hd
    go_enter Try.func55, Try.ntmps55
    go_wp2_with fail
    all_goals
      go_ret
      exact ⟨rfl, hb1⟩
end Go.Proofs.Ytgmmggdjcgemfaa
