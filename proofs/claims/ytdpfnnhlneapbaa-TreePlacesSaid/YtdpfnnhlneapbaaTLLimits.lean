/-
  tree's withinLimits, of the landed code.
-/
import Derived.Test.YtdpfnnhlneapbaaTLUsed
import Derived.Test.YtdpfnnhlneapbaaTLTells
namespace Go.Proofs.Ytdpfnnhlneapbaa
open Go Go.RowKit

def Limits (L : List Ino) (m b : Int) : Prop := 1 ≤ L.length ∧ (L.length : Int) ≤ m ∧ m ≤ 256 ∧ (usedB L : Int) ≤ b ∧ b ≤ 65536

theorem usedB_le (c : Nat) : ∀ (L : List Ino), (∀ k (h : k < L.length), L[k].data.length ≤ c) → usedB L ≤ L.length * c
  | [], _ => Nat.zero_le _
  | x :: r, h => by
    have h0 := h 0 (Nat.succ_pos _)
    have h1 := usedB_le c r (fun k hk => h (k + 1) (Nat.succ_lt_succ hk))
    simp only [usedB, List.length_cons]
    have h0' : x.data.length ≤ c := h0
    rw [Nat.succ_mul]
    omega

set_option maxHeartbeats 2000000 in
theorem llimits_any (a : Option Addr) (cap : Nat) (m b : Int) (L : List Ino) (hL : L.length ≤ 1000) (hB : usedB L ≤ 4611686018427387904) (w : World) (hN : NodesIn w a cap L) :
    Calls Try.prog 26 #[.agg #[.slice a L.length cap, .int .i64 m, .int .i64 b]] w fun e w' => TellsP (Limits L m b) e ∧ Below w.heap.size w w' := by
  have hb1 := below_box w (.cells #[.slice a L.length cap, .int .i64 m, .int .i64 b] 24)
  have HM := Lib.hid (hN.below hb1)
  have HB := Lib.hid hb1
  clear hN hb1
  by_cases h0 : 1 ≤ L.length
  · by_cases h1 : (L.length : Int) ≤ m
    · by_cases h2 : m ≤ 256
      · go_enter Try.func26, Try.ntmps26
        go_wp2_with fail
        refine (lused_any _ _ _ _ L hL hB _ HM.out).mono ?_
        rintro e w2 ⟨rfl, hb2⟩
        obtain ⟨q0, q1, q2⟩ := box3 hb2
        have HB2 := Lib.hid (HB.out.trans (hb2.mono (by simp)))
        clear hb2
        by_cases h3 : (usedB L : Int) ≤ b
        · by_cases h4 : b ≤ 65536
          · have hy := Lib.hid (show Limits L m b from ⟨h0, h1, h2, h3, h4⟩)
            go_wp2_with fail
            go_ret
            exact ⟨TellsP.yes rfl hy.out, HB2.out⟩
          · have hn := Lib.hid (show ¬ Limits L m b from fun h => h4 h.2.2.2.2)
            have hd : decide (b ≤ (65536 : Int)) = false := decide_eq_false h4
            go_wp2_with fail
            go_ret
            exact ⟨TellsP.no rfl hn.out, HB2.out⟩
        · have hn := Lib.hid (show ¬ Limits L m b from fun h => h3 h.2.2.2.1)
          have hd : decide ((usedB L : Int) ≤ b) = false := decide_eq_false h3
          go_wp2_with fail
          go_ret
          exact ⟨TellsP.no rfl hn.out, HB2.out⟩
      · have hn := Lib.hid (show ¬ Limits L m b from fun h => h2 h.2.2.1)
        go_enter Try.func26, Try.ntmps26
        go_wp2_with fail
        go_ret
        exact ⟨TellsP.no rfl hn.out, HB.out⟩
    · have hn := Lib.hid (show ¬ Limits L m b from fun h => h1 h.2.1)
      go_enter Try.func26, Try.ntmps26
      go_wp2_with fail
      go_ret
      exact ⟨TellsP.no rfl hn.out, HB.out⟩
  · have hn := Lib.hid (show ¬ Limits L m b from fun h => h0 h.1)
    go_enter Try.func26, Try.ntmps26
    go_wp2_with fail
    go_ret
    exact ⟨TellsP.no rfl hn.out, HB.out⟩
end Go.Proofs.Ytdpfnnhlneapbaa
