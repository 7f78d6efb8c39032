/-
  The reference's there, dir, May, step, begin and bad, walked.
-/
import Derived.Test.YtfmaagcomplooaaK5
import Derived.Test.YtfmaagcomplooaaK6
namespace Go.Proofs.Ytfmaagcomplooaa
set_option maxRecDepth 100000
open Go Go.RowKit

theorem live_nat {L : List Ino} {n : Nat} (hn : n < L.length) : liveB L (n : Int) = (L[n].kind != 0) := by
  unfold liveB
  rw [there_of L n hn, node_nat L n hn, Bool.true_and]

set_option maxHeartbeats 1000000 in
theorem there4_known (a : Option Addr) (cap : Nat) (m b k : Int) (L : List Ino) (v : Bool) (hv : liveB L k = v) (w : World) (hN : NodesIn w a cap L) :
    Calls Try.prog 54 #[.agg #[.slice a L.length cap, .int .i64 m, .int .i64 b], .int .i64 k] w fun e w' => e = .returned (.bool v) ∧ Below w.heap.size w w' := by
  subst hv
  have hb1 := below_box w (.cells #[.slice a L.length cap, .int .i64 m, .int .i64 b] 24)
  have HB1 := Lib.hid hb1
  have hcap := hN.1
  have hmax := hN.2.1
  unfold maxLen at hmax
  cases ht : thereB L k with
  | true =>
    obtain ⟨n, rfl, hn⟩ := there_nat ht
    obtain ⟨bb, o, rfl, hx⟩ := (hN.below hb1).2.2 n hn
    have h1 := hx.kind
    have hd0 : (0 : Int) ≤ (n : Int) := by omega
    have hd1 : (n : Int) < (L.length : Int) := by omega
    have HV := Lib.hid (live_nat (L := L) hn)
    clear hN hb1 ht hx
    cases hk : (L[n].kind != 0)
    all_goals
      have HK := Lib.hid hk
      go_enter Try.func54, Try.ntmps54
      go_wp2_with fail
      go_ret
      exact ⟨by rw [HV.out, HK.out]; rfl, HB1.out⟩
  | false =>
    have hv : liveB L k = false := by unfold liveB; rw [ht]; rfl
    have HV := Lib.hid hv
    rcases there_not ht with h | h
    · clear hN hb1 ht hv
      go_enter Try.func54, Try.ntmps54
      go_wp2_with fail
      go_ret
      exact ⟨by rw [HV.out]; rfl, HB1.out⟩
    · have h0 : (0 : Int) ≤ k := by omega
      have h1 : ¬ k < (L.length : Int) := by omega
      have h2 : decide (k < (L.length : Int)) = false := decide_eq_false h1
      clear hN hb1 ht hv
      go_enter Try.func54, Try.ntmps54
      go_wp2_with fail
      go_ret
      exact ⟨by rw [HV.out]; rfl, HB1.out⟩

theorem dir_live (L : List Ino) (k : Int) : dirB L k = (liveB L k && (nodeAt L k).kind == 2) := by
  unfold dirB liveB
  cases thereB L k with
  | false => rfl
  | true =>
    rw [Bool.true_and, Bool.true_and]
    by_cases h : (nodeAt L k).kind = 2
    · rw [h]; rfl
    · have : ((nodeAt L k).kind == 2) = false := by simpa using h
      rw [this, Bool.and_false]

set_option maxHeartbeats 1000000 in
theorem dir4_known (a : Option Addr) (cap : Nat) (m b k : Int) (L : List Ino) (v : Bool) (hv : dirB L k = v) (w : World) (hN : NodesIn w a cap L) :
    Calls Try.prog 36 #[.agg #[.slice a L.length cap, .int .i64 m, .int .i64 b], .int .i64 k] w fun e w' => e = .returned (.bool v) ∧ Below w.heap.size w w' := by
  subst hv
  have hb1 := below_box w (.cells #[.slice a L.length cap, .int .i64 m, .int .i64 b] 24)
  have HB1 := Lib.hid hb1
  have hcap := hN.1
  have hmax := hN.2.1
  unfold maxLen at hmax
  have HM := Lib.hid (hN.below hb1)
  have HD := Lib.hid (dir_live L k)
  cases hl : liveB L k with
  | false =>
    have HL := Lib.hid hl
    have HV := Lib.hid (show dirB L k = false by rw [HD.out, hl]; rfl)
    clear hN hb1 hl
    go_enter Try.func36, Try.ntmps36
    go_wp2_with (first | (go_at_call 54; refine (there4_known _ _ _ _ _ L _ HL.out _ HM.out).mono ?_; rintro e w2 ⟨rfl, hb2⟩) | fail)
    go_ret
    exact ⟨by rw [HV.out]; rfl, HB1.out.trans (hb2.mono (by simp))⟩
  | true =>
    obtain ⟨n, rfl, hn⟩ := there_nat (live_there hl)
    have HL := Lib.hid hl
    obtain ⟨bb, o, rfl, hx⟩ := HM.out.2.2 n hn
    have h1 := hx.kind
    have hd0 : (0 : Int) ≤ (n : Int) := by omega
    have hd1 : (n : Int) < (L.length : Int) := by omega
    have HV := Lib.hid (show dirB L (n : Int) = (L[n].kind == 2) by rw [HD.out, hl, Bool.true_and, node_nat L n hn])
    clear hN hb1 hl hx
    cases hk : (L[n].kind == 2)
    all_goals
      have HK := Lib.hid hk
      go_enter Try.func36, Try.ntmps36
      go_wp2_with (first | (go_at_call 54; refine (there4_known _ _ _ _ _ L _ HL.out _ HM.out).mono ?_; rintro e w2 ⟨rfl, hb2⟩; obtain ⟨q0, q1, q2⟩ := box3 hb2; have h2 := cell_below hb2 h1) | fail)
      go_ret
      exact ⟨by rw [HV.out, HK.out]; rfl, HB1.out.trans (hb2.mono (by simp))⟩

/-- The reference's May, where what is asked for is out of its range. -/
theorem may4_out (a : Option Addr) (cap : Nat) (m b k what : Int) (L : List Ino) (h : what < 0 ∨ 7 < what) (w : World) :
    Calls Try.prog 68 #[.agg #[.slice a L.length cap, .int .i64 m, .int .i64 b], .int .i64 k, .int .i64 what] w fun e w' => e = .returned (.bool false) ∧ Below w.heap.size w w' := by
  have HB1 := Lib.hid (below_box w (.cells #[.slice a L.length cap, .int .i64 m, .int .i64 b] 24))
  rcases h with h | h
  · go_enter Try.func68, Try.ntmps68
    go_wp2_with fail
    go_ret
    exact ⟨rfl, HB1.out⟩
  · have h0 : ¬ what < 0 := by omega
    go_enter Try.func68, Try.ntmps68
    go_wp2_with fail
    go_ret
    exact ⟨rfl, HB1.out⟩

set_option maxHeartbeats 2000000 in
theorem may4_known (a : Option Addr) (cap : Nat) (m b k what : Int) (L : List Ino) (hw1 : 0 ≤ what) (hw2 : what ≤ 7) (hI : AllFit L) (w : World) (hN : NodesIn w a cap L) :
    Calls Try.prog 68 #[.agg #[.slice a L.length cap, .int .i64 m, .int .i64 b], .int .i64 k, .int .i64 what] w fun e w' => e = .returned (.bool (mayL L k what)) ∧ Below w.heap.size w w' := by
  have hb1 := below_box w (.cells #[.slice a L.length cap, .int .i64 m, .int .i64 b] 24)
  have HB1 := Lib.hid hb1
  have hcap := hN.1
  have hmax := hN.2.1
  unfold maxLen at hmax
  have HM := Lib.hid (hN.below hb1)
  cases hl : liveB L k with
  | false =>
    have HL := Lib.hid hl
    have HV := Lib.hid (show mayL L k what = false by unfold mayL; rw [hl]; simp)
    clear hN hb1 hl
    go_enter Try.func68, Try.ntmps68
    go_wp2_with (first | (go_at_call 54; refine (there4_known _ _ _ _ _ L _ HL.out _ HM.out).mono ?_; rintro e w2 ⟨rfl, hb2⟩) | fail)
    go_ret
    exact ⟨by rw [HV.out]; rfl, HB1.out.trans (hb2.mono (by simp))⟩
  | true =>
    obtain ⟨n, rfl, hn⟩ := there_nat (live_there hl)
    have HL := Lib.hid hl
    obtain ⟨bb, o, rfl, hx⟩ := HM.out.2.2 n hn
    have h1 := hx.mode
    have hd0 : (0 : Int) ≤ (n : Int) := by omega
    have hd1 : (n : Int) < (L.length : Int) := by omega
    have HV := Lib.hid (show mayL L (n : Int) what = bitsB L[n].mode what by unfold mayL; rw [hl, node_nat L n hn, decide_eq_true hw1, decide_eq_true hw2]; rfl)
    have hmr := mode_range hI (there_of L n hn)
    rw [node_nat L n hn] at hmr
    obtain ⟨q, hq⟩ : ∃ q, q = L[n].mode := ⟨_, rfl⟩
    rw [← hq] at h1 HV hmr
    obtain ⟨hq1, hq2⟩ := hmr
    rw [HV.out]
    have HB2 := Lib.hid (show ∀ w2, Below (w.alloc (.cells #[.slice (some ⟨bb, o, none⟩) L.length cap, .int .i64 m, .int .i64 b] 24)).heap.size (w.alloc (.cells #[.slice (some ⟨bb, o, none⟩) L.length cap, .int .i64 m, .int .i64 b] 24)) w2 → Below w.heap.size w w2 from fun w2 h => HB1.out.trans (h.mono (by simp)))
    clear hN hb1 hl hx hq hI
    go_enter Try.func68, Try.ntmps68
    go_wp2_with (first | (go_at_call 54; refine (there4_known _ _ _ _ _ L _ HL.out _ HM.out).mono ?_; rintro e w2 ⟨rfl, hb2⟩; obtain ⟨q0, q1, q2⟩ := box3 hb2; have h2 := cell_below hb2 h1) | fail)
    all_goals
      go_ret
      refine ⟨?_, HB2.out _ hb2⟩
      show Ending.returned (Value.bool _) = Ending.returned (Value.bool _)
      congr 2
      unfold bitsB
      simp [*]
end Go.Proofs.Ytfmaagcomplooaa
