/-
  The reference's step, begin and bad, walked.
-/
import Derived.Test.YtfmaagcomplooaaWRef
namespace Go.Proofs.Ytfmaagcomplooaa
set_option maxRecDepth 100000
open Go Go.RowKit

theorem may4_at (a : Option Addr) (cap : Nat) (m b k what : Int) (L : List Ino) (hI : AllFit L) (v : Bool) (hv : mayL L k what = v) (w : World) (hN : NodesIn w a cap L) :
    Calls Try.prog 68 #[.agg #[.slice a L.length cap, .int .i64 m, .int .i64 b], .int .i64 k, .int .i64 what] w fun e w' => e = .returned (.bool v) ∧ Below w.heap.size w w' := by
  subst hv
  by_cases h : 0 ≤ what ∧ what ≤ 7
  · exact may4_known a cap m b k what L h.1 h.2 hI w hN
  · have e : mayL L k what = false := by
      unfold mayL
      by_cases h1 : 0 ≤ what
      · rw [decide_eq_false (show ¬ what ≤ 7 from fun h2 => h ⟨h1, h2⟩)]
        simp
      · rw [decide_eq_false h1]
        rfl
    rw [e]
    exact may4_out a cap m b k what L (by omega) w
theorem rkid_known (a : Option Addr) (cap : Nat) (m b d : Int) (nm : List UInt8) (L : List Ino) (z : Int) (hz : kidL L d nm = z) (w : World) (hN : NodesIn w a cap L) :
    Calls Try.prog 14 #[.agg #[.slice a L.length cap, .int .i64 m, .int .i64 b], .int .i64 d, .string ⟨nm.toArray⟩] w fun e w' => e = .returned (.int .i64 z) ∧ Below w.heap.size w w' := by
  subst hz
  exact rkid_any a cap m b d nm L w hN

theorem str_dot (x : List UInt8) : (((⟨x.toArray⟩ : ByteArray)).toList == [46]) = (x == [46]) := by rw [ByteArray.toList_eq]
set_option maxRecDepth 100000 in
set_option maxHeartbeats 4000000 in
theorem step4_any (a : Option Addr) (cap : Nat) (m b p : Int) (x : List UInt8) (L : List Ino) (hI : AllFit L) (w : World) (hN : NodesIn w a cap L) :
    Calls Try.prog 52 #[.agg #[.slice a L.length cap, .int .i64 m, .int .i64 b], .int .i64 p, .string ⟨x.toArray⟩] w fun e w' => e = .returned (.tuple #[.int .i64 (stepW L p x).1, .int .i64 (stepW L p x).2]) ∧ Below w.heap.size w w' := by
  obtain ⟨w1, hw1⟩ : ∃ w1, w1 = w.alloc (.cells #[.slice a L.length cap, .int .i64 m, .int .i64 b] 24) := ⟨_, rfl⟩
  have hb1 := below_box w (.cells #[.slice a L.length cap, .int .i64 m, .int .i64 b] 24)
  have hM := hN.below hb1
  have hsz : w1.heap.size = w.heap.size + 1 := by rw [hw1]; simp
  have hbox : ∀ W', Below w1.heap.size w1 W' → W'.cell? ⟨w.heap.size, 0, none⟩ = some (.slice a L.length cap) ∧ W'.cell? ⟨w.heap.size, 1, none⟩ = some (.int .i64 m) ∧ W'.cell? ⟨w.heap.size, 2, none⟩ = some (.int .i64 b) := fun W' h => box3 (by rw [← hw1]; exact h)
  rw [← hw1] at hM hb1
  have HM := Lib.hid hM
  have HB := Lib.hid hb1
  have HX := Lib.hid hbox
  have HEND := Lib.hid (show ∀ W', Below w1.heap.size w1 W' → Below w.heap.size w W' from fun W' h => HB.out.trans (h.mono (by rw [hsz]; omega)))
  have hcap := hN.1
  have hmax := hN.2.1
  unfold maxLen at hmax
  have HI := Lib.hid hI
  obtain ⟨F, hF⟩ : ∃ F, F = stepW L p x := ⟨_, rfl⟩
  rw [← hF]
  have HF := Lib.hid hF
  clear hM hN hb1 hbox hsz hI hF
  cases hd : dirB L p with
  | false =>
    have HD := Lib.hid hd
    have HV := Lib.hid (show F = (0, 20) by rw [HF.out]; unfold stepW; rw [hd, if_pos rfl])
    clear hd
    go_enter Try.func52, Try.ntmps52
    go_wp2_with fail
    rw [← hw1]
    refine (dir4_known _ _ _ _ _ L _ HD.out _ HM.out).mono ?_
    rintro e w2 ⟨rfl, hb2⟩
    go_wp2_with fail
    go_ret2
    exact ⟨by rw [HV.out]; rfl, HEND.out _ hb2⟩
  | true =>
    obtain ⟨n, rfl, hn⟩ := dir_lt hd
    obtain ⟨bb, o, rfl, hx⟩ := HM.out.2.2 n hn
    have h5' := hx.up
    have HD := Lib.hid hd
    have hd0 : (0 : Int) ≤ (n : Int) := by omega
    have hd1 : (n : Int) < (L.length : Int) := by omega
    clear hx hd
    cases hm : mayL L (n : Int) 1 with
    | false =>
      have HMY := Lib.hid hm
      have HV := Lib.hid (show F = (0, 13) by rw [HF.out]; unfold stepW; rw [HD.out, hm, if_neg (by simp), if_pos rfl])
      clear hm
      go_enter Try.func52, Try.ntmps52
      go_wp2_with fail
      rw [← hw1]
      refine (dir4_known _ _ _ _ _ L _ HD.out _ HM.out).mono ?_
      rintro e w2 ⟨rfl, hb2⟩
      have HB2 := Lib.hid hb2
      obtain ⟨q0, q1, q2⟩ := HX.out _ hb2
      clear hb2 h5'
      go_wp2_with fail
      refine (may4_at _ _ _ _ _ _ L HI.out _ HMY.out _ (HM.out.below HB2.out)).mono ?_
      rintro e w3 ⟨rfl, hb3⟩
      have HB3 := Lib.hid (HB2.out.trans (hb3.mono HB2.out.size))
      clear hb3 q0 q1 q2
      go_wp2_with fail
      go_ret2
      exact ⟨by rw [HV.out]; rfl, HEND.out _ HB3.out⟩
    | true =>
      have HMY := Lib.hid hm
      have HV := Lib.hid (show F = if x = [46] then ((n : Int), 0) else if x = [46, 46] then ((nodeAt L (n : Int)).up, 0) else if kidL L (n : Int) x < 0 then (0, 2) else (kidL L (n : Int) x, 0) by rw [HF.out]; unfold stepW; rw [HD.out, hm, if_neg (by simp), if_neg (by simp)])
      clear hm
      go_enter Try.func52, Try.ntmps52
      go_wp2_with fail
      rw [← hw1]
      refine (dir4_known _ _ _ _ _ L _ HD.out _ HM.out).mono ?_
      rintro e w2 ⟨rfl, hb2⟩
      have HB2 := Lib.hid hb2
      obtain ⟨q0, q1, q2⟩ := HX.out _ hb2
      have h5'' := cell_below hb2 h5'
      clear hb2 h5' hw1
      go_wp2_with fail
      refine (may4_at _ _ _ _ _ _ L HI.out _ HMY.out _ (HM.out.below HB2.out)).mono ?_
      rintro e w3 ⟨rfl, hb3⟩
      have HB3 := Lib.hid (HB2.out.trans (hb3.mono HB2.out.size))
      have h5 := cell_below hb3 h5''
      clear hb3 q0 q1 q2 h5''
      obtain ⟨q0, q1, q2⟩ := HX.out _ HB3.out
      cases hx1 : (x == [46]) with
      | true =>
        have HW := Lib.hid (show F = ((n : Int), 0) by rw [HV.out, if_pos (by simpa using hx1)])
        go_wp2_with fail
        go_ret2
        exact ⟨by rw [HW.out]; rfl, HEND.out _ HB3.out⟩
      | false =>
        have hne1 : ¬ x = [46] := by simpa using hx1
        cases hx2 : (x == [46, 46]) with
        | true =>
          have HW := Lib.hid (show F = (L[n].up, 0) by rw [HV.out, if_neg hne1, if_pos (by simpa using hx2), node_nat L n hn])
          clear hne1
          go_wp2_with fail
          go_ret2
          exact ⟨by rw [HW.out]; rfl, HEND.out _ HB3.out⟩
        | false =>
          have hne2 : ¬ x = [46, 46] := by simpa using hx2
          obtain ⟨z, hz⟩ : ∃ z, kidL L (n : Int) x = z := ⟨_, rfl⟩
          have HZ := Lib.hid hz
          have HW := Lib.hid (show F = if z < 0 then (0, 2) else (z, 0) by rw [HV.out, if_neg hne1, if_neg hne2, hz])
          clear hne1 hne2 hz
          go_wp2_with fail
          refine (rkid_known _ _ _ _ _ _ L z HZ.out _ (HM.out.below HB3.out)).mono ?_
          rintro e w4 ⟨rfl, hb4⟩
          have HB4 := Lib.hid (HB3.out.trans (hb4.mono HB3.out.size))
          clear hb4 q0 q1 q2 h5
          by_cases hz0 : z < 0
          · have HW2 := Lib.hid (show F = (0, 2) by rw [HW.out, if_pos hz0])
            go_wp2_with fail
            go_ret2
            exact ⟨by rw [HW2.out]; rfl, HEND.out _ HB4.out⟩
          · have HW2 := Lib.hid (show F = (z, 0) by rw [HW.out, if_neg hz0])
            have hz1 : 0 ≤ z := by omega
            clear hz0
            go_wp2_with fail
            go_ret2
            exact ⟨by rw [HW2.out]; rfl, HEND.out _ HB4.out⟩

set_option maxHeartbeats 1000000 in
theorem begin4_any (cwd : Int) (p : List UInt8) (w : World) :
    Calls Try.prog 35 #[.int .i64 cwd, .string ⟨p.toArray⟩] w fun e w' => e = .returned (.int .i64 (beginW cwd p)) ∧ w = w' := by
  cases h : wholeL p
  all_goals
    have HV := Lib.hid h
    have hw := rwhole_any ⟨p.toArray⟩ w
    have e1 : (⟨p.toArray⟩ : ByteArray).data.toList = p := rfl
    rw [e1, h] at hw
    have HW := Lib.hid hw
    clear hw h e1
    go_enter Try.func35, Try.ntmps35
    go_wp2_with (first | (go_at_call 53; refine HW.out.mono ?_; rintro e w' ⟨rfl, rfl⟩) | fail)
    go_ret
    exact ⟨by unfold beginW; rw [HV.out]; rfl, rfl⟩
end Go.Proofs.Ytfmaagcomplooaa
