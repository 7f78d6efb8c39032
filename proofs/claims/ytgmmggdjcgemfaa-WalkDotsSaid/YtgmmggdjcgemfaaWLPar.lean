/-
  walk's Parent, of the landed code.
-/
import Derived.Test.YtgmmggdjcgemfaaWLWalk
namespace Go.Proofs.Ytgmmggdjcgemfaa
open Go Go.RowKit

set_option maxRecDepth 100000 in
set_option maxHeartbeats 8000000 in
theorem lparent_any (a : Option Addr) (cap : Nat) (m b cwd : Int) (pb : ByteArray) (hp : pb.size ≤ 1073741824) (L : List Ino) (hF : FitP L m b) (w : World) (hN : NodesIn w a cap L) :
    Calls Try.prog 12 #[.agg #[.slice a L.length cap, .int .i64 m, .int .i64 b], .int .i64 cwd, .string pb] w fun e w' => e = .returned (.tuple #[.int .i64 (parentW L cwd pb.data.toList).1, .string ⟨(parentW L cwd pb.data.toList).2.1.toArray⟩, .int .i64 (parentW L cwd pb.data.toList).2.2]) ∧ Below w.heap.size w w' := by
  obtain ⟨w1, hw1⟩ : ∃ w1, w1 = w.alloc (.cells #[.slice a L.length cap, .int .i64 m, .int .i64 b] 24) := ⟨_, rfl⟩
  have hb1 := below_box w (.cells #[.slice a L.length cap, .int .i64 m, .int .i64 b] 24)
  have hM := hN.below hb1
  have hsz : w1.heap.size = w.heap.size + 1 := by rw [hw1]; simp
  have hbox : ∀ W', Below w1.heap.size w1 W' → W'.cell? ⟨w.heap.size, 0, none⟩ = some (.slice a L.length cap) ∧ W'.cell? ⟨w.heap.size, 1, none⟩ = some (.int .i64 m) ∧ W'.cell? ⟨w.heap.size, 2, none⟩ = some (.int .i64 b) := fun W' h => box3 (by rw [← hw1]; exact h)
  rw [← hw1] at hM hb1
  have HM := Lib.hid hM
  have HB := Lib.hid hb1
  have HX := Lib.hid hbox
  have HEND := Lib.hid (show ∀ W', Below w1.heap.size w1 W' → Below w.heap.size w W' from fun W' h => HB.out.trans (h.mono (by rw [hsz]; omega)))
  have HF := Lib.hid hF
  obtain ⟨R, hR⟩ : ∃ R, R = parentW L cwd pb.data.toList := ⟨_, rfl⟩
  rw [← hR]
  have HR := Lib.hid hR
  obtain ⟨z, hz⟩ : ∃ z, badW L cwd pb.data.toList = z := ⟨_, rfl⟩
  have HZ := Lib.hid hz
  clear hM hN hb1 hbox hsz hF hR
  by_cases hbad : z ≠ 0
  · have hzb : (z != 0) = true := by simpa using hbad
    have HW := Lib.hid (show R = (0, [], z) by rw [HR.out]; unfold parentW; rw [hz, if_pos hbad])
    clear hbad hz
    go_enter Try.func12, Try.ntmps12
    go_wp2_with fail
    rw [← hw1]
    refine (refused_known _ _ _ _ _ _ hp L z HZ.out _ HM.out).mono ?_
    rintro e w2 ⟨rfl, hb2⟩
    go_wp2_with fail
    go_ret3
    exact ⟨by rw [HW.out]; rfl, HEND.out _ hb2⟩
  · obtain rfl : z = 0 := by simpa using hbad
    obtain ⟨st, hst⟩ : ∃ st, beginW cwd pb.data.toList = st := ⟨_, rfl⟩
    have HST := Lib.hid hst
    obtain ⟨N, hNe⟩ : ∃ N, N = partsL pb.data.toList := ⟨_, rfl⟩
    have HNE := Lib.hid hNe
    have hlong : pb.size ≤ 1024 := by
      unfold badW at hz
      by_cases h2 : pb.data.toList = [] ∨ dirB L cwd = false
      · rw [if_pos h2] at hz; cases hz
      · rw [if_neg h2] at hz
        by_cases hl : longB pb.data.toList = true
        · rw [if_pos hl] at hz; cases hz
        · unfold longB at hl
          rw [Bool.or_eq_true, decide_eq_true_eq, size_list] at hl
          omega
    have hNL : N.length ≤ 1025 := by rw [hNe]; have := count_parts pb.data.toList; rw [size_list] at this; omega
    have HW := Lib.hid (show R = if N = [] then (0, [], 17) else if (wayW L true 8 N.dropLast st).2 ≠ 0 then (0, [], (wayW L true 8 N.dropLast st).2) else if dirB L (wayW L true 8 N.dropLast st).1 = false then (0, [], 20) else ((wayW L true 8 N.dropLast st).1, N.getLastD [], 0) by
      rw [HR.out]
      unfold parentW
      rw [hz, if_neg (by simp), hst, ← hNe])
    clear hz hst hNe hbad HR
    rcases List.eq_nil_or_concat N with hn | ⟨M, y, hn⟩
    · have HNN := Lib.hid hn
      have HW2 := Lib.hid (show R = (0, [], 17) by rw [HW.out, if_pos hn])
      clear hn
      go_enter Try.func12, Try.ntmps12
      go_wp2_with fail
      rw [← hw1]
      refine (refused_known _ _ _ _ _ _ hp L 0 HZ.out _ HM.out).mono ?_
      rintro e w2 ⟨rfl, hb2⟩
      have HB2 := Lib.hid hb2
      obtain ⟨q0, q1, q2⟩ := HX.out _ hb2
      clear hb2
      go_wp2_with (first | (go_at_call 24; refine (lbegin_any _ _ _ cwd pb hlong st N HST.out HNE.out w2).mono ?_; rintro e w3 ⟨⟨ue, rfl⟩, hv3, hb3, hs3⟩; rw [HNN.out] at hv3; have HV3 := Lib.hid hv3; have HB3 := Lib.hid (HB2.out.trans (hb3.mono HB2.out.size)); clear hv3 hb3 q0 q1 q2) | (go_at_call 31; refine (lout_none _ _ _ _ _ _ HV3.out).mono ?_; rintro e w4 ⟨rfl, rfl⟩) | fail)
      go_ret3
      exact ⟨by rw [HW2.out]; rfl, HEND.out _ HB3.out⟩
    · rw [List.concat_eq_append] at hn
      have hlen : N.length = M.length + 1 := by rw [hn]; simp
      have HNN := Lib.hid (show N.reverse = y :: M.reverse by rw [hn]; simp)
      obtain ⟨kz, hkz⟩ : ∃ kz, kz = (wayW L true 8 M st).1 := ⟨_, rfl⟩
      obtain ⟨ez, hez⟩ : ∃ ez, ez = (wayW L true 8 M st).2 := ⟨_, rfl⟩
      have HWAY := Lib.hid (show ∀ W n₀ g, w1.heap.size ≤ g → Below w1.heap.size w1 W → n₀ ≤ W.heap.size → WayAt n₀ g (.slice a L.length cap, .int .i64 m, .int .i64 b) W st M.reverse 0 → Calls Try.prog 25 #[.pointer (some ⟨g, 0, none⟩), .bool true] W fun e w' => (∃ z : Int, e = .returned (.tuple #[.int .i64 z, .int .i64 ez]) ∧ (ez = 0 → z = kz)) ∧ Moved g W w' from fun W n₀ g hg hW hn hV =>
        lend_any n₀ g a cap m b st M (by omega) true L HF.out w1 HM.out hg W hW hn hV kz ez hkz hez)
      obtain ⟨dz, hdz⟩ : ∃ dz, dirB L kz = dz := ⟨_, rfl⟩
      have HW2 := Lib.hid (show R = if ez ≠ 0 then (0, [], ez) else if dz = false then (0, [], 20) else (kz, y, 0) by
        rw [HW.out, if_neg (by rw [hn]; simp), hn, List.dropLast_concat, ← hkz, ← hez, hdz]
        congr 3
        simp)
      obtain ⟨kk, hkk⟩ : ∃ kk, kindL L kz = kk := ⟨_, rfl⟩
      have HKK := Lib.hid hkk
      have hkd := kind_dz hdz
      rw [hkk] at hkd
      clear hkz hez hdz hn HW hkk
      go_enter Try.func12, Try.ntmps12
      go_wp2_with fail
      rw [← hw1]
      refine (refused_known _ _ _ _ _ _ hp L 0 HZ.out _ HM.out).mono ?_
      rintro e w2 ⟨rfl, hb2⟩
      have HB2 := Lib.hid hb2
      obtain ⟨q0, q1, q2⟩ := HX.out _ hb2
      clear hb2
      have hs2 := HB2.out.size
      cases he : (ez != 0) with
      | true =>
        have HW3 := Lib.hid (show R = (0, [], ez) by rw [HW2.out, if_pos (by simpa using he)])
        go_wp2_with (first | (go_at_call 24; refine (lbegin_any _ _ _ cwd pb hlong st N HST.out HNE.out w2).mono ?_; rintro e w3 ⟨⟨ue, rfl⟩, hv3, hb3, hs3⟩; rw [HNN.out] at hv3; have HV3 := Lib.hid hv3; have HB3 := Lib.hid (HB2.out.trans (hb3.mono HB2.out.size)); clear hv3 hb3 q0 q1 q2) | (go_at_call 31; refine (lout_some _ _ _ _ _ _ _ _ HV3.out).mono ?_; rintro e w4 ⟨rfl, hv4, hm4⟩; have HV4 := Lib.hid hv4; have hs4 := Nat.le_trans hs3 hm4.below.size; have HB4 := Lib.hid (HB3.out.trans (hm4.below.mono hs2)); clear hv4 hm4) | (go_at_call 25; refine (HWAY.out w4 (w2.heap.size + 1) w2.heap.size hs2 HB4.out hs4 HV4.out).mono ?_; rintro e w5 ⟨⟨zz, rfl, hzz⟩, hm5⟩; have HB5 := Lib.hid (HB4.out.trans (hm5.below.mono hs2)); have HZZ := Lib.hid hzz; (obtain ⟨q0, q1, q2⟩ := HX.out _ HB5.out); clear hzz hm5) | (go_at_call 26; refine (kind_known a cap m b _ L kk (by rw [HZZ.out (by trivial)]; exact HKK.out) _ (HM.out.below HB5.out)).mono ?_; rintro e w6 ⟨rfl, hb6⟩; have HB6 := Lib.hid (HB5.out.trans (hb6.mono HB5.out.size))) | fail)
        go_ret3
        exact ⟨by rw [HW3.out]; rfl, HEND.out _ HB5.out⟩
      | false =>
        have hz0 : ez = 0 := by simpa using he
        subst hz0
        cases dz with
        | false =>
          have HW3 := Lib.hid (show R = (0, [], 20) by rw [HW2.out, if_neg (by simp), if_pos rfl])
          simp only [Bool.not_false] at hkd
          go_wp2_with (first | (go_at_call 24; refine (lbegin_any _ _ _ cwd pb hlong st N HST.out HNE.out w2).mono ?_; rintro e w3 ⟨⟨ue, rfl⟩, hv3, hb3, hs3⟩; rw [HNN.out] at hv3; have HV3 := Lib.hid hv3; have HB3 := Lib.hid (HB2.out.trans (hb3.mono HB2.out.size)); clear hv3 hb3 q0 q1 q2) | (go_at_call 31; refine (lout_some _ _ _ _ _ _ _ _ HV3.out).mono ?_; rintro e w4 ⟨rfl, hv4, hm4⟩; have HV4 := Lib.hid hv4; have hs4 := Nat.le_trans hs3 hm4.below.size; have HB4 := Lib.hid (HB3.out.trans (hm4.below.mono hs2)); clear hv4 hm4) | (go_at_call 25; refine (HWAY.out w4 (w2.heap.size + 1) w2.heap.size hs2 HB4.out hs4 HV4.out).mono ?_; rintro e w5 ⟨⟨zz, rfl, hzz⟩, hm5⟩; have HB5 := Lib.hid (HB4.out.trans (hm5.below.mono hs2)); have HZZ := Lib.hid hzz; (obtain ⟨q0, q1, q2⟩ := HX.out _ HB5.out); clear hzz hm5) | (go_at_call 26; refine (kind_known a cap m b _ L kk (by rw [HZZ.out (by trivial)]; exact HKK.out) _ (HM.out.below HB5.out)).mono ?_; rintro e w6 ⟨rfl, hb6⟩; have HB6 := Lib.hid (HB5.out.trans (hb6.mono HB5.out.size))) | fail)
          go_ret3
          exact ⟨by rw [HW3.out]; rfl, HEND.out _ HB6.out⟩
        | true =>
          have HW3 := Lib.hid (show R = (kz, y, 0) by rw [HW2.out, if_neg (by simp), if_neg (by simp)])
          simp only [Bool.not_true] at hkd
          go_wp2_with (first | (go_at_call 24; refine (lbegin_any _ _ _ cwd pb hlong st N HST.out HNE.out w2).mono ?_; rintro e w3 ⟨⟨ue, rfl⟩, hv3, hb3, hs3⟩; rw [HNN.out] at hv3; have HV3 := Lib.hid hv3; have HB3 := Lib.hid (HB2.out.trans (hb3.mono HB2.out.size)); clear hv3 hb3 q0 q1 q2) | (go_at_call 31; refine (lout_some _ _ _ _ _ _ _ _ HV3.out).mono ?_; rintro e w4 ⟨rfl, hv4, hm4⟩; have HV4 := Lib.hid hv4; have hs4 := Nat.le_trans hs3 hm4.below.size; have HB4 := Lib.hid (HB3.out.trans (hm4.below.mono hs2)); clear hv4 hm4) | (go_at_call 25; refine (HWAY.out w4 (w2.heap.size + 1) w2.heap.size hs2 HB4.out hs4 HV4.out).mono ?_; rintro e w5 ⟨⟨zz, rfl, hzz⟩, hm5⟩; have HB5 := Lib.hid (HB4.out.trans (hm5.below.mono hs2)); have HZZ := Lib.hid hzz; (obtain ⟨q0, q1, q2⟩ := HX.out _ HB5.out); clear hzz hm5) | (go_at_call 26; refine (kind_known a cap m b _ L kk (by rw [HZZ.out (by trivial)]; exact HKK.out) _ (HM.out.below HB5.out)).mono ?_; rintro e w6 ⟨rfl, hb6⟩; have HB6 := Lib.hid (HB5.out.trans (hb6.mono HB5.out.size))) | fail)
          go_ret3
          exact ⟨by rw [HW3.out, HZZ.out (by trivial)]; rfl, HEND.out _ HB6.out⟩
end Go.Proofs.Ytgmmggdjcgemfaa
