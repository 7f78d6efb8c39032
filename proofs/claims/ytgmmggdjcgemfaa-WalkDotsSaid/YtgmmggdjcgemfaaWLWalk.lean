/-
  walk's Walk, of the landed code.
-/
import Derived.Test.YtgmmggdjcgemfaaWLEnd
import Derived.Test.YtgmmggdjcgemfaaWRefTop
namespace Go.Proofs.Ytgmmggdjcgemfaa
open Go Go.RowKit

theorem lend_any (n₀ g : Nat) (a : Option Addr) (cap : Nat) (m b : Int) (p0 : Int) (N0 : List (List UInt8)) (hN0 : N0.length ≤ 5000) (last : Bool) (L : List Ino) (hF : FitP L m b)
    (w0 : World) (hN : NodesIn w0 a cap L) (hw0 : w0.heap.size ≤ g) (w : World) (hb0 : Below w0.heap.size w0 w) (hn₀ : n₀ ≤ w.heap.size) (hW : WayAt n₀ g (.slice a L.length cap, .int .i64 m, .int .i64 b) w p0 N0.reverse 0) (kz ez : Int) (hk : kz = (wayW L last 8 N0 p0).1) (he : ez = (wayW L last 8 N0 p0).2) :
    Calls Try.prog 25 #[.pointer (some ⟨g, 0, none⟩), .bool last] w fun e w' => (∃ z : Int, e = .returned (.tuple #[.int .i64 z, .int .i64 ez]) ∧ (ez = 0 → z = kz)) ∧ Moved g w w' := by
  subst hk he
  exact callsIn_wide.1 (end_in Fence.wide rfl 5 (Nat.le_refl _) n₀ g a cap m b p0 N0 hN0 last L hF w0 hN hw0 w hb0 hn₀ hW)
theorem refused_known (a : Option Addr) (cap : Nat) (m b cwd : Int) (pb : ByteArray) (hp : pb.size ≤ 1073741824) (L : List Ino) (z : Int) (hz : badW L cwd pb.data.toList = z) (w : World) (hN : NodesIn w a cap L) :
    Calls Try.prog 22 #[.agg #[.slice a L.length cap, .int .i64 m, .int .i64 b], .int .i64 cwd, .string pb] w fun e w' => e = .returned (.int .i64 z) ∧ Below w.heap.size w w' := by
  subst hz
  exact refused_any a cap m b cwd pb.data.toList (by rw [size_list]; exact hp) L w hN
theorem kind_dz {L : List Ino} {k : Int} {dz : Bool} (h : dirB L k = dz) : (kindL L k != 2) = !dz := by rw [kind_dir, h]

theorem lbegin_any (tv mv bv : Value) (cwd : Int) (pb : ByteArray) (hp : pb.size ≤ 1024) (st : Int) (N : List (List UInt8)) (hst : beginW cwd pb.data.toList = st) (hN : N = partsL pb.data.toList) (w2 : World) :
    Calls Try.prog 24 #[.pointer (some ⟨w2.heap.size, 0, none⟩), .string pb] (w2.alloc (.cells #[tv, mv, bv, .int .i64 cwd, .slice none 0 0, .int .i64 0] 52)) fun e w' =>
      (∃ u, e = .returned u) ∧ WayAt (w2.heap.size + 1) w2.heap.size (tv, mv, bv) w' st N.reverse 0 ∧ Below w2.heap.size w2 w' ∧ w2.heap.size + 1 ≤ w'.heap.size := by
  subst hst hN
  have h := lenter_any (w2.heap.size + 1) w2.heap.size (tv, mv, bv) cwd 0 [] pb.data.toList (by rw [size_list]; omega) (by simp) (w2.alloc (.cells #[tv, mv, bv, .int .i64 cwd, .slice none 0 0, .int .i64 0] 52)) (by simp) ⟨by omega, _, new_block w2 _, Or.inl ⟨rfl, rfl⟩⟩
  rw [List.nil_append] at h
  exact h.mono fun e w' hh => ⟨hh.1, hh.2.1, (below_box w2 _).trans hh.2.2.below, by have := hh.2.2.below.size; rw [World.size_alloc] at this; exact this⟩

set_option maxRecDepth 100000 in
set_option maxHeartbeats 8000000 in
theorem lwalk_any (a : Option Addr) (cap : Nat) (m b cwd : Int) (pb : ByteArray) (hp : pb.size ≤ 1073741824) (follow : Bool) (L : List Ino) (hF : FitP L m b) (w : World) (hN : NodesIn w a cap L) :
    Calls Try.prog 10 #[.agg #[.slice a L.length cap, .int .i64 m, .int .i64 b], .int .i64 cwd, .string pb, .bool follow] w fun e w' => e = .returned (.tuple #[.int .i64 (walkW L cwd pb.data.toList follow).1, .int .i64 (walkW L cwd pb.data.toList follow).2]) ∧ Below w.heap.size w w' := by
  obtain ⟨w1, hw1⟩ : ∃ w1, w1 = w.alloc (.cells #[.slice a L.length cap, .int .i64 m, .int .i64 b] 24) := ⟨_, rfl⟩
  have hb1 := below_box w (.cells #[.slice a L.length cap, .int .i64 m, .int .i64 b] 24)
  have hM := hN.below hb1
  have hsz : w1.heap.size = w.heap.size + 1 := by rw [hw1]; simp
  have hbox : ∀ W', Below w1.heap.size w1 W' → W'.cell? ⟨w.heap.size, 0, none⟩ = some (.slice a L.length cap) ∧ W'.cell? ⟨w.heap.size, 1, none⟩ = some (.int .i64 m) ∧ W'.cell? ⟨w.heap.size, 2, none⟩ = some (.int .i64 b) := fun W' h => box3 (by rw [← hw1]; exact h)
  rw [← hw1] at hM hb1
  have HM := Lib.hid hM
  have HB := Lib.hid hb1
  have HX := Lib.hid hbox
  have HEND := Lib.hid (show ∀ W', Below w1.heap.size w1 W' → Below w.heap.size w W' from fun W' h => HB.out.trans (h.mono (by rw [hsz]; omega)))
  have HF := Lib.hid hF
  obtain ⟨R, hR⟩ : ∃ R, R = walkW L cwd pb.data.toList follow := ⟨_, rfl⟩
  rw [← hR]
  have HR := Lib.hid hR
  obtain ⟨z, hz⟩ : ∃ z, badW L cwd pb.data.toList = z := ⟨_, rfl⟩
  have HZ := Lib.hid hz
  clear hM hN hb1 hbox hsz hF hR
  by_cases hbad : z ≠ 0
  · have hzb : (z != 0) = true := by simpa using hbad
    have HW := Lib.hid (show R = (0, z) by rw [HR.out]; unfold walkW; rw [hz, if_pos hbad])
    clear hbad hz
    go_enter Try.func10, Try.ntmps10
    go_wp2_with fail
    rw [← hw1]
    refine (refused_known _ _ _ _ _ _ hp L z HZ.out _ HM.out).mono ?_
    rintro e w2 ⟨rfl, hb2⟩
    go_wp2_with fail
    go_ret2
    exact ⟨by rw [HW.out]; rfl, HEND.out _ hb2⟩
  · obtain rfl : z = 0 := by simpa using hbad
    have hpne : pb.data.toList ≠ [] := fun e => by
      unfold badW at hz
      rw [if_pos (Or.inl e)] at hz
      cases hz
    obtain ⟨st, hst⟩ : ∃ st, beginW cwd pb.data.toList = st := ⟨_, rfl⟩
    have HST := Lib.hid hst
    obtain ⟨N, hNe⟩ : ∃ N, N = partsL pb.data.toList := ⟨_, rfl⟩
    have HNE := Lib.hid hNe
    have hlong : pb.size ≤ 1024 := by
      unfold badW at hz
      rw [if_neg (fun h => by rcases h with h | h; exact hpne h; rw [if_pos (Or.inr h)] at hz; cases hz)] at hz
      by_cases hl : longB pb.data.toList = true
      · rw [if_pos hl] at hz; cases hz
      · unfold longB at hl
        rw [Bool.or_eq_true, decide_eq_true_eq, size_list] at hl
        omega
    have HNL := Lib.hid (show N.length ≤ 5000 by rw [hNe]; have := count_parts pb.data.toList; rw [size_list] at this; omega)
    obtain ⟨s, heb⟩ : ∃ s, endL pb.data.toList = s := ⟨_, rfl⟩
    have HS := Lib.hid heb
    obtain ⟨kz, hkz⟩ : ∃ kz, kz = (wayW L (follow || s) 8 N st).1 := ⟨_, rfl⟩
    obtain ⟨ez, hez⟩ : ∃ ez, ez = (wayW L (follow || s) 8 N st).2 := ⟨_, rfl⟩
    have HWAY := Lib.hid (show ∀ lb, lb = (follow || s) → ∀ W n₀ g, w1.heap.size ≤ g → Below w1.heap.size w1 W → n₀ ≤ W.heap.size → WayAt n₀ g (.slice a L.length cap, .int .i64 m, .int .i64 b) W st N.reverse 0 → Calls Try.prog 25 #[.pointer (some ⟨g, 0, none⟩), .bool lb] W fun e w' => (∃ z : Int, e = .returned (.tuple #[.int .i64 z, .int .i64 ez]) ∧ (ez = 0 → z = kz)) ∧ Moved g W w' from fun lb hlb W n₀ g hg hW hn hV => by
      subst hlb
      exact lend_any n₀ g a cap m b st N HNL.out _ L HF.out w1 HM.out hg W hW hn hV kz ez hkz hez)
    have HW := Lib.hid (show R = if ez ≠ 0 then (0, ez) else if s = true ∧ dirB L kz = false then (0, 20) else (kz, 0) by
      rw [HR.out]
      unfold walkW
      rw [hz, if_neg (by simp), hst, ← hNe, heb, ← hez, ← hkz])
    obtain ⟨dz, hdz⟩ : ∃ dz, dirB L kz = dz := ⟨_, rfl⟩
    rw [hdz] at HW
    obtain ⟨kk, hkk⟩ : ∃ kk, kindL L kz = kk := ⟨_, rfl⟩
    have HKK := Lib.hid hkk
    have hkd := kind_dz hdz
    rw [hkk] at hkd
    clear hz hpne heb hst hNe hkz hez hdz hbad HR hkk
    cases follow
    case false =>
      go_enter Try.func10, Try.ntmps10
      go_wp2_with fail
      rw [← hw1]
      refine (refused_known _ _ _ _ _ _ hp L 0 HZ.out _ HM.out).mono ?_
      rintro e w2 ⟨rfl, hb2⟩
      have HB2 := Lib.hid hb2
      obtain ⟨q0, q1, q2⟩ := HX.out _ hb2
      clear hb2
      cases he : (ez != 0) with
      | true =>
        have HW2 := Lib.hid (show R = (0, ez) by rw [HW.out, if_pos (by simpa using he)])
        go_wp2_with (first | (go_at_call 23; refine (hassuf_known _ hp _ HS.out _).mono ?_; rintro e wn ⟨rfl, rfl⟩) | (go_at_call 24; refine (lbegin_any _ _ _ cwd pb hlong st N HST.out HNE.out w2).mono ?_; rintro e w3 ⟨⟨ue, rfl⟩, hv3, hb3, hs3⟩; have HV3 := Lib.hid hv3; have HB3 := Lib.hid (HB2.out.trans (hb3.mono HB2.out.size)); have hs2 := HB2.out.size; clear hv3 hb3 q0 q1 q2) | (go_at_call 25; refine (HWAY.out _ rfl w3 (w2.heap.size + 1) w2.heap.size hs2 HB3.out hs3 HV3.out).mono ?_; rintro e w4 ⟨⟨zz, rfl, hzz⟩, hm4⟩; have HB4 := Lib.hid (HB3.out.trans (hm4.below.mono hs2)); have HZZ := Lib.hid hzz; (obtain ⟨q0, q1, q2⟩ := HX.out _ HB4.out); clear hzz hm4) | fail)
        go_ret2
        exact ⟨by rw [HW2.out]; rfl, HEND.out _ HB4.out⟩
      | false =>
        have hz0 : ez = 0 := by simpa using he
        subst hz0
        cases s with
        | false =>
          have HW2 := Lib.hid (show R = (kz, 0) by rw [HW.out, if_neg (by simp), if_neg (by simp)])
          go_wp2_with (first | (go_at_call 23; refine (hassuf_known _ hp _ HS.out _).mono ?_; rintro e wn ⟨rfl, rfl⟩) | (go_at_call 24; refine (lbegin_any _ _ _ cwd pb hlong st N HST.out HNE.out w2).mono ?_; rintro e w3 ⟨⟨ue, rfl⟩, hv3, hb3, hs3⟩; have HV3 := Lib.hid hv3; have HB3 := Lib.hid (HB2.out.trans (hb3.mono HB2.out.size)); have hs2 := HB2.out.size; clear hv3 hb3 q0 q1 q2) | (go_at_call 25; refine (HWAY.out _ rfl w3 (w2.heap.size + 1) w2.heap.size hs2 HB3.out hs3 HV3.out).mono ?_; rintro e w4 ⟨⟨zz, rfl, hzz⟩, hm4⟩; have HB4 := Lib.hid (HB3.out.trans (hm4.below.mono hs2)); have HZZ := Lib.hid hzz; (obtain ⟨q0, q1, q2⟩ := HX.out _ HB4.out); clear hzz hm4) | fail)
          go_ret2
          exact ⟨by rw [HW2.out, HZZ.out (by trivial)]; rfl, HEND.out _ HB4.out⟩
        | true =>
          cases dz with
          | false =>
            have HW2 := Lib.hid (show R = (0, 20) by rw [HW.out, if_neg (by simp), if_pos (by simp)])
            simp only [Bool.not_false] at hkd
            go_wp2_with (first | (go_at_call 23; refine (hassuf_known _ hp _ HS.out _).mono ?_; rintro e wn ⟨rfl, rfl⟩) | (go_at_call 24; refine (lbegin_any _ _ _ cwd pb hlong st N HST.out HNE.out w2).mono ?_; rintro e w3 ⟨⟨ue, rfl⟩, hv3, hb3, hs3⟩; have HV3 := Lib.hid hv3; have HB3 := Lib.hid (HB2.out.trans (hb3.mono HB2.out.size)); have hs2 := HB2.out.size; clear hv3 hb3 q0 q1 q2) | (go_at_call 25; refine (HWAY.out _ rfl w3 (w2.heap.size + 1) w2.heap.size hs2 HB3.out hs3 HV3.out).mono ?_; rintro e w4 ⟨⟨zz, rfl, hzz⟩, hm4⟩; have HB4 := Lib.hid (HB3.out.trans (hm4.below.mono hs2)); have HZZ := Lib.hid hzz; (obtain ⟨q0, q1, q2⟩ := HX.out _ HB4.out); clear hzz hm4) | (go_at_call 26; refine (kind_known a cap m b _ L kk (by rw [HZZ.out (by trivial)]; exact HKK.out) _ (HM.out.below HB4.out)).mono ?_; rintro e w5 ⟨rfl, hb5⟩; have HB5 := Lib.hid (HB4.out.trans (hb5.mono HB4.out.size))) | fail)
            go_ret2
            exact ⟨by rw [HW2.out]; rfl, HEND.out _ HB5.out⟩
          | true =>
            have HW2 := Lib.hid (show R = (kz, 0) by rw [HW.out, if_neg (by simp), if_neg (by simp)])
            simp only [Bool.not_true] at hkd
            go_wp2_with (first | (go_at_call 23; refine (hassuf_known _ hp _ HS.out _).mono ?_; rintro e wn ⟨rfl, rfl⟩) | (go_at_call 24; refine (lbegin_any _ _ _ cwd pb hlong st N HST.out HNE.out w2).mono ?_; rintro e w3 ⟨⟨ue, rfl⟩, hv3, hb3, hs3⟩; have HV3 := Lib.hid hv3; have HB3 := Lib.hid (HB2.out.trans (hb3.mono HB2.out.size)); have hs2 := HB2.out.size; clear hv3 hb3 q0 q1 q2) | (go_at_call 25; refine (HWAY.out _ rfl w3 (w2.heap.size + 1) w2.heap.size hs2 HB3.out hs3 HV3.out).mono ?_; rintro e w4 ⟨⟨zz, rfl, hzz⟩, hm4⟩; have HB4 := Lib.hid (HB3.out.trans (hm4.below.mono hs2)); have HZZ := Lib.hid hzz; (obtain ⟨q0, q1, q2⟩ := HX.out _ HB4.out); clear hzz hm4) | (go_at_call 26; refine (kind_known a cap m b _ L kk (by rw [HZZ.out (by trivial)]; exact HKK.out) _ (HM.out.below HB4.out)).mono ?_; rintro e w5 ⟨rfl, hb5⟩; have HB5 := Lib.hid (HB4.out.trans (hb5.mono HB4.out.size))) | fail)
            go_ret2
            exact ⟨by rw [HW2.out, HZZ.out (by trivial)]; rfl, HEND.out _ HB5.out⟩
    case true =>
      go_enter Try.func10, Try.ntmps10
      go_wp2_with fail
      rw [← hw1]
      refine (refused_known _ _ _ _ _ _ hp L 0 HZ.out _ HM.out).mono ?_
      rintro e w2 ⟨rfl, hb2⟩
      have HB2 := Lib.hid hb2
      obtain ⟨q0, q1, q2⟩ := HX.out _ hb2
      clear hb2
      cases he : (ez != 0) with
      | true =>
        have HW2 := Lib.hid (show R = (0, ez) by rw [HW.out, if_pos (by simpa using he)])
        go_wp2_with (first | (go_at_call 23; refine (hassuf_known _ hp _ HS.out _).mono ?_; rintro e wn ⟨rfl, rfl⟩) | (go_at_call 24; refine (lbegin_any _ _ _ cwd pb hlong st N HST.out HNE.out w2).mono ?_; rintro e w3 ⟨⟨ue, rfl⟩, hv3, hb3, hs3⟩; have HV3 := Lib.hid hv3; have HB3 := Lib.hid (HB2.out.trans (hb3.mono HB2.out.size)); have hs2 := HB2.out.size; clear hv3 hb3 q0 q1 q2) | (go_at_call 25; refine (HWAY.out _ rfl w3 (w2.heap.size + 1) w2.heap.size hs2 HB3.out hs3 HV3.out).mono ?_; rintro e w4 ⟨⟨zz, rfl, hzz⟩, hm4⟩; have HB4 := Lib.hid (HB3.out.trans (hm4.below.mono hs2)); have HZZ := Lib.hid hzz; (obtain ⟨q0, q1, q2⟩ := HX.out _ HB4.out); clear hzz hm4) | fail)
        go_ret2
        exact ⟨by rw [HW2.out]; rfl, HEND.out _ HB4.out⟩
      | false =>
        have hz0 : ez = 0 := by simpa using he
        subst hz0
        cases s with
        | false =>
          have HW2 := Lib.hid (show R = (kz, 0) by rw [HW.out, if_neg (by simp), if_neg (by simp)])
          go_wp2_with (first | (go_at_call 23; refine (hassuf_known _ hp _ HS.out _).mono ?_; rintro e wn ⟨rfl, rfl⟩) | (go_at_call 24; refine (lbegin_any _ _ _ cwd pb hlong st N HST.out HNE.out w2).mono ?_; rintro e w3 ⟨⟨ue, rfl⟩, hv3, hb3, hs3⟩; have HV3 := Lib.hid hv3; have HB3 := Lib.hid (HB2.out.trans (hb3.mono HB2.out.size)); have hs2 := HB2.out.size; clear hv3 hb3 q0 q1 q2) | (go_at_call 25; refine (HWAY.out _ rfl w3 (w2.heap.size + 1) w2.heap.size hs2 HB3.out hs3 HV3.out).mono ?_; rintro e w4 ⟨⟨zz, rfl, hzz⟩, hm4⟩; have HB4 := Lib.hid (HB3.out.trans (hm4.below.mono hs2)); have HZZ := Lib.hid hzz; (obtain ⟨q0, q1, q2⟩ := HX.out _ HB4.out); clear hzz hm4) | fail)
          go_ret2
          exact ⟨by rw [HW2.out, HZZ.out (by trivial)]; rfl, HEND.out _ HB4.out⟩
        | true =>
          cases dz with
          | false =>
            have HW2 := Lib.hid (show R = (0, 20) by rw [HW.out, if_neg (by simp), if_pos (by simp)])
            simp only [Bool.not_false] at hkd
            go_wp2_with (first | (go_at_call 23; refine (hassuf_known _ hp _ HS.out _).mono ?_; rintro e wn ⟨rfl, rfl⟩) | (go_at_call 24; refine (lbegin_any _ _ _ cwd pb hlong st N HST.out HNE.out w2).mono ?_; rintro e w3 ⟨⟨ue, rfl⟩, hv3, hb3, hs3⟩; have HV3 := Lib.hid hv3; have HB3 := Lib.hid (HB2.out.trans (hb3.mono HB2.out.size)); have hs2 := HB2.out.size; clear hv3 hb3 q0 q1 q2) | (go_at_call 25; refine (HWAY.out _ rfl w3 (w2.heap.size + 1) w2.heap.size hs2 HB3.out hs3 HV3.out).mono ?_; rintro e w4 ⟨⟨zz, rfl, hzz⟩, hm4⟩; have HB4 := Lib.hid (HB3.out.trans (hm4.below.mono hs2)); have HZZ := Lib.hid hzz; (obtain ⟨q0, q1, q2⟩ := HX.out _ HB4.out); clear hzz hm4) | (go_at_call 26; refine (kind_known a cap m b _ L kk (by rw [HZZ.out (by trivial)]; exact HKK.out) _ (HM.out.below HB4.out)).mono ?_; rintro e w5 ⟨rfl, hb5⟩; have HB5 := Lib.hid (HB4.out.trans (hb5.mono HB4.out.size))) | fail)
            go_ret2
            exact ⟨by rw [HW2.out]; rfl, HEND.out _ HB5.out⟩
          | true =>
            have HW2 := Lib.hid (show R = (kz, 0) by rw [HW.out, if_neg (by simp), if_neg (by simp)])
            simp only [Bool.not_true] at hkd
            go_wp2_with (first | (go_at_call 23; refine (hassuf_known _ hp _ HS.out _).mono ?_; rintro e wn ⟨rfl, rfl⟩) | (go_at_call 24; refine (lbegin_any _ _ _ cwd pb hlong st N HST.out HNE.out w2).mono ?_; rintro e w3 ⟨⟨ue, rfl⟩, hv3, hb3, hs3⟩; have HV3 := Lib.hid hv3; have HB3 := Lib.hid (HB2.out.trans (hb3.mono HB2.out.size)); have hs2 := HB2.out.size; clear hv3 hb3 q0 q1 q2) | (go_at_call 25; refine (HWAY.out _ rfl w3 (w2.heap.size + 1) w2.heap.size hs2 HB3.out hs3 HV3.out).mono ?_; rintro e w4 ⟨⟨zz, rfl, hzz⟩, hm4⟩; have HB4 := Lib.hid (HB3.out.trans (hm4.below.mono hs2)); have HZZ := Lib.hid hzz; (obtain ⟨q0, q1, q2⟩ := HX.out _ HB4.out); clear hzz hm4) | (go_at_call 26; refine (kind_known a cap m b _ L kk (by rw [HZZ.out (by trivial)]; exact HKK.out) _ (HM.out.below HB4.out)).mono ?_; rintro e w5 ⟨rfl, hb5⟩; have HB5 := Lib.hid (HB4.out.trans (hb5.mono HB4.out.size))) | fail)
            go_ret2
            exact ⟨by rw [HW2.out, HZZ.out (by trivial)]; rfl, HEND.out _ HB5.out⟩
end Go.Proofs.Ytgmmggdjcgemfaa
