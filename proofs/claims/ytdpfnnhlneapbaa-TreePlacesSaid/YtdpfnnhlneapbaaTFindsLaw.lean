/-
  The law TreeFinds, walked.
-/
import Derived.Deep.RegionHeld3
import Derived.Test.YtdpfnnhlneapbaaTUsedLaw
import Derived.Test.YtdpfnnhlneapbaaTKidsLaw
import Derived.Test.YtdpfnnhlneapbaaTLPlace2
import Derived.Test.YtdpfnnhlneapbaaTPathsAll
import Derived.Test.YtdpfnnhlneapbaaTreeListA
import Derived.Test.YtdpfnnhlneapbaaTPlainB
namespace Go.Proofs.Ytdpfnnhlneapbaa
open Go Go.RowKit

theorem climbs_of {L : List Ino} {m b : Int} (hF : FitP L m b) : Climbs L := fun k hk => ⟨ups_in hF.root hF.rootUp hF.ins hF.names k hk, (short_of hF.ins k hk).1, (short_of hF.ins k hk).2⟩
theorem rkid_known (a : Option Addr) (cap : Nat) (m b d : Int) (nm : List UInt8) (L : List Ino) (z : Int) (hz : kidL L d nm = z) (w : World) (hN : NodesIn w a cap L) :
    Calls Try.prog 19 #[.agg #[.slice a L.length cap, .int .i64 m, .int .i64 b], .int .i64 d, .string ⟨nm.toArray⟩] w fun e w' => e = .returned (.int .i64 z) ∧ Below w.heap.size w w' := by
  subst hz
  exact rkid_any a cap m b d nm L w hN
theorem lplace_known (a : Option Addr) (cap : Nat) (m b d : Int) (L : List Ino) (hF : FitP L m b) (P : List UInt8) (hP : placeL L d = P) (w : World) (hN : NodesIn w a cap L) :
    Calls Try.prog 20 #[.agg #[.slice a L.length cap, .int .i64 m, .int .i64 b], .int .i64 d] w fun e w' => e = .returned (.string ⟨P.toArray⟩) ∧ Below w.heap.size w w' := by
  have h := lplace_any a cap m b d L (short_of hF.ins) w hN
  rw [place_same hF, hP] at h
  exact h
theorem rplace_known (a : Option Addr) (cap : Nat) (m b d : Int) (L : List Ino) (hL : L.length ≤ 300) (hF : FitP L m b) (P : List UInt8) (hP : placeL L d = P) (w : World) (hN : NodesIn w a cap L) :
    Calls Try.prog 21 #[.agg #[.slice a L.length cap, .int .i64 m, .int .i64 b], .int .i64 d] w fun e w' => e = .returned (.string ⟨P.toArray⟩) ∧ Below w.heap.size w w' := by
  have h := rplace_any a cap m b d L hL (climbs_of hF) w hN
  rw [hP] at h
  exact h
theorem llist_known (a : Option Addr) (cap : Nat) (m b : Int) (L : List Ino) (hL : L.length ≤ 300) (hS : Sized L) (hB : usedB L ≤ 4611686018427387904) (hF : FitP L m b) (hK : (kidsOf L).length ≤ 5000) (X : List (List UInt8)) (hX : listGo L (L.length + 1) 0 [] = X) (w : World) (hN : NodesIn w a cap L) :
    Calls Try.prog 23 #[.agg #[.slice a L.length cap, .int .i64 m, .int .i64 b]] w fun e W' => ∃ v, e = .returned v ∧ Texts w.heap.size W' v X ∧ Below w.heap.size w W' := by
  have hc := list_count hF
  have h := llist_any a cap m b L (L.length + 1) (by omega) hS hB hF (short_of hF.ins) (kids_there hF.ins) (by omega) (depth_root hF) (by rw [lpaths_root hF.ins hF.root]; omega) w hN
  rw [lpaths_root hF.ins hF.root, hX] at h
  exact h
theorem rlist_known (a : Option Addr) (cap : Nat) (m b : Int) (L : List Ino) (hL : L.length ≤ 300) (hF : FitP L m b) (hK : (kidsOf L).length ≤ 5000) (X : List (List UInt8)) (hX : listGo L (L.length + 1) 0 [] = X) (w : World) (hN : NodesIn w a cap L) :
    Calls Try.prog 24 #[.agg #[.slice a L.length cap, .int .i64 m, .int .i64 b]] w fun e W' => ∃ v, e = .returned v ∧ Texts w.heap.size W' v X ∧ Below w.heap.size w W' := by
  have hc := list_count hF
  have h := rlistT_any a cap m b L hL (by have := hF.limits; unfold Limits at this; omega) (falls_of hF.ins) (by omega) w hN
  rw [hX] at h
  exact h
theorem rsame_yes (X : List (List UInt8)) (B1 B2 : Nat) (v1 v2 : Value) (w : World) (hT1 : Texts B1 w v1 X) (hT2 : Texts B2 w v2 X) :
    Calls Try.prog 22 #[v1, v2] w fun e w' => e = .returned (.bool true) ∧ Below w.heap.size w w' := by
  have h := rsame_any X X B1 B2 v1 v2 w hT1 hT2
  rw [decide_eq_true (rfl : X = X)] at h
  exact h
/-- The same fact at a world that differs by draws alone. -/
theorem below_next {n : Nat} {A B B' C : World} (h : Below n A B) (k : Below B'.heap.size B' C) (hn : n ≤ B.heap.size) (e : B'.os = B.os ∧ B'.tape = B.tape ∧ B'.output = B.output ∧ B'.heap = B.heap) : Below n A C := by
  have h' : Below n A B' := ⟨e.1.trans h.os, e.2.1.trans h.tape, e.2.2.1.trans h.output, by rw [e.2.2.2]; exact h.size, by rw [e.2.2.2]; exact h.block⟩
  exact h'.trans (k.mono (by rw [e.2.2.2]; exact hn))

set_option maxRecDepth 100000 in
set_option maxHeartbeats 8000000 in
theorem tfinds_walk (a : Option Addr) (cap : Nat) (m b dir : Int) (sb : ByteArray) (_hs : sb.size ≤ 281474976710656) (L : List Ino) (hR : Reach L) (w : World) (hN : NodesIn w a cap L) :
    Calls Try.prog 4 #[.agg #[.slice a L.length cap, .int .i64 m, .int .i64 b], .int .i64 dir, .string sb] w fun e w' => e = .returned (.bool true) ∧ Below w.heap.size w w' := by
  obtain ⟨s, rfl⟩ : ∃ s : List UInt8, sb = ⟨s.toArray⟩ := ⟨sb.data.toList, rfl⟩
  have hb1 := below_box w (.cells #[.slice a L.length cap, .int .i64 m, .int .i64 b] 24)
  obtain ⟨w1, hw1⟩ : ∃ w1, w1 = w.alloc (.cells #[.slice a L.length cap, .int .i64 m, .int .i64 b] 24) := ⟨_, rfl⟩
  have hM := hN.below hb1
  have hsz : w1.heap.size = w.heap.size + 1 := by rw [hw1]; simp
  have hbox : ∀ W', Below w1.heap.size w1 W' → W'.cell? ⟨w.heap.size, 0, none⟩ = some (.slice a L.length cap) ∧ W'.cell? ⟨w.heap.size, 1, none⟩ = some (.int .i64 m) ∧ W'.cell? ⟨w.heap.size, 2, none⟩ = some (.int .i64 b) := fun W' h => box3 (by rw [← hw1]; exact h)
  rw [← hw1] at hM hb1
  have HM := Lib.hid hM
  have HB := Lib.hid hb1
  have HX := Lib.hid hbox
  have HR := Lib.hid hR
  have HEND := Lib.hid (show ∀ W', Below w1.heap.size w1 W' → Below w.heap.size w W' from fun W' h => HB.out.trans (h.mono (by rw [hsz]; omega)))
  have hsz' : w.heap.size < w1.heap.size := by omega
  clear hM hN hb1 hbox hsz hR
  go_enter Try.func4, Try.ntmps4
  go_wp2_with fail
  rw [← hw1]
  clear hw1
  refine (few_any _ _ _ _ L HR.out.nodes HR.out.kids _ HM.out).mono ?_
  rintro e w2 ⟨⟨v, rfl, hv⟩, hb2⟩
  have HV := Lib.hid hv
  have HB2 := Lib.hid hb2
  obtain ⟨q0, q1, q2⟩ := HX.out _ hb2
  have hs2 := hb2.size
  clear hv hb2
  cases v with
  | false =>
    go_wp2_with fail
    refine (awake3 _).mono ?_
    rintro e w3 ⟨rfl, hb3⟩
    have HB3 := Lib.hid (HB2.out.trans (hb3.mono hs2))
    clear hb3
    go_wp2_with fail
    go_ret
    exact ⟨rfl, HEND.out _ HB3.out⟩
  | true =>
    have HFEW := Lib.hid (HV.out (by simp))
    clear HV
    go_wp2_with fail
    refine (rfit_any _ _ _ _ L HFEW.out.1 HR.out.texts _ (HM.out.below HB2.out)).mono ?_
    rintro e w3 ⟨⟨v, rfl, hv⟩, hb3⟩
    have HV := Lib.hid (hv.trans ref_iff)
    have HB3 := Lib.hid (HB2.out.trans (hb3.mono hs2))
    have hs3 := HB3.out.size
    clear hv hb3 q0 q1 q2
    cases v with
    | false =>
      go_wp2_with fail
      refine (awake3 _).mono ?_
      rintro e w4 ⟨rfl, hb4⟩
      have HB4 := Lib.hid (HB3.out.trans (hb4.mono hs3))
      clear hb4
      go_wp2_with fail
      go_ret
      exact ⟨rfl, HEND.out _ HB4.out⟩
    | true =>
      have HFIT := Lib.hid (HV.out.1 (by simp))
      have hL : L.length ≤ 300 := HFEW.out.1
      obtain ⟨q0, q1, q2⟩ := HX.out _ HB3.out
      have HSM := Lib.hid (fit_small HFIT.out)
      clear HV
      go_wp2_with fail
      refine (lused_any _ _ _ _ L (by omega) (by have := HSM.out.2.1; omega) _ (HM.out.below HB3.out)).mono ?_
      rintro e w4 ⟨rfl, hb4⟩
      have HB4 := Lib.hid (HB3.out.trans (hb4.mono hs3))
      have hs4 := HB4.out.size
      clear hb4 q0 q1 q2
      obtain ⟨q0, q1, q2⟩ := HX.out _ HB4.out
      go_wp2_with fail
      refine (rused_any _ _ _ _ L (by omega) (by have := HSM.out.2.1; omega) _ (HM.out.below HB4.out)).mono ?_
      rintro e w5 ⟨rfl, hb5⟩
      have HBB := Lib.hid (HB4.out.trans (hb5.mono hs4))
      clear hb5 q0 q1 q2
      obtain ⟨q0, q1, q2⟩ := HX.out _ HBB.out
      obtain ⟨kz, hkz⟩ : ∃ kz, kidL L dir s = kz := ⟨_, rfl⟩
      obtain ⟨P, hP⟩ : ∃ P, placeL L dir = P := ⟨_, rfl⟩
      obtain ⟨X, hX⟩ : ∃ X, listGo L (L.length + 1) 0 [] = X := ⟨_, rfl⟩
      have H18 := Lib.hid (show ∀ W, Below w1.heap.size w1 W → _ from fun W hW => lkid_known a cap m b dir s L (kids_rise HFIT.out.ins) kz hkz W (HM.out.below hW))
      have H19 := Lib.hid (show ∀ W, Below w1.heap.size w1 W → _ from fun W hW => rkid_known a cap m b dir s L kz hkz W (HM.out.below hW))
      have H20 := Lib.hid (show ∀ W, Below w1.heap.size w1 W → _ from fun W hW => lplace_known a cap m b dir L HFIT.out P hP W (HM.out.below hW))
      have H21 := Lib.hid (show ∀ W, Below w1.heap.size w1 W → _ from fun W hW => rplace_known a cap m b dir L hL HFIT.out P hP W (HM.out.below hW))
      have H23 := Lib.hid (show ∀ W, Below w1.heap.size w1 W → _ from fun W hW => llist_known a cap m b L hL HR.out.texts (by have := HSM.out.2.1; omega) HFIT.out HFEW.out.2 X hX W (HM.out.below hW))
      have H24 := Lib.hid (show ∀ W, Below w1.heap.size w1 W → _ from fun W hW => rlist_known a cap m b L hL HFIT.out HFEW.out.2 X hX W (HM.out.below hW))
      obtain ⟨nu, hnu⟩ : ∃ nu : Int, nu = usedN L := ⟨_, rfl⟩
      obtain ⟨bu, hbu⟩ : ∃ bu : Int, bu = usedB L := ⟨_, rfl⟩
      rw [← hnu, ← hbu]
      clear hnu hbu hkz hP hX HFEW HSM HFIT HR HB4 HB3 HB2
      go_wp2_with fail
      go_region_held3 (fun W => W.cell? ⟨w.heap.size, 0, none⟩ = some (.slice a L.length cap) ∧ W.cell? ⟨w.heap.size, 1, none⟩ = some (.int .i64 m) ∧ W.cell? ⟨w.heap.size, 2, none⟩ = some (.int .i64 b))
        (exact ⟨q0, q1, q2⟩)
        (first
          | (go_at_call 18; refine (H18.out _ ?_).mono ?_; (exact ⟨HBB.out.os, HBB.out.tape, HBB.out.output, HBB.out.size, HBB.out.block⟩); rintro e wn ⟨rfl, hbn⟩; have HBB : Hid (Below w1.heap.size w1 wn) := Lib.hid (below_next HBB.out hbn HBB.out.size ⟨rfl, rfl, rfl, rfl⟩); obtain ⟨q0, q1, q2⟩ := HX.out _ HBB.out)
          | (go_at_call 19; refine (H19.out _ ?_).mono ?_; (exact ⟨HBB.out.os, HBB.out.tape, HBB.out.output, HBB.out.size, HBB.out.block⟩); rintro e wn ⟨rfl, hbn⟩; have HBB : Hid (Below w1.heap.size w1 wn) := Lib.hid (below_next HBB.out hbn HBB.out.size ⟨rfl, rfl, rfl, rfl⟩); obtain ⟨q0, q1, q2⟩ := HX.out _ HBB.out)
          | (go_at_call 20; refine (H20.out _ ?_).mono ?_; (exact ⟨HBB.out.os, HBB.out.tape, HBB.out.output, HBB.out.size, HBB.out.block⟩); rintro e wn ⟨rfl, hbn⟩; have HBB : Hid (Below w1.heap.size w1 wn) := Lib.hid (below_next HBB.out hbn HBB.out.size ⟨rfl, rfl, rfl, rfl⟩); obtain ⟨q0, q1, q2⟩ := HX.out _ HBB.out)
          | (go_at_call 21; refine (H21.out _ ?_).mono ?_; (exact ⟨HBB.out.os, HBB.out.tape, HBB.out.output, HBB.out.size, HBB.out.block⟩); rintro e wn ⟨rfl, hbn⟩; have HBB : Hid (Below w1.heap.size w1 wn) := Lib.hid (below_next HBB.out hbn HBB.out.size ⟨rfl, rfl, rfl, rfl⟩); obtain ⟨q0, q1, q2⟩ := HX.out _ HBB.out)
          | (go_at_call 23; refine (H23.out _ ?_).mono ?_; (exact ⟨HBB.out.os, HBB.out.tape, HBB.out.output, HBB.out.size, HBB.out.block⟩); rintro e wn ⟨v1, rfl, hT1, hbn⟩; have HT1 := Lib.hid hT1; have HBB : Hid (Below w1.heap.size w1 wn) := Lib.hid (below_next HBB.out hbn HBB.out.size ⟨rfl, rfl, rfl, rfl⟩); obtain ⟨q0, q1, q2⟩ := HX.out _ HBB.out; (try have HT2 : Hid (Texts _ wn _ X) := Lib.hid (Texts.below HT2.out ⟨hbn.os, hbn.tape, hbn.output, hbn.size, hbn.block⟩)))
          | (go_at_call 24; refine (H24.out _ ?_).mono ?_; (exact ⟨HBB.out.os, HBB.out.tape, HBB.out.output, HBB.out.size, HBB.out.block⟩); rintro e wn ⟨v2, rfl, hT2, hbn⟩; have HT2 := Lib.hid hT2; have HBB : Hid (Below w1.heap.size w1 wn) := Lib.hid (below_next HBB.out hbn HBB.out.size ⟨rfl, rfl, rfl, rfl⟩); obtain ⟨q0, q1, q2⟩ := HX.out _ HBB.out; (try have HT1 : Hid (Texts _ wn _ X) := Lib.hid (Texts.below HT1.out ⟨hbn.os, hbn.tape, hbn.output, hbn.size, hbn.block⟩)))
          | (go_at_call 22; refine (rsame_yes X _ _ _ _ _ HT1.out HT2.out).mono ?_; rintro e wn ⟨rfl, hbn⟩; have HBB : Hid (Below w1.heap.size w1 wn) := Lib.hid (below_next HBB.out hbn HBB.out.size ⟨rfl, rfl, rfl, rfl⟩); obtain ⟨q0, q1, q2⟩ := HX.out _ HBB.out)
          | (go_at_call 9; refine (awake3 _).mono ?_; rintro e wn ⟨rfl, hbn⟩; have HBB : Hid (Below w1.heap.size w1 wn) := Lib.hid (below_next HBB.out hbn HBB.out.size ⟨rfl, rfl, rfl, rfl⟩); obtain ⟨q0, q1, q2⟩ := HX.out _ HBB.out))
      all_goals
        go_wp2_with fail
        go_ret
        exact ⟨rfl, HEND.out _ HBB.out⟩
end Go.Proofs.Ytdpfnnhlneapbaa
