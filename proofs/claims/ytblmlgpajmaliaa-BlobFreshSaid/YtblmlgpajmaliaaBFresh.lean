/-
  The law BlobFresh, walked.
-/
import Derived.Test.YtblmlgpajmaliaaBAwake
import Derived.Test.YtblmlgpajmaliaaBGood
import Derived.Test.YtblmlgpajmaliaaDFit
import Derived.Test.YtblmlgpajmaliaaDSame
import Derived.Test.YtblmlgpajmaliaaBLaw
namespace Go.Proofs.Ytblmlgpajmaliaa
set_option maxRecDepth 100000
open Go Go.RowKit

set_option maxHeartbeats 16000000 in
theorem bfresh_walk (a : Option Addr) (cap : Nat) (m b ino : Int) (sb : ByteArray) (hsb : sb.size ≤ 281474976710656) (L : List Ino) (hS : Sized L) (w : World) (hN : NodesIn w a cap L) :
    Calls Try.prog 7 #[.agg #[.slice a L.length cap, .int .i64 m, .int .i64 b], .int .i64 ino, .string sb] w fun e w' => e = .returned (.bool true) ∧ Below w.heap.size w w' := by
  obtain ⟨w1, hw1⟩ : ∃ w1, w1 = w.alloc (.cells #[.slice a L.length cap, .int .i64 m, .int .i64 b] 24) := ⟨_, rfl⟩
  have hb1 : Below w.heap.size w w1 := by rw [hw1]; exact below_box w _
  have hX : w1.heap[w.heap.size]? = some (.cells #[.slice a L.length cap, .int .i64 m, .int .i64 b] 24 (0, 0)) := by rw [hw1]; exact new_block w _
  have hs1 : w1.heap.size = w.heap.size + 1 := by rw [hw1]; simp
  have HX := Lib.hid (show ∀ W, Below w1.heap.size w1 W → W.cell? ⟨w.heap.size, 0, none⟩ = some (.slice a L.length cap) ∧ W.cell? ⟨w.heap.size, 1, none⟩ = some (.int .i64 m) ∧ W.cell? ⟨w.heap.size, 2, none⟩ = some (.int .i64 b) from fun W hW => by
    have h := (hW.block w.heap.size (by omega)).trans hX
    exact ⟨blk_cell h 0, blk_cell h 1, blk_cell h 2⟩)
  have HEND := Lib.hid (show ∀ W', Below w1.heap.size w1 W' → Below w.heap.size w W' from fun W' h => hb1.trans (h.mono (by omega)))
  have HM := Lib.hid (show ∀ W', Below w1.heap.size w1 W' → NodesIn W' a cap L from fun W' h => hN.below (hb1.trans (h.mono (by omega))))
  have HS := Lib.hid hS
  have hsw : w.heap.size ≤ w1.heap.size := by omega
  clear hN hb1 hX hS hs1
  go_enter Try.func7, Try.ntmps7
  go_wp2_with fail
  rw [← hw1]
  clear hw1
  refine (good7_any a cap m b L HS.out _ (HM.out _ (Below.refl _ _))).mono ?_
  rintro e w3 ⟨⟨v, rfl, hv⟩, hb3⟩
  have HV := Lib.hid hv
  have HB3 := Lib.hid hb3
  have hs3 := hb3.size
  obtain ⟨q0, q1, q2⟩ := HX.out _ hb3
  have hq := cell_lt q0
  clear hv hb3
  cases v with
  | false =>
    clear q0 q1 q2 hq
    go_wp2_with fail
    refine (awake7 _).mono ?_
    rintro e wz ⟨rfl, hbz⟩
    have HBZ := Lib.hid (HB3.out.trans (hbz.mono HB3.out.size))
    clear hbz
    go_wp2_with fail
    go_ret
    exact ⟨rfl, HEND.out _ HBZ.out⟩

  | true =>
    obtain ⟨hl, hF⟩ := HV.out rfl
    have HF := Lib.hid hF
    have hL0 : 0 < L.length := by have := hF.limits; obtain ⟨_, _, _, _, _⟩ := this; omega
    clear hF HV HS
    by_cases hgs : (70000 : Int) < (sb.size : Int)
    · have hgd : decide ((70000 : Int) < (sb.size : Int)) = true := decide_eq_true hgs

      clear q0 q1 q2 hq
      go_wp2_with fail
      refine (awake7 _).mono ?_
      rintro e wz ⟨rfl, hbz⟩
      have HBZ := Lib.hid (HB3.out.trans (hbz.mono HB3.out.size))
      clear hbz
      go_wp2_with fail
      go_ret
      exact ⟨rfl, HEND.out _ HBZ.out⟩
    have hgd : decide ((70000 : Int) < (sb.size : Int)) = false := decide_eq_false hgs
    have hsb3 : sb.size ≤ 1000000 := by omega

    obtain ⟨⟨La, ea⟩, hza⟩ : ∃ r, cutW L b ino 0 = r := ⟨_, rfl⟩
    have HLA := Lib.hid (cut_len HF.out hza)
    have HFA := Lib.hid (cut_fit HF.out hza)
    have HOA := Lib.hid (show ea ≠ 0 → La = L from (cut_ok HF.out hza).2)
    have HZA := Lib.hid hza
    clear hza
    go_wp2_with fail
    clear q0 q1 q2 hq
    refine (lcut7 _ _ _ _ ino 0 L HF.out La ea HZA.out _ (HM.out _ HB3.out)).mono ?_
    rintro e w4 ⟨⟨gA, cA, he, hN5⟩, hb⟩
    have he' : e = .returned (.tuple #[.agg #[.slice gA La.length cA, .int .i64 m, .int .i64 b], .int .i64 ea]) := he
    subst he'
    have NDA' := Lib.hid hN5
    have HB4 := Lib.hid (HB3.out.trans (hb.mono HB3.out.size))
    have hs4 := hb.size
    clear he hN5 hb
    have NDA := NDA'
    clear NDA'
    obtain ⟨q0, q1, q2⟩ := HX.out _ HB4.out
    have hq := cell_lt q0
    obtain ⟨w5, hw⟩ : ∃ p, p = w4.alloc (.cells #[.slice gA La.length cA, .int .i64 m, .int .i64 b] 24) := ⟨_, rfl⟩
    have hb : Below w4.heap.size w4 w5 := by rw [hw]; exact below_box w4 _
    have hz5 : w4.heap.size + 1 ≤ w5.heap.size ∧ w5.heap.size ≤ w4.heap.size + 1 := by rw [hw, World.size_alloc]; exact ⟨Nat.le_refl _, Nat.le_refl _⟩
    have KBA' := Lib.hid (show w5.heap[w4.heap.size]? = some (.cells #[.slice gA La.length cA, .int .i64 m, .int .i64 b] 24 (0, 0)) by rw [hw]; exact new_block w4 _)
    have HB5 := Lib.hid (HB4.out.trans (hb.mono HB4.out.size))
    have hs5 := hb.size
    replace NDA := Lib.hid (NDA.out.below hb)
    clear hb
    have KBA := KBA'
    clear KBA'
    go_upto_region 4 with fail
    rw [← hw]
    clear hw q0 q1 q2 hq
    obtain ⟨q0, q1, q2⟩ := HX.out _ HB5.out
    have hq := cell_lt q0
    by_cases h0 : ea = 0
    · subst h0
      have u0 := blk_cell KBA.out 0
      have u1 := blk_cell KBA.out 1
      have u2 := blk_cell KBA.out 2
      have ul := lt_of_block KBA.out
      obtain ⟨⟨Lb, eb⟩, hzb⟩ : ∃ r, writeW La b ino 0 sb.data.toList = r := ⟨_, rfl⟩
      have HLB := Lib.hid (write_len HFA.out hzb)
      have HFB := Lib.hid (write_fit HFA.out hzb)
      have HOB := Lib.hid (show eb ≠ 0 → Lb = La from (write_ok HFA.out hzb).2)
      have HZB := Lib.hid hzb
      clear hzb
      go_wp2_with fail
      clear q0 q1 q2 hq
      clear u0 u1 u2 ul
      refine (lwrite7 _ _ _ _ ino 0 sb hsb3 La HFA.out Lb eb HZB.out _ NDA.out).mono ?_
      rintro e w6 ⟨⟨gB, cB, he, hN5⟩, hb⟩
      have he' : e = .returned (.tuple #[.agg #[.slice gB Lb.length cB, .int .i64 m, .int .i64 b], .int .i64 eb]) := he
      subst he'
      have NDB' := Lib.hid hN5
      have HB6 := Lib.hid (HB5.out.trans (hb.mono HB5.out.size))
      have hs6 := hb.size
      replace KBA := Lib.hid ((hb.block _ (lt_of_block KBA.out)).trans KBA.out)
      replace NDA := Lib.hid (NDA.out.below hb)
      clear he hN5 hb
      have NDB := NDB'
      clear NDB'
      obtain ⟨q0, q1, q2⟩ := HX.out _ HB6.out
      have hq := cell_lt q0
      obtain ⟨w7, hw⟩ : ∃ p, p = w6.alloc (.cells #[.slice gB Lb.length cB, .int .i64 m, .int .i64 b] 24) := ⟨_, rfl⟩
      have hb : Below w6.heap.size w6 w7 := by rw [hw]; exact below_box w6 _
      have hz7 : w6.heap.size + 1 ≤ w7.heap.size ∧ w7.heap.size ≤ w6.heap.size + 1 := by rw [hw, World.size_alloc]; exact ⟨Nat.le_refl _, Nat.le_refl _⟩
      have KBB' := Lib.hid (show w7.heap[w6.heap.size]? = some (.cells #[.slice gB Lb.length cB, .int .i64 m, .int .i64 b] 24 (0, 0)) by rw [hw]; exact new_block w6 _)
      have HB7 := Lib.hid (HB6.out.trans (hb.mono HB6.out.size))
      have hs7 := hb.size
      replace KBA := Lib.hid ((hb.block _ (lt_of_block KBA.out)).trans KBA.out)
      replace NDA := Lib.hid (NDA.out.below hb)
      replace NDB := Lib.hid (NDB.out.below hb)
      clear hb
      have KBB := KBB'
      clear KBB'
      go_upto_region 7 with fail
      rw [← hw]
      clear hw q0 q1 q2 hq
      obtain ⟨q0, q1, q2⟩ := HX.out _ HB7.out
      have hq := cell_lt q0
      have HBC := Lib.hid (Below.refl w7.heap.size w7)
      by_cases h1 : eb = 0
      · subst h1
        obtain ⟨n, hn, rfl, hdat⟩ := fresh_data HF.out HZA.out HZB.out
        obtain ⟨bb, o, ha, hx⟩ := NDB.out.2.2 n hn
        subst ha
        have x3 := hx.data
        rw [hdat, text_self] at x3
        have HV := Lib.hid (show ∀ W, Below w7.heap.size w7 W → W.cell? ⟨w6.heap.size, 0, none⟩ = some (.slice (some ⟨bb, o, none⟩) Lb.length cB) ∧ W.cell? ⟨w6.heap.size, 1, none⟩ = some (.int .i64 m) ∧ W.cell? ⟨w6.heap.size, 2, none⟩ = some (.int .i64 b) ∧ W.cell? ⟨bb, o + n * 6 + 3, none⟩ = some (.string sb) from fun W hW => by
          have h := (hW.block _ (lt_of_block KBB.out)).trans KBB.out
          exact ⟨blk_cell h 0, blk_cell h 1, blk_cell h 2, cell_below hW x3⟩)
        have hk0 : (0 : Int) ≤ (n : Int) := by omega
        have hk1 : (n : Int) < (Lb.length : Int) := by omega
        have hk0d : decide ((0 : Int) ≤ (n : Int)) = true := decide_eq_true hk0
        have hk1d : decide ((n : Int) < (Lb.length : Int)) = true := decide_eq_true hk1
        have hLb : Lb.length ≤ 300 := by rw [HLB.out, HLA.out]; exact hl
        clear x3 hx hdat
        obtain ⟨u0, u1, u2, x3⟩ := HV.out _ HBC.out
        have hul := cell_lt u0
        have hxl := cell_lt x3
        go_wp2_with (first | (go_at_call 17; refine (rfit_yes6 _ cB m b Lb hLb HFB.out _ NDB.out).mono ?_; rintro e wz ⟨rfl, hb⟩; have HBC := Lib.hid (HBC.out.trans (hb.mono HBC.out.size)); obtain ⟨u0, u1, u2, x3⟩ := HV.out _ HBC.out; have hul := cell_lt u0; have hxl := cell_lt x3; clear hb) | (go_at_call 9; refine (awake7 _).mono ?_; rintro e wz ⟨rfl, hb⟩; have HBC := Lib.hid (HBC.out.trans (hb.mono HBC.out.size)); clear hb) | fail)
        go_ret
        exact ⟨by rfl, HEND.out _ (HB7.out.trans (HBC.out.mono HB7.out.size))⟩
      · have he := HOB.out h1
        subst he
        have h1b : (eb != 0) = true := by simpa using h1
        have u0 := blk_cell KBA.out 0
        have u1 := blk_cell KBA.out 1
        have u2 := blk_cell KBA.out 2
        have ul := lt_of_block KBA.out
        have v0 := blk_cell KBB.out 0
        have v1 := blk_cell KBB.out 1
        have v2 := blk_cell KBB.out 2
        have vl := lt_of_block KBB.out

        have hLb : Lb.length ≤ 1000 := by rw [HLA.out]; omega
        go_wp2_with (first | (go_at_call 16; refine (rsame6 gA gB cA cB m b Lb hLb _ NDA.out NDB.out).mono ?_; rintro e wz ⟨rfl, hb⟩; have HBC := Lib.hid (HBC.out.trans (hb.mono HBC.out.size)); clear hb) | (go_at_call 9; refine (awake7 _).mono ?_; rintro e wz ⟨rfl, hb⟩; have HBC := Lib.hid (HBC.out.trans (hb.mono HBC.out.size)); clear hb) | fail)
        go_ret
        exact ⟨by rfl, HEND.out _ (HB7.out.trans (HBC.out.mono HB7.out.size))⟩

    · have he := HOA.out h0
      subst he
      have h0b : (ea != 0) = true := by simpa using h0
      have HBC := Lib.hid (Below.refl w5.heap.size w5)
      have u0 := blk_cell KBA.out 0
      have u1 := blk_cell KBA.out 1
      have u2 := blk_cell KBA.out 2
      have ul := lt_of_block KBA.out

      have hLb : La.length ≤ 1000 := by omega
      go_wp2_with (first | (go_at_call 16; refine (rsame6 a gA cap cA m b La hLb _ (HM.out _ HB5.out) NDA.out).mono ?_; rintro e wz ⟨rfl, hb⟩; have HBC := Lib.hid (HBC.out.trans (hb.mono HBC.out.size)); clear hb) | (go_at_call 9; refine (awake7 _).mono ?_; rintro e wz ⟨rfl, hb⟩; have HBC := Lib.hid (HBC.out.trans (hb.mono HBC.out.size)); clear hb) | fail)
      go_ret
      exact ⟨by rfl, HEND.out _ (HB5.out.trans (HBC.out.mono HB5.out.size))⟩

end Go.Proofs.Ytblmlgpajmaliaa
