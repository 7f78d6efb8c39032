/-
  The law BlobTwo, walked.
-/
import Derived.Test.YtblmlgpajmaliaaBAwake
import Derived.Test.YtblmlgpajmaliaaBGood
import Derived.Test.YtblmlgpajmaliaaDFit
import Derived.Test.YtblmlgpajmaliaaDSame
import Derived.Test.YtblmlgpajmaliaaBLaw
namespace Go.Proofs.Ytblmlgpajmaliaa
set_option maxRecDepth 100000
open Go Go.RowKit

theorem app_text (s r : ByteArray) : (s ++ r).data.toList = s.data.toList ++ r.data.toList := by simp
theorem app_size (s r : ByteArray) : (s ++ r).size = s.size + r.size := by simp

set_option maxHeartbeats 16000000 in
theorem btwo_walk (a : Option Addr) (cap : Nat) (m b ino off : Int) (sa sb : ByteArray) (_hsa : sa.size ≤ 281474976710656) (_hsb : sb.size ≤ 281474976710656) (L : List Ino) (hS : Sized L) (w : World) (hN : NodesIn w a cap L) :
    Calls Try.prog 5 #[.agg #[.slice a L.length cap, .int .i64 m, .int .i64 b], .int .i64 ino, .int .i64 off, .string sa, .string sb] w fun e w' => e = .returned (.bool true) ∧ Below w.heap.size w w' := by
  obtain ⟨w1, hw1⟩ : ∃ w1, w1 = w.alloc (.cells #[.slice a L.length cap, .int .i64 m, .int .i64 b] 24) := ⟨_, rfl⟩
  have hb1 : Below w.heap.size w w1 := by rw [hw1]; exact below_box w _
  have hX : w1.heap[w.heap.size]? = some (.cells #[.slice a L.length cap, .int .i64 m, .int .i64 b] 24 (0, 0)) := by rw [hw1]; exact new_block w _
  have hs1 : w1.heap.size = w.heap.size + 1 := by rw [hw1]; simp
  have HX := Lib.hid (show ∀ W, Below w1.heap.size w1 W → W.cell? ⟨w.heap.size, 0, none⟩ = some (.slice a L.length cap) ∧ W.cell? ⟨w.heap.size, 1, none⟩ = some (.int .i64 m) ∧ W.cell? ⟨w.heap.size, 2, none⟩ = some (.int .i64 b) from fun W hW => by
    have h := (hW.block w.heap.size (by omega)).trans hX
    exact ⟨blk_cell h 0, blk_cell h 1, blk_cell h 2⟩)
  have HEND := Lib.hid (show ∀ W', Below w1.heap.size w1 W' → Below w.heap.size w W' from fun W' h => hb1.trans (h.mono (by omega)))
  have HM := Lib.hid (show ∀ W', Below w1.heap.size w1 W' → NodesIn W' a cap L from fun W' h => hN.below (hb1.trans (h.mono (by omega))))
  have HS := Lib.hid hS
  have hsw : w.heap.size ≤ w1.heap.size := by omega
  clear hN hb1 hX hS hs1
  go_enter Try.func5, Try.ntmps5
  go_wp2_with fail
  rw [← hw1]
  clear hw1
  refine (good7_any a cap m b L HS.out _ (HM.out _ (Below.refl _ _))).mono ?_
  rintro e w3 ⟨⟨v, rfl, hv⟩, hb3⟩
  have HV := Lib.hid hv
  have HB3 := Lib.hid hb3
  have hs3 := hb3.size
  obtain ⟨q0, q1, q2⟩ := HX.out _ hb3
  have hq := cell_lt q0
  clear hv hb3
  cases v with
  | false =>
    clear q0 q1 q2 hq
    go_wp2_with fail
    refine (awake7 _).mono ?_
    rintro e wz ⟨rfl, hbz⟩
    have HBZ := Lib.hid (HB3.out.trans (hbz.mono HB3.out.size))
    clear hbz
    go_wp2_with fail
    go_ret
    exact ⟨rfl, HEND.out _ HBZ.out⟩

  | true =>
    obtain ⟨hl, hF⟩ := HV.out rfl
    have HF := Lib.hid hF
    have hL0 : 0 < L.length := by have := hF.limits; obtain ⟨_, _, _, _, _⟩ := this; omega
    clear hF HV HS
    by_cases hga : (50000 : Int) < (sa.size : Int)
    · have hgad : decide ((50000 : Int) < (sa.size : Int)) = true := decide_eq_true hga

      clear q0 q1 q2 hq
      go_wp2_with fail
      refine (awake7 _).mono ?_
      rintro e wz ⟨rfl, hbz⟩
      have HBZ := Lib.hid (HB3.out.trans (hbz.mono HB3.out.size))
      clear hbz
      go_wp2_with fail
      go_ret
      exact ⟨rfl, HEND.out _ HBZ.out⟩
    have hgad : decide ((50000 : Int) < (sa.size : Int)) = false := decide_eq_false hga

    by_cases hgb : (50000 : Int) < (sb.size : Int)
    · have hgbd : decide ((50000 : Int) < (sb.size : Int)) = true := decide_eq_true hgb

      clear q0 q1 q2 hq
      go_wp2_with fail
      refine (awake7 _).mono ?_
      rintro e wz ⟨rfl, hbz⟩
      have HBZ := Lib.hid (HB3.out.trans (hbz.mono HB3.out.size))
      clear hbz
      go_wp2_with fail
      go_ret
      exact ⟨rfl, HEND.out _ HBZ.out⟩
    have hgbd : decide ((50000 : Int) < (sb.size : Int)) = false := decide_eq_false hgb

    by_cases he : sa.data.toList = []
    · have he' := text_nil he
      subst he'
      clear he

      clear q0 q1 q2 hq
      go_wp2_with fail
      refine (awake7 _).mono ?_
      rintro e wz ⟨rfl, hbz⟩
      have HBZ := Lib.hid (HB3.out.trans (hbz.mono HB3.out.size))
      clear hbz
      go_wp2_with fail
      go_ret
      exact ⟨rfl, HEND.out _ HBZ.out⟩
    have hpl : (sa.data.toList == []) = false := by
      cases h : sa.data.toList with
      | nil => exact absurd h he
      | cons c r => rfl
    have hpe : sa.toList.isEmpty = false := by
      rw [ByteArray.toList_eq]
      cases h : sa.data.toList with
      | nil => exact absurd h he
      | cons c r => rfl

    obtain ⟨⟨La, ea⟩, hza⟩ : ∃ r, writeW L b ino off sa.data.toList = r := ⟨_, rfl⟩
    have HLA := Lib.hid (write_len HF.out hza)
    have HFA := Lib.hid (write_fit HF.out hza)
    have HOA := Lib.hid (show ea ≠ 0 → La = L from (write_ok HF.out hza).2)
    have HOF := Lib.hid (show ea = 0 → ∃ o : Nat, off = (o : Int) ∧ o ≤ 65536 from fun h => by
      rcases (write_ok HF.out hza).1 h with ⟨h, -⟩ | ⟨n, o, hn, -, ho, -, hlen, -⟩
      · exact absurd h he
      · exact ⟨o, ho, by omega⟩)
    have HZA := Lib.hid hza
    have HE := Lib.hid he
    clear hza he
    go_wp2_with fail
    clear q0 q1 q2 hq
    refine (lwrite7 _ _ _ _ ino off sa (by omega) L HF.out La ea HZA.out _ (HM.out _ HB3.out)).mono ?_
    rintro e w4 ⟨⟨gA, cA, he, hN5⟩, hb⟩
    have he' : e = .returned (.tuple #[.agg #[.slice gA La.length cA, .int .i64 m, .int .i64 b], .int .i64 ea]) := he
    subst he'
    have NDA' := Lib.hid hN5
    have HB4 := Lib.hid (HB3.out.trans (hb.mono HB3.out.size))
    have hs4 := hb.size
    clear he hN5 hb
    have NDA := NDA'
    clear NDA'
    obtain ⟨q0, q1, q2⟩ := HX.out _ HB4.out
    have hq := cell_lt q0
    obtain ⟨w5, hw⟩ : ∃ p, p = w4.alloc (.cells #[.slice gA La.length cA, .int .i64 m, .int .i64 b] 24) := ⟨_, rfl⟩
    have hb : Below w4.heap.size w4 w5 := by rw [hw]; exact below_box w4 _
    have hz5 : w4.heap.size + 1 ≤ w5.heap.size ∧ w5.heap.size ≤ w4.heap.size + 1 := by rw [hw, World.size_alloc]; exact ⟨Nat.le_refl _, Nat.le_refl _⟩
    have KBA' := Lib.hid (show w5.heap[w4.heap.size]? = some (.cells #[.slice gA La.length cA, .int .i64 m, .int .i64 b] 24 (0, 0)) by rw [hw]; exact new_block w4 _)
    have HB5 := Lib.hid (HB4.out.trans (hb.mono HB4.out.size))
    have hs5 := hb.size
    replace NDA := Lib.hid (NDA.out.below hb)
    clear hb
    have KBA := KBA'
    clear KBA'
    go_upto_region 4 with fail
    rw [← hw]
    clear hw q0 q1 q2 hq
    obtain ⟨q0, q1, q2⟩ := HX.out _ HB5.out
    have hq := cell_lt q0
    by_cases h0 : ea = 0
    · subst h0
      have u0 := blk_cell KBA.out 0
      have u1 := blk_cell KBA.out 1
      have u2 := blk_cell KBA.out 2
      have ul := lt_of_block KBA.out
      obtain ⟨o, hoff, ho⟩ := HOF.out rfl
      have hsl : sa.data.toList.length = sa.size := Array.length_toList
      have hwr : IntKind.i64.wrap (off + (sa.size : Int)) = off + (sa.size : Int) := by rw [IntKind.wrap_i64]; omega
      obtain ⟨⟨Lc, ec⟩, hzc⟩ : ∃ r, writeW La b ino (off + (sa.size : Int)) sb.data.toList = r := ⟨_, rfl⟩
      obtain ⟨⟨Ld, ed⟩, hzd⟩ : ∃ r, writeW L b ino off (sa ++ sb).data.toList = r := ⟨_, rfl⟩
      have htwo : ec = ed ∧ (ec = 0 → Lc = Ld) := by
        have h1 := hzc
        have h2 := hzd
        rw [← hsl] at h1
        rw [app_text] at h2
        exact two_same HF.out HE.out HZA.out h1 h2
      obtain ⟨rfl, hsame⟩ := htwo
      have HSAME := Lib.hid hsame
      have HLC := Lib.hid (write_len HFA.out hzc)
      have HZC := Lib.hid hzc
      have HZD := Lib.hid hzd
      have hsum : ¬ 9223372036854775807 < sa.size + sb.size := by omega
      have hsum2 : (sa ++ sb).size ≤ 1000000 := by rw [app_size]; omega
      have HS2 := Lib.hid hsum2
      have hLa : La.length ≤ 300 := by rw [HLA.out]; exact hl
      clear hzc hzd hsl hsame hsum2 hoff
      go_wp2_with fail
      clear q0 q1 q2 hq
      clear u0 u1 u2 ul
      refine (rfit_yes6 gA cA m b La hLa HFA.out _ NDA.out).mono ?_
      rintro e w6 ⟨rfl, hb⟩
      have HB6 := Lib.hid (HB5.out.trans (hb.mono HB5.out.size))
      have hs6 := hb.size
      replace KBA := Lib.hid ((hb.block _ (lt_of_block KBA.out)).trans KBA.out)
      replace NDA := Lib.hid (NDA.out.below hb)
      clear hb
      obtain ⟨q0, q1, q2⟩ := HX.out _ HB6.out
      have hq := cell_lt q0
      have u0 := blk_cell KBA.out 0
      have u1 := blk_cell KBA.out 1
      have u2 := blk_cell KBA.out 2
      have ul := lt_of_block KBA.out
      go_wp2_with fail
      clear q0 q1 q2 hq
      clear u0 u1 u2 ul
      refine (lwrite7 gA cA m b ino (off + (sa.size : Int)) sb (by omega) La HFA.out Lc ec HZC.out _ NDA.out).mono ?_
      rintro e w7 ⟨⟨gC, cC, he, hN5⟩, hb⟩
      have he' : e = .returned (.tuple #[.agg #[.slice gC Lc.length cC, .int .i64 m, .int .i64 b], .int .i64 ec]) := he
      subst he'
      have NDC' := Lib.hid hN5
      have HB7 := Lib.hid (HB6.out.trans (hb.mono HB6.out.size))
      have hs7 := hb.size
      replace KBA := Lib.hid ((hb.block _ (lt_of_block KBA.out)).trans KBA.out)
      replace NDA := Lib.hid (NDA.out.below hb)
      clear he hN5 hb
      have NDC := NDC'
      clear NDC'
      obtain ⟨q0, q1, q2⟩ := HX.out _ HB7.out
      have hq := cell_lt q0
      have u0 := blk_cell KBA.out 0
      have u1 := blk_cell KBA.out 1
      have u2 := blk_cell KBA.out 2
      have ul := lt_of_block KBA.out
      have us0 := blk_free KBA.out 0
      have us1 := blk_free KBA.out 1
      have us2 := blk_free KBA.out 2
      go_upto_region 9 with fail
      obtain ⟨w8, hy⟩ : ∃ p, p = put3 w7 w4.heap.size (.slice gC Lc.length cC) (.int .i64 m) (.int .i64 b) := ⟨_, rfl⟩
      change Code.wp _ _ _ _ (put3 w7 w4.heap.size (.slice gC Lc.length cC) (.int .i64 m) (.int .i64 b))
      rw [← hy]
      have hsy8 : w7.heap.size ≤ w8.heap.size ∧ w8.heap.size ≤ w7.heap.size := by rw [hy, put3_size]; exact ⟨Nat.le_refl _, Nat.le_refl _⟩
      have KBU := Lib.hid (show w8.heap[w4.heap.size]? = some (.cells #[.slice gC Lc.length cC, .int .i64 m, .int .i64 b] 24 (0, 0)) by rw [hy]; exact put3_block KBA.out _ _ _)
      have NDU := Lib.hid (show NodesIn w8 gC cC Lc by rw [hy]; exact nodes_tree NDC.out KBA.out _ _ _)
      have hsb1 : w1.heap.size ≤ w4.heap.size := by have := HB4.out.size; omega
      have HB8 := Lib.hid (show Below w1.heap.size w1 w8 by rw [hy]; exact put3_below HB7.out hsb1 _ _ _)
      clear hy us0 us1 us2 KBA NDA NDC
      clear q0 q1 q2 hq
      clear u0 u1 u2 ul
      obtain ⟨q0, q1, q2⟩ := HX.out _ HB8.out
      have hq := cell_lt q0
      go_wp2_with fail
      clear q0 q1 q2 hq
      refine (lwrite7 _ _ _ _ ino off (sa ++ sb) HS2.out L HF.out Ld ec HZD.out _ (HM.out _ HB8.out)).mono ?_
      rintro e w9 ⟨⟨gD, cD, he, hN5⟩, hb⟩
      have he' : e = .returned (.tuple #[.agg #[.slice gD Ld.length cD, .int .i64 m, .int .i64 b], .int .i64 ec]) := he
      subst he'
      have NDD' := Lib.hid hN5
      have HB9 := Lib.hid (HB8.out.trans (hb.mono HB8.out.size))
      have hs9 := hb.size
      replace KBU := Lib.hid ((hb.block _ (lt_of_block KBU.out)).trans KBU.out)
      replace NDU := Lib.hid (NDU.out.below hb)
      clear he hN5 hb
      have NDD := NDD'
      clear NDD'
      obtain ⟨q0, q1, q2⟩ := HX.out _ HB9.out
      have hq := cell_lt q0
      obtain ⟨w10, hw⟩ : ∃ p, p = w9.alloc (.cells #[.slice gD Ld.length cD, .int .i64 m, .int .i64 b] 24) := ⟨_, rfl⟩
      have hb : Below w9.heap.size w9 w10 := by rw [hw]; exact below_box w9 _
      have hz10 : w9.heap.size + 1 ≤ w10.heap.size ∧ w10.heap.size ≤ w9.heap.size + 1 := by rw [hw, World.size_alloc]; exact ⟨Nat.le_refl _, Nat.le_refl _⟩
      have KBD' := Lib.hid (show w10.heap[w9.heap.size]? = some (.cells #[.slice gD Ld.length cD, .int .i64 m, .int .i64 b] 24 (0, 0)) by rw [hw]; exact new_block w9 _)
      have HB10 := Lib.hid (HB9.out.trans (hb.mono HB9.out.size))
      have hs10 := hb.size
      replace KBU := Lib.hid ((hb.block _ (lt_of_block KBU.out)).trans KBU.out)
      replace NDU := Lib.hid (NDU.out.below hb)
      replace NDD := Lib.hid (NDD.out.below hb)
      clear hb
      have KBD := KBD'
      clear KBD'
      go_upto_region 10 with fail
      rw [← hw]
      clear hw q0 q1 q2 hq
      obtain ⟨q0, q1, q2⟩ := HX.out _ HB10.out
      have hq := cell_lt q0
      have HBC := Lib.hid (Below.refl w10.heap.size w10)
      by_cases h1 : ec = 0
      · subst h1
        have he2 := HSAME.out rfl
        subst he2
        have hLc : Lc.length ≤ 1000 := by rw [HLC.out, HLA.out]; omega
        have u0 := blk_cell KBU.out 0
        have u1 := blk_cell KBU.out 1
        have u2 := blk_cell KBU.out 2
        have ul := lt_of_block KBU.out
        have v0 := blk_cell KBD.out 0
        have v1 := blk_cell KBD.out 1
        have v2 := blk_cell KBD.out 2
        have vl := lt_of_block KBD.out

        go_wp2_with (first | (go_at_call 16; refine (rsame6 gC gD cC cD m b Lc hLc _ NDU.out NDD.out).mono ?_; rintro e wz ⟨rfl, hb⟩; have HBC := Lib.hid (HBC.out.trans (hb.mono HBC.out.size)); clear hb) | (go_at_call 9; refine (awake7 _).mono ?_; rintro e wz ⟨rfl, hb⟩; have HBC := Lib.hid (HBC.out.trans (hb.mono HBC.out.size)); clear hb) | fail)
        go_ret
        exact ⟨by rfl, HEND.out _ (HB10.out.trans (HBC.out.mono HB10.out.size))⟩
      · have h1b : (ec != 0) = true := by simpa using h1
        go_wp2_with (first | (go_at_call 9; refine (awake7 _).mono ?_; rintro e wz ⟨rfl, hb⟩; have HBC := Lib.hid (HBC.out.trans (hb.mono HBC.out.size)); clear hb) | fail)
        go_ret
        exact ⟨by rfl, HEND.out _ (HB10.out.trans (HBC.out.mono HB10.out.size))⟩

    · have he := HOA.out h0
      subst he
      have h0b : (ea != 0) = true := by simpa using h0
      have HBC := Lib.hid (Below.refl w5.heap.size w5)
      have u0 := blk_cell KBA.out 0
      have u1 := blk_cell KBA.out 1
      have u2 := blk_cell KBA.out 2
      have ul := lt_of_block KBA.out

      have hLb : La.length ≤ 1000 := by omega
      go_wp2_with (first | (go_at_call 16; refine (rsame6 a gA cap cA m b La hLb _ (HM.out _ HB5.out) NDA.out).mono ?_; rintro e wz ⟨rfl, hb⟩; have HBC := Lib.hid (HBC.out.trans (hb.mono HBC.out.size)); clear hb) | (go_at_call 9; refine (awake7 _).mono ?_; rintro e wz ⟨rfl, hb⟩; have HBC := Lib.hid (HBC.out.trans (hb.mono HBC.out.size)); clear hb) | fail)
      go_ret
      exact ⟨by rfl, HEND.out _ (HB5.out.trans (HBC.out.mono HB5.out.size))⟩

end Go.Proofs.Ytblmlgpajmaliaa
