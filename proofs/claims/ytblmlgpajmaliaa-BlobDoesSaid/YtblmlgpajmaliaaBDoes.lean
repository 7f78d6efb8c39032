/-
  The law BlobDoes, walked.
-/
import Derived.Test.YtblmlgpajmaliaaBAwake
import Derived.Test.YtblmlgpajmaliaaBGood
import Derived.Test.YtblmlgpajmaliaaBRWrite
import Derived.Test.YtblmlgpajmaliaaBRRead
import Derived.Test.YtblmlgpajmaliaaDSame
import Derived.Test.YtblmlgpajmaliaaBLaw
namespace Go.Proofs.Ytblmlgpajmaliaa
set_option maxRecDepth 100000
open Go Go.RowKit

set_option maxHeartbeats 16000000 in
theorem bdoes_walk (a : Option Addr) (cap : Nat) (m b ino off n : Int) (sb : ByteArray) (hsb : sb.size ≤ 281474976710656) (L : List Ino) (hS : Sized L) (w : World) (hN : NodesIn w a cap L) :
    Calls Try.prog 3 #[.agg #[.slice a L.length cap, .int .i64 m, .int .i64 b], .int .i64 ino, .int .i64 off, .int .i64 n, .string sb] w fun e w' => e = .returned (.bool true) ∧ Below w.heap.size w w' := by
  obtain ⟨w1, hw1⟩ : ∃ w1, w1 = w.alloc (.cells #[.slice a L.length cap, .int .i64 m, .int .i64 b] 24) := ⟨_, rfl⟩
  have hb1 : Below w.heap.size w w1 := by rw [hw1]; exact below_box w _
  have hX : w1.heap[w.heap.size]? = some (.cells #[.slice a L.length cap, .int .i64 m, .int .i64 b] 24 (0, 0)) := by rw [hw1]; exact new_block w _
  have hs1 : w1.heap.size = w.heap.size + 1 := by rw [hw1]; simp
  have HX := Lib.hid (show ∀ W, Below w1.heap.size w1 W → W.cell? ⟨w.heap.size, 0, none⟩ = some (.slice a L.length cap) ∧ W.cell? ⟨w.heap.size, 1, none⟩ = some (.int .i64 m) ∧ W.cell? ⟨w.heap.size, 2, none⟩ = some (.int .i64 b) from fun W hW => by
    have h := (hW.block w.heap.size (by omega)).trans hX
    exact ⟨blk_cell h 0, blk_cell h 1, blk_cell h 2⟩)
  have HEND := Lib.hid (show ∀ W', Below w1.heap.size w1 W' → Below w.heap.size w W' from fun W' h => hb1.trans (h.mono (by omega)))
  have HM := Lib.hid (show ∀ W', Below w1.heap.size w1 W' → NodesIn W' a cap L from fun W' h => hN.below (hb1.trans (h.mono (by omega))))
  have HS := Lib.hid hS
  have hsw : w.heap.size ≤ w1.heap.size := by omega
  clear hN hb1 hX hS hs1
  go_enter Try.func3, Try.ntmps3
  go_wp2_with fail
  rw [← hw1]
  clear hw1
  refine (good7_any a cap m b L HS.out _ (HM.out _ (Below.refl _ _))).mono ?_
  rintro e w3 ⟨⟨v, rfl, hv⟩, hb3⟩
  have HV := Lib.hid hv
  have HB3 := Lib.hid hb3
  have hs3 := hb3.size
  obtain ⟨q0, q1, q2⟩ := HX.out _ hb3
  have hq := cell_lt q0
  clear hv hb3
  cases v with
  | false =>
    clear q0 q1 q2 hq
    go_wp2_with fail
    refine (awake7 _).mono ?_
    rintro e wz ⟨rfl, hbz⟩
    have HBZ := Lib.hid (HB3.out.trans (hbz.mono HB3.out.size))
    clear hbz
    go_wp2_with fail
    go_ret
    exact ⟨rfl, HEND.out _ HBZ.out⟩

  | true =>
    obtain ⟨hl, hF⟩ := HV.out rfl
    have HF := Lib.hid hF
    have hL0 : 0 < L.length := by have := hF.limits; obtain ⟨_, _, _, _, _⟩ := this; omega
    clear hF HV HS
    by_cases hgs : (100000 : Int) < (sb.size : Int)
    · have hgd : decide ((100000 : Int) < (sb.size : Int)) = true := decide_eq_true hgs

      clear q0 q1 q2 hq
      go_wp2_with fail
      refine (awake7 _).mono ?_
      rintro e wz ⟨rfl, hbz⟩
      have HBZ := Lib.hid (HB3.out.trans (hbz.mono HB3.out.size))
      clear hbz
      go_wp2_with fail
      go_ret
      exact ⟨rfl, HEND.out _ HBZ.out⟩
    have hgd : decide ((100000 : Int) < (sb.size : Int)) = false := decide_eq_false hgs
    have hsb3 : sb.size ≤ 1000000 := by omega

    obtain ⟨⟨sr, er⟩, hzr⟩ : ∃ r, readW L ino off n = r := ⟨_, rfl⟩
    obtain ⟨⟨La, ea⟩, hza⟩ : ∃ r, writeW L b ino off sb.data.toList = r := ⟨_, rfl⟩
    obtain ⟨⟨Lc, ec⟩, hzc⟩ : ∃ r, cutW L b ino n = r := ⟨_, rfl⟩
    have HLA := Lib.hid (show La.length ≤ 1000 by rw [write_len HF.out hza]; omega)
    have HLC := Lib.hid (show Lc.length ≤ 1000 by rw [cut_len HF.out hzc]; omega)
    have HZR := Lib.hid hzr
    have HZA := Lib.hid hza
    have HZC := Lib.hid hzc
    clear hzr hza hzc
    go_wp2_with fail
    clear q0 q1 q2 hq
    refine (lread7 _ _ _ _ ino off n L HF.out sr er HZR.out _ (HM.out _ HB3.out)).mono ?_
    rintro e w4 ⟨rfl, hb⟩
    have HB4 := Lib.hid (HB3.out.trans (hb.mono HB3.out.size))
    have hs4 := hb.size
    clear hb
    obtain ⟨q0, q1, q2⟩ := HX.out _ HB4.out
    have hq := cell_lt q0
    go_wp2_with fail
    clear q0 q1 q2 hq
    refine (rread7 _ _ _ _ ino off n L HF.out sr er HZR.out _ (HM.out _ HB4.out)).mono ?_
    rintro e w5 ⟨rfl, hb⟩
    have HB5 := Lib.hid (HB4.out.trans (hb.mono HB4.out.size))
    have hs5 := hb.size
    clear hb
    obtain ⟨q0, q1, q2⟩ := HX.out _ HB5.out
    have hq := cell_lt q0
    go_wp2_with fail
    clear q0 q1 q2 hq
    refine (lwrite7 _ _ _ _ ino off sb hsb3 L HF.out La ea HZA.out _ (HM.out _ HB5.out)).mono ?_
    rintro e w6 ⟨⟨gA, cA, he, hN5⟩, hb⟩
    have he' : e = .returned (.tuple #[.agg #[.slice gA La.length cA, .int .i64 m, .int .i64 b], .int .i64 ea]) := he
    subst he'
    have NDA' := Lib.hid hN5
    have HB6 := Lib.hid (HB5.out.trans (hb.mono HB5.out.size))
    have hs6 := hb.size
    clear he hN5 hb
    have NDA := NDA'
    clear NDA'
    obtain ⟨q0, q1, q2⟩ := HX.out _ HB6.out
    have hq := cell_lt q0
    obtain ⟨w7, hw⟩ : ∃ p, p = w6.alloc (.cells #[.slice gA La.length cA, .int .i64 m, .int .i64 b] 24) := ⟨_, rfl⟩
    have hb : Below w6.heap.size w6 w7 := by rw [hw]; exact below_box w6 _
    have hz7 : w6.heap.size + 1 ≤ w7.heap.size ∧ w7.heap.size ≤ w6.heap.size + 1 := by rw [hw, World.size_alloc]; exact ⟨Nat.le_refl _, Nat.le_refl _⟩
    have KBA' := Lib.hid (show w7.heap[w6.heap.size]? = some (.cells #[.slice gA La.length cA, .int .i64 m, .int .i64 b] 24 (0, 0)) by rw [hw]; exact new_block w6 _)
    have HB7 := Lib.hid (HB6.out.trans (hb.mono HB6.out.size))
    have hs7 := hb.size
    replace NDA := Lib.hid (NDA.out.below hb)
    clear hb
    have KBA := KBA'
    clear KBA'
    go_upto_region 6 with fail
    rw [← hw]
    clear hw q0 q1 q2 hq
    obtain ⟨q0, q1, q2⟩ := HX.out _ HB7.out
    have hq := cell_lt q0
    go_wp2_with fail
    clear q0 q1 q2 hq
    refine (rwrite7 _ _ _ _ ino off sb hsb3 L HF.out La ea HZA.out _ (HM.out _ HB7.out)).mono ?_
    rintro e w8 ⟨⟨gB, cB, he, hN5⟩, hb⟩
    have he' : e = .returned (.tuple #[.agg #[.slice gB La.length cB, .int .i64 m, .int .i64 b], .int .i64 ea]) := he
    subst he'
    have NDB' := Lib.hid hN5
    have HB8 := Lib.hid (HB7.out.trans (hb.mono HB7.out.size))
    have hs8 := hb.size
    replace KBA := Lib.hid ((hb.block _ (lt_of_block KBA.out)).trans KBA.out)
    replace NDA := Lib.hid (NDA.out.below hb)
    clear he hN5 hb
    have NDB := NDB'
    clear NDB'
    obtain ⟨q0, q1, q2⟩ := HX.out _ HB8.out
    have hq := cell_lt q0
    obtain ⟨w9, hw⟩ : ∃ p, p = w8.alloc (.cells #[.slice gB La.length cB, .int .i64 m, .int .i64 b] 24) := ⟨_, rfl⟩
    have hb : Below w8.heap.size w8 w9 := by rw [hw]; exact below_box w8 _
    have hz9 : w8.heap.size + 1 ≤ w9.heap.size ∧ w9.heap.size ≤ w8.heap.size + 1 := by rw [hw, World.size_alloc]; exact ⟨Nat.le_refl _, Nat.le_refl _⟩
    have KBB' := Lib.hid (show w9.heap[w8.heap.size]? = some (.cells #[.slice gB La.length cB, .int .i64 m, .int .i64 b] 24 (0, 0)) by rw [hw]; exact new_block w8 _)
    have HB9 := Lib.hid (HB8.out.trans (hb.mono HB8.out.size))
    have hs9 := hb.size
    replace KBA := Lib.hid ((hb.block _ (lt_of_block KBA.out)).trans KBA.out)
    replace NDA := Lib.hid (NDA.out.below hb)
    replace NDB := Lib.hid (NDB.out.below hb)
    clear hb
    have KBB := KBB'
    clear KBB'
    go_upto_region 7 with fail
    rw [← hw]
    clear hw q0 q1 q2 hq
    obtain ⟨q0, q1, q2⟩ := HX.out _ HB9.out
    have hq := cell_lt q0
    go_wp2_with fail
    clear q0 q1 q2 hq
    refine (lcut7 _ _ _ _ ino n L HF.out Lc ec HZC.out _ (HM.out _ HB9.out)).mono ?_
    rintro e w10 ⟨⟨gC, cC, he, hN5⟩, hb⟩
    have he' : e = .returned (.tuple #[.agg #[.slice gC Lc.length cC, .int .i64 m, .int .i64 b], .int .i64 ec]) := he
    subst he'
    have NDC' := Lib.hid hN5
    have HB10 := Lib.hid (HB9.out.trans (hb.mono HB9.out.size))
    have hs10 := hb.size
    replace KBA := Lib.hid ((hb.block _ (lt_of_block KBA.out)).trans KBA.out)
    replace KBB := Lib.hid ((hb.block _ (lt_of_block KBB.out)).trans KBB.out)
    replace NDA := Lib.hid (NDA.out.below hb)
    replace NDB := Lib.hid (NDB.out.below hb)
    clear he hN5 hb
    have NDC := NDC'
    clear NDC'
    obtain ⟨q0, q1, q2⟩ := HX.out _ HB10.out
    have hq := cell_lt q0
    obtain ⟨w11, hw⟩ : ∃ p, p = w10.alloc (.cells #[.slice gC Lc.length cC, .int .i64 m, .int .i64 b] 24) := ⟨_, rfl⟩
    have hb : Below w10.heap.size w10 w11 := by rw [hw]; exact below_box w10 _
    have hz11 : w10.heap.size + 1 ≤ w11.heap.size ∧ w11.heap.size ≤ w10.heap.size + 1 := by rw [hw, World.size_alloc]; exact ⟨Nat.le_refl _, Nat.le_refl _⟩
    have KBC' := Lib.hid (show w11.heap[w10.heap.size]? = some (.cells #[.slice gC Lc.length cC, .int .i64 m, .int .i64 b] 24 (0, 0)) by rw [hw]; exact new_block w10 _)
    have HB11 := Lib.hid (HB10.out.trans (hb.mono HB10.out.size))
    have hs11 := hb.size
    replace KBA := Lib.hid ((hb.block _ (lt_of_block KBA.out)).trans KBA.out)
    replace KBB := Lib.hid ((hb.block _ (lt_of_block KBB.out)).trans KBB.out)
    replace NDA := Lib.hid (NDA.out.below hb)
    replace NDB := Lib.hid (NDB.out.below hb)
    replace NDC := Lib.hid (NDC.out.below hb)
    clear hb
    have KBC := KBC'
    clear KBC'
    go_upto_region 8 with fail
    rw [← hw]
    clear hw q0 q1 q2 hq
    obtain ⟨q0, q1, q2⟩ := HX.out _ HB11.out
    have hq := cell_lt q0
    go_wp2_with fail
    clear q0 q1 q2 hq
    refine (rcut7 _ _ _ _ ino n L HF.out Lc ec HZC.out _ (HM.out _ HB11.out)).mono ?_
    rintro e w12 ⟨⟨gD, cD, he, hN5⟩, hb⟩
    have he' : e = .returned (.tuple #[.agg #[.slice gD Lc.length cD, .int .i64 m, .int .i64 b], .int .i64 ec]) := he
    subst he'
    have NDD' := Lib.hid hN5
    have HB12 := Lib.hid (HB11.out.trans (hb.mono HB11.out.size))
    have hs12 := hb.size
    replace KBA := Lib.hid ((hb.block _ (lt_of_block KBA.out)).trans KBA.out)
    replace KBB := Lib.hid ((hb.block _ (lt_of_block KBB.out)).trans KBB.out)
    replace KBC := Lib.hid ((hb.block _ (lt_of_block KBC.out)).trans KBC.out)
    replace NDA := Lib.hid (NDA.out.below hb)
    replace NDB := Lib.hid (NDB.out.below hb)
    replace NDC := Lib.hid (NDC.out.below hb)
    clear he hN5 hb
    have NDD := NDD'
    clear NDD'
    obtain ⟨q0, q1, q2⟩ := HX.out _ HB12.out
    have hq := cell_lt q0
    obtain ⟨w13, hw⟩ : ∃ p, p = w12.alloc (.cells #[.slice gD Lc.length cD, .int .i64 m, .int .i64 b] 24) := ⟨_, rfl⟩
    have hb : Below w12.heap.size w12 w13 := by rw [hw]; exact below_box w12 _
    have hz13 : w12.heap.size + 1 ≤ w13.heap.size ∧ w13.heap.size ≤ w12.heap.size + 1 := by rw [hw, World.size_alloc]; exact ⟨Nat.le_refl _, Nat.le_refl _⟩
    have KBD' := Lib.hid (show w13.heap[w12.heap.size]? = some (.cells #[.slice gD Lc.length cD, .int .i64 m, .int .i64 b] 24 (0, 0)) by rw [hw]; exact new_block w12 _)
    have HB13 := Lib.hid (HB12.out.trans (hb.mono HB12.out.size))
    have hs13 := hb.size
    replace KBA := Lib.hid ((hb.block _ (lt_of_block KBA.out)).trans KBA.out)
    replace KBB := Lib.hid ((hb.block _ (lt_of_block KBB.out)).trans KBB.out)
    replace KBC := Lib.hid ((hb.block _ (lt_of_block KBC.out)).trans KBC.out)
    replace NDA := Lib.hid (NDA.out.below hb)
    replace NDB := Lib.hid (NDB.out.below hb)
    replace NDC := Lib.hid (NDC.out.below hb)
    replace NDD := Lib.hid (NDD.out.below hb)
    clear hb
    have KBD := KBD'
    clear KBD'
    go_upto_region 9 with fail
    rw [← hw]
    clear hw q0 q1 q2 hq
    obtain ⟨q0, q1, q2⟩ := HX.out _ HB13.out
    have hq := cell_lt q0
    have HALL := Lib.hid (show ∀ W, Below w13.heap.size w13 W → (W.cell? ⟨w6.heap.size, 0, none⟩ = some (.slice gA La.length cA) ∧ W.cell? ⟨w6.heap.size, 1, none⟩ = some (.int .i64 m) ∧ W.cell? ⟨w6.heap.size, 2, none⟩ = some (.int .i64 b) ∧ NodesIn W gA cA La) ∧ (W.cell? ⟨w8.heap.size, 0, none⟩ = some (.slice gB La.length cB) ∧ W.cell? ⟨w8.heap.size, 1, none⟩ = some (.int .i64 m) ∧ W.cell? ⟨w8.heap.size, 2, none⟩ = some (.int .i64 b) ∧ NodesIn W gB cB La) ∧ (W.cell? ⟨w10.heap.size, 0, none⟩ = some (.slice gC Lc.length cC) ∧ W.cell? ⟨w10.heap.size, 1, none⟩ = some (.int .i64 m) ∧ W.cell? ⟨w10.heap.size, 2, none⟩ = some (.int .i64 b) ∧ NodesIn W gC cC Lc) ∧ (W.cell? ⟨w12.heap.size, 0, none⟩ = some (.slice gD Lc.length cD) ∧ W.cell? ⟨w12.heap.size, 1, none⟩ = some (.int .i64 m) ∧ W.cell? ⟨w12.heap.size, 2, none⟩ = some (.int .i64 b) ∧ NodesIn W gD cD Lc) from fun W hW => ⟨(by have h := (hW.block _ (lt_of_block KBA.out)).trans KBA.out; exact ⟨blk_cell h 0, blk_cell h 1, blk_cell h 2, NDA.out.below hW⟩), (by have h := (hW.block _ (lt_of_block KBB.out)).trans KBB.out; exact ⟨blk_cell h 0, blk_cell h 1, blk_cell h 2, NDB.out.below hW⟩), (by have h := (hW.block _ (lt_of_block KBC.out)).trans KBC.out; exact ⟨blk_cell h 0, blk_cell h 1, blk_cell h 2, NDC.out.below hW⟩), (by have h := (hW.block _ (lt_of_block KBD.out)).trans KBD.out; exact ⟨blk_cell h 0, blk_cell h 1, blk_cell h 2, NDD.out.below hW⟩)⟩)
    have HBC := Lib.hid (Below.refl w13.heap.size w13)
    clear KBA NDA KBB NDB KBC NDC KBD NDD q0 q1 q2 hq
    obtain ⟨⟨a0, a1, a2, -⟩, ⟨b0, b1, b2, -⟩, ⟨c0, c1, c2, -⟩, ⟨d0, d1, d2, -⟩⟩ := HALL.out _ HBC.out
    have hal := cell_lt a0
    have hbl := cell_lt b0
    have hcl := cell_lt c0
    have hdl := cell_lt d0
    go_wp2_with (first | (go_at_call 16; first | (with_reducible (show Calls _ _ #[.agg #[.slice gA La.length cA, _, _], _] _ _); refine (rsame6 gA gB cA cB m b La HLA.out _ (HALL.out _ HBC.out).1.2.2.2 (HALL.out _ HBC.out).2.1.2.2.2).mono ?_; rintro e wz ⟨rfl, hb⟩; have HBC := Lib.hid (HBC.out.trans (hb.mono HBC.out.size)); obtain ⟨⟨a0, a1, a2, -⟩, ⟨b0, b1, b2, -⟩, ⟨c0, c1, c2, -⟩, ⟨d0, d1, d2, -⟩⟩ := HALL.out _ HBC.out; have hal := cell_lt a0; have hbl := cell_lt b0; have hcl := cell_lt c0; have hdl := cell_lt d0; clear hb) | (with_reducible (show Calls _ _ #[.agg #[.slice gC Lc.length cC, _, _], _] _ _); refine (rsame6 gC gD cC cD m b Lc HLC.out _ (HALL.out _ HBC.out).2.2.1.2.2.2 (HALL.out _ HBC.out).2.2.2.2.2.2).mono ?_; rintro e wz ⟨rfl, hb⟩; have HBC := Lib.hid (HBC.out.trans (hb.mono HBC.out.size)); obtain ⟨⟨a0, a1, a2, -⟩, ⟨b0, b1, b2, -⟩, ⟨c0, c1, c2, -⟩, ⟨d0, d1, d2, -⟩⟩ := HALL.out _ HBC.out; have hal := cell_lt a0; have hbl := cell_lt b0; have hcl := cell_lt c0; have hdl := cell_lt d0; clear hb)) | (go_at_call 9; refine (awake7 _).mono ?_; rintro e wz ⟨rfl, hb⟩; have HBC := Lib.hid (HBC.out.trans (hb.mono HBC.out.size)); clear hb) | fail)
    go_ret
    exact ⟨by rfl, HEND.out _ (HB13.out.trans (HBC.out.mono HB13.out.size))⟩

end Go.Proofs.Ytblmlgpajmaliaa
