/-
  The law DropDoes, walked.
-/
import Derived.Test.YtmaiphibpdngnaaGreatQ4
import Derived.Test.YtmaiphibpdngnaaGreatQ5
import Derived.Test.YtmaiphibpdngnaaGreatQ6
import Derived.Test.YtmaiphibpdngnaaGreatQ7
namespace Go.Proofs.YtmaiphibpdngnaaGreat
set_option maxRecDepth 100000
open Go Go.RowKit

theorem rsame6 (a a' : Option Addr) (cap cap' : Nat) (m b : Int) (L : List Ino) (hL : L.length ≤ 1000) (w : World) (hN : NodesIn w a cap L) (hN' : NodesIn w a' cap' L) :
    Calls Tryz.prog 16 #[.agg #[.slice a L.length cap, .int .i64 m, .int .i64 b], .agg #[.slice a' L.length cap', .int .i64 m, .int .i64 b]] w fun e w' => e = .returned (.bool true) ∧ Below w.heap.size w w' :=
  (rsame3_any a a' cap cap' m b m b L L hL w hN hN').mono fun e w' h => by
    obtain ⟨⟨v, he, hv⟩, hb⟩ := h
    exact ⟨by rw [he, hv.2 rfl], hb⟩
theorem unlink_len {L : List Ino} {m b : Int} (hF : FitP L m b) {cwd : Int} {p : List UInt8} {L' : List Ino} {e : Int} (hz : unlinkW L cwd p = (L', e)) : L'.length = L.length := by
  by_cases h : e = 0
  · obtain ⟨d, k, s, -, -, -, -, hL⟩ := (unlink_ok hF hz).1 h
    rw [hL, gone_len]
  · rw [(unlink_ok hF hz).2 h]
theorem rmdir_len {L : List Ino} {m b : Int} (hF : FitP L m b) {cwd : Int} {p : List UInt8} {L' : List Ino} {e : Int} (hz : rmdirW L cwd p = (L', e)) : L'.length = L.length := by
  by_cases h : e = 0
  · obtain ⟨d, k, s, -, -, hL⟩ := (rmdir_ok hF hz).1 h
    rw [hL, gone_len]
  · rw [(rmdir_ok hF hz).2 h]
theorem rename_len {L : List Ino} {m b : Int} (hF : FitP L m b) {cwd : Int} {old p : List UInt8} {L' : List Ino} {e : Int} (hz : renameW L cwd old p = (L', e)) : L'.length = L.length := by
  by_cases h : e = 0
  · obtain ⟨d, k, s, to, last, -, -, -, -, -, h2⟩ := (rename_ok hF hz).1 h
    rcases h2 with ⟨-, hL⟩ | ⟨tn, -, -, -, -, -, hL⟩ | ⟨-, -, hL⟩
    · rw [hL]
    · rw [hL, move_len, gone_len]
    · rw [hL, move_len]
  · rw [(rename_ok hF hz).2 h]

set_option maxHeartbeats 16000000 in
theorem ddoes_walk (a : Option Addr) (cap : Nat) (m b cwd : Int) (pb tb : ByteArray) (hpb : pb.size ≤ 281474976710656) (htb : tb.size ≤ 281474976710656) (L : List Ino) (hS : Sized L) (w : World) (hN : NodesIn w a cap L) :
    Calls Tryz.prog 3 #[.agg #[.slice a L.length cap, .int .i64 m, .int .i64 b], .int .i64 cwd, .string pb, .string tb] w fun e w' => e = .returned (.bool true) ∧ Below w.heap.size w w' := by
  obtain ⟨w1, hw1⟩ : ∃ w1, w1 = w.alloc (.cells #[.slice a L.length cap, .int .i64 m, .int .i64 b] 24) := ⟨_, rfl⟩
  have hb1 : Below w.heap.size w w1 := by rw [hw1]; exact below_box w _
  have hX : w1.heap[w.heap.size]? = some (.cells #[.slice a L.length cap, .int .i64 m, .int .i64 b] 24 (0, 0)) := by rw [hw1]; exact new_block w _
  have hs1 : w1.heap.size = w.heap.size + 1 := by rw [hw1]; simp
  have HB := Lib.hid hb1
  obtain ⟨w2, hw2⟩ : ∃ w2, w2 = w1.alloc (.cells #[.string pb, .string tb] 9) := ⟨_, rfl⟩
  have hb2 : Below w1.heap.size w1 w2 := by rw [hw2]; exact below_box w1 _
  have hs2 : w2.heap.size = w.heap.size + 2 := by rw [hw2, World.size_alloc, hs1]
  have hT2 : w2.heap[w.heap.size + 1]? = some (.cells #[.string pb, .string tb] 9 (0, 0)) := by rw [hw2, ← hs1]; exact new_block w1 _
  have HX := Lib.hid (show ∀ W, Below w2.heap.size w2 W → W.cell? ⟨w.heap.size, 0, none⟩ = some (.slice a L.length cap) ∧ W.cell? ⟨w.heap.size, 1, none⟩ = some (.int .i64 m) ∧ W.cell? ⟨w.heap.size, 2, none⟩ = some (.int .i64 b) from fun W hW => by
    have h := (hW.block w.heap.size (by omega)).trans ((hb2.block w.heap.size (by omega)).trans hX)
    exact ⟨blk_cell h 0, blk_cell h 1, blk_cell h 2⟩)
  have HEND := Lib.hid (show ∀ W', Below w2.heap.size w2 W' → Below w.heap.size w W' from fun W' h => HB.out.trans ((hb2.trans (h.mono (by omega))).mono (by omega)))
  have HM := Lib.hid (show ∀ W', Below w2.heap.size w2 W' → NodesIn W' a cap L from fun W' h => hN.below (HB.out.trans ((hb2.trans (h.mono (by omega))).mono (by omega))))
  have HS := Lib.hid hS
  have hgood := good6_any a cap m b L hS [pb, tb] (fun s hs => by
      simp only [List.mem_cons, List.not_mem_nil, or_false] at hs
      rcases hs with rfl | rfl
      · exact hpb
      · exact htb) (by simp) (w.heap.size + 1) 2 w2 (HM.out w2 (Below.refl _ _)) (fun i hi => by
      match i, hi with
      | 0, _ => exact blk_cell hT2 0
      | 1, _ => exact blk_cell hT2 1)
  have HGOOD := Lib.hid hgood
  clear hN hb1 hX hS hb2 hT2 hgood
  go_enter Tryz.func3, Tryz.ntmps3
  go_wp2_with fail
  rw [← hw1, ← hw2]
  clear hw1 hw2
  refine HGOOD.out.mono ?_
  rintro e w3 ⟨⟨v, rfl, hv⟩, hb3⟩
  have HV := Lib.hid hv
  have HB3 := Lib.hid hb3
  have hs3 := hb3.size
  obtain ⟨q0, q1, q2⟩ := HX.out _ hb3
  have hq := cell_lt q0
  clear hv hb3 HGOOD
  cases v with
  | false =>
    clear q0 q1 q2 hq
    go_wp2_with fail
    refine (awake6 _).mono ?_
    rintro e w4 ⟨rfl, hb4⟩
    have HB4 := Lib.hid (HB3.out.trans (hb4.mono hs3))
    clear hb4
    go_wp2_with fail
    go_ret
    exact ⟨rfl, HEND.out _ HB4.out⟩
  | true =>
    obtain ⟨hl, hF, hsz⟩ := HV.out rfl
    have HF := Lib.hid hF
    have hL0 : 0 < L.length := by have := hF.limits; obtain ⟨_, _, _, _, _⟩ := this; omega
    have hp3 : pb.size ≤ 1073741824 := by have := hsz pb (by simp); omega
    have ht3 : tb.size ≤ 1073741824 := by have := hsz tb (by simp); omega
    clear hsz hF HV HS
    have hw3 : w.heap.size + 2 ≤ w3.heap.size := by omega
    obtain ⟨⟨La, ea⟩, hza⟩ : ∃ r, unlinkW L cwd pb.data.toList = r := ⟨_, rfl⟩
    obtain ⟨⟨Lc, ec⟩, hzc⟩ : ∃ r, rmdirW L cwd pb.data.toList = r := ⟨_, rfl⟩
    obtain ⟨⟨Lu, eu⟩, hzu⟩ : ∃ r, renameW L cwd pb.data.toList tb.data.toList = r := ⟨_, rfl⟩
    have HLA := Lib.hid (show La.length ≤ 1000 by rw [unlink_len HF.out hza]; omega)
    have HLC := Lib.hid (show Lc.length ≤ 1000 by rw [rmdir_len HF.out hzc]; omega)
    have HLU := Lib.hid (show Lu.length ≤ 1000 by rw [rename_len HF.out hzu]; omega)
    have HZA := Lib.hid hza
    have HZC := Lib.hid hzc
    have HZU := Lib.hid hzu
    clear hza hzc hzu
    go_wp2_with fail
    clear q0 q1 q2 hq
    refine (lunlink_any _ _ _ _ cwd pb hp3 L HF.out La ea HZA.out _ (HM.out _ HB3.out)).mono ?_
    rintro e w4 ⟨⟨gA, cA, he, hN5⟩, hb⟩
    have he' : e = .returned (.tuple #[.agg #[.slice gA La.length cA, .int .i64 m, .int .i64 b], .int .i64 ea]) := he
    subst he'
    have NDA' := Lib.hid hN5
    have HB4 := Lib.hid (HB3.out.trans (hb.mono HB3.out.size))
    have hs4 := hb.size
    clear he hN5 hb
    have NDA := NDA'
    clear NDA'
    obtain ⟨q0, q1, q2⟩ := HX.out _ HB4.out
    have hq := cell_lt q0
    obtain ⟨w5, hw⟩ : ∃ p, p = w4.alloc (.cells #[.slice gA La.length cA, .int .i64 m, .int .i64 b] 24) := ⟨_, rfl⟩
    have hb : Below w4.heap.size w4 w5 := by rw [hw]; exact below_box w4 _
    have hz5 : w4.heap.size + 1 ≤ w5.heap.size ∧ w5.heap.size ≤ w4.heap.size + 1 := by rw [hw, World.size_alloc]; exact ⟨Nat.le_refl _, Nat.le_refl _⟩
    have KBA' := Lib.hid (show w5.heap[w4.heap.size]? = some (.cells #[.slice gA La.length cA, .int .i64 m, .int .i64 b] 24 (0, 0)) by rw [hw]; exact new_block w4 _)
    have HB5 := Lib.hid (HB4.out.trans (hb.mono HB4.out.size))
    have hs5 := hb.size
    replace NDA := Lib.hid (NDA.out.below hb)
    clear hb
    have KBA := KBA'
    clear KBA'
    go_upto_region 4 with fail
    rw [← hw]
    clear hw q0 q1 q2 hq
    obtain ⟨q0, q1, q2⟩ := HX.out _ HB5.out
    have hq := cell_lt q0
    go_wp2_with fail
    clear q0 q1 q2 hq
    refine (runlink6 _ _ _ _ cwd pb hp3 L HF.out La ea HZA.out _ (HM.out _ HB5.out)).mono ?_
    rintro e w6 ⟨⟨gB, cB, he, hN5⟩, hb⟩
    have he' : e = .returned (.tuple #[.agg #[.slice gB La.length cB, .int .i64 m, .int .i64 b], .int .i64 ea]) := he
    subst he'
    have NDB' := Lib.hid hN5
    have HB6 := Lib.hid (HB5.out.trans (hb.mono HB5.out.size))
    have hs6 := hb.size
    replace KBA := Lib.hid ((hb.block _ (lt_of_block KBA.out)).trans KBA.out)
    replace NDA := Lib.hid (NDA.out.below hb)
    clear he hN5 hb
    have NDB := NDB'
    clear NDB'
    obtain ⟨q0, q1, q2⟩ := HX.out _ HB6.out
    have hq := cell_lt q0
    obtain ⟨w7, hw⟩ : ∃ p, p = w6.alloc (.cells #[.slice gB La.length cB, .int .i64 m, .int .i64 b] 24) := ⟨_, rfl⟩
    have hb : Below w6.heap.size w6 w7 := by rw [hw]; exact below_box w6 _
    have hz7 : w6.heap.size + 1 ≤ w7.heap.size ∧ w7.heap.size ≤ w6.heap.size + 1 := by rw [hw, World.size_alloc]; exact ⟨Nat.le_refl _, Nat.le_refl _⟩
    have KBB' := Lib.hid (show w7.heap[w6.heap.size]? = some (.cells #[.slice gB La.length cB, .int .i64 m, .int .i64 b] 24 (0, 0)) by rw [hw]; exact new_block w6 _)
    have HB7 := Lib.hid (HB6.out.trans (hb.mono HB6.out.size))
    have hs7 := hb.size
    replace KBA := Lib.hid ((hb.block _ (lt_of_block KBA.out)).trans KBA.out)
    replace NDA := Lib.hid (NDA.out.below hb)
    replace NDB := Lib.hid (NDB.out.below hb)
    clear hb
    have KBB := KBB'
    clear KBB'
    go_upto_region 5 with fail
    rw [← hw]
    clear hw q0 q1 q2 hq
    obtain ⟨q0, q1, q2⟩ := HX.out _ HB7.out
    have hq := cell_lt q0
    go_wp2_with fail
    clear q0 q1 q2 hq
    refine (lrmdir_any _ _ _ _ cwd pb hp3 L HF.out Lc ec HZC.out _ (HM.out _ HB7.out)).mono ?_
    rintro e w8 ⟨⟨gC, cC, he, hN5⟩, hb⟩
    have he' : e = .returned (.tuple #[.agg #[.slice gC Lc.length cC, .int .i64 m, .int .i64 b], .int .i64 ec]) := he
    subst he'
    have NDC' := Lib.hid hN5
    have HB8 := Lib.hid (HB7.out.trans (hb.mono HB7.out.size))
    have hs8 := hb.size
    replace KBA := Lib.hid ((hb.block _ (lt_of_block KBA.out)).trans KBA.out)
    replace KBB := Lib.hid ((hb.block _ (lt_of_block KBB.out)).trans KBB.out)
    replace NDA := Lib.hid (NDA.out.below hb)
    replace NDB := Lib.hid (NDB.out.below hb)
    clear he hN5 hb
    have NDC := NDC'
    clear NDC'
    obtain ⟨q0, q1, q2⟩ := HX.out _ HB8.out
    have hq := cell_lt q0
    obtain ⟨w9, hw⟩ : ∃ p, p = w8.alloc (.cells #[.slice gC Lc.length cC, .int .i64 m, .int .i64 b] 24) := ⟨_, rfl⟩
    have hb : Below w8.heap.size w8 w9 := by rw [hw]; exact below_box w8 _
    have hz9 : w8.heap.size + 1 ≤ w9.heap.size ∧ w9.heap.size ≤ w8.heap.size + 1 := by rw [hw, World.size_alloc]; exact ⟨Nat.le_refl _, Nat.le_refl _⟩
    have KBC' := Lib.hid (show w9.heap[w8.heap.size]? = some (.cells #[.slice gC Lc.length cC, .int .i64 m, .int .i64 b] 24 (0, 0)) by rw [hw]; exact new_block w8 _)
    have HB9 := Lib.hid (HB8.out.trans (hb.mono HB8.out.size))
    have hs9 := hb.size
    replace KBA := Lib.hid ((hb.block _ (lt_of_block KBA.out)).trans KBA.out)
    replace KBB := Lib.hid ((hb.block _ (lt_of_block KBB.out)).trans KBB.out)
    replace NDA := Lib.hid (NDA.out.below hb)
    replace NDB := Lib.hid (NDB.out.below hb)
    replace NDC := Lib.hid (NDC.out.below hb)
    clear hb
    have KBC := KBC'
    clear KBC'
    go_upto_region 6 with fail
    rw [← hw]
    clear hw q0 q1 q2 hq
    obtain ⟨q0, q1, q2⟩ := HX.out _ HB9.out
    have hq := cell_lt q0
    go_wp2_with fail
    clear q0 q1 q2 hq
    refine (rrmdir6 _ _ _ _ cwd pb hp3 L HF.out Lc ec HZC.out _ (HM.out _ HB9.out)).mono ?_
    rintro e w10 ⟨⟨gD, cD, he, hN5⟩, hb⟩
    have he' : e = .returned (.tuple #[.agg #[.slice gD Lc.length cD, .int .i64 m, .int .i64 b], .int .i64 ec]) := he
    subst he'
    have NDD' := Lib.hid hN5
    have HB10 := Lib.hid (HB9.out.trans (hb.mono HB9.out.size))
    have hs10 := hb.size
    replace KBA := Lib.hid ((hb.block _ (lt_of_block KBA.out)).trans KBA.out)
    replace KBB := Lib.hid ((hb.block _ (lt_of_block KBB.out)).trans KBB.out)
    replace KBC := Lib.hid ((hb.block _ (lt_of_block KBC.out)).trans KBC.out)
    replace NDA := Lib.hid (NDA.out.below hb)
    replace NDB := Lib.hid (NDB.out.below hb)
    replace NDC := Lib.hid (NDC.out.below hb)
    clear he hN5 hb
    have NDD := NDD'
    clear NDD'
    obtain ⟨q0, q1, q2⟩ := HX.out _ HB10.out
    have hq := cell_lt q0
    obtain ⟨w11, hw⟩ : ∃ p, p = w10.alloc (.cells #[.slice gD Lc.length cD, .int .i64 m, .int .i64 b] 24) := ⟨_, rfl⟩
    have hb : Below w10.heap.size w10 w11 := by rw [hw]; exact below_box w10 _
    have hz11 : w10.heap.size + 1 ≤ w11.heap.size ∧ w11.heap.size ≤ w10.heap.size + 1 := by rw [hw, World.size_alloc]; exact ⟨Nat.le_refl _, Nat.le_refl _⟩
    have KBD' := Lib.hid (show w11.heap[w10.heap.size]? = some (.cells #[.slice gD Lc.length cD, .int .i64 m, .int .i64 b] 24 (0, 0)) by rw [hw]; exact new_block w10 _)
    have HB11 := Lib.hid (HB10.out.trans (hb.mono HB10.out.size))
    have hs11 := hb.size
    replace KBA := Lib.hid ((hb.block _ (lt_of_block KBA.out)).trans KBA.out)
    replace KBB := Lib.hid ((hb.block _ (lt_of_block KBB.out)).trans KBB.out)
    replace KBC := Lib.hid ((hb.block _ (lt_of_block KBC.out)).trans KBC.out)
    replace NDA := Lib.hid (NDA.out.below hb)
    replace NDB := Lib.hid (NDB.out.below hb)
    replace NDC := Lib.hid (NDC.out.below hb)
    replace NDD := Lib.hid (NDD.out.below hb)
    clear hb
    have KBD := KBD'
    clear KBD'
    go_upto_region 7 with fail
    rw [← hw]
    clear hw q0 q1 q2 hq
    obtain ⟨q0, q1, q2⟩ := HX.out _ HB11.out
    have hq := cell_lt q0
    go_wp2_with fail
    clear q0 q1 q2 hq
    refine (lrename_any _ _ _ _ cwd pb tb hp3 ht3 L HF.out Lu eu HZU.out _ (HM.out _ HB11.out)).mono ?_
    rintro e w12 ⟨⟨gU, cU, he, hN5⟩, hb⟩
    have he' : e = .returned (.tuple #[.agg #[.slice gU Lu.length cU, .int .i64 m, .int .i64 b], .int .i64 eu]) := he
    subst he'
    have NDU' := Lib.hid hN5
    have HB12 := Lib.hid (HB11.out.trans (hb.mono HB11.out.size))
    have hs12 := hb.size
    replace KBA := Lib.hid ((hb.block _ (lt_of_block KBA.out)).trans KBA.out)
    replace KBB := Lib.hid ((hb.block _ (lt_of_block KBB.out)).trans KBB.out)
    replace KBC := Lib.hid ((hb.block _ (lt_of_block KBC.out)).trans KBC.out)
    replace KBD := Lib.hid ((hb.block _ (lt_of_block KBD.out)).trans KBD.out)
    replace NDA := Lib.hid (NDA.out.below hb)
    replace NDB := Lib.hid (NDB.out.below hb)
    replace NDC := Lib.hid (NDC.out.below hb)
    replace NDD := Lib.hid (NDD.out.below hb)
    clear he hN5 hb
    have NDU := NDU'
    clear NDU'
    obtain ⟨q0, q1, q2⟩ := HX.out _ HB12.out
    have hq := cell_lt q0
    obtain ⟨w13, hw⟩ : ∃ p, p = w12.alloc (.cells #[.slice gU Lu.length cU, .int .i64 m, .int .i64 b] 24) := ⟨_, rfl⟩
    have hb : Below w12.heap.size w12 w13 := by rw [hw]; exact below_box w12 _
    have hz13 : w12.heap.size + 1 ≤ w13.heap.size ∧ w13.heap.size ≤ w12.heap.size + 1 := by rw [hw, World.size_alloc]; exact ⟨Nat.le_refl _, Nat.le_refl _⟩
    have KBU' := Lib.hid (show w13.heap[w12.heap.size]? = some (.cells #[.slice gU Lu.length cU, .int .i64 m, .int .i64 b] 24 (0, 0)) by rw [hw]; exact new_block w12 _)
    have HB13 := Lib.hid (HB12.out.trans (hb.mono HB12.out.size))
    have hs13 := hb.size
    replace KBA := Lib.hid ((hb.block _ (lt_of_block KBA.out)).trans KBA.out)
    replace KBB := Lib.hid ((hb.block _ (lt_of_block KBB.out)).trans KBB.out)
    replace KBC := Lib.hid ((hb.block _ (lt_of_block KBC.out)).trans KBC.out)
    replace KBD := Lib.hid ((hb.block _ (lt_of_block KBD.out)).trans KBD.out)
    replace NDA := Lib.hid (NDA.out.below hb)
    replace NDB := Lib.hid (NDB.out.below hb)
    replace NDC := Lib.hid (NDC.out.below hb)
    replace NDD := Lib.hid (NDD.out.below hb)
    replace NDU := Lib.hid (NDU.out.below hb)
    clear hb
    have KBU := KBU'
    clear KBU'
    go_upto_region 8 with fail
    rw [← hw]
    clear hw q0 q1 q2 hq
    obtain ⟨q0, q1, q2⟩ := HX.out _ HB13.out
    have hq := cell_lt q0
    go_wp2_with fail
    clear q0 q1 q2 hq
    refine (rrename6 _ _ _ _ cwd pb tb hp3 ht3 L HF.out Lu eu HZU.out _ (HM.out _ HB13.out)).mono ?_
    rintro e w14 ⟨⟨gV, cV, he, hN5⟩, hb⟩
    have he' : e = .returned (.tuple #[.agg #[.slice gV Lu.length cV, .int .i64 m, .int .i64 b], .int .i64 eu]) := he
    subst he'
    have NDV' := Lib.hid hN5
    have HB14 := Lib.hid (HB13.out.trans (hb.mono HB13.out.size))
    have hs14 := hb.size
    replace KBA := Lib.hid ((hb.block _ (lt_of_block KBA.out)).trans KBA.out)
    replace KBB := Lib.hid ((hb.block _ (lt_of_block KBB.out)).trans KBB.out)
    replace KBC := Lib.hid ((hb.block _ (lt_of_block KBC.out)).trans KBC.out)
    replace KBD := Lib.hid ((hb.block _ (lt_of_block KBD.out)).trans KBD.out)
    replace KBU := Lib.hid ((hb.block _ (lt_of_block KBU.out)).trans KBU.out)
    replace NDA := Lib.hid (NDA.out.below hb)
    replace NDB := Lib.hid (NDB.out.below hb)
    replace NDC := Lib.hid (NDC.out.below hb)
    replace NDD := Lib.hid (NDD.out.below hb)
    replace NDU := Lib.hid (NDU.out.below hb)
    clear he hN5 hb
    have NDV := NDV'
    clear NDV'
    obtain ⟨q0, q1, q2⟩ := HX.out _ HB14.out
    have hq := cell_lt q0
    obtain ⟨w15, hw⟩ : ∃ p, p = w14.alloc (.cells #[.slice gV Lu.length cV, .int .i64 m, .int .i64 b] 24) := ⟨_, rfl⟩
    have hb : Below w14.heap.size w14 w15 := by rw [hw]; exact below_box w14 _
    have hz15 : w14.heap.size + 1 ≤ w15.heap.size ∧ w15.heap.size ≤ w14.heap.size + 1 := by rw [hw, World.size_alloc]; exact ⟨Nat.le_refl _, Nat.le_refl _⟩
    have KBV' := Lib.hid (show w15.heap[w14.heap.size]? = some (.cells #[.slice gV Lu.length cV, .int .i64 m, .int .i64 b] 24 (0, 0)) by rw [hw]; exact new_block w14 _)
    have HB15 := Lib.hid (HB14.out.trans (hb.mono HB14.out.size))
    have hs15 := hb.size
    replace KBA := Lib.hid ((hb.block _ (lt_of_block KBA.out)).trans KBA.out)
    replace KBB := Lib.hid ((hb.block _ (lt_of_block KBB.out)).trans KBB.out)
    replace KBC := Lib.hid ((hb.block _ (lt_of_block KBC.out)).trans KBC.out)
    replace KBD := Lib.hid ((hb.block _ (lt_of_block KBD.out)).trans KBD.out)
    replace KBU := Lib.hid ((hb.block _ (lt_of_block KBU.out)).trans KBU.out)
    replace NDA := Lib.hid (NDA.out.below hb)
    replace NDB := Lib.hid (NDB.out.below hb)
    replace NDC := Lib.hid (NDC.out.below hb)
    replace NDD := Lib.hid (NDD.out.below hb)
    replace NDU := Lib.hid (NDU.out.below hb)
    replace NDV := Lib.hid (NDV.out.below hb)
    clear hb
    have KBV := KBV'
    clear KBV'
    go_upto_region 9 with fail
    rw [← hw]
    clear hw q0 q1 q2 hq
    obtain ⟨q0, q1, q2⟩ := HX.out _ HB15.out
    have hq := cell_lt q0
    have HALL := Lib.hid (show ∀ W, Below w15.heap.size w15 W → (W.cell? ⟨w4.heap.size, 0, none⟩ = some (.slice gA La.length cA) ∧ W.cell? ⟨w4.heap.size, 1, none⟩ = some (.int .i64 m) ∧ W.cell? ⟨w4.heap.size, 2, none⟩ = some (.int .i64 b) ∧ NodesIn W gA cA La) ∧ (W.cell? ⟨w6.heap.size, 0, none⟩ = some (.slice gB La.length cB) ∧ W.cell? ⟨w6.heap.size, 1, none⟩ = some (.int .i64 m) ∧ W.cell? ⟨w6.heap.size, 2, none⟩ = some (.int .i64 b) ∧ NodesIn W gB cB La) ∧ (W.cell? ⟨w8.heap.size, 0, none⟩ = some (.slice gC Lc.length cC) ∧ W.cell? ⟨w8.heap.size, 1, none⟩ = some (.int .i64 m) ∧ W.cell? ⟨w8.heap.size, 2, none⟩ = some (.int .i64 b) ∧ NodesIn W gC cC Lc) ∧ (W.cell? ⟨w10.heap.size, 0, none⟩ = some (.slice gD Lc.length cD) ∧ W.cell? ⟨w10.heap.size, 1, none⟩ = some (.int .i64 m) ∧ W.cell? ⟨w10.heap.size, 2, none⟩ = some (.int .i64 b) ∧ NodesIn W gD cD Lc) ∧ (W.cell? ⟨w12.heap.size, 0, none⟩ = some (.slice gU Lu.length cU) ∧ W.cell? ⟨w12.heap.size, 1, none⟩ = some (.int .i64 m) ∧ W.cell? ⟨w12.heap.size, 2, none⟩ = some (.int .i64 b) ∧ NodesIn W gU cU Lu) ∧ (W.cell? ⟨w14.heap.size, 0, none⟩ = some (.slice gV Lu.length cV) ∧ W.cell? ⟨w14.heap.size, 1, none⟩ = some (.int .i64 m) ∧ W.cell? ⟨w14.heap.size, 2, none⟩ = some (.int .i64 b) ∧ NodesIn W gV cV Lu) from fun W hW => ⟨(by have h := (hW.block _ (lt_of_block KBA.out)).trans KBA.out; exact ⟨blk_cell h 0, blk_cell h 1, blk_cell h 2, NDA.out.below hW⟩), (by have h := (hW.block _ (lt_of_block KBB.out)).trans KBB.out; exact ⟨blk_cell h 0, blk_cell h 1, blk_cell h 2, NDB.out.below hW⟩), (by have h := (hW.block _ (lt_of_block KBC.out)).trans KBC.out; exact ⟨blk_cell h 0, blk_cell h 1, blk_cell h 2, NDC.out.below hW⟩), (by have h := (hW.block _ (lt_of_block KBD.out)).trans KBD.out; exact ⟨blk_cell h 0, blk_cell h 1, blk_cell h 2, NDD.out.below hW⟩), (by have h := (hW.block _ (lt_of_block KBU.out)).trans KBU.out; exact ⟨blk_cell h 0, blk_cell h 1, blk_cell h 2, NDU.out.below hW⟩), (by have h := (hW.block _ (lt_of_block KBV.out)).trans KBV.out; exact ⟨blk_cell h 0, blk_cell h 1, blk_cell h 2, NDV.out.below hW⟩)⟩)
    have HBC := Lib.hid (Below.refl w15.heap.size w15)
    clear KBA NDA KBB NDB KBC NDC KBD NDD KBU NDU KBV NDV q0 q1 q2 hq
    obtain ⟨⟨a0, a1, a2, -⟩, ⟨b0, b1, b2, -⟩, ⟨c0, c1, c2, -⟩, ⟨d0, d1, d2, -⟩, ⟨u0, u1, u2, -⟩, ⟨v0, v1, v2, -⟩⟩ := HALL.out _ HBC.out
    have hal := cell_lt a0
    have hbl := cell_lt b0
    have hcl := cell_lt c0
    have hdl := cell_lt d0
    have hul := cell_lt u0
    have hvl := cell_lt v0
    go_wp2_with (first | (go_at_call 16; first | (with_reducible (show Calls _ _ #[.agg #[.slice gA La.length cA, _, _], _] _ _); refine (rsame6 gA gB cA cB m b La HLA.out _ (HALL.out _ HBC.out).1.2.2.2 (HALL.out _ HBC.out).2.1.2.2.2).mono ?_; rintro e wz ⟨rfl, hb⟩; have HBC := Lib.hid (HBC.out.trans (hb.mono HBC.out.size)); obtain ⟨⟨a0, a1, a2, -⟩, ⟨b0, b1, b2, -⟩, ⟨c0, c1, c2, -⟩, ⟨d0, d1, d2, -⟩, ⟨u0, u1, u2, -⟩, ⟨v0, v1, v2, -⟩⟩ := HALL.out _ HBC.out; have hal := cell_lt a0; have hbl := cell_lt b0; have hcl := cell_lt c0; have hdl := cell_lt d0; have hul := cell_lt u0; have hvl := cell_lt v0; clear hb) | (with_reducible (show Calls _ _ #[.agg #[.slice gC Lc.length cC, _, _], _] _ _); refine (rsame6 gC gD cC cD m b Lc HLC.out _ (HALL.out _ HBC.out).2.2.1.2.2.2 (HALL.out _ HBC.out).2.2.2.1.2.2.2).mono ?_; rintro e wz ⟨rfl, hb⟩; have HBC := Lib.hid (HBC.out.trans (hb.mono HBC.out.size)); obtain ⟨⟨a0, a1, a2, -⟩, ⟨b0, b1, b2, -⟩, ⟨c0, c1, c2, -⟩, ⟨d0, d1, d2, -⟩, ⟨u0, u1, u2, -⟩, ⟨v0, v1, v2, -⟩⟩ := HALL.out _ HBC.out; have hal := cell_lt a0; have hbl := cell_lt b0; have hcl := cell_lt c0; have hdl := cell_lt d0; have hul := cell_lt u0; have hvl := cell_lt v0; clear hb) | (with_reducible (show Calls _ _ #[.agg #[.slice gU Lu.length cU, _, _], _] _ _); refine (rsame6 gU gV cU cV m b Lu HLU.out _ (HALL.out _ HBC.out).2.2.2.2.1.2.2.2 (HALL.out _ HBC.out).2.2.2.2.2.2.2.2).mono ?_; rintro e wz ⟨rfl, hb⟩; have HBC := Lib.hid (HBC.out.trans (hb.mono HBC.out.size)); obtain ⟨⟨a0, a1, a2, -⟩, ⟨b0, b1, b2, -⟩, ⟨c0, c1, c2, -⟩, ⟨d0, d1, d2, -⟩, ⟨u0, u1, u2, -⟩, ⟨v0, v1, v2, -⟩⟩ := HALL.out _ HBC.out; have hal := cell_lt a0; have hbl := cell_lt b0; have hcl := cell_lt c0; have hdl := cell_lt d0; have hul := cell_lt u0; have hvl := cell_lt v0; clear hb)) | (go_at_call 9; refine (awake6 _).mono ?_; rintro e wz ⟨rfl, hb⟩; have HBC := Lib.hid (HBC.out.trans (hb.mono HBC.out.size)); clear hb) | fail)
    go_ret
    exact ⟨by rfl, HEND.out _ (HB15.out.trans (HBC.out.mono HB15.out.size))⟩

end Go.Proofs.YtmaiphibpdngnaaGreat
