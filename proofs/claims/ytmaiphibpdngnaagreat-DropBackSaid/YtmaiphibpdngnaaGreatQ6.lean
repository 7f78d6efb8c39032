/-
  The reference's Rename, of chapter 6.
-/
import Derived.Deep.Cut
import Derived.Test.YtmaiphibpdngnaaGreatK11
namespace Go.Proofs.YtmaiphibpdngnaaGreat
set_option maxRecDepth 100000
open Go Go.RowKit

theorem rslash6b (pb : ByteArray) (hp : pb.size ≤ 1073741824) (v : Bool) (hv : endL pb.data.toList = v) (w : World) :
    Calls Tryz.prog 36 #[.string pb] w fun e w' => e = .returned (.bool v) ∧ w = w' := (rslash6 pb hp v hv w).mono fun _ _ h => ⟨h.1, h.2.symm⟩
theorem rname6 (l : List UInt8) (hl : l.length ≤ 1073741824) (v : Bool) (hv : nameOkL l = v) (w : World) :
    Calls Tryz.prog 24 #[.string ⟨l.toArray⟩] w fun e w' => e = .returned (.bool v) ∧ w = w' := by
  subst hv
  exact rname_any ⟨l.toArray⟩ (by rw [str_len]; unfold maxLen; omega) w
theorem moved_kids {L : List Ino} {d to : Nat} {s : List UInt8} (hd : d < L.length) (ht : to < L.length) : ((moveD L d s)[to]'(by unfold moveD; rw [List.length_set]; exact ht)).kids = if d = to then withoutL L[to].kids s else L[to].kids := by
  simp only [moveD, List.getElem_set]
  by_cases e : d = to
  · subst e
    rw [if_pos rfl, if_pos rfl, node_nat L d hd]
    rfl
  · rw [if_neg e, if_neg e]


set_option maxHeartbeats 16000000 in
theorem rrename6 (a : Option Addr) (cap : Nat) (m b cwd : Int) (pb pq : ByteArray) (hp : pb.size ≤ 1073741824) (hpq : pq.size ≤ 1073741824) (L : List Ino) (hF : FitP L m b) (L' : List Ino) (er : Int) (hz : renameW L cwd pb.data.toList pq.data.toList = (L', er)) (w : World) (hN : NodesIn w a cap L) :
    Calls Tryz.prog 15 #[.agg #[.slice a L.length cap, .int .i64 m, .int .i64 b], .int .i64 cwd, .string pb, .string pq] w (RefAns w m b L' [.int .i64 er]) := by
  have hL0 : 0 < L.length := by have := hF.limits; obtain ⟨_, _, _, _, _⟩ := this; omega
  obtain ⟨bb, o, rfl, -⟩ := hN.2.2 0 hL0
  obtain ⟨w2, hw2, hb2, hs2, hA, hB⟩ := two_boxes w #[.slice (some ⟨bb, o, none⟩) L.length cap, .int .i64 m, .int .i64 b] #[.slice none 0 0, .int .i64 0, .int .i64 0] 24 24
  have HX := Lib.hid (show ∀ W, Below w2.heap.size w2 W → W.heap[w.heap.size + 1]? = some (.cells #[.slice none 0 0, .int .i64 0, .int .i64 0] 24 (0, 0)) ∧ W.cell? ⟨w.heap.size, 0, none⟩ = some (.slice (some ⟨bb, o, none⟩) L.length cap) ∧ W.cell? ⟨w.heap.size, 1, none⟩ = some (.int .i64 m) ∧ W.cell? ⟨w.heap.size, 2, none⟩ = some (.int .i64 b) from fun W hW => by
    have h := (hW.block w.heap.size (by omega)).trans hA
    exact ⟨(hW.block _ (by omega)).trans hB, blk_cell h 0, blk_cell h 1, blk_cell h 2⟩)
  have HM := Lib.hid (show ∀ W, Below w2.heap.size w2 W → NodesIn W (some ⟨bb, o, none⟩) cap L from fun W hW => hN.below (hb2.trans (hW.mono (by omega))))
  have HB2 := Lib.hid hb2
  have HF := Lib.hid hF
  have hz2 := hz
  unfold renameW at hz2
  obtain ⟨⟨z, s, k, er0⟩, hn⟩ : ∃ r, namedW L cwd pb.data.toList = r := ⟨_, rfl⟩
  rw [hn] at hz2
  simp only at hz2
  have HNM := Lib.hid hn
  clear hz hN hb2 hA hB hF hn
  obtain ⟨hRx, q0, q1, q2⟩ := HX.out w2 (Below.refl _ _)
  have HRX := Lib.hid hRx
  have hq := cell_lt q0
  have r0 := blk_cell hRx 0
  have r1 := blk_cell hRx 1
  have r2 := blk_cell hRx 2
  have s0 := blk_free hRx 0
  have s1 := blk_free hRx 1
  have s2 := blk_free hRx 2
  have hrl := lt_of_block hRx
  clear hRx
  rw [hw2] at r0 r1 r2 s0 s1 s2 hrl q0 q1 q2 hq
  go_enter Tryz.func15, Tryz.ntmps15
  go_wp2_with fail
  rw [← hw2]
  clear HRX r0 r1 r2 s0 s1 s2 hrl q0 q1 q2 hq
  clear hw2
  refine (rnamed6 _ _ _ _ _ _ hp L HF.out _ _ _ _ HNM.out _ (HM.out _ (Below.refl _ _))).mono ?_
  rintro e w3 ⟨rfl, hb3⟩
  have HB3 := Lib.hid hb3
  have hs3 := hb3.size
  clear hb3
  obtain ⟨hRx, q0, q1, q2⟩ := HX.out _ HB3.out
  have HRX := Lib.hid hRx
  have hq := cell_lt q0
  have r0 := blk_cell hRx 0
  have r1 := blk_cell hRx 1
  have r2 := blk_cell hRx 2
  have s0 := blk_free hRx 0
  have s1 := blk_free hRx 1
  have s2 := blk_free hRx 2
  have hrl := lt_of_block hRx
  clear hRx
  by_cases h0 : er0 = 0
  case neg =>
    rw [if_pos h0] at hz2
    have hb0 : (er0 != 0) = true := by simpa using h0
    simp only [Prod.mk.injEq] at hz2
    obtain ⟨rfl, rfl⟩ := hz2
    go_wp2_with fail
    change bodyPost _ _ _ _ _ (put3 w3 (w.heap.size + 1) (.slice (some ⟨bb, o, none⟩) L.length cap) (.int .i64 m) (.int .i64 b))
    obtain ⟨c0, c1, c2⟩ := put3_cells HRX.out (.slice (some ⟨bb, o, none⟩) L.length cap) (.int .i64 m) (.int .i64 b)
    have hBF := put3_below (HB2.out.trans (HB3.out.mono (by omega))) (show w.heap.size ≤ w.heap.size + 1 by omega) (.slice (some ⟨bb, o, none⟩) L.length cap) (.int .i64 m) (.int .i64 b)
    exact bodyPost_ret (v := .tuple #[.agg #[.slice (some ⟨bb, o, none⟩) L.length cap, .int .i64 m, .int .i64 b], .int .i64 er0]) (by simp [results, Tryz.results15, go_sem, c0, c1, c2]) rfl ⟨⟨_, _, rfl, nodes_put3 (HM.out _ HB3.out) HRX.out _ _ _⟩, hBF⟩
  subst h0
  rw [if_neg (by simp)] at hz2
  obtain ⟨d, kn, s', hna⟩ := named_ok HF.out (by rw [HNM.out])
  have e1 := hna.nam
  rw [HNM.out] at e1
  simp only [Prod.mk.injEq] at e1
  obtain ⟨rfl, rfl, rfl, -⟩ := e1
  have HNA := Lib.hid hna
  have hk0 : (0 : Int) ≤ (kn : Int) := by omega
  have hkl : kn < L.length := hna.klt
  have hkl1 : (kn : Int) < (L.length : Int) := by omega
  have hdlt : d < L.length := hna.dlt
  obtain ⟨⟨tz, last, pe⟩, hpar⟩ : ∃ r, parentW L cwd pq.data.toList = r := ⟨_, rfl⟩
  rw [hpar] at hz2
  simp only at hz2
  have HP := Lib.hid hpar
  have HZ2 := Lib.hid hz2
  clear hz2 hna hpar
  go_wp2_with fail
  have hpk := parent4_any (some ⟨bb, o, none⟩) cap m b cwd pq hpq L HF.out w3 (HM.out _ HB3.out)
  rw [HP.out] at hpk
  refine hpk.mono ?_
  rintro e w4 ⟨rfl, hb4⟩
  clear hpk
  have hz2 := HZ2.out
  have HB4 := Lib.hid (HB3.out.trans (hb4.mono HB3.out.size))
  clear hb4
  clear HRX r0 r1 r2 s0 s1 s2 hrl q0 q1 q2 hq
  obtain ⟨hRx, q0, q1, q2⟩ := HX.out _ HB4.out
  have HRX := Lib.hid hRx
  have hq := cell_lt q0
  have r0 := blk_cell hRx 0
  have r1 := blk_cell hRx 1
  have r2 := blk_cell hRx 2
  have s0 := blk_free hRx 0
  have s1 := blk_free hRx 1
  have s2 := blk_free hRx 2
  have hrl := lt_of_block hRx
  clear hRx
  by_cases h1 : pe = 0
  case neg =>
    rw [if_pos h1] at hz2
    have hb1 : (pe != 0) = true := by simpa using h1
    simp only [Prod.mk.injEq] at hz2
    obtain ⟨rfl, rfl⟩ := hz2
    go_wp2_with fail
    change bodyPost _ _ _ _ _ (put3 w4 (w.heap.size + 1) (.slice (some ⟨bb, o, none⟩) L.length cap) (.int .i64 m) (.int .i64 b))
    obtain ⟨c0, c1, c2⟩ := put3_cells HRX.out (.slice (some ⟨bb, o, none⟩) L.length cap) (.int .i64 m) (.int .i64 b)
    have hBF := put3_below (HB2.out.trans (HB4.out.mono (by omega))) (show w.heap.size ≤ w.heap.size + 1 by omega) (.slice (some ⟨bb, o, none⟩) L.length cap) (.int .i64 m) (.int .i64 b)
    exact bodyPost_ret (v := .tuple #[.agg #[.slice (some ⟨bb, o, none⟩) L.length cap, .int .i64 m, .int .i64 b], .int .i64 pe]) (by simp [results, Tryz.results15, go_sem, c0, c1, c2]) rfl ⟨⟨_, _, rfl, nodes_put3 (HM.out _ HB4.out) HRX.out _ _ _⟩, hBF⟩
  subst h1
  rw [if_neg (by simp)] at hz2
  have hpok := parent_ok (L := L) (cwd := cwd) (p := pq.data.toList) (by rw [HP.out])
  rw [HP.out] at hpok
  obtain ⟨-, htd⟩ := hpok
  simp only at htd
  obtain ⟨to, rfl, htl⟩ := dir_lt htd
  obtain ⟨hlastl, -⟩ := par_name HP.out
  rw [size_list] at hlastl
  obtain ⟨nv, hnv⟩ : ∃ v, nameOkL last = v := ⟨_, rfl⟩
  obtain ⟨mv, hmv⟩ : ∃ v, mayL L (to : Int) 3 = v := ⟨_, rfl⟩
  obtain ⟨dv, hdv⟩ : ∃ v, dirB L (kn : Int) = v := ⟨_, rfl⟩
  obtain ⟨sq, hsq⟩ : ∃ v, endL pq.data.toList = v := ⟨_, rfl⟩
  obtain ⟨so, hso⟩ : ∃ v, endL pb.data.toList = v := ⟨_, rfl⟩
  obtain ⟨wv, hwv⟩ : ∃ v, withinB L L.length (to : Int) (kn : Int) = v := ⟨_, rfl⟩
  rw [hnv, hmv, hdv, hsq, hso, hwv] at hz2
  have HTD := Lib.hid htd
  have HNV := Lib.hid hnv
  have HMV := Lib.hid hmv
  have HDV := Lib.hid hdv
  have HSQ := Lib.hid hsq
  have HSO := Lib.hid hso
  have HWV := Lib.hid hwv
  have HZ3 := Lib.hid hz2
  clear hz2 htd hnv hmv hdv hsq hso hwv HZ2
  go_wp2_with fail
  refine (rname6 last (by omega) _ HNV.out _).mono ?_
  rintro e w' ⟨rfl, rfl⟩
  have hz2 := HZ3.out
  cases nv with
  | false =>
    rw [if_pos rfl] at hz2
    simp only [Prod.mk.injEq] at hz2
    obtain ⟨rfl, rfl⟩ := hz2
    go_wp2_with fail
    change bodyPost _ _ _ _ _ (put3 w4 (w.heap.size + 1) (.slice (some ⟨bb, o, none⟩) L.length cap) (.int .i64 m) (.int .i64 b))
    obtain ⟨c0, c1, c2⟩ := put3_cells HRX.out (.slice (some ⟨bb, o, none⟩) L.length cap) (.int .i64 m) (.int .i64 b)
    have hBF := put3_below (HB2.out.trans (HB4.out.mono (by omega))) (show w.heap.size ≤ w.heap.size + 1 by omega) (.slice (some ⟨bb, o, none⟩) L.length cap) (.int .i64 m) (.int .i64 b)
    exact bodyPost_ret (v := .tuple #[.agg #[.slice (some ⟨bb, o, none⟩) L.length cap, .int .i64 m, .int .i64 b], .int .i64 22]) (by simp [results, Tryz.results15, go_sem, c0, c1, c2]) rfl ⟨⟨_, _, rfl, nodes_put3 (HM.out _ HB4.out) HRX.out _ _ _⟩, hBF⟩
  | true =>
  rw [if_neg (by decide)] at hz2
  go_wp2_with fail
  refine (may4_at _ _ _ _ _ _ L HF.out.ins _ HMV.out _ (HM.out _ HB4.out)).mono ?_
  rintro e w5 ⟨rfl, hb5⟩
  have HB5 := Lib.hid (HB4.out.trans (hb5.mono HB4.out.size))
  clear hb5
  clear HRX r0 r1 r2 s0 s1 s2 hrl q0 q1 q2 hq
  obtain ⟨hRx, q0, q1, q2⟩ := HX.out _ HB5.out
  have HRX := Lib.hid hRx
  have hq := cell_lt q0
  have r0 := blk_cell hRx 0
  have r1 := blk_cell hRx 1
  have r2 := blk_cell hRx 2
  have s0 := blk_free hRx 0
  have s1 := blk_free hRx 1
  have s2 := blk_free hRx 2
  have hrl := lt_of_block hRx
  clear hRx
  cases mv with
  | false =>
    rw [if_pos rfl] at hz2
    simp only [Prod.mk.injEq] at hz2
    obtain ⟨rfl, rfl⟩ := hz2
    go_wp2_with fail
    change bodyPost _ _ _ _ _ (put3 w5 (w.heap.size + 1) (.slice (some ⟨bb, o, none⟩) L.length cap) (.int .i64 m) (.int .i64 b))
    obtain ⟨c0, c1, c2⟩ := put3_cells HRX.out (.slice (some ⟨bb, o, none⟩) L.length cap) (.int .i64 m) (.int .i64 b)
    have hBF := put3_below (HB2.out.trans (HB5.out.mono (by omega))) (show w.heap.size ≤ w.heap.size + 1 by omega) (.slice (some ⟨bb, o, none⟩) L.length cap) (.int .i64 m) (.int .i64 b)
    exact bodyPost_ret (v := .tuple #[.agg #[.slice (some ⟨bb, o, none⟩) L.length cap, .int .i64 m, .int .i64 b], .int .i64 13]) (by simp [results, Tryz.results15, go_sem, c0, c1, c2]) rfl ⟨⟨_, _, rfl, nodes_put3 (HM.out _ HB5.out) HRX.out _ _ _⟩, hBF⟩
  | true =>
  rw [if_neg (by decide)] at hz2
  have HZ4 := Lib.hid hz2
  clear hz2 HZ3
  go_upto_region 11 with fail
  go_cut [63] from 18 (fun c wx => c = .bool (!dv && (sq || so)) ∧ Below w2.heap.size w2 wx)
  case first =>
    go_wp2_with fail
    refine (risdir6 _ _ _ _ kn L hkl _ HDV.out _ (HM.out _ HB5.out)).mono ?_
    rintro e w6 ⟨rfl, hb6⟩
    have HB6 := Lib.hid (HB5.out.trans (hb6.mono HB5.out.size))
    clear hb6 HZ4
    cases dv <;> cases sq <;> cases so
    all_goals
      go_wp2_with (first | (go_at_call 36; first | (with_reducible (show Calls _ _ #[.string pq] _ _); refine (rslash6b pq hpq _ HSQ.out _).mono ?_; rintro e w' ⟨rfl, rfl⟩) | (with_reducible (show Calls _ _ #[.string pb] _ _); refine (rslash6b pb hp _ HSO.out _).mono ?_; rintro e w' ⟨rfl, rfl⟩)) | fail)
      go_meet
      exact ⟨by rfl, HB6.out⟩
  case rest =>
  obtain ⟨rfl, hbc⟩ := hcut
  have HB6 := Lib.hid hbc
  clear hbc
  clear HRX r0 r1 r2 s0 s1 s2 hrl q0 q1 q2 hq
  obtain ⟨hRx, q0, q1, q2⟩ := HX.out _ HB6.out
  have HRX := Lib.hid hRx
  have hq := cell_lt q0
  have r0 := blk_cell hRx 0
  have r1 := blk_cell hRx 1
  have r2 := blk_cell hRx 2
  have s0 := blk_free hRx 0
  have s1 := blk_free hRx 1
  have s2 := blk_free hRx 2
  have hrl := lt_of_block hRx
  clear hRx
  by_cases hsl : (!dv && (sq || so)) = true
  · have hz2 := HZ4.out
    rw [if_pos (by revert hsl; cases dv <;> cases sq <;> cases so <;> simp)] at hz2
    rw [hsl]
    simp only [Prod.mk.injEq] at hz2
    obtain ⟨rfl, rfl⟩ := hz2
    go_wp2_with fail
    change bodyPost _ _ _ _ _ (put3 wc (w.heap.size + 1) (.slice (some ⟨bb, o, none⟩) L.length cap) (.int .i64 m) (.int .i64 b))
    obtain ⟨c0, c1, c2⟩ := put3_cells HRX.out (.slice (some ⟨bb, o, none⟩) L.length cap) (.int .i64 m) (.int .i64 b)
    have hBF := put3_below (HB2.out.trans (HB6.out.mono (by omega))) (show w.heap.size ≤ w.heap.size + 1 by omega) (.slice (some ⟨bb, o, none⟩) L.length cap) (.int .i64 m) (.int .i64 b)
    exact bodyPost_ret (v := .tuple #[.agg #[.slice (some ⟨bb, o, none⟩) L.length cap, .int .i64 m, .int .i64 b], .int .i64 20]) (by simp [results, Tryz.results15, go_sem, c0, c1, c2]) rfl ⟨⟨_, _, rfl, nodes_put3 (HM.out _ HB6.out) HRX.out _ _ _⟩, hBF⟩
  have hsl' : (!dv && (sq || so)) = false := by simpa using hsl
  rw [hsl']
  have hz2 := HZ4.out
  rw [if_neg (by revert hsl; cases dv <;> cases sq <;> cases so <;> simp)] at hz2
  have HZ5 := Lib.hid hz2
  clear hz2 hsl hsl' HZ4
  go_upto_region 13 with fail
  go_cut [73] from 18 (fun c wx => c = .bool (dv && wv) ∧ Below w2.heap.size w2 wx)
  case first =>
    go_wp2_with fail
    refine (risdir6 _ _ _ _ kn L hkl _ HDV.out _ (HM.out _ HB6.out)).mono ?_
    rintro e w7 ⟨rfl, hb7⟩
    have HB7 := Lib.hid (HB6.out.trans (hb7.mono HB6.out.size))
    clear hb7 HZ5
    clear HRX r0 r1 r2 s0 s1 s2 hrl q0 q1 q2 hq
    obtain ⟨hRx, q0, q1, q2⟩ := HX.out _ HB7.out
    have HRX := Lib.hid hRx
    have hq := cell_lt q0
    have r0 := blk_cell hRx 0
    have r1 := blk_cell hRx 1
    have r2 := blk_cell hRx 2
    have s0 := blk_free hRx 0
    have s1 := blk_free hRx 1
    have s2 := blk_free hRx 2
    have hrl := lt_of_block hRx
    clear hRx
    cases dv with
    | false =>
      go_wp2_with fail
      go_meet
      exact ⟨by rfl, HB7.out⟩
    | true =>
      go_wp2_with fail
      refine (rwithin6 _ _ _ _ L HF.out to HTD.out _ _ HWV.out _ (HM.out _ HB7.out)).mono ?_
      rintro e w8 ⟨rfl, hb8⟩
      have HB8 := Lib.hid (HB7.out.trans (hb8.mono HB7.out.size))
      clear hb8
      cases wv with
      | false =>
        go_wp2_with fail
        go_meet
        exact ⟨by rfl, HB8.out⟩
      | true =>
        go_wp2_with fail
        go_meet
        exact ⟨by rfl, HB8.out⟩
  case rest =>
  obtain ⟨rfl, hbc8⟩ := hcut
  have HB8 := Lib.hid hbc8
  clear hbc8
  clear HRX r0 r1 r2 s0 s1 s2 hrl q0 q1 q2 hq
  obtain ⟨hRx, q0, q1, q2⟩ := HX.out _ HB8.out
  have HRX := Lib.hid hRx
  have hq := cell_lt q0
  have r0 := blk_cell hRx 0
  have r1 := blk_cell hRx 1
  have r2 := blk_cell hRx 2
  have s0 := blk_free hRx 0
  have s1 := blk_free hRx 1
  have s2 := blk_free hRx 2
  have hrl := lt_of_block hRx
  clear hRx
  by_cases hwi : (dv && wv) = true
  · have hz2 := HZ5.out
    rw [if_pos (by revert hwi; cases dv <;> cases wv <;> simp)] at hz2
    rw [hwi]
    simp only [Prod.mk.injEq] at hz2
    obtain ⟨rfl, rfl⟩ := hz2
    go_wp2_with fail
    change bodyPost _ _ _ _ _ (put3 wc (w.heap.size + 1) (.slice (some ⟨bb, o, none⟩) L.length cap) (.int .i64 m) (.int .i64 b))
    obtain ⟨c0, c1, c2⟩ := put3_cells HRX.out (.slice (some ⟨bb, o, none⟩) L.length cap) (.int .i64 m) (.int .i64 b)
    have hBF := put3_below (HB2.out.trans (HB8.out.mono (by omega))) (show w.heap.size ≤ w.heap.size + 1 by omega) (.slice (some ⟨bb, o, none⟩) L.length cap) (.int .i64 m) (.int .i64 b)
    exact bodyPost_ret (v := .tuple #[.agg #[.slice (some ⟨bb, o, none⟩) L.length cap, .int .i64 m, .int .i64 b], .int .i64 22]) (by simp [results, Tryz.results15, go_sem, c0, c1, c2]) rfl ⟨⟨_, _, rfl, nodes_put3 (HM.out _ HB8.out) HRX.out _ _ _⟩, hBF⟩
  have hwi' : (dv && wv) = false := by simpa using hwi
  rw [hwi']
  have HGO : Hid (dirB L (kn : Int) = true ∧ withinB L L.length (to : Int) (kn : Int) = true → False) := Lib.hid (by rw [HDV.out, HWV.out]; rintro ⟨h1, h2⟩; rw [h1, h2] at hwi'; cases hwi')
  have hz2 := HZ5.out
  rw [if_neg (by revert hwi; cases dv <;> cases wv <;> simp)] at hz2
  clear hwi hwi' HZ5
  obtain ⟨kz, hkz⟩ : ∃ v, kidL L (to : Int) last = v := ⟨_, rfl⟩
  rw [hkz] at hz2
  have HKZ := Lib.hid hkz
  have HZ5 := Lib.hid hz2
  clear hz2 hkz
  go_wp2_with fail
  refine (rkid_known _ _ _ _ _ _ L _ HKZ.out _ (HM.out _ HB8.out)).mono ?_
  rintro e w9 ⟨rfl, hb9⟩
  have HB9 := Lib.hid (HB8.out.trans (hb9.mono HB8.out.size))
  clear hb9
  clear HRX r0 r1 r2 s0 s1 s2 hrl q0 q1 q2 hq
  obtain ⟨hRx, q0, q1, q2⟩ := HX.out _ HB9.out
  have HRX := Lib.hid hRx
  have hq := cell_lt q0
  have r0 := blk_cell hRx 0
  have r1 := blk_cell hRx 1
  have r2 := blk_cell hRx 2
  have s0 := blk_free hRx 0
  have s1 := blk_free hRx 1
  have s2 := blk_free hRx 2
  have hrl := lt_of_block hRx
  clear hRx
  have hz2 := HZ5.out
  unfold placeW at hz2
  by_cases h3 : kz = (kn : Int)
  · rw [if_pos h3] at hz2
    subst h3
    simp only [Prod.mk.injEq] at hz2
    obtain ⟨rfl, rfl⟩ := hz2
    go_wp2_with fail
    change bodyPost _ _ _ _ _ (put3 w9 (w.heap.size + 1) (.slice (some ⟨bb, o, none⟩) L.length cap) (.int .i64 m) (.int .i64 b))
    obtain ⟨c0, c1, c2⟩ := put3_cells HRX.out (.slice (some ⟨bb, o, none⟩) L.length cap) (.int .i64 m) (.int .i64 b)
    have hBF := put3_below (HB2.out.trans (HB9.out.mono (by omega))) (show w.heap.size ≤ w.heap.size + 1 by omega) (.slice (some ⟨bb, o, none⟩) L.length cap) (.int .i64 m) (.int .i64 b)
    exact bodyPost_ret (v := .tuple #[.agg #[.slice (some ⟨bb, o, none⟩) L.length cap, .int .i64 m, .int .i64 b], .int .i64 0]) (by simp [results, Tryz.results15, go_sem, c0, c1, c2]) rfl ⟨⟨_, _, rfl, nodes_put3 (HM.out _ HB9.out) HRX.out _ _ _⟩, hBF⟩
  have h3b : (kz == (kn : Int)) = false := by simpa using h3
  rw [if_neg h3] at hz2
  have HZ6 := Lib.hid hz2
  have HK3 := Lib.hid h3
  obtain ⟨hm1, hm2⟩ := moves_of HNA.out htl HTD.out HNV.out HGO.out
  have HM1 := Lib.hid hm1
  have HM2 := Lib.hid hm2
  clear hz2 h3 hm1 hm2
  go_wp2_with fail
  refine (rown6 _ _ _ _ L HF.out _ (HM.out _ HB9.out)).mono ?_
  rintro e w10 ⟨g, cap', vs, rfl, hR10, hg10, hb10⟩
  have HR10 := Lib.hid hR10
  have hgl := hR10.nodes.lt
  have hs9 := HB9.out.size
  have hs10 := hb10.size
  clear hR10
  have HB10 := Lib.hid (HB9.out.trans (hb10.mono HB9.out.size))
  clear hb10
  clear HRX r0 r1 r2 s0 s1 s2 hrl q0 q1 q2 hq
  obtain ⟨hRx, q0, q1, q2⟩ := HX.out _ HB10.out
  have HRX := Lib.hid hRx
  have hq := cell_lt q0
  have r0 := blk_cell hRx 0
  have r1 := blk_cell hRx 1
  have r2 := blk_cell hRx 2
  have s0 := blk_free hRx 0
  have s1 := blk_free hRx 1
  have s2 := blk_free hRx 2
  have hrl := lt_of_block hRx
  clear hRx
  obtain ⟨w11, hw11⟩ : ∃ p, p = w10.alloc (.cells #[.slice (some ⟨g, 0, none⟩) L.length cap', .int .i64 m, .int .i64 b] 24) := ⟨_, rfl⟩
  have hb11 : Below w10.heap.size w10 w11 := by rw [hw11]; exact below_box w10 _
  have hs11 : w11.heap.size = w10.heap.size + 1 := by rw [hw11]; simp
  have HU11 := Lib.hid (show w11.heap[w10.heap.size]? = some (.cells #[.slice (some ⟨g, 0, none⟩) L.length cap', .int .i64 m, .int .i64 b] 24 (0, 0)) by rw [hw11]; exact new_block w10 _)
  have HR11 := Lib.hid (HR10.out.below hb11)
  obtain ⟨bb', o', e1, hx⟩ := (HM.out _ (HB10.out.trans (hb11.mono HB10.out.size))).2.2 to htl
  obtain ⟨rfl, rfl⟩ : bb = bb' ∧ o = o' := by simpa using e1
  obtain ⟨kv, x4, ka, kc, rfl, hkc, hkm, -⟩ := hx.kids
  unfold maxLen at hkm
  have hxl := cell_lt x4
  clear hx e1
  go_upto_if 86 with fail
  rw [← hw11]
  clear hw11
  go_cut [] from 18 (fun wx => ∃ L0 vs0, L0.length = L.length ∧ RefT wx g cap' L0 vs0 ∧ Moves L0 m b d kn to s last ∧ moveL L0 d kn to s last = L' ∧ er = 0 ∧ wx.heap[w10.heap.size]? = some (.cells #[.slice (some ⟨g, 0, none⟩) L0.length cap', .int .i64 m, .int .i64 b] 24 (0, 0)) ∧ wx.heap[w.heap.size + 1]? = some (.cells #[.slice none 0 0, .int .i64 0, .int .i64 0] 24 (0, 0)) ∧ Below w.heap.size w wx ∧ g < wx.heap.size ∧ w10.heap.size < wx.heap.size)
  case first =>
    have HB11 := Lib.hid (HB10.out.trans (hb11.mono HB10.out.size))
    clear hb11
    clear HRX r0 r1 r2 s0 s1 s2 hrl q0 q1 q2 hq
    obtain ⟨hRx, q0, q1, q2⟩ := HX.out _ HB11.out
    have HRX := Lib.hid hRx
    have hq := cell_lt q0
    have r0 := blk_cell hRx 0
    have r1 := blk_cell hRx 1
    have r2 := blk_cell hRx 2
    have s0 := blk_free hRx 0
    have s1 := blk_free hRx 1
    have s2 := blk_free hRx 2
    have hrl := lt_of_block hRx
    clear hRx
    have ht0 : (0 : Int) ≤ (to : Int) := by omega
    have ht1 : (to : Int) < (L.length : Int) := by omega
    have hz2 := HZ6.out
    by_cases h4 : 0 ≤ kz
    · rw [if_pos h4] at hz2
      obtain ⟨tn, htn, htnl⟩ := there_nat (live_there (kid_live HF.out (show 0 ≤ kidL L (to : Int) last by rw [HKZ.out]; exact h4)))
      have htn' : kz = (tn : Int) := by rw [← HKZ.out, htn]
      subst htn'
      obtain ⟨oe, hoe⟩ : ∃ v, overW L cwd (kn : Int) (tn : Int) = v := ⟨_, rfl⟩
      rw [hoe] at hz2
      have HOE := Lib.hid hoe
      have HZ7 := Lib.hid hz2
      clear hz2 hoe htn
      go_wp2_with fail
      clear x4 hxl
      refine (rover6 _ _ _ _ _ L kn tn hkl htnl _ HOE.out _ (HM.out _ HB11.out)).mono ?_
      rintro e w12 ⟨rfl, hb12⟩
      have hs12 := hb12.size
      have HR12 := Lib.hid (HR11.out.below hb12)
      have HU12 := Lib.hid ((hb12.block w10.heap.size (by omega)).trans HU11.out)
      have HB12 := Lib.hid (HB11.out.trans (hb12.mono HB11.out.size))
      clear hb12
      clear HRX r0 r1 r2 s0 s1 s2 hrl q0 q1 q2 hq
      obtain ⟨hRx, q0, q1, q2⟩ := HX.out _ HB12.out
      have HRX := Lib.hid hRx
      have hq := cell_lt q0
      have r0 := blk_cell hRx 0
      have r1 := blk_cell hRx 1
      have r2 := blk_cell hRx 2
      have s0 := blk_free hRx 0
      have s1 := blk_free hRx 1
      have s2 := blk_free hRx 2
      have hrl := lt_of_block hRx
      clear hRx
      have hz2 := HZ7.out
      by_cases h5 : oe = 0
      case neg =>
        rw [if_pos h5] at hz2
        have hb5 : (oe != 0) = true := by simpa using h5
        simp only [Prod.mk.injEq] at hz2
        obtain ⟨rfl, rfl⟩ := hz2
        go_wp2_with fail
        change bodyPost _ _ _ _ _ (put3 w12 (w.heap.size + 1) (.slice (some ⟨bb, o, none⟩) L.length cap) (.int .i64 m) (.int .i64 b))
        obtain ⟨c0, c1, c2⟩ := put3_cells HRX.out (.slice (some ⟨bb, o, none⟩) L.length cap) (.int .i64 m) (.int .i64 b)
        have hBF := put3_below (HB2.out.trans (HB12.out.mono (by omega))) (show w.heap.size ≤ w.heap.size + 1 by omega) (.slice (some ⟨bb, o, none⟩) L.length cap) (.int .i64 m) (.int .i64 b)
        exact bodyPost_ret (v := .tuple #[.agg #[.slice (some ⟨bb, o, none⟩) L.length cap, .int .i64 m, .int .i64 b], .int .i64 oe]) (by simp [results, Tryz.results15, go_sem, c0, c1, c2]) rfl ⟨⟨_, _, rfl, nodes_put3 (HM.out _ HB12.out) HRX.out _ _ _⟩, hBF⟩
      subst h5
      rw [if_neg (by simp)] at hz2
      simp only [Int.toNat_natCast, Prod.mk.injEq] at hz2
      obtain ⟨hL2, rfl⟩ := hz2
      have hTK := over_takes HF.out htl htnl HKZ.out HOE.out
      have HMV2 := Lib.hid (HM2.out tn hTK (fun e => HK3.out (by rw [e])))
      have HTK := Lib.hid hTK
      have HL2 := Lib.hid hL2
      have u0 := blk_cell HU12.out 0
      have u1 := blk_cell HU12.out 1
      have u2 := blk_cell HU12.out 2
      have hul := lt_of_block HU12.out
      clear hTK hL2
      go_wp2_with fail
      clear u0 u1 u2 hul
      refine (rgone_any g cap' to tn m b last L vs HTK.out.dlt HTK.out.klt HTK.out.ne (HTK.out.fit.ins to HTK.out.dlt).2.1 (takes_links HTK.out).1 (takes_links HTK.out).2 _ HR12.out).mono ?_
      rintro e w13 ⟨rfl, ⟨vs13, hR13⟩, hO13⟩
      have hs13 := hO13.size
      go_wp2_with fail
      go_meet
      refine ⟨goneL L to tn last, vs13, gone_len _ _ _ _, hR13, HMV2.out, HL2.out, (by simp), ?_, (hO13.block (w.heap.size + 1) (by omega) (by omega)).trans HRX.out, (HB2.out.trans (HB12.out.mono (by omega))).trans (hO13.below (by omega) (by omega)), by omega, by omega⟩
      rw [gone_len]
      exact (hO13.block w10.heap.size (by omega) (by omega)).trans HU12.out
    · rw [if_neg h4] at hz2
      by_cases h6 : 1024 ≤ L[to].kids.length
      · rw [node_nat L to htl, if_pos h6] at hz2
        have h6i : (1024 : Int) ≤ (L[to].kids.length : Int) := by omega
        simp only [Prod.mk.injEq] at hz2
        obtain ⟨rfl, rfl⟩ := hz2
        go_wp2_with fail
        change bodyPost _ _ _ _ _ (put3 w11 (w.heap.size + 1) (.slice (some ⟨bb, o, none⟩) L.length cap) (.int .i64 m) (.int .i64 b))
        obtain ⟨c0, c1, c2⟩ := put3_cells HRX.out (.slice (some ⟨bb, o, none⟩) L.length cap) (.int .i64 m) (.int .i64 b)
        have hBF := put3_below (HB2.out.trans (HB11.out.mono (by omega))) (show w.heap.size ≤ w.heap.size + 1 by omega) (.slice (some ⟨bb, o, none⟩) L.length cap) (.int .i64 m) (.int .i64 b)
        exact bodyPost_ret (v := .tuple #[.agg #[.slice (some ⟨bb, o, none⟩) L.length cap, .int .i64 m, .int .i64 b], .int .i64 28]) (by simp [results, Tryz.results15, go_sem, c0, c1, c2]) rfl ⟨⟨_, _, rfl, nodes_put3 (HM.out _ HB11.out) HRX.out _ _ _⟩, hBF⟩
      rw [node_nat L to htl, if_neg h6] at hz2
      have h6i : ¬ (1024 : Int) ≤ (L[to].kids.length : Int) := by omega
      simp only [Int.toNat_natCast, Prod.mk.injEq] at hz2
      obtain ⟨hL2, rfl⟩ := hz2
      have HMV2 := Lib.hid (HM1.out (by rw [HKZ.out]; omega) (by omega))
      have HL2 := Lib.hid hL2
      clear hL2
      go_wp2_with fail
      go_meet
      exact ⟨L, vs, rfl, HR11.out, HMV2.out, HL2.out, (by simp), HU11.out, HRX.out, HB2.out.trans (HB11.out.mono (by omega)), by omega, by omega⟩
  case rest =>
  obtain ⟨L0, vs0, -, hrt, hmv, hml, rfl, hub, hrb, hwb, hgw, huw⟩ := hcut
  obtain ⟨wt, hwt⟩ : ∃ X, X = wc := ⟨_, rfl⟩
  rw [← hwt] at hrt hub hrb hwb hgw huw ⊢
  clear hwt
  have HL0 := Lib.hid hml
  have HMVS := Lib.hid hmv
  have HRT := Lib.hid hrt
  have HUB := Lib.hid hub
  have HRB := Lib.hid hrb
  have HWB := Lib.hid hwb
  clear hrt hmv hml hub hrb hwb HR11 HU11 HZ6 HM1 HM2 x4 hxl hb11
  clear HRX r0 r1 r2 s0 s1 s2 hrl q0 q1 q2 hq
  have hdl0 : d < L0.length := HMVS.out.dlt
  have hkl0 : kn < L0.length := HMVS.out.klt
  have htl0 : to < L0.length := HMVS.out.tlt
  have ht0 : (0 : Int) ≤ (to : Int) := by omega
  have hd0 : (0 : Int) ≤ (d : Int) := by omega
  have hd1 : (d : Int) < (L0.length : Int) := by omega
  have hk1 : (kn : Int) < (L0.length : Int) := by omega
  have ht1' : (to : Int) < (L0.length : Int) := by omega
  have hkidl : L0[d].kids.length ≤ 1024 := (HMVS.out.fit.ins d hdl0).2.1
  obtain ⟨v, hn, hki, hfr⟩ := HRT.out.node hdl0
  obtain ⟨ka0, kc0, hv, -⟩ := id hki
  subst hv
  have HI := Lib.hid (show ∀ W, Below wt.heap.size wt W → Calls Tryz.prog 53 #[.slice ka0 L0[d].kids.length kc0, .string ⟨s.toArray⟩] W fun e w' => ∃ v', e = .returned v' ∧ KidsOwn w' W.heap.size v' (withoutL L0[d].kids s) ∧ Below W.heap.size W w' from fun W hW => rwithout_any _ L0[d].kids (by omega) s W (hki.below hW))
  have HST := Lib.hid (show ∀ w5, Below wt.heap.size wt w5 → w5.cell? ⟨g, d * 6 + 4, none⟩ = some (.slice ka0 L0[d].kids.length kc0) ∧ w5.frozen? ⟨g, d * 6 + 4, none⟩ = false ∧ w5.cell? ⟨w10.heap.size, 0, none⟩ = some (.slice (some ⟨g, 0, none⟩) L0.length cap') from fun w5 h5 => ⟨cell_below h5 hn.kids, (HRT.out.nodes.below h5).free _, blk_cell ((h5.block _ huw).trans HUB.out) 0⟩)
  have HQ := Lib.hid (show ∀ w5 v, KidsOwn w5 wt.heap.size v (withoutL L0[d].kids s) → Below wt.heap.size wt w5 → ∃ vs', RefT (w5.setCell ⟨g, d * 6 + 4, none⟩ v) g cap' (moveD L0 d s) vs' ∧ Off g wt (w5.setCell ⟨g, d * 6 + 4, none⟩ v) from fun w5 v h1 h2 => by
    have hdv : d < vs0.length := by rw [HRT.out.nodes.len]; exact hdl0
    have h3 := HRT.out.setKids hdl0 hdv h1 h2
    refine ⟨vs0.set d v, ?_, (Off.of_below h2).set _ _⟩
    unfold moveD
    rw [node_nat L0 d hdl0]
    exact h3)
  obtain ⟨z4, zf, z0⟩ := HST.out wt (Below.refl _ _)
  have hzl := cell_lt z4
  have htl' := cell_lt z0
  clear hn hki hfr
  go_upto_region 26 with fail
  go_cut [] from 18 (fun wx => ∃ vs1, RefT wx g cap' (moveD L0 d s) vs1 ∧ Off g wt wx)
  case first =>
    go_region_with (first | (go_at_call 53; refine (HI.out _ ?_).mono ?_; (exact ⟨rfl, rfl, rfl, Nat.le_refl _, fun _ _ => rfl⟩); rintro e y1 ⟨v', rfl, hk5, hb5⟩; obtain ⟨va, vc, rfl⟩ := hk5.form; have HB5y : Hid (Below wt.heap.size wt y1) := Lib.hid ⟨hb5.os, hb5.tape, hb5.output, hb5.size, hb5.block⟩; have HK5 : Hid (KidsOwn y1 wt.heap.size (.slice va (withoutL L0[d].kids s).length vc) (withoutL L0[d].kids s)) := Lib.hid hk5; obtain ⟨z4', zf', z0'⟩ := HST.out y1 HB5y.out; have hzl' := cell_lt z4'; have htl' := cell_lt z0'; clear hk5 hb5))
    all_goals
      obtain ⟨vs1, hR1, hO1⟩ := HQ.out y1 _ HK5.out HB5y.out
      go_wp2_with fail
      go_meet
      exact ⟨vs1, hR1, hO1⟩
  case rest =>
  obtain ⟨vs1, hR1, hO1⟩ := hcut
  clear z4 zf z0 hzl htl'
  obtain ⟨y2, hy2⟩ : ∃ X, X = wc := ⟨_, rfl⟩
  rw [← hy2] at hR1 hO1 ⊢
  clear hy2
  have hs2y := hO1.size
  have HUB2 := Lib.hid ((hO1.block w10.heap.size (by omega) huw).trans HUB.out)
  have HRB2 := Lib.hid ((hO1.block (w.heap.size + 1) (by omega) (lt_of_block HRB.out)).trans HRB.out)
  have HWB2 := Lib.hid (HWB.out.trans (hO1.below (by omega) HWB.out.size))
  obtain ⟨L1, hL1e⟩ : ∃ X, X = moveD L0 d s := ⟨_, rfl⟩
  rw [← hL1e] at hR1
  have HR1 := Lib.hid hR1
  have hl1 : L1.length = L0.length := by rw [hL1e]; unfold moveD; rw [List.length_set]
  have htl1 : to < L1.length := by omega
  obtain ⟨K1, hK1⟩ : ∃ X, X = L1[to].kids := ⟨_, rfl⟩
  have hK1e : K1 = if d = to then withoutL L0[to].kids s else L0[to].kids := by
    rw [hK1, ← moved_kids hdl0 htl0]
    congr 1
    exact getElem_congr_coll hL1e
  have HNEW := Lib.hid (show ∀ e ∈ K1, e.1 ≠ last by rw [hK1e]; exact HMVS.out.mid)
  have hK1l : K1.length ≤ 4096 := by
    have h1 := (HMVS.out.fit.ins to htl0).2.1
    have h2 := mid_le L0[to].kids d to s
    rw [← hK1e] at h2
    omega
  obtain ⟨v2, hn2, hki2, hfr2⟩ := hR1.node htl1
  rw [← hK1] at hki2
  obtain ⟨ka2, kc2, hv2, -⟩ := id hki2
  subst hv2
  have HI2 := Lib.hid (show ∀ W, Below y2.heap.size y2 W → Calls Tryz.prog 54 #[.slice ka2 K1.length kc2, .string ⟨last.toArray⟩, .int .i64 kn] W fun e w' => ∃ v', e = .returned v' ∧ KidsOwn w' W.heap.size v' (namedL K1 last kn) ∧ Below W.heap.size W w' from fun W hW => rnamed_any _ K1 hK1l last kn HNEW.out W (hki2.below hW))
  have huw2 : w10.heap.size < y2.heap.size := by omega
  have HST2 := Lib.hid (show ∀ w5, Below y2.heap.size y2 w5 → w5.cell? ⟨g, to * 6 + 4, none⟩ = some (.slice ka2 K1.length kc2) ∧ w5.frozen? ⟨g, to * 6 + 4, none⟩ = false ∧ w5.cell? ⟨w10.heap.size, 0, none⟩ = some (.slice (some ⟨g, 0, none⟩) L0.length cap') from fun w5 h5 => ⟨cell_below h5 hn2.kids, (HR1.out.nodes.below h5).free _, blk_cell ((h5.block _ huw2).trans HUB2.out) 0⟩)
  have HQ2 := Lib.hid (show ∀ w5 v, KidsOwn w5 y2.heap.size v (namedL K1 last kn) → Below y2.heap.size y2 w5 → ∃ vs', RefT (w5.setCell ⟨g, to * 6 + 4, none⟩ v) g cap' (moveT L1 to kn last) vs' ∧ Off g y2 (w5.setCell ⟨g, to * 6 + 4, none⟩ v) from fun w5 v h1 h2 => by
    have hdv : to < vs1.length := by rw [HR1.out.nodes.len]; exact htl1
    have h3 := HR1.out.setKids htl1 hdv h1 h2
    refine ⟨vs1.set to v, ?_, (Off.of_below h2).set _ _⟩
    unfold moveT
    rw [node_nat L1 to htl1, ← hK1]
    exact h3)
  obtain ⟨z4, zf, z0⟩ := HST2.out y2 (Below.refl _ _)
  have hzl := cell_lt z4
  have htl' := cell_lt z0
  have HL1E := Lib.hid hL1e
  have HL1 := Lib.hid hl1
  clear hn2 hki2 hfr2 hR1 hO1 HI HST HQ HRT HUB HRB HWB hK1 hK1e hL1e hl1 hK1l
  go_upto_region 27 with fail
  go_cut [] from 18 (fun wx => ∃ vs2, RefT wx g cap' (moveT L1 to kn last) vs2 ∧ Off g y2 wx)
  case first =>
    go_region_with (first | (go_at_call 54; refine (HI2.out _ ?_).mono ?_; (exact ⟨rfl, rfl, rfl, Nat.le_refl _, fun _ _ => rfl⟩); rintro e y3 ⟨v', rfl, hk7, hb7⟩; obtain ⟨ya, yc, rfl⟩ := hk7.form; have HB7y : Hid (Below y2.heap.size y2 y3) := Lib.hid ⟨hb7.os, hb7.tape, hb7.output, hb7.size, hb7.block⟩; have HK7 : Hid (KidsOwn y3 y2.heap.size (.slice ya (namedL K1 last kn).length yc) (namedL K1 last kn)) := Lib.hid hk7; obtain ⟨z4', zf', z0'⟩ := HST2.out y3 HB7y.out; have hzl' := cell_lt z4'; have htl' := cell_lt z0'; clear hk7 hb7))
    all_goals
      obtain ⟨vs2, hR2, hO2⟩ := HQ2.out y3 _ HK7.out HB7y.out
      go_wp2_with fail
      go_meet
      exact ⟨vs2, hR2, hO2⟩
  case rest =>
  obtain ⟨vs2, hR2, hO2⟩ := hcut
  clear z4 zf z0 hzl htl'
  obtain ⟨y4, hy4⟩ : ∃ X, X = wc := ⟨_, rfl⟩
  rw [← hy4] at hR2 hO2 ⊢
  clear hy4
  have hs4y := hO2.size
  have HUB4 := Lib.hid ((hO2.block w10.heap.size (by omega) huw2).trans HUB2.out)
  have HRB4 := Lib.hid ((hO2.block (w.heap.size + 1) (by omega) (lt_of_block HRB2.out)).trans HRB2.out)
  have HWB4 := Lib.hid (HWB2.out.trans (hO2.below (by omega) HWB2.out.size))
  obtain ⟨L2, hL2e⟩ : ∃ X, X = moveT L1 to kn last := ⟨_, rfl⟩
  rw [← hL2e] at hR2
  have HR2 := Lib.hid hR2
  have hl2 : L2.length = L0.length := by rw [hL2e]; unfold moveT; rw [List.length_set]; exact HL1.out
  have hkl2 : kn < L2.length := by omega
  obtain ⟨d2, hd2⟩ : ∃ v, dirB L2 (kn : Int) = v := ⟨_, rfl⟩
  have HD2 := Lib.hid hd2
  have hcd := fun W hN => risdir6 (some ⟨g, 0, none⟩) cap' m b kn L2 hkl2 d2 HD2.out W hN
  rw [hl2] at hcd
  have HCD := Lib.hid hcd
  have HMOV := Lib.hid (show upAt L2 kn to = L' by rw [← HL0.out, hL2e, HL1E.out]; rfl)
  have u0 := blk_cell HUB4.out 0
  have u1 := blk_cell HUB4.out 1
  have u2 := blk_cell HUB4.out 2
  have hul := lt_of_block HUB4.out
  have HLL2 := Lib.hid hl2
  clear hR2 hO2 HI2 HST2 HQ2 HR1 HUB2 HRB2 HWB2 hd2 hcd hL2e hl2
  go_wp2_with fail
  clear u0 u1 u2 hul
  refine (HCD.out _ HR2.out.nodesIn).mono ?_
  rintro e y5 ⟨rfl, hb5y⟩
  have hs5y := hb5y.size
  have HUB5 := Lib.hid ((hb5y.block w10.heap.size (by omega)).trans HUB4.out)
  have hRX5 := (hb5y.block (w.heap.size + 1) (lt_of_block HRB4.out)).trans HRB4.out
  have HRX := Lib.hid hRX5
  have r0 := blk_cell hRX5 0
  have r1 := blk_cell hRX5 1
  have r2 := blk_cell hRX5 2
  have s0 := blk_free hRX5 0
  have s1 := blk_free hRX5 1
  have s2 := blk_free hRX5 2
  have hrl := lt_of_block hRX5
  have HR5 := Lib.hid (HR2.out.below hb5y)
  have HWB5 := Lib.hid (HWB4.out.trans (hb5y.mono HWB4.out.size))
  have u0 := blk_cell HUB5.out 0
  have u1 := blk_cell HUB5.out 1
  have u2 := blk_cell HUB5.out 2
  have hul := lt_of_block HUB5.out
  have hLl : L'.length = L0.length := by rw [← HMOV.out, up_len]; exact HLL2.out
  clear hb5y hRX5 HRB4 HUB4 HR2
  have hmz := HMOV.out
  unfold upAt at hmz
  cases d2 with
  | true =>
    have hk2 : (nodeAt L2 (kn : Int)).kind = 2 := by rw [node_nat L2 kn hkl2]; exact (dir_nat hkl2).1 HD2.out
    rw [if_pos hk2, node_nat L2 kn hkl2] at hmz
    obtain ⟨v6, hn6, -, hf6⟩ := HR5.out.node hkl2
    have x5 := hn6.up
    have xf := hf6 (kn * 6 + 5)
    have hx5 := cell_lt x5
    have HR6 := Lib.hid (HR5.out.setUp hkl2 (to : Int))
    rw [hmz] at HR6
    have hne1 : ¬ (w10.heap.size = g) := by omega
    have hne2 : ¬ (w.heap.size + 1 = g) := by omega
    have HRX6 := Lib.hid ((Below.heap_setCell y5 ⟨g, kn * 6 + 5, none⟩ (.int .i64 to) (w.heap.size + 1) hne2).trans HRX.out)
    have HWB6 := Lib.hid (show Below w.heap.size w (y5.setCell ⟨g, kn * 6 + 5, none⟩ (.int .i64 to)) from HWB5.out.setCell (by show w.heap.size ≤ g; omega) _)
    clear hn6 hf6 hk2 hmz
    go_wp2_with fail
    change bodyPost _ _ _ _ _ (put3 (y5.setCell ⟨g, kn * 6 + 5, none⟩ (.int .i64 to)) (w.heap.size + 1) (.slice (some ⟨g, 0, none⟩) L0.length cap') (.int .i64 m) (.int .i64 b))
    obtain ⟨c0, c1, c2⟩ := put3_cells HRX6.out (.slice (some ⟨g, 0, none⟩) L0.length cap') (.int .i64 m) (.int .i64 b)
    exact bodyPost_ret (v := .tuple #[.agg #[.slice (some ⟨g, 0, none⟩) L'.length cap', .int .i64 m, .int .i64 b], .int .i64 0]) (by simp [results, Tryz.results15, go_sem, c0, c1, c2, hLl]) rfl ⟨⟨_, _, rfl, nodes_put3 HR6.out.nodesIn HRX6.out _ _ _⟩, put3_below HWB6.out (by omega) _ _ _⟩
  | false =>
    have hk2 : ¬ (nodeAt L2 (kn : Int)).kind = 2 := by
      rw [node_nat L2 kn hkl2]
      intro e
      have h := (dir_nat hkl2).2 e
      rw [HD2.out] at h
      cases h
    rw [if_neg hk2] at hmz
    have hNf := HR5.out.nodesIn
    rw [hmz] at hNf
    have HNF := Lib.hid hNf
    clear hk2 hmz hNf
    go_wp2_with fail
    change bodyPost _ _ _ _ _ (put3 y5 (w.heap.size + 1) (.slice (some ⟨g, 0, none⟩) L0.length cap') (.int .i64 m) (.int .i64 b))
    obtain ⟨c0, c1, c2⟩ := put3_cells HRX.out (.slice (some ⟨g, 0, none⟩) L0.length cap') (.int .i64 m) (.int .i64 b)
    exact bodyPost_ret (v := .tuple #[.agg #[.slice (some ⟨g, 0, none⟩) L'.length cap', .int .i64 m, .int .i64 b], .int .i64 0]) (by simp [results, Tryz.results15, go_sem, c0, c1, c2, hLl]) rfl ⟨⟨_, _, rfl, nodes_put3 HNF.out HRX.out _ _ _⟩, put3_below HWB5.out (by omega) _ _ _⟩
end Go.Proofs.YtmaiphibpdngnaaGreat
