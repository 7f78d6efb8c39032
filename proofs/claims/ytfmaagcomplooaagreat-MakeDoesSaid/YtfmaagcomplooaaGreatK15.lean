/-
  The reference's Chmod, of chapter 5.
-/
import Derived.Test.YtfmaagcomplooaaGreatK13
import Derived.Test.YtfmaagcomplooaaGreatWRefTop
namespace Go.Proofs.YtfmaagcomplooaaGreat
set_option maxRecDepth 100000
open Go Go.RowKit

set_option maxHeartbeats 8000000 in
theorem rchmod_any (a : Option Addr) (cap : Nat) (m b cwd q : Int) (pb : ByteArray) (hp : pb.size ≤ 1073741824) (L : List Ino) (hF : FitP L m b) (L' : List Ino) (er : Int) (hz : chmodW L cwd pb.data.toList q = (L', er)) (w : World) (hN : NodesIn w a cap L) :
    Calls Tryz.prog 16 #[.agg #[.slice a L.length cap, .int .i64 m, .int .i64 b], .int .i64 cwd, .string pb, .int .i64 q] w (RefAns w m b L' [.int .i64 er]) := by
  have hL0 : 0 < L.length := by have := hF.limits; obtain ⟨_, _, _, _, _⟩ := this; omega
  obtain ⟨vs, hvsl, hone, hkk, hcell⟩ := nodes_open hN
  obtain ⟨bb, o, rfl, hx0⟩ := hN.2.2 0 hL0
  have HCELL := Lib.hid (show ∀ j u, (nodeC L vs)[j]? = some u → w.cell? ⟨bb, o + j, none⟩ = some u from fun j u hj => by
    obtain ⟨b', o', e, hc⟩ := hcell j u hj
    cases e
    exact hc)
  have HKK := Lib.hid hkk
  have HCAP := Lib.hid (show L.length ≤ cap ∧ cap ≤ maxLen from ⟨hN.1, hN.2.1⟩)
  clear hcell hkk hx0
  obtain ⟨w2, hw2, hb2, hs2, hA, hB⟩ := two_boxes w #[.slice (some ⟨bb, o, none⟩) L.length cap, .int .i64 m, .int .i64 b] #[.slice none 0 0, .int .i64 0, .int .i64 0] 24 24
  obtain ⟨l1, l2, l3, l4, l5⟩ := hF.limits
  have HX := Lib.hid (show ∀ W, Below w2.heap.size w2 W → W.cell? ⟨w.heap.size, 0, none⟩ = some (.slice (some ⟨bb, o, none⟩) L.length cap) ∧ W.cell? ⟨w.heap.size, 1, none⟩ = some (.int .i64 m) ∧ W.cell? ⟨w.heap.size, 2, none⟩ = some (.int .i64 b) from fun W hW => by
    have h := (hW.block w.heap.size (by omega)).trans hA
    exact ⟨blk_cell h 0, blk_cell h 1, blk_cell h 2⟩)
  have HR := Lib.hid (show ∀ W, Below w2.heap.size w2 W → W.heap[w.heap.size + 1]? = some (.cells #[.slice none 0 0, .int .i64 0, .int .i64 0] 24 (0, 0)) from fun W hW => (hW.block _ (by omega)).trans hB)
  have HM := Lib.hid (show ∀ W, Below w2.heap.size w2 W → NodesIn W (some ⟨bb, o, none⟩) cap L from fun W hW => hN.below (hb2.trans (hW.mono (by omega))))
  have HN0 := Lib.hid hN
  have HB2 := Lib.hid hb2
  have HZ := Lib.hid hz
  have HF := Lib.hid hF
  have HBW2 := Lib.hid (Below.refl w2.heap.size w2)
  clear hz hN hb2 hA hB hF
  cases hqv : modeB q with
  | false =>
    have HQ := Lib.hid hqv
    have hz2 := HZ.out
    unfold chmodW at hz2
    rw [if_pos hqv] at hz2
    simp only [Prod.mk.injEq] at hz2
    obtain ⟨rfl, rfl⟩ := hz2
    clear hqv
    go_enter Tryz.func16, Tryz.ntmps16
    obtain ⟨q0, q1, q2⟩ := HX.out _ HBW2.out
    have hq := cell_lt q0
    have hRx := HR.out _ HBW2.out
    have HRX := Lib.hid hRx
    have r0 := blk_cell hRx 0
    have r1 := blk_cell hRx 1
    have r2 := blk_cell hRx 2
    have s0 := blk_free hRx 0
    have s1 := blk_free hRx 1
    have s2 := blk_free hRx 2
    have hrl := lt_of_block hRx
    clear hRx
    go_wp2_with fail
    rw [← hw2]
    clear hw2
    refine (rmode5 _ _ HQ.out _).mono ?_
    rintro e w' ⟨rfl, rfl⟩
    go_wp2_with fail
    change bodyPost _ _ _ _ _ (put3 w2 (w.heap.size + 1) (.slice (some ⟨bb, o, none⟩) L.length cap) (.int .i64 m) (.int .i64 b))
    obtain ⟨c0, c1, c2⟩ := put3_cells HRX.out (.slice (some ⟨bb, o, none⟩) L.length cap) (.int .i64 m) (.int .i64 b)
    have hBF := put3_below (HB2.out.trans (HBW2.out.mono (by omega))) (show w.heap.size ≤ w.heap.size + 1 by omega) (.slice (some ⟨bb, o, none⟩) L.length cap) (.int .i64 m) (.int .i64 b)
    exact bodyPost_ret (v := .tuple #[.agg #[.slice (some ⟨bb, o, none⟩) L.length cap, .int .i64 m, .int .i64 b], .int .i64 22]) (by simp [results, Tryz.results16, go_sem, c0, c1, c2]) rfl ⟨⟨_, _, rfl, nodes_put3 (HM.out _ HBW2.out) HRX.out _ _ _⟩, hBF⟩
  | true =>
    have HQ := Lib.hid hqv
    have hz2 := HZ.out
    unfold chmodW at hz2
    rw [if_neg (by rw [hqv]; decide)] at hz2
    obtain ⟨⟨z, fe⟩, hf⟩ : ∃ r, walkW L cwd pb.data.toList true = r := ⟨_, rfl⟩
    rw [hf] at hz2
    have HWK := Lib.hid hf
    have HZ2 := Lib.hid hz2
    clear hqv hf hz2
    obtain ⟨q0, q1, q2⟩ := HX.out _ HBW2.out
    have hq := cell_lt q0
    go_enter Tryz.func16, Tryz.ntmps16
    go_wp2_with fail
    rw [← hw2]
    clear hw2
    refine (rmode5 _ _ HQ.out _).mono ?_
    rintro e w' ⟨rfl, rfl⟩
    go_wp2_with fail
    clear q0 q1 q2 hq
    have hwk := walk4_any (some ⟨bb, o, none⟩) cap m b cwd pb hp true L HF.out w2 (HM.out _ HBW2.out)
    rw [HWK.out] at hwk
    refine hwk.mono ?_
    rintro e w3 ⟨rfl, hb3⟩
    have HB3 := Lib.hid hb3
    have hs3 := hb3.size
    clear hb3 hwk
    obtain ⟨q0, q1, q2⟩ := HX.out _ HB3.out
    have hq := cell_lt q0
    have hRx := HR.out _ HB3.out
    have HRX := Lib.hid hRx
    have r0 := blk_cell hRx 0
    have r1 := blk_cell hRx 1
    have r2 := blk_cell hRx 2
    have s0 := blk_free hRx 0
    have s1 := blk_free hRx 1
    have s2 := blk_free hRx 2
    have hrl := lt_of_block hRx
    clear hRx
    by_cases h1 : fe = 0
    · subst h1
      have hz2 := HZ2.out
      rw [if_neg (by simp)] at hz2
      obtain ⟨k, hk, hzk, hk0⟩ := live_ino (walk_live HF.out (by rw [HWK.out]))
      rw [HWK.out] at hzk
      have hzk' : z = (k : Int) := hzk
      subst hzk'
      simp only [Int.toNat_natCast, Prod.mk.injEq] at hz2
      rw [node_nat L k hk] at hz2
      obtain ⟨hL2, rfl⟩ := hz2
      have HL2 := Lib.hid hL2
      clear hL2 hk0 hzk
      go_wp2_with fail
      clear q0 q1 q2 hq HRX r0 r1 r2 s0 s1 s2 hrl
      refine (rown_vs _ _ cap m b L vs hL0 (by omega) HCAP.out.1 HCAP.out.2 hvsl hone _ (fun j u hj => cell_below (HB2.out.trans (HB3.out.mono (by omega))) (HCELL.out j u hj))).mono ?_
      rintro e w5 ⟨g, cap', rfl, hN5, hg5, hb5⟩
      have hs5 := hb5.size
      have hkv : k < vs.length := by rw [hvsl]; exact hk
      have HN5 := Lib.hid hN5
      have HB5 := Lib.hid (HB3.out.trans (hb5.mono HB3.out.size))
      have n1 := (hN5.node k hk hkv).mode
      have f1 := hN5.free (k * 6 + 1)
      have hgl := hN5.lt
      have hk0 : (0 : Int) ≤ (k : Int) := by omega
      have hk1 : (k : Int) < (L.length : Int) := by omega
      clear hN5 hb5
      obtain ⟨q0, q1, q2⟩ := HX.out _ HB5.out
      have hq := cell_lt q0
      have hRx := HR.out _ HB5.out
      have HRX := Lib.hid hRx
      have r0 := blk_cell hRx 0
      have r1 := blk_cell hRx 1
      have r2 := blk_cell hRx 2
      have s0 := blk_free hRx 0
      have s1 := blk_free hRx 1
      have s2 := blk_free hRx 2
      have hrl := lt_of_block hRx
      clear hRx
      clear q0 q1 q2 hq
      go_wp2_with fail
      change bodyPost _ _ _ _ _ ((put3 (w5.setCell ⟨g, k * 6 + 1, none⟩ (.int .i64 q)) (w.heap.size + 1) (.slice (some ⟨g, 0, none⟩) L.length cap') (.int .i64 m) (.int .i64 b)).alloc (.cells #[.slice (some ⟨g, 0, none⟩) L.length cap', .int .i64 m, .int .i64 b] 24))
      have hRb := (Below.heap_setCell w5 ⟨g, k * 6 + 1, none⟩ (.int .i64 q) (w.heap.size + 1) (by show w.heap.size + 1 ≠ g; omega)).trans HRX.out
      have hPb := put3_block hRb (.slice (some ⟨g, 0, none⟩) L.length cap') (.int .i64 m) (.int .i64 b)
      have hNF : NodesOwn (put3 (w5.setCell ⟨g, k * 6 + 1, none⟩ (.int .i64 q)) (w.heap.size + 1) (.slice (some ⟨g, 0, none⟩) L.length cap') (.int .i64 m) (.int .i64 b)) g cap' L' (vs.set k vs[k]) := by
        have h := (HN5.out.setMode hk hkv q).same (W' := put3 (w5.setCell ⟨g, k * 6 + 1, none⟩ (.int .i64 q)) (w.heap.size + 1) (.slice (some ⟨g, 0, none⟩) L.length cap') (.int .i64 m) (.int .i64 b)) (put3_other (by omega) _ _ _)
        rw [← HL2.out]
        exact h
      have hBp : Below w.heap.size w (put3 (w5.setCell ⟨g, k * 6 + 1, none⟩ (.int .i64 q)) (w.heap.size + 1) (.slice (some ⟨g, 0, none⟩) L.length cap') (.int .i64 m) (.int .i64 b)) := put3_below ((HB2.out.trans (HB5.out.mono (by omega))).setCell (by show w.heap.size ≤ g; omega) _) (by omega) _ _ _
      generalize put3 (w5.setCell ⟨g, k * 6 + 1, none⟩ (.int .i64 q)) (w.heap.size + 1) (.slice (some ⟨g, 0, none⟩) L.length cap') (.int .i64 m) (.int .i64 b) = wp at *
      have hPl := lt_of_block hPb
      have hPb2 := (Below.heap_alloc wp (.cells #[.slice (some ⟨g, 0, none⟩) L.length cap', .int .i64 m, .int .i64 b] 24) (w.heap.size + 1) hPl).trans hPb
      have c0 := blk_cell hPb2 0
      have c1 := blk_cell hPb2 1
      have c2 := blk_cell hPb2 2
      have hBF : Below w.heap.size w (wp.alloc (.cells #[.slice (some ⟨g, 0, none⟩) L.length cap', .int .i64 m, .int .i64 b] 24)) := hBp.alloc hBp.size _
      have hNG := hNF.below (below_box wp (.cells #[.slice (some ⟨g, 0, none⟩) L.length cap', .int .i64 m, .int .i64 b] 24))
      have hLl : L'.length = L.length := by rw [← HL2.out, List.length_set]
      have hkids : NodesIn (wp.alloc (.cells #[.slice (some ⟨g, 0, none⟩) L.length cap', .int .i64 m, .int .i64 b] 24)) (some ⟨g, 0, none⟩) cap' L' := hNG.nodesIn fun i hi hv => by
        have hi2 : i < L.length := by rw [← hLl]; exact hi
        have h := (HKK.out i hi2 (by rw [hvsl]; exact hi2)).below hBF
        have e1 : (vs.set k vs[k])[i] = vs[i]'(by rw [hvsl]; exact hi2) := by
          rw [List.getElem_set]
          split
          · rename_i e; subst e; rfl
          · rfl
        have e2 : L'[i].kids = L[i].kids := by
          have e := HL2.out
          subst e
          rw [List.getElem_set]
          split
          · rename_i e; subst e; rfl
          · rfl
        rw [e1, e2]
        exact h
      generalize wp.alloc (.cells #[.slice (some ⟨g, 0, none⟩) L.length cap', .int .i64 m, .int .i64 b] 24) = wF at *
      refine bodyPost_ret (v := .tuple #[.agg #[.slice (some ⟨g, 0, none⟩) L'.length cap', .int .i64 m, .int .i64 b], .int .i64 0]) (by simp [results, Tryz.results16, go_sem, c0, c1, c2, hLl]) rfl ⟨⟨_, _, rfl, hkids⟩, hBF⟩
    · have hb1 : (fe != 0) = true := by simpa using h1
      have hz2 := HZ2.out
      rw [if_pos (by simpa using h1)] at hz2
      simp only [Prod.mk.injEq] at hz2
      obtain ⟨rfl, rfl⟩ := hz2
      go_wp2_with fail
      change bodyPost _ _ _ _ _ (put3 w3 (w.heap.size + 1) (.slice (some ⟨bb, o, none⟩) L.length cap) (.int .i64 m) (.int .i64 b))
      obtain ⟨c0, c1, c2⟩ := put3_cells HRX.out (.slice (some ⟨bb, o, none⟩) L.length cap) (.int .i64 m) (.int .i64 b)
      have hBF := put3_below (HB2.out.trans (HB3.out.mono (by omega))) (show w.heap.size ≤ w.heap.size + 1 by omega) (.slice (some ⟨bb, o, none⟩) L.length cap) (.int .i64 m) (.int .i64 b)
      exact bodyPost_ret (v := .tuple #[.agg #[.slice (some ⟨bb, o, none⟩) L.length cap, .int .i64 m, .int .i64 b], .int .i64 fe]) (by simp [results, Tryz.results16, go_sem, c0, c1, c2]) rfl ⟨⟨_, _, rfl, nodes_put3 (HM.out _ HB3.out) HRX.out _ _ _⟩, hBF⟩

end Go.Proofs.YtfmaagcomplooaaGreat
