/-
  Cut of the landed code: it answers what chapter 7 says.
-/
import Derived.Test.YtblmlgpajmaliaaBRow
import Derived.Test.YtblmlgpajmaliaaBSmall
import Derived.Test.YtblmlgpajmaliaaMkCopy
namespace Go.Proofs.Ytblmlgpajmaliaa
set_option maxRecDepth 100000
open Go Go.RowKit

theorem ref_zero {L : List Ino} {k least : Int} (h : refW L k least = 0) : fileW L k = 0 ∧ 0 ≤ least := by
  unfold refW at h
  by_cases h0 : fileW L k = 0
  · rw [if_neg (by simpa using h0)] at h
    by_cases h1 : least < 0
    · rw [if_pos h1] at h; exact absurd h (by decide)
    · exact ⟨h0, by omega⟩
  · rw [if_pos h0] at h; exact absurd h h0
theorem cut_ref (L : List Ino) (b k n : Int) : cutW L b k n = if refW L k n ≠ 0 then (L, refW L k n) else if 65536 < n then (L, 27) else filledW L b k.toNat (cutL (nodeAt L k).data n.toNat) := by
  unfold cutW refW
  by_cases h0 : fileW L k = 0
  · by_cases h1 : n < 0
    · simp [h0, h1]
    · simp [h0, h1]
  · simp [h0]

set_option maxHeartbeats 8000000 in
theorem lcut7 (a : Option Addr) (cap : Nat) (m b ino n : Int) (L : List Ino) (hF : FitP L m b) (L' : List Ino) (er : Int) (hz : cutW L b ino n = (L', er)) (w : World) (hN : NodesIn w a cap L) :
    Calls Try.prog 14 #[.agg #[.slice a L.length cap, .int .i64 m, .int .i64 b], .int .i64 ino, .int .i64 n] w (RefAns w m b L' [.int .i64 er]) := by
  obtain ⟨w2, hw2, hb2, hs2, hA, hB⟩ := two_boxes w #[.slice a L.length cap, .int .i64 m, .int .i64 b] #[.slice none 0 0, .int .i64 0, .int .i64 0] 24 24
  have HX := Lib.hid (show ∀ W, Below w2.heap.size w2 W → W.heap[w.heap.size + 1]? = some (.cells #[.slice none 0 0, .int .i64 0, .int .i64 0] 24 (0, 0)) ∧ W.cell? ⟨w.heap.size, 0, none⟩ = some (.slice a L.length cap) ∧ W.cell? ⟨w.heap.size, 1, none⟩ = some (.int .i64 m) ∧ W.cell? ⟨w.heap.size, 2, none⟩ = some (.int .i64 b) from fun W hW => by
    have h := (hW.block w.heap.size (by omega)).trans hA
    exact ⟨(hW.block _ (by omega)).trans hB, blk_cell h 0, blk_cell h 1, blk_cell h 2⟩)
  have HM := Lib.hid (show ∀ W, Below w2.heap.size w2 W → NodesIn W a cap L from fun W hW => hN.below (hb2.trans (hW.mono (by omega))))
  have HB2 := Lib.hid hb2
  have HF := Lib.hid hF
  have HK := Lib.hid (show ∀ x ∈ L, x.kids.length ≤ 4096 from fun x hx => by obtain ⟨j, hj, rfl⟩ := List.getElem_of_mem hx; have := (hF.ins j hj).2.1; omega)
  obtain ⟨l1, l2, l3, l4, l5⟩ := hF.limits
  have hz2 := hz
  rw [cut_ref] at hz2
  obtain ⟨rf, hrf⟩ : ∃ v, refW L ino n = v := ⟨_, rfl⟩
  rw [hrf] at hz2
  have HRF := Lib.hid hrf
  clear hz hN hb2 hA hB hF hrf
  obtain ⟨hRx, q0, q1, q2⟩ := HX.out _ (Below.refl _ _)
  have HRX := Lib.hid hRx
  have hq := cell_lt q0
  have r0 := blk_cell hRx 0
  have r1 := blk_cell hRx 1
  have r2 := blk_cell hRx 2
  have s0 := blk_free hRx 0
  have s1 := blk_free hRx 1
  have s2 := blk_free hRx 2
  have hrl := lt_of_block hRx
  clear hRx
  rw [hw2] at r0 r1 r2 s0 s1 s2 hrl q0 q1 q2 hq
  go_enter Try.func14, Try.ntmps14
  go_wp2_with fail
  rw [← hw2]
  clear HRX r0 r1 r2 s0 s1 s2 hrl q0 q1 q2 hq
  clear hw2
  refine (lcopied_any a cap m b L (by omega) (by omega) HK.out _ (HM.out _ (Below.refl _ _))).mono ?_
  rintro e w3 ⟨g, cap', vs, rfl, hO3, hb3⟩
  have HO3 := Lib.hid hO3.refT
  have hgl3 := hO3.nodes.lt
  have hgb : w.heap.size + 2 ≤ g := by have := hO3.hbase; omega
  have HB3 := Lib.hid hb3
  have hs3 := hb3.size
  obtain ⟨-, q0, q1, q2⟩ := HX.out _ hb3
  have hq := cell_lt q0
  clear hO3 hb3
  go_wp2_with fail
  obtain ⟨w4, hw4⟩ : ∃ w4, w4 = w3.alloc (.cells #[.slice (some ⟨g, 0, none⟩) L.length cap', .int .i64 m, .int .i64 b] 24) := ⟨_, rfl⟩
  have hb4 : Below w3.heap.size w3 w4 := by rw [hw4]; exact below_box w3 _
  have hM4 : w4.heap[w3.heap.size]? = some (.cells #[.slice (some ⟨g, 0, none⟩) L.length cap', .int .i64 m, .int .i64 b] 24 (0, 0)) := by rw [hw4]; exact new_block w3 _
  have hs4 : w4.heap.size = w3.heap.size + 1 := by rw [hw4]; simp
  rw [← hw4]
  clear hw4 q0 q1 q2 hq
  have HB34 := Lib.hid hb4
  have HB4 := Lib.hid (HB3.out.trans (hb4.mono hs3))
  have HX4 := Lib.hid (show ∀ W, Below w4.heap.size w4 W → W.heap[w.heap.size + 1]? = some (.cells #[.slice none 0 0, .int .i64 0, .int .i64 0] 24 (0, 0)) ∧ W.cell? ⟨w.heap.size, 0, none⟩ = some (.slice a L.length cap) ∧ W.cell? ⟨w.heap.size, 1, none⟩ = some (.int .i64 m) ∧ W.cell? ⟨w.heap.size, 2, none⟩ = some (.int .i64 b) ∧ W.heap[w3.heap.size]? = some (.cells #[.slice (some ⟨g, 0, none⟩) L.length cap', .int .i64 m, .int .i64 b] 24 (0, 0)) ∧ RefT W g cap' L vs from fun W hW => by
    obtain ⟨x0, x1, x2, x3⟩ := HX.out W (HB4.out.trans (hW.mono (by omega)))
    exact ⟨x0, x1, x2, x3, (hW.block w3.heap.size (by omega)).trans hM4, HO3.out.below (HB34.out.trans (hW.mono (by omega)))⟩)
  have HM4 := Lib.hid (show ∀ W, Below w4.heap.size w4 W → NodesIn W a cap L from fun W hW => HM.out W (HB4.out.trans (hW.mono (by omega))))
  have HEND := Lib.hid (show ∀ W, Below w4.heap.size w4 W → Below w.heap.size w W from fun W hW => HB2.out.trans ((HB4.out.trans (hW.mono (by omega))).mono (by omega)))
  clear hb4 hM4 hs4
  refine (lrefused _ _ _ _ _ _ L rf HRF.out _ (HM4.out _ (Below.refl _ _))).mono ?_
  rintro e w5 ⟨rfl, hb5⟩
  have HB5 := Lib.hid hb5
  have hs5 := hb5.size
  clear hb5
  obtain ⟨hRx, q0, q1, q2, hMx, hRT⟩ := HX4.out _ HB5.out
  have HRX := Lib.hid hRx
  have HRT := Lib.hid hRT
  have hq := cell_lt q0
  have r0 := blk_cell hRx 0
  have r1 := blk_cell hRx 1
  have r2 := blk_cell hRx 2
  have s0 := blk_free hRx 0
  have s1 := blk_free hRx 1
  have s2 := blk_free hRx 2
  have hrl := lt_of_block hRx
  have m0 := blk_cell hMx 0
  have m1 := blk_cell hMx 1
  have m2 := blk_cell hMx 2
  have hml := lt_of_block hMx
  have HMX := Lib.hid hMx
  clear hRx hMx hRT
  by_cases h0 : rf = 0
  · subst h0
    rw [if_neg (by simp)] at hz2
    obtain ⟨hf0, hn0⟩ := ref_zero HRF.out
    obtain ⟨k, hk, rfl, -⟩ := file_ok hf0
    obtain ⟨n1, rfl⟩ : ∃ n1 : Nat, n = (n1 : Int) := ⟨n.toNat, by omega⟩
    have hk0 : (0 : Int) ≤ (k : Int) := by omega
    have hk1 : (k : Int) < (L.length : Int) := by omega
    rw [node_nat L k hk, Int.toNat_natCast, Int.toNat_natCast] at hz2
    clear hf0 hn0
    by_cases h1 : (65536 : Int) < (n1 : Int)
    · rw [if_pos h1] at hz2
      simp only [Prod.mk.injEq] at hz2
      obtain ⟨rfl, rfl⟩ := hz2
      go_wp2_with fail
      change bodyPost _ _ _ _ _ (put3 w5 (w.heap.size + 1) (.slice (some ⟨g, 0, none⟩) L.length cap') (.int .i64 m) (.int .i64 b))
      obtain ⟨c0, c1, c2⟩ := put3_cells HRX.out (.slice (some ⟨g, 0, none⟩) L.length cap') (.int .i64 m) (.int .i64 b)
      exact bodyPost_ret (v := .tuple #[.agg #[.slice (some ⟨g, 0, none⟩) L.length cap', .int .i64 m, .int .i64 b], .int .i64 27]) (by simp [results, Try.results14, go_sem, c0, c1, c2]) rfl ⟨⟨_, _, rfl, nodes_put3 HRT.out.nodesIn HRX.out _ _ _⟩, put3_below (HEND.out _ HB5.out) (by omega) _ _ _⟩

    · rw [if_neg h1] at hz2
      unfold filledW at hz2
      rw [node_nat L k hk, cutL_len] at hz2
      by_cases h2 : b < (usedB L : Int) - (L[k].data.length : Int) + (n1 : Int)
      · rw [if_pos h2] at hz2
        simp only [Prod.mk.injEq] at hz2
        obtain ⟨rfl, rfl⟩ := hz2
        have HNO := Lib.hid (fun W hW => lrow_no a cap m b k n1 (by omega) L HF.out hk h2 W hW)
        clear h2
        go_wp2_with fail
        refine (HNO.out _ (HM4.out _ HB5.out)).mono ?_
        rintro e w7 ⟨rfl, hb7⟩
        have HB7 := Lib.hid (HB5.out.trans (hb7.mono HB5.out.size))
        clear hb7
        clear HRX HRT HMX r0 r1 r2 s0 s1 s2 hrl q0 q1 q2 hq m0 m1 m2 hml
        obtain ⟨hRx, q0, q1, q2, hMx, hRT⟩ := HX4.out _ HB7.out
        have HRX := Lib.hid hRx
        have HRT := Lib.hid hRT
        have hq := cell_lt q0
        have r0 := blk_cell hRx 0
        have r1 := blk_cell hRx 1
        have r2 := blk_cell hRx 2
        have s0 := blk_free hRx 0
        have s1 := blk_free hRx 1
        have s2 := blk_free hRx 2
        have hrl := lt_of_block hRx
        have m0 := blk_cell hMx 0
        have m1 := blk_cell hMx 1
        have m2 := blk_cell hMx 2
        have hml := lt_of_block hMx
        have HMX := Lib.hid hMx
        clear hRx hMx hRT
        go_wp2_with fail
        change bodyPost _ _ _ _ _ (put3 w7 (w.heap.size + 1) (.slice (some ⟨g, 0, none⟩) L.length cap') (.int .i64 m) (.int .i64 b))
        obtain ⟨c0, c1, c2⟩ := put3_cells HRX.out (.slice (some ⟨g, 0, none⟩) L.length cap') (.int .i64 m) (.int .i64 b)
        exact bodyPost_ret (v := .tuple #[.agg #[.slice (some ⟨g, 0, none⟩) L.length cap', .int .i64 m, .int .i64 b], .int .i64 28]) (by simp [results, Try.results14, go_sem, c0, c1, c2]) rfl ⟨⟨_, _, rfl, nodes_put3 HRT.out.nodesIn HRX.out _ _ _⟩, put3_below (HEND.out _ HB7.out) (by omega) _ _ _⟩

      · rw [if_neg h2] at hz2
        simp only [Prod.mk.injEq] at hz2
        obtain ⟨hL', rfl⟩ := hz2
        obtain ⟨d, hd⟩ : ∃ d, d = cutL L[k].data n1 := ⟨_, rfl⟩
        have hdl : d.length = n1 := by rw [hd, cutL_len]
        have HYES := Lib.hid (fun W hW => lrow_yes a cap m b k n1 (by omega) L HF.out hk h2 W hW)
        rw [← hd] at hL' HYES
        have HDL := Lib.hid hL'
        clear h2 hL' hd
        go_wp2_with fail
        refine (HYES.out _ (HM4.out _ HB5.out)).mono ?_
        rintro e w7 ⟨B, rfl, hB7, hBl, hb7⟩
        have HB7 := Lib.hid (HB5.out.trans (hb7.mono HB5.out.size))
        have hcv := run_str w7 B n1 d 5 hB7
        rw [hdl] at hcv
        clear hb7 hB7 hdl
        clear HRX HRT HMX r0 r1 r2 s0 s1 s2 hrl q0 q1 q2 hq m0 m1 m2 hml
        obtain ⟨hRx, q0, q1, q2, hMx, hRT⟩ := HX4.out _ HB7.out
        have HRX := Lib.hid hRx
        have HRT := Lib.hid hRT
        have hq := cell_lt q0
        have r0 := blk_cell hRx 0
        have r1 := blk_cell hRx 1
        have r2 := blk_cell hRx 2
        have s0 := blk_free hRx 0
        have s1 := blk_free hRx 1
        have s2 := blk_free hRx 2
        have hrl := lt_of_block hRx
        have m0 := blk_cell hMx 0
        have m1 := blk_cell hMx 1
        have m2 := blk_cell hMx 2
        have hml := lt_of_block hMx
        have HMX := Lib.hid hMx
        clear hRx hMx hRT
        obtain ⟨⟨d3, n3⟩, f3⟩ := HRT.out.cells hk 3 (by omega)
        have hgl5 := HRT.out.nodes.lt
        obtain ⟨w6, hw6⟩ : ∃ p, p = w7.setCell ⟨g, k * 6 + 3, none⟩ (.string ⟨d.toArray⟩) := ⟨_, rfl⟩
        have hR6 : RefT w6 g cap' L' vs := by
          have h := HRT.out.setData hk d
          rw [HDL.out, ← hw6] at h
          exact h
        have hne : ∀ j, j ≠ g → w6.heap[j]? = w7.heap[j]? := fun j hj => by rw [hw6]; exact Below.heap_setCell _ _ _ _ hj
        have hB6 : Below w.heap.size w w6 := by rw [hw6]; exact (HEND.out _ HB7.out).setCell (show w.heap.size ≤ g by omega) _
        have hR6x := (hne (w.heap.size + 1) (by omega)).trans HRX.out
        have HR6 := Lib.hid hR6
        have HB6 := Lib.hid hB6
        have HW6 := Lib.hid hw6
        have HLE := Lib.hid (show L'.length = L.length by rw [← HDL.out, data_len])
        clear hR6 hB6 hw6 hne
        go_wp2_with fail
        rw [← HW6.out]
        clear HRX
        have HRX := Lib.hid hR6x
        clear hR6x
        change bodyPost _ _ _ _ _ (put3 w6 (w.heap.size + 1) (.slice (some ⟨g, 0, none⟩) L.length cap') (.int .i64 m) (.int .i64 b))
        obtain ⟨c0, c1, c2⟩ := put3_cells HRX.out (.slice (some ⟨g, 0, none⟩) L.length cap') (.int .i64 m) (.int .i64 b)
        exact bodyPost_ret (v := .tuple #[.agg #[.slice (some ⟨g, 0, none⟩) L'.length cap', .int .i64 m, .int .i64 b], .int .i64 0]) (by simp [results, Try.results14, go_sem, c0, c1, c2, HLE.out]) rfl ⟨⟨_, _, rfl, nodes_put3 HR6.out.nodesIn HRX.out _ _ _⟩, put3_below HB6.out (by omega) _ _ _⟩

  · rw [if_pos h0] at hz2
    have h0b : (rf != 0) = true := by simpa using h0
    simp only [Prod.mk.injEq] at hz2
    obtain ⟨rfl, rfl⟩ := hz2
    go_wp2_with fail
    change bodyPost _ _ _ _ _ (put3 w5 (w.heap.size + 1) (.slice (some ⟨g, 0, none⟩) L.length cap') (.int .i64 m) (.int .i64 b))
    obtain ⟨c0, c1, c2⟩ := put3_cells HRX.out (.slice (some ⟨g, 0, none⟩) L.length cap') (.int .i64 m) (.int .i64 b)
    exact bodyPost_ret (v := .tuple #[.agg #[.slice (some ⟨g, 0, none⟩) L.length cap', .int .i64 m, .int .i64 b], .int .i64 rf]) (by simp [results, Try.results14, go_sem, c0, c1, c2]) rfl ⟨⟨_, _, rfl, nodes_put3 HRT.out.nodesIn HRX.out _ _ _⟩, put3_below (HEND.out _ HB5.out) (by omega) _ _ _⟩

end Go.Proofs.Ytblmlgpajmaliaa
