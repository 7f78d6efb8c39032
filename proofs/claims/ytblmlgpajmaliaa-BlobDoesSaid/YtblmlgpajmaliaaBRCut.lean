/-
  Cut of the reference.
-/
import Derived.Deep.Cut
import Derived.BigRegion
import Derived.Test.YtblmlgpajmaliaaBFilled
import Derived.Test.YtblmlgpajmaliaaBRead
namespace Go.Proofs.Ytblmlgpajmaliaa
set_option maxRecDepth 100000
open Go Go.RowKit

theorem rzeros_known (k : Int) (hk : k ≤ 1000000) (Z : ByteArray) (hZ : Z = ⟨(List.replicate k.toNat (0 : UInt8)).toArray⟩) (w : World) : Calls Try.prog 24 #[.int .i64 k] w fun e w' => e = .returned (.string Z) ∧ Below w.heap.size w w' := by
  subst hZ
  exact rzeros7 k hk w
theorem text_len (l : List UInt8) : (⟨l.toArray⟩ : ByteArray).size = l.length := by simp [ByteArray.size]
theorem app_list (a b : ByteArray) : (a ++ b).data.toList = a.data.toList ++ b.data.toList := by simp

set_option maxHeartbeats 8000000 in
theorem rcut7 (a : Option Addr) (cap : Nat) (m b ino n : Int) (L : List Ino) (hF : FitP L m b) (L' : List Ino) (er : Int) (hz : cutW L b ino n = (L', er)) (w : World) (hN : NodesIn w a cap L) :
    Calls Try.prog 15 #[.agg #[.slice a L.length cap, .int .i64 m, .int .i64 b], .int .i64 ino, .int .i64 n] w (RefAns w m b L' [.int .i64 er]) := by
  obtain ⟨w2, hw2, hb2, hs2, hA, hB⟩ := two_boxes w #[.slice a L.length cap, .int .i64 m, .int .i64 b] #[.slice none 0 0, .int .i64 0, .int .i64 0] 24 24
  have HX := Lib.hid (show ∀ W, Below w2.heap.size w2 W → W.heap[w.heap.size + 1]? = some (.cells #[.slice none 0 0, .int .i64 0, .int .i64 0] 24 (0, 0)) ∧ W.cell? ⟨w.heap.size, 0, none⟩ = some (.slice a L.length cap) ∧ W.cell? ⟨w.heap.size, 1, none⟩ = some (.int .i64 m) ∧ W.cell? ⟨w.heap.size, 2, none⟩ = some (.int .i64 b) from fun W hW => by
    have h := (hW.block w.heap.size (by omega)).trans hA
    exact ⟨(hW.block _ (by omega)).trans hB, blk_cell h 0, blk_cell h 1, blk_cell h 2⟩)
  have HM := Lib.hid (show ∀ W, Below w2.heap.size w2 W → NodesIn W a cap L from fun W hW => hN.below (hb2.trans (hW.mono (by omega))))
  have HB2 := Lib.hid hb2
  have HF := Lib.hid hF
  have hz2 := hz
  unfold cutW at hz2
  obtain ⟨rf, hrf⟩ : ∃ v, fileW L ino = v := ⟨_, rfl⟩
  rw [hrf] at hz2
  have HRF := Lib.hid hrf
  clear hz hN hb2 hA hB hF hrf
  obtain ⟨hRx, q0, q1, q2⟩ := HX.out _ (Below.refl _ _)
  have HRX := Lib.hid hRx
  have hq := cell_lt q0
  have r0 := blk_cell hRx 0
  have r1 := blk_cell hRx 1
  have r2 := blk_cell hRx 2
  have s0 := blk_free hRx 0
  have s1 := blk_free hRx 1
  have s2 := blk_free hRx 2
  have hrl := lt_of_block hRx
  clear hRx
  rw [hw2] at r0 r1 r2 s0 s1 s2 hrl q0 q1 q2 hq
  go_enter Try.func15, Try.ntmps15
  go_wp2_with fail
  rw [← hw2]
  clear HRX r0 r1 r2 s0 s1 s2 hrl q0 q1 q2 hq
  clear hw2
  refine (rfile7 _ _ _ _ _ L rf HRF.out _ (HM.out _ (Below.refl _ _))).mono ?_
  rintro e w3 ⟨rfl, hb3⟩
  have HB3 := Lib.hid hb3
  have hs3 := hb3.size
  clear hb3
  obtain ⟨hRx, q0, q1, q2⟩ := HX.out _ HB3.out
  have HRX := Lib.hid hRx
  have hq := cell_lt q0
  have r0 := blk_cell hRx 0
  have r1 := blk_cell hRx 1
  have r2 := blk_cell hRx 2
  have s0 := blk_free hRx 0
  have s1 := blk_free hRx 1
  have s2 := blk_free hRx 2
  have hrl := lt_of_block hRx
  clear hRx
  by_cases h0 : rf = 0
  · subst h0
    rw [if_neg (by simp)] at hz2
    by_cases h1 : n < 0
    · rw [if_pos h1] at hz2
      simp only [Prod.mk.injEq] at hz2
      obtain ⟨rfl, rfl⟩ := hz2
      go_wp2_with fail
      change bodyPost _ _ _ _ _ (put3 w3 (w.heap.size + 1) (.slice a L.length cap) (.int .i64 m) (.int .i64 b))
      obtain ⟨c0, c1, c2⟩ := put3_cells HRX.out (.slice a L.length cap) (.int .i64 m) (.int .i64 b)
      exact bodyPost_ret (v := .tuple #[.agg #[.slice a L.length cap, .int .i64 m, .int .i64 b], .int .i64 22]) (by simp [results, Try.results15, go_sem, c0, c1, c2]) rfl ⟨⟨_, _, rfl, nodes_put3 (HM.out _ HB3.out) HRX.out _ _ _⟩, put3_below (HB2.out.trans (HB3.out.mono (by omega))) (by omega) _ _ _⟩

    rw [if_neg h1] at hz2
    by_cases h2 : 65536 < n
    · rw [if_pos h2] at hz2
      simp only [Prod.mk.injEq] at hz2
      obtain ⟨rfl, rfl⟩ := hz2
      go_wp2_with fail
      change bodyPost _ _ _ _ _ (put3 w3 (w.heap.size + 1) (.slice a L.length cap) (.int .i64 m) (.int .i64 b))
      obtain ⟨c0, c1, c2⟩ := put3_cells HRX.out (.slice a L.length cap) (.int .i64 m) (.int .i64 b)
      exact bodyPost_ret (v := .tuple #[.agg #[.slice a L.length cap, .int .i64 m, .int .i64 b], .int .i64 27]) (by simp [results, Try.results15, go_sem, c0, c1, c2]) rfl ⟨⟨_, _, rfl, nodes_put3 (HM.out _ HB3.out) HRX.out _ _ _⟩, put3_below (HB2.out.trans (HB3.out.mono (by omega))) (by omega) _ _ _⟩

    rw [if_neg h2] at hz2
    obtain ⟨n1, rfl⟩ : ∃ n1 : Nat, n = (n1 : Int) := ⟨n.toNat, by omega⟩
    obtain ⟨k, hk, rfl, -⟩ := file_ok HRF.out
    have hk0 : (0 : Int) ≤ (k : Int) := by omega
    have hk1 : (k : Int) < (L.length : Int) := by omega
    rw [node_nat L k hk, Int.toNat_natCast, Int.toNat_natCast] at hz2
    obtain ⟨bb, o, ha, hx⟩ := (HM.out _ HB3.out).2.2 k hk
    subst ha
    have x3 := hx.data
    have hxl := cell_lt x3
    obtain ⟨D, hD⟩ : ∃ D : ByteArray, D = ⟨L[k].data.toArray⟩ := ⟨_, rfl⟩
    have hDs : D.size = L[k].data.length := by rw [hD]; simp [ByteArray.size]
    have hDl : D.data.toList = L[k].data := by rw [hD]
    have hDb : D.size ≤ 65536 := by rw [hDs]; exact data_lim HF.out hk
    rw [← hD] at x3
    have HDS := Lib.hid hDs
    have HDT := Lib.hid hDl
    clear hx hD hDs hDl

    by_cases h3 : n1 ≤ D.size
    · have h3i : (n1 : Int) ≤ (D.size : Int) := by omega
      obtain ⟨E1, hE1⟩ : ∃ E : ByteArray, E = ⟨(D.data.toList.take n1).toArray⟩ := ⟨_, rfl⟩
      have c1 := fun W => slice_hi D (n1 : Int) n1 rfl (by omega) W
      rw [← hE1] at c1
      have hEl : E1.data.toList = cutL L[k].data n1 := by
        rw [hE1, HDT.out]
        unfold cutL
        rw [show n1 - L[k].data.length = 0 by rw [← HDS.out]; omega]
        simp
      have hEs : E1.size ≤ 1000000 := by
        have : E1.size = (cutL L[k].data n1).length := by rw [← hEl]; exact Array.length_toList.symm
        rw [this, cutL_len]
        omega
      rw [← hEl] at hz2
      have HZ2 := Lib.hid hz2
      clear hE1 hEl hz2
      have HFILL := Lib.hid (show ∀ W, Below w3.heap.size w3 W → Calls Try.prog 25 #[.agg #[.slice (some ⟨bb, o, none⟩) L.length cap, .int .i64 m, .int .i64 b], .int .i64 k, .string E1] W fun e w' => ∃ a' cap', e = .returned (.tuple #[.agg #[.slice a' L'.length cap', .int .i64 m, .int .i64 b], .int .i64 er]) ∧ NodesIn w' a' cap' L' ∧ Below w2.heap.size w2 w' from fun W hW => by
        have hs := ((HB3.out).trans (hW.mono (HB3.out).size)).size
        refine (rfilled7 _ cap m b k E1 hEs L HF.out hk L' er HZ2.out W (HM.out W ((HB3.out).trans (hW.mono (HB3.out).size)))).mono fun e w' h => ?_
        obtain ⟨⟨a', cap', h1, h2⟩, h3⟩ := h
        exact ⟨a', cap', h1, h2, ((HB3.out).trans (hW.mono (HB3.out).size)).trans (h3.mono hs)⟩)
      clear hEs
      go_wp2_with fail
      go_region_with (first | (go_at_call 25; refine (HFILL.out _ ?_).mono ?_; (exact ⟨rfl, rfl, rfl, Nat.le_refl _, fun _ _ => rfl⟩); rintro e w7 ⟨a', cap', rfl, hN7, hb7⟩; have HB7 := Lib.hid hb7; have HN7 := Lib.hid hN7; have HRX := Lib.hid (HX.out _ hb7).1; have r0 := blk_cell HRX.out 0; have r1 := blk_cell HRX.out 1; have r2 := blk_cell HRX.out 2; have s0 := blk_free HRX.out 0; have s1 := blk_free HRX.out 1; have s2 := blk_free HRX.out 2; have hrl := lt_of_block HRX.out; clear hN7 hb7))
      all_goals
        go_wp2_with fail
        change bodyPost _ _ _ _ _ (put3 w7 (w.heap.size + 1) (.slice a' L'.length cap') (.int .i64 m) (.int .i64 b))
        obtain ⟨c0, c1, c2⟩ := put3_cells HRX.out (.slice a' L'.length cap') (.int .i64 m) (.int .i64 b)
        exact bodyPost_ret (v := .tuple #[.agg #[.slice a' L'.length cap', .int .i64 m, .int .i64 b], .int .i64 er]) (by simp [results, Try.results15, go_sem, c0, c1, c2]) rfl ⟨⟨_, _, rfl, nodes_put3 HN7.out HRX.out _ _ _⟩, put3_below (HB2.out.trans (HB7.out.mono (by omega))) (by omega) _ _ _⟩

    · have h3i : ¬ (n1 : Int) ≤ (D.size : Int) := by omega
      obtain ⟨Z, hZ⟩ : ∃ Z : ByteArray, Z = ⟨(List.replicate ((n1 : Int) - (D.size : Int)).toNat (0 : UInt8)).toArray⟩ := ⟨_, rfl⟩
      have hZs : Z.size = n1 - D.size := by rw [hZ, text_len, List.length_replicate]; omega
      have hEl : (D ++ Z).data.toList = cutL L[k].data n1 := by
        rw [app_list, hZ, HDT.out]
        unfold cutL
        rw [List.take_of_length_le (by rw [← HDS.out]; omega), show ((n1 : Int) - (D.size : Int)).toNat = n1 - L[k].data.length by rw [← HDS.out]; omega]
      have hEs : (D ++ Z).size ≤ 1000000 := by
        have : (D ++ Z).size = (cutL L[k].data n1).length := by rw [← hEl]; exact Array.length_toList.symm
        rw [this, cutL_len]
        omega
      rw [← hEl] at hz2
      have HZ2 := Lib.hid hz2
      have HZE := Lib.hid hZ
      have HZS := Lib.hid hZs
      have hwr : IntKind.i64.wrap ((n1 : Int) - (D.size : Int)) = (n1 : Int) - (D.size : Int) := by rw [IntKind.wrap_i64]; omega
      have hsum : ¬ 9223372036854775807 < D.size + Z.size := by omega
      have HES := Lib.hid hEs
      clear hZ hEl hz2 hZs hEs
      have HZERO := Lib.hid (show ∀ W, Below w3.heap.size w3 W → Calls Try.prog 24 #[.int .i64 ((n1 : Int) - (D.size : Int))] W fun e w' => e = .returned (.string Z) ∧ Below w3.heap.size w3 w' from fun W hW =>
        (rzeros_known _ (by omega) Z HZE.out W).mono fun e w' h => ⟨h.1, hW.trans (h.2.mono hW.size)⟩)
      have HFILL := Lib.hid (show ∀ W, Below w3.heap.size w3 W → Calls Try.prog 25 #[.agg #[.slice (some ⟨bb, o, none⟩) L.length cap, .int .i64 m, .int .i64 b], .int .i64 k, .string (D ++ Z)] W fun e w' => ∃ a' cap', e = .returned (.tuple #[.agg #[.slice a' L'.length cap', .int .i64 m, .int .i64 b], .int .i64 er]) ∧ NodesIn w' a' cap' L' ∧ Below w2.heap.size w2 w' from fun W hW => by
        have hs := ((HB3.out).trans (hW.mono (HB3.out).size)).size
        refine (rfilled7 _ cap m b k (D ++ Z) HES.out L HF.out hk L' er HZ2.out W (HM.out W ((HB3.out).trans (hW.mono (HB3.out).size)))).mono fun e w' h => ?_
        obtain ⟨⟨a', cap', h1, h2⟩, h3⟩ := h
        exact ⟨a', cap', h1, h2, ((HB3.out).trans (hW.mono (HB3.out).size)).trans (h3.mono hs)⟩)
      have HX3 := Lib.hid (show ∀ W, Below w3.heap.size w3 W → W.cell? ⟨w.heap.size, 0, none⟩ = some (.slice (some ⟨bb, o, none⟩) L.length cap) ∧ W.cell? ⟨w.heap.size, 1, none⟩ = some (.int .i64 m) ∧ W.cell? ⟨w.heap.size, 2, none⟩ = some (.int .i64 b) from fun W hW => (HX.out W (HB3.out.trans (hW.mono hs3))).2)
      go_wp2_with fail
      go_region_with (first | (go_at_call 24; refine (HZERO.out _ ?_).mono ?_; (exact ⟨rfl, rfl, rfl, Nat.le_refl _, fun _ _ => rfl⟩); rintro e w5 ⟨rfl, hb5⟩; have HB5 : Hid (Below w3.heap.size w3 w5) := Lib.hid ⟨hb5.os, hb5.tape, hb5.output, hb5.size, hb5.block⟩; obtain ⟨q0, q1, q2⟩ := HX3.out _ HB5.out; have hq := cell_lt q0; clear hb5) | (go_at_call 25; refine (HFILL.out _ ?_).mono ?_; (exact HB5.out); rintro e w7 ⟨a', cap', rfl, hN7, hb7⟩; have HB7 := Lib.hid hb7; have HN7 := Lib.hid hN7; have HRX := Lib.hid (HX.out _ hb7).1; have r0 := blk_cell HRX.out 0; have r1 := blk_cell HRX.out 1; have r2 := blk_cell HRX.out 2; have s0 := blk_free HRX.out 0; have s1 := blk_free HRX.out 1; have s2 := blk_free HRX.out 2; have hrl := lt_of_block HRX.out; clear hN7 hb7))
      all_goals
        go_wp2_with fail
        change bodyPost _ _ _ _ _ (put3 w7 (w.heap.size + 1) (.slice a' L'.length cap') (.int .i64 m) (.int .i64 b))
        obtain ⟨c0, c1, c2⟩ := put3_cells HRX.out (.slice a' L'.length cap') (.int .i64 m) (.int .i64 b)
        exact bodyPost_ret (v := .tuple #[.agg #[.slice a' L'.length cap', .int .i64 m, .int .i64 b], .int .i64 er]) (by simp [results, Try.results15, go_sem, c0, c1, c2]) rfl ⟨⟨_, _, rfl, nodes_put3 HN7.out HRX.out _ _ _⟩, put3_below (HB2.out.trans (HB7.out.mono (by omega))) (by omega) _ _ _⟩

  · rw [if_pos h0] at hz2
    have h0b : (rf != 0) = true := by simpa using h0
    simp only [Prod.mk.injEq] at hz2
    obtain ⟨rfl, rfl⟩ := hz2
    go_wp2_with fail
    change bodyPost _ _ _ _ _ (put3 w3 (w.heap.size + 1) (.slice a L.length cap) (.int .i64 m) (.int .i64 b))
    obtain ⟨c0, c1, c2⟩ := put3_cells HRX.out (.slice a L.length cap) (.int .i64 m) (.int .i64 b)
    exact bodyPost_ret (v := .tuple #[.agg #[.slice a L.length cap, .int .i64 m, .int .i64 b], .int .i64 rf]) (by simp [results, Try.results15, go_sem, c0, c1, c2]) rfl ⟨⟨_, _, rfl, nodes_put3 (HM.out _ HB3.out) HRX.out _ _ _⟩, put3_below (HB2.out.trans (HB3.out.mono (by omega))) (by omega) _ _ _⟩

end Go.Proofs.Ytblmlgpajmaliaa
