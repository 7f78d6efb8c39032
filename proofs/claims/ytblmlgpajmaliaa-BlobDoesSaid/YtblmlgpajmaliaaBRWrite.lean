/-
  Write of the reference.
-/
import Derived.Test.YtblmlgpajmaliaaBRCut
namespace Go.Proofs.Ytblmlgpajmaliaa
set_option maxRecDepth 100000
open Go Go.RowKit

theorem text_none {s : ByteArray} (h : s.data.toList = []) : s = ⟨#[]⟩ := by
  cases s with
  | mk d => simp at h; rw [h]
theorem app_len (a b : ByteArray) : (a ++ b).size = a.size + b.size := by simp

set_option maxHeartbeats 8000000 in
theorem rwrite7 (a : Option Addr) (cap : Nat) (m b ino off : Int) (sb : ByteArray) (hsb : sb.size ≤ 1000000) (L : List Ino) (hF : FitP L m b) (L' : List Ino) (er : Int) (hz : writeW L b ino off sb.data.toList = (L', er)) (w : World) (hN : NodesIn w a cap L) :
    Calls Try.prog 13 #[.agg #[.slice a L.length cap, .int .i64 m, .int .i64 b], .int .i64 ino, .int .i64 off, .string sb] w (RefAns w m b L' [.int .i64 er]) := by
  obtain ⟨w2, hw2, hb2, hs2, hA, hB⟩ := two_boxes w #[.slice a L.length cap, .int .i64 m, .int .i64 b] #[.slice none 0 0, .int .i64 0, .int .i64 0] 24 24
  have HX := Lib.hid (show ∀ W, Below w2.heap.size w2 W → W.heap[w.heap.size + 1]? = some (.cells #[.slice none 0 0, .int .i64 0, .int .i64 0] 24 (0, 0)) ∧ W.cell? ⟨w.heap.size, 0, none⟩ = some (.slice a L.length cap) ∧ W.cell? ⟨w.heap.size, 1, none⟩ = some (.int .i64 m) ∧ W.cell? ⟨w.heap.size, 2, none⟩ = some (.int .i64 b) from fun W hW => by
    have h := (hW.block w.heap.size (by omega)).trans hA
    exact ⟨(hW.block _ (by omega)).trans hB, blk_cell h 0, blk_cell h 1, blk_cell h 2⟩)
  have HM := Lib.hid (show ∀ W, Below w2.heap.size w2 W → NodesIn W a cap L from fun W hW => hN.below (hb2.trans (hW.mono (by omega))))
  have HB2 := Lib.hid hb2
  have HF := Lib.hid hF
  have hz2 := hz
  unfold writeW at hz2
  obtain ⟨rf, hrf⟩ : ∃ v, fileW L ino = v := ⟨_, rfl⟩
  rw [hrf] at hz2
  have HRF := Lib.hid hrf
  clear hz hN hb2 hA hB hF hrf
  obtain ⟨hRx, q0, q1, q2⟩ := HX.out _ (Below.refl _ _)
  have HRX := Lib.hid hRx
  have hq := cell_lt q0
  have r0 := blk_cell hRx 0
  have r1 := blk_cell hRx 1
  have r2 := blk_cell hRx 2
  have s0 := blk_free hRx 0
  have s1 := blk_free hRx 1
  have s2 := blk_free hRx 2
  have hrl := lt_of_block hRx
  clear hRx
  rw [hw2] at r0 r1 r2 s0 s1 s2 hrl q0 q1 q2 hq
  go_enter Try.func13, Try.ntmps13
  go_wp2_with fail
  rw [← hw2]
  clear HRX r0 r1 r2 s0 s1 s2 hrl q0 q1 q2 hq
  clear hw2
  refine (rfile7 _ _ _ _ _ L rf HRF.out _ (HM.out _ (Below.refl _ _))).mono ?_
  rintro e w3 ⟨rfl, hb3⟩
  have HB3 := Lib.hid hb3
  have hs3 := hb3.size
  clear hb3
  obtain ⟨hRx, q0, q1, q2⟩ := HX.out _ HB3.out
  have HRX := Lib.hid hRx
  have hq := cell_lt q0
  have r0 := blk_cell hRx 0
  have r1 := blk_cell hRx 1
  have r2 := blk_cell hRx 2
  have s0 := blk_free hRx 0
  have s1 := blk_free hRx 1
  have s2 := blk_free hRx 2
  have hrl := lt_of_block hRx
  clear hRx
  by_cases h0 : rf = 0
  · subst h0
    rw [if_neg (by simp)] at hz2
    by_cases h1 : off < 0
    · rw [if_pos h1] at hz2
      simp only [Prod.mk.injEq] at hz2
      obtain ⟨rfl, rfl⟩ := hz2
      go_wp2_with fail
      change bodyPost _ _ _ _ _ (put3 w3 (w.heap.size + 1) (.slice a L.length cap) (.int .i64 m) (.int .i64 b))
      obtain ⟨c0, c1, c2⟩ := put3_cells HRX.out (.slice a L.length cap) (.int .i64 m) (.int .i64 b)
      exact bodyPost_ret (v := .tuple #[.agg #[.slice a L.length cap, .int .i64 m, .int .i64 b], .int .i64 22]) (by simp [results, Try.results13, go_sem, c0, c1, c2]) rfl ⟨⟨_, _, rfl, nodes_put3 (HM.out _ HB3.out) HRX.out _ _ _⟩, put3_below (HB2.out.trans (HB3.out.mono (by omega))) (by omega) _ _ _⟩

    rw [if_neg h1] at hz2
    by_cases he : sb.data.toList = []
    · rw [if_pos he] at hz2
      have he' := text_none he
      subst he'
      simp only [Prod.mk.injEq] at hz2
      obtain ⟨rfl, rfl⟩ := hz2
      clear he
      go_wp2_with fail
      change bodyPost _ _ _ _ _ (put3 w3 (w.heap.size + 1) (.slice a L.length cap) (.int .i64 m) (.int .i64 b))
      obtain ⟨c0, c1, c2⟩ := put3_cells HRX.out (.slice a L.length cap) (.int .i64 m) (.int .i64 b)
      exact bodyPost_ret (v := .tuple #[.agg #[.slice a L.length cap, .int .i64 m, .int .i64 b], .int .i64 0]) (by simp [results, Try.results13, go_sem, c0, c1, c2]) rfl ⟨⟨_, _, rfl, nodes_put3 (HM.out _ HB3.out) HRX.out _ _ _⟩, put3_below (HB2.out.trans (HB3.out.mono (by omega))) (by omega) _ _ _⟩

    have hpl : (sb.data.toList == []) = false := by
      cases h : sb.data.toList with
      | nil => exact absurd h he
      | cons c r => rfl
    have hpe : sb.toList.isEmpty = false := by
      rw [ByteArray.toList_eq]
      cases h : sb.data.toList with
      | nil => exact absurd h he
      | cons c r => rfl
    rw [if_neg he] at hz2
    have hsl : sb.data.toList.length = sb.size := Array.length_toList
    have hsp : 0 < sb.size := by rw [← hsl]; exact List.length_pos_iff.2 he
    rw [hsl] at hz2
    have HSL := Lib.hid hsl
    clear he hsl
    by_cases h2 : 65536 < off
    · rw [if_pos (.inl h2)] at hz2
      simp only [Prod.mk.injEq] at hz2
      obtain ⟨rfl, rfl⟩ := hz2
      have h2d : decide (65536 < off) = true := decide_eq_true h2
      go_wp2_with fail
      change bodyPost _ _ _ _ _ (put3 w3 (w.heap.size + 1) (.slice a L.length cap) (.int .i64 m) (.int .i64 b))
      obtain ⟨c0, c1, c2⟩ := put3_cells HRX.out (.slice a L.length cap) (.int .i64 m) (.int .i64 b)
      exact bodyPost_ret (v := .tuple #[.agg #[.slice a L.length cap, .int .i64 m, .int .i64 b], .int .i64 27]) (by simp [results, Try.results13, go_sem, c0, c1, c2]) rfl ⟨⟨_, _, rfl, nodes_put3 (HM.out _ HB3.out) HRX.out _ _ _⟩, put3_below (HB2.out.trans (HB3.out.mono (by omega))) (by omega) _ _ _⟩

    have h2d : decide (65536 < off) = false := decide_eq_false h2
    have hwr0 : IntKind.i64.wrap (65536 - off) = 65536 - off := by rw [IntKind.wrap_i64]; omega
    by_cases h3 : 65536 - off < (sb.size : Int)
    · rw [if_pos (.inr h3)] at hz2
      simp only [Prod.mk.injEq] at hz2
      obtain ⟨rfl, rfl⟩ := hz2
      have h3d : decide (65536 - off < (sb.size : Int)) = true := decide_eq_true h3
      go_wp2_with fail
      change bodyPost _ _ _ _ _ (put3 w3 (w.heap.size + 1) (.slice a L.length cap) (.int .i64 m) (.int .i64 b))
      obtain ⟨c0, c1, c2⟩ := put3_cells HRX.out (.slice a L.length cap) (.int .i64 m) (.int .i64 b)
      exact bodyPost_ret (v := .tuple #[.agg #[.slice a L.length cap, .int .i64 m, .int .i64 b], .int .i64 27]) (by simp [results, Try.results13, go_sem, c0, c1, c2]) rfl ⟨⟨_, _, rfl, nodes_put3 (HM.out _ HB3.out) HRX.out _ _ _⟩, put3_below (HB2.out.trans (HB3.out.mono (by omega))) (by omega) _ _ _⟩

    have h3d : decide (65536 - off < (sb.size : Int)) = false := decide_eq_false h3
    rw [if_neg (by omega)] at hz2
    obtain ⟨o1, rfl⟩ : ∃ n1 : Nat, off = (n1 : Int) := ⟨off.toNat, by omega⟩
    obtain ⟨k, hk, rfl, -⟩ := file_ok HRF.out
    have hk0 : (0 : Int) ≤ (k : Int) := by omega
    have hk1 : (k : Int) < (L.length : Int) := by omega
    rw [node_nat L k hk, Int.toNat_natCast, Int.toNat_natCast] at hz2
    obtain ⟨bb, o, ha, hx⟩ := (HM.out _ HB3.out).2.2 k hk
    subst ha
    have x3 := hx.data
    have hxl := cell_lt x3
    obtain ⟨D, hD⟩ : ∃ D : ByteArray, D = ⟨L[k].data.toArray⟩ := ⟨_, rfl⟩
    have hDs : D.size = L[k].data.length := by rw [hD]; simp [ByteArray.size]
    have hDl : D.data.toList = L[k].data := by rw [hD]
    have hDb : D.size ≤ 65536 := by rw [hDs]; exact data_lim HF.out hk
    rw [← hD] at x3
    have HDS := Lib.hid hDs
    have HDT := Lib.hid hDl
    clear hx hD hDs hDl

    have hwr1 : IntKind.i64.wrap ((o1 : Int) - (D.size : Int)) = (o1 : Int) - (D.size : Int) := by rw [IntKind.wrap_i64]; omega
    have hwr2 : IntKind.i64.wrap ((o1 : Int) + (sb.size : Int)) = (o1 : Int) + (sb.size : Int) := by rw [IntKind.wrap_i64]; omega
    obtain ⟨Z, hZ⟩ : ∃ Z : ByteArray, Z = ⟨(List.replicate ((o1 : Int) - (D.size : Int)).toNat (0 : UInt8)).toArray⟩ := ⟨_, rfl⟩
    have hZs : Z.size = o1 - D.size := by rw [hZ, text_len, List.length_replicate]; omega
    have hBl : (D ++ Z).data.toList = L[k].data ++ List.replicate (o1 - L[k].data.length) 0 := by
      rw [app_list, hZ, HDT.out, show ((o1 : Int) - (D.size : Int)).toNat = o1 - L[k].data.length by rw [← HDS.out]; omega]
    have hsum : ¬ 9223372036854775807 < D.size + Z.size := by omega
    have HZE := Lib.hid hZ
    have HZERO := Lib.hid (show ∀ W, Calls Try.prog 24 #[.int .i64 ((o1 : Int) - (D.size : Int))] W fun e w' => e = .returned (.string Z) ∧ Below W.heap.size W w' from fun W => rzeros_known _ (by omega) Z HZE.out W)
    clear hZ
    go_wp2_with fail
    refine (HZERO.out _).mono ?_
    rintro e w5 ⟨rfl, hb5⟩
    have HB5 := Lib.hid (HB3.out.trans (hb5.mono HB3.out.size))
    have hs5 := HB5.out.size
    clear hb5 x3 hxl
    clear HRX r0 r1 r2 s0 s1 s2 hrl q0 q1 q2 hq
    obtain ⟨hRx, q0, q1, q2⟩ := HX.out _ HB5.out
    have HRX := Lib.hid hRx
    have hq := cell_lt q0
    have r0 := blk_cell hRx 0
    have r1 := blk_cell hRx 1
    have r2 := blk_cell hRx 2
    have s0 := blk_free hRx 0
    have s1 := blk_free hRx 1
    have s2 := blk_free hRx 2
    have hrl := lt_of_block hRx
    clear hRx

    obtain ⟨BT, hBT⟩ : ∃ X, X = D ++ Z := ⟨_, rfl⟩
    have hBTs : BT.size = D.size + Z.size := by rw [hBT, app_len]
    rw [← hBT] at hBl
    have HBT := Lib.hid hBT
    have HBL := Lib.hid hBl
    go_upto_region 12 with fail
    rw [← HBT.out]
    obtain ⟨E1, hE1⟩ : ∃ E : ByteArray, E = ⟨(BT.data.toList.take o1).toArray⟩ := ⟨_, rfl⟩
    have c1 := fun W => slice_hi BT (o1 : Int) o1 rfl (by omega) W
    rw [← hE1] at c1
    have hE1s : E1.size = o1 := by rw [hE1, text_len, List.length_take, Array.length_toList]; show min o1 BT.size = o1; omega
    have HE1 := Lib.hid hE1
    clear hBT hBl hE1 hsum
    have hlai : ∀ T : ByteArray, T.data.toList = BT.data.toList.drop (o1 + sb.size) → (E1 ++ sb ++ T).data.toList = laidL L[k].data o1 sb.data.toList := fun T hT => by
      rw [app_list, app_list, hT, HE1.out]
      unfold laidL
      rw [← HBL.out]
      congr 1
      rw [HBL.out, HSL.out]
      by_cases hc : o1 + sb.size ≤ L[k].data.length
      · rw [show o1 - L[k].data.length = 0 by omega]
        simp
      · rw [List.drop_of_length_le (by rw [List.length_append, List.length_replicate]; omega), List.drop_of_length_le (by omega)]
    have hlas : ∀ T : ByteArray, T.data.toList = BT.data.toList.drop (o1 + sb.size) → (E1 ++ sb ++ T).size ≤ 1000000 := fun T hT => by
      have h := hlai T hT
      have h2 : (E1 ++ sb ++ T).size = (laidL L[k].data o1 sb.data.toList).length := by rw [← h]; exact Array.length_toList.symm
      rw [h2, laid_len, HSL.out, ← HDS.out]
      omega
    have HLAI := Lib.hid hlai
    have HLAS := Lib.hid hlas
    have HZ2 := Lib.hid hz2
    clear hlai hlas hz2
    by_cases h4 : o1 + sb.size < BT.size
    · have h4i : (o1 : Int) + (sb.size : Int) < (BT.size : Int) := by omega
      obtain ⟨T, hT⟩ : ∃ E : ByteArray, E = ⟨(BT.data.toList.drop (o1 + sb.size)).toArray⟩ := ⟨_, rfl⟩
      have c2 := fun W => slice_lo BT ((o1 : Int) + (sb.size : Int)) (o1 + sb.size) (by omega) (by omega) W
      rw [← hT] at c2
      have hTl : T.data.toList = BT.data.toList.drop (o1 + sb.size) := by rw [hT]
      have hTs : T.size ≤ 1000000 := by rw [hT, text_len, List.length_drop, Array.length_toList]; show BT.size - _ ≤ _; omega
      have HEL := Lib.hid (HLAI.out T hTl)
      have HES := Lib.hid (HLAS.out T hTl)
      have HZ3 := Lib.hid (show filledW L b k (E1 ++ sb ++ T).data.toList = (L', er) by rw [HEL.out]; exact HZ2.out)
      have hs1 : ¬ 9223372036854775807 < E1.size + sb.size := by omega
      have hs2' : ¬ 9223372036854775807 < E1.size + sb.size + T.size := by omega
      clear hT hTl
      have HFILL := Lib.hid (show ∀ W, Below w5.heap.size w5 W → Calls Try.prog 25 #[.agg #[.slice (some ⟨bb, o, none⟩) L.length cap, .int .i64 m, .int .i64 b], .int .i64 k, .string (E1 ++ sb ++ T)] W fun e w' => ∃ a' cap', e = .returned (.tuple #[.agg #[.slice a' L'.length cap', .int .i64 m, .int .i64 b], .int .i64 er]) ∧ NodesIn w' a' cap' L' ∧ Below w2.heap.size w2 w' from fun W hW => by
        have hs := ((HB5.out).trans (hW.mono (HB5.out).size)).size
        refine (rfilled7 _ cap m b k (E1 ++ sb ++ T) HES.out L HF.out hk L' er HZ3.out W (HM.out W ((HB5.out).trans (hW.mono (HB5.out).size)))).mono fun e w' h => ?_
        obtain ⟨⟨a', cap', h1, h2⟩, h3⟩ := h
        exact ⟨a', cap', h1, h2, ((HB5.out).trans (hW.mono (HB5.out).size)).trans (h3.mono hs)⟩)
      go_wp2_with fail
      go_region_with (first | (go_at_call 25; refine (HFILL.out _ ?_).mono ?_; (exact ⟨rfl, rfl, rfl, Nat.le_refl _, fun _ _ => rfl⟩); rintro e w7 ⟨a', cap', rfl, hN7, hb7⟩; have HB7 := Lib.hid hb7; have HN7 := Lib.hid hN7; have HRX := Lib.hid (HX.out _ hb7).1; have r0 := blk_cell HRX.out 0; have r1 := blk_cell HRX.out 1; have r2 := blk_cell HRX.out 2; have s0 := blk_free HRX.out 0; have s1 := blk_free HRX.out 1; have s2 := blk_free HRX.out 2; have hrl := lt_of_block HRX.out; clear hN7 hb7))
      all_goals
        go_wp2_with fail
        change bodyPost _ _ _ _ _ (put3 w7 (w.heap.size + 1) (.slice a' L'.length cap') (.int .i64 m) (.int .i64 b))
        obtain ⟨c0, c1, c2⟩ := put3_cells HRX.out (.slice a' L'.length cap') (.int .i64 m) (.int .i64 b)
        exact bodyPost_ret (v := .tuple #[.agg #[.slice a' L'.length cap', .int .i64 m, .int .i64 b], .int .i64 er]) (by simp [results, Try.results13, go_sem, c0, c1, c2]) rfl ⟨⟨_, _, rfl, nodes_put3 HN7.out HRX.out _ _ _⟩, put3_below (HB2.out.trans (HB7.out.mono (by omega))) (by omega) _ _ _⟩

    · have h4i : ¬ (o1 : Int) + (sb.size : Int) < (BT.size : Int) := by omega
      have hTl : (⟨#[]⟩ : ByteArray).data.toList = BT.data.toList.drop (o1 + sb.size) := by
        rw [List.drop_of_length_le (by rw [Array.length_toList]; show BT.size ≤ _; omega)]
      have h5 := HLAI.out _ hTl
      have h6 := HLAS.out _ hTl
      have HES := Lib.hid h6
      have HZ3 := Lib.hid (show filledW L b k (E1 ++ sb ++ (⟨#[]⟩ : ByteArray)).data.toList = (L', er) by rw [h5]; exact HZ2.out)
      have hs1 : ¬ 9223372036854775807 < E1.size + sb.size := by omega
      clear hTl h5 h6
      have HFILL := Lib.hid (show ∀ W, Below w5.heap.size w5 W → Calls Try.prog 25 #[.agg #[.slice (some ⟨bb, o, none⟩) L.length cap, .int .i64 m, .int .i64 b], .int .i64 k, .string (E1 ++ sb ++ (⟨#[]⟩ : ByteArray))] W fun e w' => ∃ a' cap', e = .returned (.tuple #[.agg #[.slice a' L'.length cap', .int .i64 m, .int .i64 b], .int .i64 er]) ∧ NodesIn w' a' cap' L' ∧ Below w2.heap.size w2 w' from fun W hW => by
        have hs := ((HB5.out).trans (hW.mono (HB5.out).size)).size
        refine (rfilled7 _ cap m b k (E1 ++ sb ++ (⟨#[]⟩ : ByteArray)) HES.out L HF.out hk L' er HZ3.out W (HM.out W ((HB5.out).trans (hW.mono (HB5.out).size)))).mono fun e w' h => ?_
        obtain ⟨⟨a', cap', h1, h2⟩, h3⟩ := h
        exact ⟨a', cap', h1, h2, ((HB5.out).trans (hW.mono (HB5.out).size)).trans (h3.mono hs)⟩)
      go_wp2_with fail
      go_region_with (first | (go_at_call 25; refine (HFILL.out _ ?_).mono ?_; (exact ⟨rfl, rfl, rfl, Nat.le_refl _, fun _ _ => rfl⟩); rintro e w7 ⟨a', cap', rfl, hN7, hb7⟩; have HB7 := Lib.hid hb7; have HN7 := Lib.hid hN7; have HRX := Lib.hid (HX.out _ hb7).1; have r0 := blk_cell HRX.out 0; have r1 := blk_cell HRX.out 1; have r2 := blk_cell HRX.out 2; have s0 := blk_free HRX.out 0; have s1 := blk_free HRX.out 1; have s2 := blk_free HRX.out 2; have hrl := lt_of_block HRX.out; clear hN7 hb7))
      all_goals
        go_wp2_with fail
        change bodyPost _ _ _ _ _ (put3 w7 (w.heap.size + 1) (.slice a' L'.length cap') (.int .i64 m) (.int .i64 b))
        obtain ⟨c0, c1, c2⟩ := put3_cells HRX.out (.slice a' L'.length cap') (.int .i64 m) (.int .i64 b)
        exact bodyPost_ret (v := .tuple #[.agg #[.slice a' L'.length cap', .int .i64 m, .int .i64 b], .int .i64 er]) (by simp [results, Try.results13, go_sem, c0, c1, c2]) rfl ⟨⟨_, _, rfl, nodes_put3 HN7.out HRX.out _ _ _⟩, put3_below (HB2.out.trans (HB7.out.mono (by omega))) (by omega) _ _ _⟩

  · rw [if_pos h0] at hz2
    have h0b : (rf != 0) = true := by simpa using h0
    simp only [Prod.mk.injEq] at hz2
    obtain ⟨rfl, rfl⟩ := hz2
    go_wp2_with fail
    change bodyPost _ _ _ _ _ (put3 w3 (w.heap.size + 1) (.slice a L.length cap) (.int .i64 m) (.int .i64 b))
    obtain ⟨c0, c1, c2⟩ := put3_cells HRX.out (.slice a L.length cap) (.int .i64 m) (.int .i64 b)
    exact bodyPost_ret (v := .tuple #[.agg #[.slice a L.length cap, .int .i64 m, .int .i64 b], .int .i64 rf]) (by simp [results, Try.results13, go_sem, c0, c1, c2]) rfl ⟨⟨_, _, rfl, nodes_put3 (HM.out _ HB3.out) HRX.out _ _ _⟩, put3_below (HB2.out.trans (HB3.out.mono (by omega))) (by omega) _ _ _⟩

end Go.Proofs.Ytblmlgpajmaliaa
