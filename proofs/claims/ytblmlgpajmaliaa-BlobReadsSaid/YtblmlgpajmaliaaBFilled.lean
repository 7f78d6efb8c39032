/-
  The reference's filled, of chapter 7: a tree in which a file has such bytes, if they find room.
-/
import Derived.BigQuiet
import Derived.Deep.Cut
import Derived.Test.YtblmlgpajmaliaaBData
import Derived.Test.YtblmlgpajmaliaaBBytes
import Derived.Test.YtblmlgpajmaliaaDSame
import Derived.Test.YtblmlgpajmaliaaTreeUsed
namespace Go.Proofs.Ytblmlgpajmaliaa
set_option maxRecDepth 100000
open Go Go.RowKit

theorem text_self (s : ByteArray) : (⟨s.data.toList.toArray⟩ : ByteArray) = s := by cases s; simp
theorem data_lim {L : List Ino} {m b : Int} (hF : FitP L m b) {k : Nat} (hk : k < L.length) : L[k].data.length ≤ 65536 := by
  obtain ⟨-, h2, -⟩ := fit_small hF
  have := used_ge L k hk
  omega

set_option maxHeartbeats 4000000 in
theorem rfilled7 (a : Option Addr) (cap : Nat) (m b : Int) (k : Nat) (sb : ByteArray) (hsb : sb.size ≤ 1000000) (L : List Ino) (hF : FitP L m b) (hk : k < L.length) (L' : List Ino) (er : Int) (hz : filledW L b k sb.data.toList = (L', er)) (w : World) (hN : NodesIn w a cap L) :
    Calls Try.prog 25 #[.agg #[.slice a L.length cap, .int .i64 m, .int .i64 b], .int .i64 k, .string sb] w (RefAns w m b L' [.int .i64 er]) := by
  obtain ⟨bb, o, rfl, -⟩ := hN.2.2 k hk
  obtain ⟨w2, hw2, hb2, hs2, hA, hB⟩ := two_boxes w #[.slice (some ⟨bb, o, none⟩) L.length cap, .int .i64 m, .int .i64 b] #[.slice none 0 0, .int .i64 0, .int .i64 0] 24 24
  have HX := Lib.hid (show ∀ W, Below w2.heap.size w2 W → W.heap[w.heap.size + 1]? = some (.cells #[.slice none 0 0, .int .i64 0, .int .i64 0] 24 (0, 0)) ∧ W.cell? ⟨w.heap.size, 0, none⟩ = some (.slice (some ⟨bb, o, none⟩) L.length cap) ∧ W.cell? ⟨w.heap.size, 1, none⟩ = some (.int .i64 m) ∧ W.cell? ⟨w.heap.size, 2, none⟩ = some (.int .i64 b) from fun W hW => by
    have h := (hW.block w.heap.size (by omega)).trans hA
    exact ⟨(hW.block _ (by omega)).trans hB, blk_cell h 0, blk_cell h 1, blk_cell h 2⟩)
  have HM := Lib.hid (show ∀ W, Below w2.heap.size w2 W → NodesIn W (some ⟨bb, o, none⟩) cap L from fun W hW => hN.below (hb2.trans (hW.mono (by omega))))
  have HB2 := Lib.hid hb2
  have HF := Lib.hid hF
  obtain ⟨l1, l2, l3, l4, l5⟩ := hF.limits
  have hz2 := hz
  unfold filledW at hz2
  rw [node_nat L k hk] at hz2
  obtain ⟨D, hD⟩ : ∃ D : ByteArray, D = ⟨L[k].data.toArray⟩ := ⟨_, rfl⟩
  have hDs : D.size = L[k].data.length := by rw [hD]; simp [ByteArray.size]
  have hsl : sb.data.toList.length = sb.size := Array.length_toList
  have HDL := Lib.hid (data_lim hF hk)
  rw [← hDs, hsl] at hz2
  have HDD := Lib.hid hD
  have hDb : D.size ≤ 65536 := by rw [hDs]; exact HDL.out
  have HU := Lib.hid (show usedB L ≤ 65536 by omega)
  clear hz hN hb2 hA hB hF hD hDs hsl
  obtain ⟨hRx, q0, q1, q2⟩ := HX.out _ (Below.refl _ _)
  have HRX := Lib.hid hRx
  have hq := cell_lt q0
  have r0 := blk_cell hRx 0
  have r1 := blk_cell hRx 1
  have r2 := blk_cell hRx 2
  have s0 := blk_free hRx 0
  have s1 := blk_free hRx 1
  have s2 := blk_free hRx 2
  have hrl := lt_of_block hRx
  clear hRx
  rw [hw2] at r0 r1 r2 s0 s1 s2 hrl q0 q1 q2 hq
  go_enter Try.func25, Try.ntmps25
  go_wp2_with fail
  rw [← hw2]
  clear HRX r0 r1 r2 s0 s1 s2 hrl q0 q1 q2 hq
  clear hw2
  refine (rused_any _ _ _ _ L (by omega) (by have := HU.out; omega) _ (HM.out _ (Below.refl _ _))).mono ?_
  rintro e w3 ⟨rfl, hb3⟩
  have HB3 := Lib.hid hb3
  have hs3 := hb3.size
  clear hb3
  obtain ⟨hRx, q0, q1, q2⟩ := HX.out _ HB3.out
  have HRX := Lib.hid hRx
  have hq := cell_lt q0
  have r0 := blk_cell hRx 0
  have r1 := blk_cell hRx 1
  have r2 := blk_cell hRx 2
  have s0 := blk_free hRx 0
  have s1 := blk_free hRx 1
  have s2 := blk_free hRx 2
  have hrl := lt_of_block hRx
  clear hRx
  obtain ⟨bb', o', e1, hx⟩ := (HM.out _ HB3.out).2.2 k hk
  obtain ⟨rfl, rfl⟩ : bb = bb' ∧ o = o' := by simpa using e1
  have x3 := hx.data
  rw [← HDD.out] at x3
  have hxl := cell_lt x3
  have hk0 : (0 : Int) ≤ (k : Int) := by omega
  have hk1 : (k : Int) < (L.length : Int) := by omega
  obtain ⟨U, hU⟩ : ∃ U, U = usedB L := ⟨_, rfl⟩
  rw [← hU] at hz2
  have hUb : U ≤ 65536 := by rw [hU]; exact HU.out
  have hwr1 : IntKind.i64.wrap ((U : Int) - (D.size : Int)) = (U : Int) - (D.size : Int) := by rw [IntKind.wrap_i64]; omega
  have hwr2 : IntKind.i64.wrap ((U : Int) - (D.size : Int) + (sb.size : Int)) = (U : Int) - (D.size : Int) + (sb.size : Int) := by rw [IntKind.wrap_i64]; omega
  rw [← hU]
  clear hx e1 hU
  go_wp2_with fail
  by_cases hg : b < (U : Int) - (D.size : Int) + (sb.size : Int)
  · rw [if_pos hg] at hz2
    simp only [Prod.mk.injEq] at hz2
    obtain ⟨rfl, rfl⟩ := hz2
    go_quiet (fail)
    obtain ⟨wq, hwq⟩ : ∃ p, p = w3.drewN nq := ⟨_, rfl⟩
    have hbq : Below w3.heap.size w3 wq := by rw [hwq]; exact ⟨rfl, rfl, rfl, Nat.le_refl _, fun _ _ => rfl⟩
    have hsq : w3.heap.size ≤ wq.heap.size := hbq.size
    rw [← hwq]
    have HBQ := Lib.hid (HB3.out.trans (hbq.mono HB3.out.size))
    clear hwq hbq x3 hxl
    clear HRX r0 r1 r2 s0 s1 s2 hrl q0 q1 q2 hq
    obtain ⟨hRx, q0, q1, q2⟩ := HX.out _ HBQ.out
    have HRX := Lib.hid hRx
    have hq := cell_lt q0
    have r0 := blk_cell hRx 0
    have r1 := blk_cell hRx 1
    have r2 := blk_cell hRx 2
    have s0 := blk_free hRx 0
    have s1 := blk_free hRx 1
    have s2 := blk_free hRx 2
    have hrl := lt_of_block hRx
    clear hRx

    go_wp2_with fail
    change bodyPost _ _ _ _ _ (put3 wq (w.heap.size + 1) (.slice (some ⟨bb, o, none⟩) L.length cap) (.int .i64 m) (.int .i64 b))
    obtain ⟨c0, c1, c2⟩ := put3_cells HRX.out (.slice (some ⟨bb, o, none⟩) L.length cap) (.int .i64 m) (.int .i64 b)
    exact bodyPost_ret (v := .tuple #[.agg #[.slice (some ⟨bb, o, none⟩) L.length cap, .int .i64 m, .int .i64 b], .int .i64 28]) (by simp [results, Try.results25, go_sem, c0, c1, c2]) rfl ⟨⟨_, _, rfl, nodes_put3 (HM.out _ HBQ.out) HRX.out _ _ _⟩, put3_below (HB2.out.trans (HBQ.out.mono (by omega))) (by omega) _ _ _⟩

  · rw [if_neg hg] at hz2
    simp only [Prod.mk.injEq] at hz2
    obtain ⟨hL', rfl⟩ := hz2
    have HL' := Lib.hid hL'
    clear hL'
    go_quiet (fail)
    obtain ⟨wq, hwq⟩ : ∃ p, p = w3.drewN nq := ⟨_, rfl⟩
    have hbq : Below w3.heap.size w3 wq := by rw [hwq]; exact ⟨rfl, rfl, rfl, Nat.le_refl _, fun _ _ => rfl⟩
    have hsq : w3.heap.size ≤ wq.heap.size := hbq.size
    rw [← hwq]
    have HBQ := Lib.hid (HB3.out.trans (hbq.mono HB3.out.size))
    clear hwq hbq x3 hxl
    clear HRX r0 r1 r2 s0 s1 s2 hrl q0 q1 q2 hq
    obtain ⟨hRx, q0, q1, q2⟩ := HX.out _ HBQ.out
    have HRX := Lib.hid hRx
    have hq := cell_lt q0
    have r0 := blk_cell hRx 0
    have r1 := blk_cell hRx 1
    have r2 := blk_cell hRx 2
    have s0 := blk_free hRx 0
    have s1 := blk_free hRx 1
    have s2 := blk_free hRx 2
    have hrl := lt_of_block hRx
    clear hRx

    go_wp2_with fail
    refine (rown6 _ _ _ _ L HF.out _ (HM.out _ HBQ.out)).mono ?_
    rintro e w4 ⟨g, cap', vs, rfl, hR4, hg4, hb4⟩
    have HR4 := Lib.hid hR4
    have hgl := hR4.nodes.lt
    have HB4 := Lib.hid (HBQ.out.trans (hb4.mono HBQ.out.size))
    have hs4 := hb4.size
    clear hR4 hb4
    clear HRX r0 r1 r2 s0 s1 s2 hrl q0 q1 q2 hq
    obtain ⟨hRx, q0, q1, q2⟩ := HX.out _ HB4.out
    have HRX := Lib.hid hRx
    have hq := cell_lt q0
    have r0 := blk_cell hRx 0
    have r1 := blk_cell hRx 1
    have r2 := blk_cell hRx 2
    have s0 := blk_free hRx 0
    have s1 := blk_free hRx 1
    have s2 := blk_free hRx 2
    have hrl := lt_of_block hRx
    clear hRx

    obtain ⟨w5, hw5⟩ : ∃ p, p = w4.alloc (.cells #[.slice (some ⟨g, 0, none⟩) L.length cap', .int .i64 m, .int .i64 b] 24) := ⟨_, rfl⟩
    have hb5 : Below w4.heap.size w4 w5 := by rw [hw5]; exact below_box w4 _
    have hs5 : w5.heap.size = w4.heap.size + 1 := by rw [hw5]; simp
    have HU5 := Lib.hid (show w5.heap[w4.heap.size]? = some (.cells #[.slice (some ⟨g, 0, none⟩) L.length cap', .int .i64 m, .int .i64 b] 24 (0, 0)) by rw [hw5]; exact new_block w4 _)
    have HR5 := Lib.hid (HR4.out.below hb5)
    have HB5 := Lib.hid (HB4.out.trans (hb5.mono HB4.out.size))
    have HS5 := Lib.hid hs5
    clear hb5 hs5
    go_upto_region 5 with fail
    rw [← hw5]
    clear hw5
    clear HRX r0 r1 r2 s0 s1 s2 hrl q0 q1 q2 hq
    obtain ⟨hRx, q0, q1, q2⟩ := HX.out _ HB5.out
    have HRX := Lib.hid hRx
    have hq := cell_lt q0
    have r0 := blk_cell hRx 0
    have r1 := blk_cell hRx 1
    have r2 := blk_cell hRx 2
    have s0 := blk_free hRx 0
    have s1 := blk_free hRx 1
    have s2 := blk_free hRx 2
    have hrl := lt_of_block hRx
    clear hRx

    have u0 := blk_cell HU5.out 0
    have u1 := blk_cell HU5.out 1
    have u2 := blk_cell HU5.out 2
    have hul := lt_of_block HU5.out
    obtain ⟨⟨d3, n3⟩, f3⟩ := HR5.out.cells hk 3 (by omega)
    have hgl5 := HR5.out.nodes.lt
    obtain ⟨w6, hw6⟩ : ∃ p, p = w5.setCell ⟨g, k * 6 + 3, none⟩ (.string sb) := ⟨_, rfl⟩
    have hR6 : RefT w6 g cap' L' vs := by
      have h := HR5.out.setData hk sb.data.toList
      rw [text_self, HL'.out, ← hw6] at h
      exact h
    have hne : ∀ j, j ≠ g → w6.heap[j]? = w5.heap[j]? := fun j hj => by rw [hw6]; exact Below.heap_setCell _ _ _ _ hj
    have hB6 : Below w.heap.size w w6 := by rw [hw6]; exact (HB2.out.trans (HB5.out.mono (by omega))).setCell (show w.heap.size ≤ g by omega) _
    have hR6x := (hne (w.heap.size + 1) (by omega)).trans HRX.out
    have HR6 := Lib.hid hR6
    have HB6 := Lib.hid hB6
    have HW6 := Lib.hid hw6
    have HLE := Lib.hid (show L'.length = L.length by rw [← HL'.out, data_len])
    clear hR6 hB6 hw6 hne
    go_wp2_with fail
    rw [← HW6.out]
    clear HRX
    have HRX := Lib.hid hR6x
    clear hR6x
    change bodyPost _ _ _ _ _ (put3 w6 (w.heap.size + 1) (.slice (some ⟨g, 0, none⟩) L.length cap') (.int .i64 m) (.int .i64 b))
    obtain ⟨c0, c1, c2⟩ := put3_cells HRX.out (.slice (some ⟨g, 0, none⟩) L.length cap') (.int .i64 m) (.int .i64 b)
    exact bodyPost_ret (v := .tuple #[.agg #[.slice (some ⟨g, 0, none⟩) L'.length cap', .int .i64 m, .int .i64 b], .int .i64 0]) (by simp [results, Try.results25, go_sem, c0, c1, c2, HLE.out]) rfl ⟨⟨_, _, rfl, nodes_put3 HR6.out.nodesIn HRX.out _ _ _⟩, put3_below HB6.out (by omega) _ _ _⟩


end Go.Proofs.Ytblmlgpajmaliaa
