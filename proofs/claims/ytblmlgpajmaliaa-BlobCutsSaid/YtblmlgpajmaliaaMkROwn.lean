/-
  The reference's Own: a copy of the slice of inodes, whose names' slices are shared.
-/
import Derived.Test.YtblmlgpajmaliaaMkClone
import Derived.Laws.AppendOwnNone
namespace Go.Proofs.Ytblmlgpajmaliaa
set_option maxRecDepth 100000
open Go Go.RowKit

set_option maxHeartbeats 2000000 in
theorem rown_any (a : Option Addr) (cap : Nat) (m b : Int) (L : List Ino) (hL : 0 < L.length) (hb : L.length ≤ 1000) (w : World) (hN : NodesIn w a cap L) :
    Calls Try.prog 18 #[.agg #[.slice a L.length cap, .int .i64 m, .int .i64 b]] w fun e w' => ∃ g cap' vs, e = .returned (.agg #[.slice (some ⟨g, 0, none⟩) L.length cap', .int .i64 m, .int .i64 b]) ∧ NodesOwn w' g cap' L vs ∧ w.heap.size ≤ g ∧ (∀ i (hi : i < L.length) (hv : i < vs.length), KidsIn w vs[i] L[i].kids) ∧ Below w.heap.size w w' := by
  obtain ⟨i0, hi, hz0, hz1, hz2⟩ := info_parts infoIn
  obtain ⟨vs, hl, hone, hk, hcell⟩ := nodes_open hN
  obtain ⟨bb, o, rfl, hx⟩ := hN.2.2 0 hL
  have hbl := cell_lt hx.kind
  obtain ⟨w2, hw2, hb2, hs2, hA, hB⟩ := two_boxes w #[.slice (some ⟨bb, o, none⟩) L.length cap, .int .i64 m, .int .i64 b] #[.slice none 0 0, .int .i64 0, .int .i64 0] 24 24
  have AS : Aside (∀ j u, (nodeC L vs)[j]? = some u → w2.cell? ⟨bb, o + j, none⟩ = some u) := fun j u hj => by
    obtain ⟨b', o', e, hc⟩ := hcell j u hj
    cases e
    exact cell_below hb2 hc
  have HK := Lib.hid hk
  have HL := Lib.hid hl
  have HB2 := Lib.hid hb2
  have HA := Lib.hid hA
  have HR := Lib.hid hB
  have a0 := blk_cell hA 0
  have hal := lt_of_block hA
  clear hcell hk hN hl hx hbl hb2 hA hB
  go_enter Try.func18, Try.ntmps18
  go_wp2_with (at_builtin; refine wpList_append_own _ rfl _ _ 22 rfl (w.heap.size + 2) 42 i0 _ 6 72 Try.underlying22 hi hz0 hz1 hz2 rfl (by decide) (.slice none 0 0) 0 [] rfl (World.ownsRow_nil _ _ _ _) ⟨bb, o, none⟩ L.length cap (nodeC L vs) rfl (nodeC_len L vs HL.out) (fun j u hj => by rw [Addr.add_lit, ← hw2]; exact AS.out j u hj) (nodeC_one hone) (by unfold maxLen; omega) (by omega) (by rw [← hw2]; omega) ?_)
  intro v' w3 hown hgrow hnil
  rw [← hw2] at hgrow
  have hb3 : Below w2.heap.size w2 w3 := (Below.refl _ _).grown hgrow (Nat.le_refl _) (fun k hk => by cases hk)
  rcases hown.2 with ⟨rfl, h0⟩ | ⟨g, cap', cur, rfl, hgb, -⟩
  · omega
  have hown2 : w3.ownsRow (w.heap.size + 2) 42 6 (.slice (some ⟨g, 0, none⟩) L.length cap') L.length (nodeC L vs) := by simpa using hown
  have hN3 := (nodes_of_row HL.out hown2).1
  have hA3 := (hb3.block w.heap.size (by omega)).trans HA.out
  have hR3 := (hb3.block (w.heap.size + 1) (by omega)).trans HR.out
  have q0 := blk_cell hA3 0
  have q1 := blk_cell hA3 1
  have q2 := blk_cell hA3 2
  have f0 := blk_free hA3 0
  have r0 := blk_cell hR3 0
  have r1 := blk_cell hR3 1
  have r2 := blk_cell hR3 2
  have s0 := blk_free hR3 0
  have s1 := blk_free hR3 1
  have s2 := blk_free hR3 2
  have hrl := lt_of_block hR3
  have hq := lt_of_block hA3
  obtain ⟨w4, hw4⟩ : ∃ w4, w4 = w3.setCell ⟨w.heap.size, 0, none⟩ (.slice (some ⟨g, 0, none⟩) L.length cap') := ⟨_, rfl⟩
  have hA4 : w4.heap[w.heap.size]? = some (.cells #[.slice (some ⟨g, 0, none⟩) L.length cap', .int .i64 m, .int .i64 b] 24 (0, 0)) := by rw [hw4]; exact blk_set hA3 0 _
  have hst : ∀ k, k ≠ w.heap.size → w4.heap[k]? = w3.heap[k]? := fun k hk => by rw [hw4]; exact Below.heap_setCell _ _ _ _ hk
  have hR4 := (hst (w.heap.size + 1) (by omega)).trans hR3
  have hN4 : NodesOwn w4 g cap' L vs := hN3.same (hst g (by omega))
  have hb4 : Below w.heap.size w w4 := by rw [hw4]; exact (HB2.out.trans (hb3.mono (by omega))).setCell (show w.heap.size ≤ w.heap.size from Nat.le_refl _) _
  have HW4 := Lib.hid hw4
  have HN4 := Lib.hid hN4
  have HB4 := Lib.hid hb4
  have HR4 := Lib.hid hR4
  have HA4 := Lib.hid hA4
  clear hw4 hN4 hb4 hR4 hA4 hst hN3 hown hown2 hgrow hnil hb3 hA3 hR3 a0 hal hw2
  go_wp2_with fail
  change bodyPost _ _ _ _ _ (put3 (w3.setCell ⟨w.heap.size, 0, none⟩ (.slice (some ⟨g, 0, none⟩) L.length cap')) (w.heap.size + 1) (.slice (some ⟨g, 0, none⟩) L.length cap') (.int .i64 m) (.int .i64 b))
  rw [← HW4.out]
  obtain ⟨c0, c1, c2⟩ := put3_cells HR4.out (.slice (some ⟨g, 0, none⟩) L.length cap') (.int .i64 m) (.int .i64 b)
  have HNF := Lib.hid (HN4.out.same (W' := put3 w4 (w.heap.size + 1) (.slice (some ⟨g, 0, none⟩) L.length cap') (.int .i64 m) (.int .i64 b)) (put3_other (by omega) _ _ _))
  have HBF := Lib.hid (put3_below HB4.out (show w.heap.size ≤ w.heap.size + 1 by omega) (.slice (some ⟨g, 0, none⟩) L.length cap') (.int .i64 m) (.int .i64 b))
  generalize put3 w4 (w.heap.size + 1) (.slice (some ⟨g, 0, none⟩) L.length cap') (.int .i64 m) (.int .i64 b) = wF at *
  exact bodyPost_ret (v := .agg #[.slice (some ⟨g, 0, none⟩) L.length cap', .int .i64 m, .int .i64 b]) (by simp [results, Try.results18, go_sem, c0, c1, c2]) rfl ⟨g, cap', vs, rfl, HNF.out, by omega, HK.out, HBF.out⟩
end Go.Proofs.Ytblmlgpajmaliaa
