/-
  awake: chapter 7's example.
-/
import Derived.Deep.Cut
import Derived.Test.YtblmlgpajmaliaaBWrite
import Derived.Test.YtblmlgpajmaliaaBRead
import Derived.Test.YtblmlgpajmaliaaTNewFit
import Derived.Test.YtblmlgpajmaliaaTreeNew
namespace Go.Proofs.Ytblmlgpajmaliaa
set_option maxRecDepth 100000
open Go Go.RowKit

def bw0 : List Ino := (newT 4 100).nodes
def bw1 : List Ino := bw0.set 0 { bw0[0]'(by decide +kernel) with kids := [([102], 1)] }
def bw2 : List Ino := bw1.set 1 ⟨1, 6, 1, [], [], 0⟩
def bw3 : List Ino := (writeW bw2 100 1 2 [97, 98]).1
def bw4 : List Ino := (cutW bw3 100 1 3).1
theorem bw_fit0 : FitP bw0 4 100 := new_fit (n := 4) (b := 100) (by decide) (by decide) (by decide) (by decide)
theorem bw_adds : Adds bw0 4 100 0 1 [102] ⟨1, 6, 1, [], [], 0⟩ := ⟨bw_fit0, by decide +kernel, by decide +kernel, by decide +kernel, by decide +kernel, by decide +kernel, by decide +kernel, by decide +kernel, by decide +kernel, by decide +kernel, rfl, by decide +kernel, fun h => absurd h (by decide), by decide +kernel⟩
theorem bw_same : addL bw0 0 1 [102] ⟨1, 6, 1, [], [], 0⟩ = bw2 := by kernel_rfl
theorem bw_fit2 : FitP bw2 4 100 := by rw [← bw_same]; exact bw_adds.fits
theorem bw_wr : writeW bw2 100 1 2 [97, 98] = (bw3, 0) := Prod.ext rfl (by decide +kernel)
theorem bw_fit3 : FitP bw3 4 100 := by
  rcases (write_ok bw_fit2 bw_wr).1 rfl with ⟨h, -⟩ | ⟨n, o, hn, -, -, -, -, -, h⟩
  · exact absurd h (by decide)
  · exact h
theorem bw_ct : cutW bw3 100 1 3 = (bw4, 0) := Prod.ext rfl (by decide +kernel)
theorem bw_fit4 : FitP bw4 4 100 := by
  obtain ⟨n, o, hn, -, -, -, -, -, h⟩ := (cut_ok bw_fit3 bw_ct).1 rfl
  exact h
theorem bw_rd3 : readW bw3 1 0 99 = ([0, 0, 97, 98], 0) := by decide +kernel
theorem bw_rd4 : readW bw4 1 0 99 = ([0, 0, 97], 0) := by decide +kernel
theorem bw_len : bw0.length = 4 ∧ bw1.length = 4 ∧ bw2.length = 4 ∧ bw3.length = 4 ∧ bw4.length = 4 := by decide +kernel

set_option maxHeartbeats 16000000 in
theorem awake7 (w : World) : Calls Try.prog 9 #[] w fun e w' => e = .returned (.bool true) ∧ Below w.heap.size w w' := by
  have hnew : ∀ w, Calls Try.prog 19 #[.int .i64 4, .int .i64 100] w fun e w' => (∃ a cap, e = .returned (.tuple #[.agg #[.slice a bw0.length cap, .int .i64 4, .int .i64 100], .int .i64 0]) ∧ NodesIn w' a cap bw0) ∧ Below w.heap.size w w' :=
    fun w => (rnew_yes 4 100 (by decide) (by decide) (by decide) (by decide) w).mono fun e w' h => by
      obtain ⟨⟨v, rfl, a, cap, rfl, hN⟩, hb⟩ := h
      exact ⟨⟨a, cap, rfl, hN⟩, hb⟩
  obtain ⟨l0, l1, l2, l3, l4⟩ := bw_len
  have F0 := Lib.hid bw_fit0
  have F2 := Lib.hid bw_fit2
  have F3 := Lib.hid bw_fit3
  have F4 := Lib.hid bw_fit4
  have EW := Lib.hid bw_wr
  have EC := Lib.hid bw_ct
  have ER3 := Lib.hid bw_rd3
  have ER4 := Lib.hid bw_rd4
  obtain ⟨A1, h1⟩ : ∃ L, L = bw1 := ⟨_, rfl⟩
  obtain ⟨A2, h2⟩ : ∃ L, L = bw2 := ⟨_, rfl⟩
  obtain ⟨A3, h3⟩ : ∃ L, L = bw3 := ⟨_, rfl⟩
  obtain ⟨A4, h4⟩ : ∃ L, L = bw4 := ⟨_, rfl⟩
  have L1 := Lib.hid l1
  have L2 := Lib.hid l2
  have L3 := Lib.hid l3
  have hd1 : ∀ h0 : 0 < bw0.length, bw0.set 0 { bw0[0] with kids := [([102], 1)] } = bw1 := fun _ => rfl
  have hd2 : bw1.set 1 ⟨1, 6, 1, [], [], 0⟩ = bw2 := rfl
  have D1 := Lib.hid hd1
  have D2 := Lib.hid hd2
  obtain ⟨A0, h0⟩ : ∃ L, L = bw0 := ⟨_, rfl⟩
  have D0 := Lib.hid h0
  rw [← h0] at hnew F0 l0 D1
  rw [← h1] at D1 D2 L1
  rw [← h2] at D2 F2 EW L2
  rw [← h3] at F3 EW EC ER3 L3
  rw [← h4] at F4 EC ER4
  have HNEW := Lib.hid hnew
  have L0 := Lib.hid l0
  clear hnew h0 h1 h2 h3 h4 l0 l1 l2 l3 l4 hd1 hd2
  go_enter Try.func9, Try.ntmps9
  go_wp2_with fail
  refine (HNEW.out _).mono ?_
  rintro e w1 ⟨⟨a, cap, rfl, hN⟩, hb1⟩
  have HN := Lib.hid hN
  have HB1 := Lib.hid hb1
  have hs1 := hb1.size
  clear hN hb1
  go_wp2_with fail
  obtain ⟨w2, hw2⟩ : ∃ w2, w2 = w1.alloc (.cells #[.slice a A0.length cap, .int .i64 4, .int .i64 100] 24) := ⟨_, rfl⟩
  have hb2 : Below w1.heap.size w1 w2 := by rw [hw2]; exact below_box w1 _
  have hX2 : w2.heap[w1.heap.size]? = some (.cells #[.slice a A0.length cap, .int .i64 4, .int .i64 100] 24 (0, 0)) := by rw [hw2]; exact new_block w1 _
  have hs2 : w2.heap.size = w1.heap.size + 1 := by rw [hw2]; simp
  rw [← hw2]
  have HB2 := Lib.hid (HB1.out.trans (hb2.mono hs1))
  have HN2 := Lib.hid (HN.out.below hb2)
  have HX2 := Lib.hid hX2
  clear hw2 hb2 hX2
  refine (rown6 _ _ _ _ A0 F0.out _ HN2.out).mono ?_
  rintro e w3 ⟨g, cap', vs, rfl, hR3, hg3, hb3⟩
  have HR3 := Lib.hid hR3
  have hgl := hR3.nodes.lt
  have hX3 := (hb3.block w1.heap.size (by omega)).trans HX2.out
  have HX3 := Lib.hid hX3
  have HB3 := Lib.hid (HB2.out.trans (hb3.mono HB2.out.size))
  have hs3 := hb3.size
  have q0 := blk_cell hX3 0
  have q1 := blk_cell hX3 1
  have q2 := blk_cell hX3 2
  have f0 := blk_free hX3 0
  have f1 := blk_free hX3 1
  have f2 := blk_free hX3 2
  have hql := lt_of_block hX3
  have HA0 := Lib.hid (show ∀ x ∈ A0, x.kids = [] by rw [D0.out]; decide +kernel)
  clear hR3 hX3 hb3
  obtain ⟨p3, hp3⟩ : ∃ p, p = put3 w3 w1.heap.size (.slice (some ⟨g, 0, none⟩) A0.length cap') (.int .i64 4) (.int .i64 100) := ⟨_, rfl⟩
  have hsp3 : p3.heap.size ≤ w3.heap.size ∧ w3.heap.size ≤ p3.heap.size := by rw [hp3, put3_size]; exact ⟨Nat.le_refl _, Nat.le_refl _⟩
  have HX4 := Lib.hid (show p3.heap[w1.heap.size]? = some (.cells #[.slice (some ⟨g, 0, none⟩) A0.length cap', .int .i64 4, .int .i64 100] 24 (0, 0)) by rw [hp3]; exact put3_block HX3.out _ _ _)
  have HR4 := Lib.hid (show RefT p3 g cap' A0 vs from HR3.out.bare HA0.out (by rw [hp3]; exact put3_other (by omega) _ _ _))
  have HB4 := Lib.hid (show Below w.heap.size w p3 by rw [hp3]; exact put3_below HB3.out (by omega) _ _ _)
  go_upto_region 3 with fail
  change Code.wp _ _ _ _ (put3 w3 w1.heap.size (.slice (some ⟨g, 0, none⟩) A0.length cap') (.int .i64 4) (.int .i64 100))
  rw [← hp3]
  clear hp3 q0 q1 q2 f0 f1 f2 hql
  have q0 := blk_cell HX4.out 0
  have hql := lt_of_block HX4.out
  have hA0 : (0 : Int) < (A0.length : Int) := by have := L0.out; omega
  have hg3 : g < p3.heap.size := by omega
  obtain ⟨u4, c4⟩ : ∃ u, p3.cell? ⟨g, 4, none⟩ = some u := (HR4.out.cells (i := 0) (by have := L0.out; omega) 4 (by decide)).1
  have fr4 : p3.frozen? ⟨g, 4, none⟩ = false := (HR4.out.cells (i := 0) (by have := L0.out; omega) 4 (by decide)).2
  go_upto_region 4 with fail
  obtain ⟨p4, hp4⟩ : ∃ p, p = (p3.setCell ⟨g, 4, none⟩ (.slice (some ⟨p3.heap.size, 0, none⟩) 1 1)).alloc (.cells #[.string ⟨#[102]⟩, .int .i64 1] 50) := ⟨_, rfl⟩
  rw [← hp4]
  have hp4' : p4 = (p3.alloc (.cells #[.string ⟨([102] : List UInt8).toArray⟩, .int .i64 1] 50)).setCell ⟨g, 0 * 6 + 4, none⟩ (.slice (some ⟨p3.heap.size, 0, none⟩) 1 1) := hp4.trans (World.setCell_alloc_past (w := p3) _ g 4 _ hg3).symm
  have hsp4 : p4.heap.size ≤ p3.heap.size + 1 ∧ p3.heap.size + 1 ≤ p4.heap.size := by rw [hp4, World.size_alloc, set_sizes]; exact ⟨Nat.le_refl _, Nat.le_refl _⟩
  have hR5 : RefT p4 g cap' A1 (vs.set 0 (.slice (some ⟨p3.heap.size, 0, none⟩) 1 1)) := by
    have h := HR4.out.setK (d := 0) (by have := L0.out; omega) (M := [([102], 1)]) (v := .slice (some ⟨p3.heap.size, 0, none⟩) 1 1) (below_box p3 (.cells #[.string ⟨([102] : List UInt8).toArray⟩, .int .i64 1] 50)) (kids_just (new_block p3 _) (by omega))
    rw [hp4', ← D1.out (by have := L0.out; omega)]
    exact h
  have HR5 := Lib.hid hR5
  have HX5 := Lib.hid (show p4.heap[w1.heap.size]? = some (.cells #[.slice (some ⟨g, 0, none⟩) A0.length cap', .int .i64 4, .int .i64 100] 24 (0, 0)) by
    rw [hp4']; exact (Below.heap_setCell _ _ _ _ (by show w1.heap.size ≠ g; omega)).trans ((Below.heap_alloc _ _ _ (by omega)).trans HX4.out))
  have HB5 := Lib.hid (show Below w.heap.size w p4 by rw [hp4']; exact (HB4.out.alloc (by omega) _).setCell (by show w.heap.size ≤ g; omega) _)
  clear hp4 hp4' hR5 q0 hql c4 fr4
  have q0 := blk_cell HX5.out 0
  have q1 := blk_cell HX5.out 1
  have q2 := blk_cell HX5.out 2
  have hql := lt_of_block HX5.out
  have hA1 : (1 : Int) < (A0.length : Int) := by have := L0.out; omega
  have hl1 : 1 < A1.length := by have := L1.out; omega
  have hg4 : g < p4.heap.size := by omega
  obtain ⟨v0, c0⟩ : ∃ u, p4.cell? ⟨g, 6, none⟩ = some u := (HR5.out.cells (i := 1) hl1 0 (by decide)).1
  obtain ⟨v1, c1⟩ : ∃ u, p4.cell? ⟨g, 7, none⟩ = some u := (HR5.out.cells (i := 1) hl1 1 (by decide)).1
  obtain ⟨v2, c2⟩ : ∃ u, p4.cell? ⟨g, 8, none⟩ = some u := (HR5.out.cells (i := 1) hl1 2 (by decide)).1
  obtain ⟨v3, c3⟩ : ∃ u, p4.cell? ⟨g, 9, none⟩ = some u := (HR5.out.cells (i := 1) hl1 3 (by decide)).1
  obtain ⟨v4, c4⟩ : ∃ u, p4.cell? ⟨g, 10, none⟩ = some u := (HR5.out.cells (i := 1) hl1 4 (by decide)).1
  obtain ⟨v5, c5⟩ : ∃ u, p4.cell? ⟨g, 11, none⟩ = some u := (HR5.out.cells (i := 1) hl1 5 (by decide)).1
  have f0 : p4.frozen? ⟨g, 6, none⟩ = false := (HR5.out.cells (i := 1) hl1 0 (by decide)).2
  have f1 : p4.frozen? ⟨g, 7, none⟩ = false := (HR5.out.cells (i := 1) hl1 1 (by decide)).2
  have f2 : p4.frozen? ⟨g, 8, none⟩ = false := (HR5.out.cells (i := 1) hl1 2 (by decide)).2
  have f3 : p4.frozen? ⟨g, 9, none⟩ = false := (HR5.out.cells (i := 1) hl1 3 (by decide)).2
  have f4 : p4.frozen? ⟨g, 10, none⟩ = false := (HR5.out.cells (i := 1) hl1 4 (by decide)).2
  have f5 : p4.frozen? ⟨g, 11, none⟩ = false := (HR5.out.cells (i := 1) hl1 5 (by decide)).2
  go_upto_region 5 with fail
  obtain ⟨p6, hp6⟩ : ∃ p, p = p4.setCells g (1 * 6) (inoC ⟨1, 6, 1, [], [], 0⟩ (.slice none 0 0)) := ⟨_, rfl⟩
  change Code.wp _ _ _ _ (p4.setCells g (1 * 6) (inoC ⟨1, 6, 1, [], [], 0⟩ (.slice none 0 0)))
  rw [← hp6]
  have hsp6 : p6.heap.size ≤ p4.heap.size ∧ p4.heap.size ≤ p6.heap.size := by rw [hp6, size_sets]; exact ⟨Nat.le_refl _, Nat.le_refl _⟩
  have HR7 := Lib.hid (show NodesIn p6 (some ⟨g, 0, none⟩) cap' A2 from by
    have h := HR5.out.setNode (i := 1) hl1 ⟨1, 6, 1, [], [], 0⟩ rfl
    rw [D2.out, ← hp6] at h
    exact h.nodesIn)
  have HX7 := Lib.hid (show p6.heap[w1.heap.size]? = some (.cells #[.slice (some ⟨g, 0, none⟩) A2.length cap', .int .i64 4, .int .i64 100] 24 (0, 0)) by
    rw [L2.out, ← L0.out, hp6]; exact (heap_sets _ _ _ _ _ (by omega)).trans HX5.out)
  have HB7 := Lib.hid (show Below w.heap.size w p6 by rw [hp6]; exact below_sets HB5.out (by omega) _ _)
  clear hp6 q0 q1 q2 hql c0 c1 c2 c3 c4 c5 f0 f1 f2 f3 f4 f5 HR3 HR4 HR5 HX3 HX4 HX5 HA0 D0 D1 D2 HB1 HB2 HB3 HB4 HB5 HN HN2 HX2 hA0 hA1 hl1 hg4 hg3
  have hwl : w.heap.size ≤ w1.heap.size := hs1
  have h16 : w1.heap.size ≤ p6.heap.size := by omega
  have q0 := blk_cell HX7.out 0
  have q1 := blk_cell HX7.out 1
  have q2 := blk_cell HX7.out 2
  have hql := lt_of_block HX7.out
  go_wp2_with fail
  refine (lwrite7 _ _ _ _ _ _ ⟨#[97, 98]⟩ (by decide) A2 F2.out A3 0 EW.out _ HR7.out).mono ?_
  rintro e x1 ⟨⟨a1, k1, he, hN⟩, hb⟩
  have he' : e = .returned (.tuple #[.agg #[.slice a1 A3.length k1, .int .i64 4, .int .i64 100], .int .i64 0]) := he
  subst he'
  have HN1 := Lib.hid hN
  have hx1 := hb.size
  have hX8 := (hb.block w1.heap.size (by omega)).trans HX7.out
  have HX8 := Lib.hid hX8
  have HB8 := Lib.hid (HB7.out.trans (hb.mono HB7.out.size))
  clear he hN hb q0 q1 q2 hql
  have r0 := blk_cell hX8 0
  have r1 := blk_cell hX8 1
  have r2 := blk_cell hX8 2
  have s0 := blk_free hX8 0
  have s1 := blk_free hX8 1
  have s2 := blk_free hX8 2
  have hrl := lt_of_block hX8
  clear hX8
  go_upto_region 6 with fail
  obtain ⟨y4, hy⟩ : ∃ p, p = put3 x1 w1.heap.size (.slice a1 A3.length k1) (.int .i64 4) (.int .i64 100) := ⟨_, rfl⟩
  change Code.wp _ _ _ _ (put3 x1 w1.heap.size (.slice a1 A3.length k1) (.int .i64 4) (.int .i64 100))
  rw [← hy]
  have hsy4 : x1.heap.size ≤ y4.heap.size ∧ y4.heap.size ≤ x1.heap.size := by rw [hy, put3_size]; exact ⟨Nat.le_refl _, Nat.le_refl _⟩
  have KU := Lib.hid (show y4.heap[w1.heap.size]? = some (.cells #[.slice a1 A3.length k1, .int .i64 4, .int .i64 100] 24 (0, 0)) by rw [hy]; exact put3_block HX8.out _ _ _)
  have NU := Lib.hid (show NodesIn y4 a1 k1 A3 by rw [hy]; exact nodes_tree HN1.out HX8.out _ _ _)
  have HB9 := Lib.hid (show Below w.heap.size w y4 by rw [hy]; exact put3_below HB8.out hwl _ _ _)
  clear hy r0 r1 r2 s0 s1 s2 hrl HX8 HN1 HX7 HR7 HB7 HB8
  have HTT := Lib.hid (show ∀ W, Below y4.heap.size y4 W → W.cell? ⟨w1.heap.size, 0, none⟩ = some (.slice a1 A3.length k1) ∧ W.cell? ⟨w1.heap.size, 1, none⟩ = some (.int .i64 4) ∧ W.cell? ⟨w1.heap.size, 2, none⟩ = some (.int .i64 100) ∧ NodesIn W a1 k1 A3 ∧ Below w.heap.size w W from fun W hW => by
    have h := (hW.block _ (lt_of_block KU.out)).trans KU.out
    exact ⟨blk_cell h 0, blk_cell h 1, blk_cell h 2, NU.out.below hW, HB9.out.trans (hW.mono HB9.out.size)⟩)
  have HBB := Lib.hid (Below.refl y4.heap.size y4)
  obtain ⟨q0, q1, q2, -, -⟩ := HTT.out _ HBB.out
  have hql := cell_lt q0
  go_wp2_with fail
  refine (lread7 _ _ _ _ _ _ _ A3 F3.out _ _ ER3.out _ (HTT.out _ HBB.out).2.2.2.1).mono ?_
  rintro e x2 ⟨rfl, hb⟩
  have HBB := Lib.hid (HBB.out.trans (hb.mono HBB.out.size))
  have hx2 := hb.size
  clear hb q0 q1 q2 hql
  obtain ⟨q0, q1, q2, -, -⟩ := HTT.out _ HBB.out
  have hql := cell_lt q0
  go_wp2_with fail
  refine (lcut7 _ _ _ _ _ _ A3 F3.out A4 0 EC.out _ (HTT.out _ HBB.out).2.2.2.1).mono ?_
  rintro e x3 ⟨⟨a2, k2, he, hN⟩, hb⟩
  have he' : e = .returned (.tuple #[.agg #[.slice a2 A4.length k2, .int .i64 4, .int .i64 100], .int .i64 0]) := he
  subst he'
  have HN2 := Lib.hid hN
  have HBB := Lib.hid (HBB.out.trans (hb.mono HBB.out.size))
  have hx3 := hb.size
  clear he hN hb q0 q1 q2 hql
  go_wp2_with fail
  obtain ⟨y3, hy⟩ : ∃ p, p = x3.alloc (.cells #[.slice a2 A4.length k2, .int .i64 4, .int .i64 100] 24) := ⟨_, rfl⟩
  rw [← hy]
  have hb : Below x3.heap.size x3 y3 := by rw [hy]; exact below_box x3 _
  have NU2 := Lib.hid (HN2.out.below hb)
  have HBB := Lib.hid (HBB.out.trans (hb.mono HBB.out.size))
  clear hy hb
  refine (lread7 _ _ _ _ _ _ _ A4 F4.out _ _ ER4.out _ NU2.out).mono ?_
  rintro e x4 ⟨rfl, hb⟩
  have HBB := Lib.hid (HBB.out.trans (hb.mono HBB.out.size))
  clear hb
  go_wp2_with fail
  go_ret
  exact ⟨by rfl, (HTT.out _ HBB.out).2.2.2.2⟩
end Go.Proofs.Ytblmlgpajmaliaa
