/-
  awake: chapter 11's example.
-/
import Derived.Deep.Cut
import Derived.BigRegion
import Derived.Test.YtclhpedecimicaaGreatGTree
import Derived.Test.YtclhpedecimicaaGreatGExpand
import Derived.Test.YtclhpedecimicaaGreatK17
import Derived.Test.YtclhpedecimicaaGreatK12
import Derived.Test.YtclhpedecimicaaGreatK11
namespace Go.Proofs.YtclhpedecimicaaGreat
set_option maxRecDepth 100000
open Go Go.RowKit

def g11K : List (List UInt8 × Int) := [([46, 100], 3), ([97], 1), ([98], 2)]
def g11D : Ino := ⟨2, 7, 1, [], [([99], 4)], 0⟩
def ga0 : List Ino := (newT 8 100).nodes
def ga1 : List Ino := ga0.set 0 { ga0[0]'(by decide +kernel) with kids := g11K }
def ga2 : List Ino := ga1.set 1 fil
def ga3 : List Ino := ga2.set 2 g11D
def ga4 : List Ino := ga3.set 3 fil
theorem ga_fit : FitP ga0 8 100 := new_fit (n := 8) (b := 100) (by decide) (by decide) (by decide) (by decide)
theorem ga_len : ga0.length = 8 ∧ ga1.length = 8 ∧ ga2.length = 8 ∧ ga3.length = 8 ∧ ga4.length = 8 := by decide +kernel
theorem ga_last : ga4.set 4 fil = T11 := by kernel_rfl
theorem kids_three {w5 : World} {g B : Nat} {t : TypeId} (hB : w5.heap[B]? = some (.cells #[.string ⟨#[46, 100]⟩, .int .i64 3, .string ⟨#[97]⟩, .int .i64 1, .string ⟨#[98]⟩, .int .i64 2] t (0, 0))) (hne : B ≠ g) (W' : World) (h : ∀ j, j ≠ g → j < w5.heap.size → W'.heap[j]? = w5.heap[j]?) : KidsIn W' (.slice (some ⟨B, 0, none⟩) 3 3) g11K := by
  have h1 := (h B hne (lt_of_block hB)).trans hB
  refine ⟨_, 3, rfl, Nat.le_refl _, by unfold maxLen; decide, fun i hi => ⟨B, 0, rfl, ?_⟩⟩
  have hi' : i < 3 := hi
  match i, hi' with
  | 0, _ => exact ⟨blk_cell h1 0, blk_cell h1 1⟩
  | 1, _ => exact ⟨blk_cell h1 2, blk_cell h1 3⟩
  | 2, _ => exact ⟨blk_cell h1 4, blk_cell h1 5⟩

theorem texts_two (B : Nat) (W : World) (x y : List UInt8) (h : B ≤ W.heap.size) : Texts B (W.alloc (.cells #[sv x, sv y] 9)) (.slice (some ⟨W.heap.size, 0, none⟩) 2 2) [x, y] :=
  ⟨rfl, Or.inr ⟨W.heap.size, 2, #[sv x, sv y], rfl, h, new_block _ _, Nat.le_refl _, by decide, rfl, rfl⟩⟩
theorem texts_nil11 {B : Nat} {w : World} {v : Value} (h : Texts B w v []) : ∃ a c, v = .slice a 0 c := by
  rcases h.forms with ⟨rfl, -⟩ | ⟨g, c, rfl, -⟩
  · exact ⟨_, _, rfl⟩
  · exact ⟨_, _, rfl⟩

set_option maxHeartbeats 16000000 in
theorem awake11 (w : World) : Calls Tryz.prog 8 #[] w fun e w' => e = .returned (.bool true) ∧ Below w.heap.size w w' := by
  have hnew : ∀ w, Calls Tryz.prog 15 #[.int .i64 8, .int .i64 100] w fun e w' => (∃ a cap, e = .returned (.tuple #[.agg #[.slice a ga0.length cap, .int .i64 8, .int .i64 100], .int .i64 0]) ∧ NodesIn w' a cap ga0) ∧ Below w.heap.size w w' :=
    fun w => (rnew_yes 8 100 (by decide) (by decide) (by decide) (by decide) w).mono fun e w' h => by
      obtain ⟨⟨v, rfl, a, cap, rfl, hN⟩, hb⟩ := h
      exact ⟨⟨a, cap, rfl, hN⟩, hb⟩
  obtain ⟨l0, l1, l2, l3, l4⟩ := ga_len
  have F0 := Lib.hid ga_fit
  obtain ⟨A0, h0⟩ : ∃ L, L = ga0 := ⟨_, rfl⟩
  obtain ⟨A1, h1⟩ : ∃ L, L = ga1 := ⟨_, rfl⟩
  obtain ⟨A2, h2⟩ : ∃ L, L = ga2 := ⟨_, rfl⟩
  obtain ⟨A3, h3⟩ : ∃ L, L = ga3 := ⟨_, rfl⟩
  obtain ⟨A4, h4⟩ : ∃ L, L = ga4 := ⟨_, rfl⟩
  have hd1 : ∀ h0 : 0 < ga0.length, ga0.set 0 { ga0[0] with kids := g11K } = ga1 := fun _ => rfl
  have hd2 : ga1.set 1 fil = ga2 := rfl
  have hd3 : ga2.set 2 g11D = ga3 := rfl
  have hd4 : ga3.set 3 fil = ga4 := rfl
  have hd5 := ga_last
  have D0 := Lib.hid h0
  have D1 := Lib.hid hd1
  have D2 := Lib.hid hd2
  have D3 := Lib.hid hd3
  have D4 := Lib.hid hd4
  have D5 := Lib.hid hd5
  rw [← h0] at hnew F0 l0 D1
  rw [← h1] at D1 D2 l1
  rw [← h2] at D2 D3 l2
  rw [← h3] at D3 D4 l3
  rw [← h4] at D4 D5 l4
  have HNEW := Lib.hid hnew
  have L0 := Lib.hid l0
  have L1 := Lib.hid l1
  have L2 := Lib.hid l2
  have L3 := Lib.hid l3
  have L4 := Lib.hid l4
  clear hnew h0 h1 h2 h3 h4 l0 l1 l2 l3 l4 hd1 hd2 hd3 hd4 hd5
  go_enter Tryz.func8, Tryz.ntmps8
  go_wp2_with fail
  refine (HNEW.out _).mono ?_
  rintro e w1 ⟨⟨a, cap, rfl, hN⟩, hb1⟩
  have HN := Lib.hid hN
  have HB1 := Lib.hid hb1
  have hs1 := hb1.size
  clear hN hb1
  go_wp2_with fail
  obtain ⟨w2, hw2⟩ : ∃ w2, w2 = w1.alloc (.cells #[.slice a A0.length cap, .int .i64 8, .int .i64 100] 24) := ⟨_, rfl⟩
  have hb2 : Below w1.heap.size w1 w2 := by rw [hw2]; exact below_box w1 _
  have hX2 : w2.heap[w1.heap.size]? = some (.cells #[.slice a A0.length cap, .int .i64 8, .int .i64 100] 24 (0, 0)) := by rw [hw2]; exact new_block w1 _
  have hs2 : w2.heap.size = w1.heap.size + 1 := by rw [hw2]; simp
  rw [← hw2]
  have HB2 := Lib.hid (HB1.out.trans (hb2.mono hs1))
  have HN2 := Lib.hid (HN.out.below hb2)
  have HX2 := Lib.hid hX2
  clear hw2 hb2 hX2
  refine (rown6 _ _ _ _ A0 F0.out _ HN2.out).mono ?_
  rintro e w3 ⟨g, cap', vs, rfl, hR3, hg3, hb3⟩
  have HR3 := Lib.hid hR3
  have hgl := hR3.nodes.lt
  have hX3 := (hb3.block w1.heap.size (by omega)).trans HX2.out
  have HX3 := Lib.hid hX3
  have HB3 := Lib.hid (HB2.out.trans (hb3.mono HB2.out.size))
  have hs3 := hb3.size
  have q0 := blk_cell hX3 0
  have q1 := blk_cell hX3 1
  have q2 := blk_cell hX3 2
  have f0 := blk_free hX3 0
  have f1 := blk_free hX3 1
  have f2 := blk_free hX3 2
  have hql := lt_of_block hX3
  have HA0 := Lib.hid (show ∀ x ∈ A0, x.kids = [] by rw [D0.out]; decide +kernel)
  clear hR3 hX3 hb3
  -- the box of t
  obtain ⟨p3, hp3⟩ : ∃ p, p = put3 w3 w1.heap.size (.slice (some ⟨g, 0, none⟩) A0.length cap') (.int .i64 8) (.int .i64 100) := ⟨_, rfl⟩
  have hsp3 : p3.heap.size ≤ w3.heap.size ∧ w3.heap.size ≤ p3.heap.size := by rw [hp3, put3_size]; exact ⟨Nat.le_refl _, Nat.le_refl _⟩
  have HX4 := Lib.hid (show p3.heap[w1.heap.size]? = some (.cells #[.slice (some ⟨g, 0, none⟩) A0.length cap', .int .i64 8, .int .i64 100] 24 (0, 0)) by rw [hp3]; exact put3_block HX3.out _ _ _)
  have HR4 := Lib.hid (show RefT p3 g cap' A0 vs from HR3.out.bare HA0.out (by rw [hp3]; exact put3_other (by omega) _ _ _))
  have HB4 := Lib.hid (show Below w.heap.size w p3 by rw [hp3]; exact put3_below HB3.out (by omega) _ _ _)
  go_upto_region 3 with fail
  change Code.wp _ _ _ _ (put3 w3 w1.heap.size (.slice (some ⟨g, 0, none⟩) A0.length cap') (.int .i64 8) (.int .i64 100))
  rw [← hp3]
  clear hp3 q0 q1 q2 f0 f1 f2 hql
  have q0 := blk_cell HX4.out 0
  have hql := lt_of_block HX4.out
  have hA0 : (0 : Int) < (A0.length : Int) := by have := L0.out; omega
  have hg3 : g < p3.heap.size := by omega
  obtain ⟨u4, c4⟩ : ∃ u, p3.cell? ⟨g, 4, none⟩ = some u := (HR4.out.cells (i := 0) (by have := L0.out; omega) 4 (by decide)).1
  have fr4 : p3.frozen? ⟨g, 4, none⟩ = false := (HR4.out.cells (i := 0) (by have := L0.out; omega) 4 (by decide)).2
  go_upto_region 4 with fail
  obtain ⟨p4, hp4⟩ : ∃ p, p = (p3.setCell ⟨g, 4, none⟩ (.slice (some ⟨p3.heap.size, 0, none⟩) 3 3)).alloc (.cells #[.string ⟨#[46, 100]⟩, .int .i64 3, .string ⟨#[97]⟩, .int .i64 1, .string ⟨#[98]⟩, .int .i64 2] 38) := ⟨_, rfl⟩
  rw [← hp4]
  have hp4' : p4 = (p3.alloc (.cells #[.string ⟨#[46, 100]⟩, .int .i64 3, .string ⟨#[97]⟩, .int .i64 1, .string ⟨#[98]⟩, .int .i64 2] 38)).setCell ⟨g, 0 * 6 + 4, none⟩ (.slice (some ⟨p3.heap.size, 0, none⟩) 3 3) := hp4.trans (World.setCell_alloc_past (w := p3) _ g 4 _ hg3).symm
  have hsp4 : p4.heap.size ≤ p3.heap.size + 1 ∧ p3.heap.size + 1 ≤ p4.heap.size := by rw [hp4, World.size_alloc, set_sizes]; exact ⟨Nat.le_refl _, Nat.le_refl _⟩
  have hR5 : RefT p4 g cap' A1 (vs.set 0 (.slice (some ⟨p3.heap.size, 0, none⟩) 3 3)) := by
    have h := HR4.out.setK (d := 0) (by have := L0.out; omega) (M := g11K) (v := .slice (some ⟨p3.heap.size, 0, none⟩) 3 3) (below_box p3 (.cells #[.string ⟨#[46, 100]⟩, .int .i64 3, .string ⟨#[97]⟩, .int .i64 1, .string ⟨#[98]⟩, .int .i64 2] 38)) (kids_three (new_block p3 _) (by omega))
    rw [hp4', ← D1.out (by have := L0.out; omega)]
    exact h
  have HR5 := Lib.hid hR5
  have HX5 := Lib.hid (show p4.heap[w1.heap.size]? = some (.cells #[.slice (some ⟨g, 0, none⟩) A0.length cap', .int .i64 8, .int .i64 100] 24 (0, 0)) by
    rw [hp4']; exact (Below.heap_setCell _ _ _ _ (by show w1.heap.size ≠ g; omega)).trans ((Below.heap_alloc _ _ _ (by omega)).trans HX4.out))
  have HB5 := Lib.hid (show Below w.heap.size w p4 by rw [hp4']; exact (HB4.out.alloc (by omega) _).setCell (by show w.heap.size ≤ g; omega) _)
  clear hp4 hp4' hR5 q0 hql c4 fr4
  have q0 := blk_cell HX5.out 0
  have hql := lt_of_block HX5.out
  have hA1 : (1 : Int) < (A0.length : Int) := by have := L0.out; omega
  have hl1 : 1 < A1.length := by have := L1.out; omega
  have hg4 : g < p4.heap.size := by omega
  obtain ⟨v0, c0⟩ : ∃ u, p4.cell? ⟨g, 6, none⟩ = some u := (HR5.out.cells (i := 1) hl1 0 (by decide)).1
  obtain ⟨v1, c1⟩ : ∃ u, p4.cell? ⟨g, 7, none⟩ = some u := (HR5.out.cells (i := 1) hl1 1 (by decide)).1
  obtain ⟨v2, c2⟩ : ∃ u, p4.cell? ⟨g, 8, none⟩ = some u := (HR5.out.cells (i := 1) hl1 2 (by decide)).1
  obtain ⟨v3, c3⟩ : ∃ u, p4.cell? ⟨g, 9, none⟩ = some u := (HR5.out.cells (i := 1) hl1 3 (by decide)).1
  obtain ⟨v4, c4⟩ : ∃ u, p4.cell? ⟨g, 10, none⟩ = some u := (HR5.out.cells (i := 1) hl1 4 (by decide)).1
  obtain ⟨v5, c5⟩ : ∃ u, p4.cell? ⟨g, 11, none⟩ = some u := (HR5.out.cells (i := 1) hl1 5 (by decide)).1
  have f0 : p4.frozen? ⟨g, 6, none⟩ = false := (HR5.out.cells (i := 1) hl1 0 (by decide)).2
  have f1 : p4.frozen? ⟨g, 7, none⟩ = false := (HR5.out.cells (i := 1) hl1 1 (by decide)).2
  have f2 : p4.frozen? ⟨g, 8, none⟩ = false := (HR5.out.cells (i := 1) hl1 2 (by decide)).2
  have f3 : p4.frozen? ⟨g, 9, none⟩ = false := (HR5.out.cells (i := 1) hl1 3 (by decide)).2
  have f4 : p4.frozen? ⟨g, 10, none⟩ = false := (HR5.out.cells (i := 1) hl1 4 (by decide)).2
  have f5 : p4.frozen? ⟨g, 11, none⟩ = false := (HR5.out.cells (i := 1) hl1 5 (by decide)).2
  go_upto_region 5 with fail
  obtain ⟨p5, hp5⟩ : ∃ p, p = p4.setCells g (1 * 6) (inoC fil (.slice none 0 0)) := ⟨_, rfl⟩
  change Code.wp _ _ _ _ (p4.setCells g (1 * 6) (inoC fil (.slice none 0 0)))
  rw [← hp5]
  have hsp5 : p5.heap.size ≤ p4.heap.size ∧ p4.heap.size ≤ p5.heap.size := by rw [hp5, size_sets]; exact ⟨Nat.le_refl _, Nat.le_refl _⟩
  have HR6 := Lib.hid (show RefT p5 g cap' A2 ((vs.set 0 (.slice (some ⟨p3.heap.size, 0, none⟩) 3 3)).set 1 (.slice none 0 0)) from by
    have h := HR5.out.setNode (i := 1) hl1 fil rfl
    rw [D2.out, ← hp5] at h
    exact h)
  have HX6 := Lib.hid (show p5.heap[w1.heap.size]? = some (.cells #[.slice (some ⟨g, 0, none⟩) A0.length cap', .int .i64 8, .int .i64 100] 24 (0, 0)) by
    rw [hp5]; exact (heap_sets _ _ _ _ _ (by omega)).trans HX5.out)
  have HB6 := Lib.hid (show Below w.heap.size w p5 by rw [hp5]; exact below_sets HB5.out (by omega) _ _)
  clear hp5 q0 hql c0 c1 c2 c3 c4 c5 f0 f1 f2 f3 f4 f5
  have q0 := blk_cell HX6.out 0
  have hql := lt_of_block HX6.out
  have hA2 : (2 : Int) < (A0.length : Int) := by have := L0.out; omega
  have hl2 : 2 < A2.length := by have := L2.out; omega
  have hg5 : g < p5.heap.size := by omega
  obtain ⟨v0, c0⟩ : ∃ u, p5.cell? ⟨g, 12, none⟩ = some u := (HR6.out.cells (i := 2) hl2 0 (by decide)).1
  obtain ⟨v1, c1⟩ : ∃ u, p5.cell? ⟨g, 13, none⟩ = some u := (HR6.out.cells (i := 2) hl2 1 (by decide)).1
  obtain ⟨v2, c2⟩ : ∃ u, p5.cell? ⟨g, 14, none⟩ = some u := (HR6.out.cells (i := 2) hl2 2 (by decide)).1
  obtain ⟨v3, c3⟩ : ∃ u, p5.cell? ⟨g, 15, none⟩ = some u := (HR6.out.cells (i := 2) hl2 3 (by decide)).1
  obtain ⟨v4, c4⟩ : ∃ u, p5.cell? ⟨g, 16, none⟩ = some u := (HR6.out.cells (i := 2) hl2 4 (by decide)).1
  obtain ⟨v5, c5⟩ : ∃ u, p5.cell? ⟨g, 17, none⟩ = some u := (HR6.out.cells (i := 2) hl2 5 (by decide)).1
  have f0 : p5.frozen? ⟨g, 12, none⟩ = false := (HR6.out.cells (i := 2) hl2 0 (by decide)).2
  have f1 : p5.frozen? ⟨g, 13, none⟩ = false := (HR6.out.cells (i := 2) hl2 1 (by decide)).2
  have f2 : p5.frozen? ⟨g, 14, none⟩ = false := (HR6.out.cells (i := 2) hl2 2 (by decide)).2
  have f3 : p5.frozen? ⟨g, 15, none⟩ = false := (HR6.out.cells (i := 2) hl2 3 (by decide)).2
  have f4 : p5.frozen? ⟨g, 16, none⟩ = false := (HR6.out.cells (i := 2) hl2 4 (by decide)).2
  have f5 : p5.frozen? ⟨g, 17, none⟩ = false := (HR6.out.cells (i := 2) hl2 5 (by decide)).2
  go_upto_region 6 with fail
  obtain ⟨p6, hp6⟩ : ∃ p, p = (p5.setCells g (2 * 6) (inoC g11D (.slice (some ⟨p5.heap.size, 0, none⟩) 1 1))).alloc (.cells #[.string ⟨#[99]⟩, .int .i64 4] 38) := ⟨_, rfl⟩
  change Code.wp _ _ _ _ ((p5.setCells g (2 * 6) (inoC g11D (.slice (some ⟨p5.heap.size, 0, none⟩) 1 1))).alloc (.cells #[.string ⟨#[99]⟩, .int .i64 4] 38))
  rw [← hp6]
  have hp6' : p6 = (p5.alloc (.cells #[.string ⟨([99] : List UInt8).toArray⟩, .int .i64 4] 38)).setCells g (2 * 6) (inoC g11D (.slice (some ⟨p5.heap.size, 0, none⟩) 1 1)) := hp6.trans (sets_alloc g _ _ _ _ hg5)
  have hsp6 : p6.heap.size ≤ p5.heap.size + 1 ∧ p5.heap.size + 1 ≤ p6.heap.size := by rw [hp6', size_sets, World.size_alloc]; exact ⟨Nat.le_refl _, Nat.le_refl _⟩
  have HR7 := Lib.hid (show RefT p6 g cap' A3 (((vs.set 0 (.slice (some ⟨p3.heap.size, 0, none⟩) 3 3)).set 1 (.slice none 0 0)).set 2 (.slice (some ⟨p5.heap.size, 0, none⟩) 1 1)) from by
    have h := HR6.out.setN (d := 2) hl2 g11D (v := .slice (some ⟨p5.heap.size, 0, none⟩) 1 1) (below_box p5 (.cells #[.string ⟨([99] : List UInt8).toArray⟩, .int .i64 4] 38)) (kids_just (new_block p5 _) (by omega))
    rw [hp6', ← D3.out]
    exact h)
  have HX7 := Lib.hid (show p6.heap[w1.heap.size]? = some (.cells #[.slice (some ⟨g, 0, none⟩) A0.length cap', .int .i64 8, .int .i64 100] 24 (0, 0)) by
    rw [hp6']; exact (heap_sets _ _ _ _ _ (by omega)).trans ((Below.heap_alloc _ _ _ (by omega)).trans HX6.out))
  have HB7 := Lib.hid (show Below w.heap.size w p6 by rw [hp6']; exact below_sets (HB6.out.alloc (by omega) _) (by omega) _ _)
  clear hp6 hp6' q0 hql c0 c1 c2 c3 c4 c5 f0 f1 f2 f3 f4 f5
  have q0 := blk_cell HX7.out 0
  have hql := lt_of_block HX7.out
  have hA3 : (3 : Int) < (A0.length : Int) := by have := L0.out; omega
  have hA4 : (4 : Int) < (A0.length : Int) := by have := L0.out; omega
  have hA1 : (1 : Int) < (A0.length : Int) := by have := L0.out; omega
  have hl3 : 3 < A3.length := by have := L3.out; omega
  have hl4 : 4 < A3.length := by have := L3.out; omega
  have hg6 : g < p6.heap.size := by omega
  have hn : NodeAt p6 g 6 fil (.slice none 0 0) := by
    have hl : 1 < A3.length := by have := L3.out; omega
    have h := HR7.out.nodes.node 1 hl (by rw [HR7.out.nodes.len]; exact hl)
    have e1 : A3[1] = fil := by
      have h : A3[1]? = some fil := by rw [← D3.out, ← D2.out, List.getElem?_set_ne (by decide), List.getElem?_set_self (by have := L1.out; omega)]
      exact (List.getElem?_eq_some_iff.1 h).2
    rw [e1] at h
    have e2 : (((vs.set 0 (.slice (some ⟨p3.heap.size, 0, none⟩) 3 3)).set 1 (.slice none 0 0)).set 2 (.slice (some ⟨p5.heap.size, 0, none⟩) 1 1))[1]'(by rw [HR7.out.nodes.len]; exact hl) = .slice none 0 0 := by
      rw [List.getElem_set_ne (by decide), List.getElem_set_self]
    rw [e2] at h
    exact h
  have d0 : p6.cell? ⟨g, 6, none⟩ = some (.int .i64 1) := hn.kind
  have d1 : p6.cell? ⟨g, 7, none⟩ = some (.int .i64 6) := hn.mode
  have d2 : p6.cell? ⟨g, 8, none⟩ = some (.int .i64 1) := hn.links
  have d3 : p6.cell? ⟨g, 9, none⟩ = some (.string ⟨#[]⟩) := hn.data
  have d4 : p6.cell? ⟨g, 10, none⟩ = some (.slice none 0 0) := hn.kids
  have d5 : p6.cell? ⟨g, 11, none⟩ = some (.int .i64 0) := hn.up
  clear hn
  obtain ⟨v0, c0⟩ : ∃ u, p6.cell? ⟨g, 18, none⟩ = some u := (HR7.out.cells (i := 3) hl3 0 (by decide)).1
  obtain ⟨v1, c1⟩ : ∃ u, p6.cell? ⟨g, 19, none⟩ = some u := (HR7.out.cells (i := 3) hl3 1 (by decide)).1
  obtain ⟨v2, c2⟩ : ∃ u, p6.cell? ⟨g, 20, none⟩ = some u := (HR7.out.cells (i := 3) hl3 2 (by decide)).1
  obtain ⟨v3, c3⟩ : ∃ u, p6.cell? ⟨g, 21, none⟩ = some u := (HR7.out.cells (i := 3) hl3 3 (by decide)).1
  obtain ⟨v4, c4⟩ : ∃ u, p6.cell? ⟨g, 22, none⟩ = some u := (HR7.out.cells (i := 3) hl3 4 (by decide)).1
  obtain ⟨v5, c5⟩ : ∃ u, p6.cell? ⟨g, 23, none⟩ = some u := (HR7.out.cells (i := 3) hl3 5 (by decide)).1
  have f0 : p6.frozen? ⟨g, 18, none⟩ = false := (HR7.out.cells (i := 3) hl3 0 (by decide)).2
  have f1 : p6.frozen? ⟨g, 19, none⟩ = false := (HR7.out.cells (i := 3) hl3 1 (by decide)).2
  have f2 : p6.frozen? ⟨g, 20, none⟩ = false := (HR7.out.cells (i := 3) hl3 2 (by decide)).2
  have f3 : p6.frozen? ⟨g, 21, none⟩ = false := (HR7.out.cells (i := 3) hl3 3 (by decide)).2
  have f4 : p6.frozen? ⟨g, 22, none⟩ = false := (HR7.out.cells (i := 3) hl3 4 (by decide)).2
  have f5 : p6.frozen? ⟨g, 23, none⟩ = false := (HR7.out.cells (i := 3) hl3 5 (by decide)).2
  obtain ⟨u0, k0⟩ : ∃ u, p6.cell? ⟨g, 24, none⟩ = some u := (HR7.out.cells (i := 4) hl4 0 (by decide)).1
  obtain ⟨u1, k1⟩ : ∃ u, p6.cell? ⟨g, 25, none⟩ = some u := (HR7.out.cells (i := 4) hl4 1 (by decide)).1
  obtain ⟨u2, k2⟩ : ∃ u, p6.cell? ⟨g, 26, none⟩ = some u := (HR7.out.cells (i := 4) hl4 2 (by decide)).1
  obtain ⟨u3, k3⟩ : ∃ u, p6.cell? ⟨g, 27, none⟩ = some u := (HR7.out.cells (i := 4) hl4 3 (by decide)).1
  obtain ⟨u4, k4⟩ : ∃ u, p6.cell? ⟨g, 28, none⟩ = some u := (HR7.out.cells (i := 4) hl4 4 (by decide)).1
  obtain ⟨u5, k5⟩ : ∃ u, p6.cell? ⟨g, 29, none⟩ = some u := (HR7.out.cells (i := 4) hl4 5 (by decide)).1
  have m0 : p6.frozen? ⟨g, 24, none⟩ = false := (HR7.out.cells (i := 4) hl4 0 (by decide)).2
  have m1 : p6.frozen? ⟨g, 25, none⟩ = false := (HR7.out.cells (i := 4) hl4 1 (by decide)).2
  have m2 : p6.frozen? ⟨g, 26, none⟩ = false := (HR7.out.cells (i := 4) hl4 2 (by decide)).2
  have m3 : p6.frozen? ⟨g, 27, none⟩ = false := (HR7.out.cells (i := 4) hl4 3 (by decide)).2
  have m4 : p6.frozen? ⟨g, 28, none⟩ = false := (HR7.out.cells (i := 4) hl4 4 (by decide)).2
  have m5 : p6.frozen? ⟨g, 29, none⟩ = false := (HR7.out.cells (i := 4) hl4 5 (by decide)).2
  obtain ⟨p7, hp7⟩ : ∃ p, p = (p6.setCells g (3 * 6) (inoC fil (.slice none 0 0))).setCells g (4 * 6) (inoC fil (.slice none 0 0)) := ⟨_, rfl⟩
  have hs7 : p7.heap.size = p6.heap.size := by rw [hp7, size_sets, size_sets]
  have HN7 := Lib.hid (show NodesIn p7 (some ⟨g, 0, none⟩) cap' T11 from by
    have h := HR7.out.setNode (i := 3) hl3 fil rfl
    rw [D4.out] at h
    have h2 := h.setNode (i := 4) (by have := L4.out; omega) fil rfl
    rw [D5.out, ← hp7] at h2
    exact h2.nodesIn)
  have HX71 := Lib.hid (show p7.heap[w1.heap.size]? = some (.cells #[.slice (some ⟨g, 0, none⟩) A0.length cap', .int .i64 8, .int .i64 100] 24 (0, 0)) by
    rw [hp7]; exact (heap_sets _ _ _ _ _ (by omega)).trans ((heap_sets _ _ _ _ _ (by omega)).trans HX7.out))
  have HB71 := Lib.hid (show Below w.heap.size w p7 by rw [hp7]; exact below_sets (below_sets HB7.out (by omega) _ _) (by omega) _ _)
  go_region
  --MARK0
  have hp7' : ((((((((((((p6.setCell ⟨g, 18, none⟩ (.int .i64 1)).setCell ⟨g, 19, none⟩ (.int .i64 6)).setCell ⟨g, 20, none⟩ (.int .i64 1)).setCell ⟨g, 21, none⟩ (.string ⟨#[]⟩)).setCell ⟨g, 22, none⟩ (.slice none 0 0)).setCell ⟨g, 23, none⟩ (.int .i64 0)).setCell ⟨g, 24, none⟩ (.int .i64 1)).setCell ⟨g, 25, none⟩ (.int .i64 6)).setCell ⟨g, 26, none⟩ (.int .i64 1)).setCell ⟨g, 27, none⟩ (.string ⟨#[]⟩)).setCell ⟨g, 28, none⟩ (.slice none 0 0)).setCell ⟨g, 29, none⟩ (.int .i64 0)) = p7 := hp7.symm
  rw [hp7']
  obtain ⟨p8, hp8⟩ : ∃ p, p = p7.drew := ⟨_, rfl⟩
  rw [← hp8]
  have hb7 : Below p7.heap.size p7 p8 := by rw [hp8]; exact (Below.refl _ _).drew
  have hs8 : p8.heap.size = p6.heap.size := by rw [hp8, ← hs7]; rfl
  have HN8 := Lib.hid (HN7.out.below hb7)
  have HX8 := Lib.hid ((hb7.block _ (lt_of_block HX71.out)).trans HX71.out)
  have HB8 := Lib.hid (HB71.out.trans (hb7.mono HB71.out.size))
  clear hp7 hp7' hp8 hs7 hb7 HN7 HX71 HB71 q0 hql c0 c1 c2 c3 c4 c5 f0 f1 f2 f3 f4 f5 d0 d1 d2 d3 d4 d5 k0 k1 k2 k3 k4 k5 m0 m1 m2 m3 m4 m5 HR3 HR4 HR5 HR6 HR7 HX3 HX4 HX5 HX6 HX7 HA0 D0 D1 D2 D3 D4 D5 HB1 HB2 HB3 HB4 HB5 HB6 HB7 HN HN2 HX2 hA0 hA1 hA2 hA3 hA4 hl1 hl2 hl3 hl4
  have hsw : w.heap.size ≤ p8.heap.size := HB8.out.size
  have HBB := Lib.hid (show Below p8.heap.size p8 p8 from Below.refl _ _)
  have HTT := Lib.hid (show ∀ W, Below p8.heap.size p8 W → W.cell? ⟨w1.heap.size, 0, none⟩ = some (.slice (some ⟨g, 0, none⟩) A0.length cap') ∧ W.cell? ⟨w1.heap.size, 1, none⟩ = some (.int .i64 8) ∧ W.cell? ⟨w1.heap.size, 2, none⟩ = some (.int .i64 100) ∧ Below w.heap.size w W from fun W hW => by
    have h := (hW.block _ (lt_of_block HX8.out)).trans HX8.out
    exact ⟨blk_cell h 0, blk_cell h 1, blk_cell h 2, HB8.out.trans (hW.mono HB8.out.size)⟩)
  have hC : ∀ (p : List UInt8) (X : List (List UInt8)), p.length ≤ 400 → globW T11 0 p [] = X → ∀ W, Below p8.heap.size p8 W → Calls Tryz.prog 10 #[.agg #[.slice (some ⟨g, 0, none⟩) A0.length cap', .int .i64 8, .int .i64 100], .int .i64 0, .string ⟨p.toArray⟩, .string ⟨#[]⟩] W fun e W' => ∃ v, e = .returned v ∧ Texts 0 W' v X ∧ Below W.heap.size W W' := fun p X hp hX W hW => by
    have h := lexpand (some ⟨g, 0, none⟩) cap' 8 100 0 p [] hp T11 t11_fit W (HN8.out.below hW)
    rw [show T11.length = A0.length from t11_len.trans L0.out.symm, hX] at h
    exact h.mono fun e W' h => by
      obtain ⟨v, he, hT, hb⟩ := h
      exact ⟨v, he, texts_zero hT, hb⟩
  have C1 := Lib.hid (hC [42] _ (by decide) g11a)
  have C2 := Lib.hid (hC [46, 42] _ (by decide) g11b)
  have C3 := Lib.hid (hC [42, 47, 99] _ (by decide) g11c)
  have C4 := Lib.hid (hC [120, 42] _ (by decide) g11d)
  have CS := Lib.hid (show ∀ (L : List (List UInt8)) (B1 B2 : Nat) (v1 v2 : Value) (W : World), Texts B1 W v1 L → Texts B2 W v2 L → Calls Tryz.prog 9 #[v1, v2] W fun e w' => e = .returned (.bool true) ∧ Below W.heap.size W w' from fun L B1 B2 v1 v2 W h1 h2 => (rsame_any L L B1 B2 v1 v2 W h1 h2).mono fun e w' h => by rw [decide_eq_true rfl] at h; exact h)
  clear hC HN8 HX8 HB8 L0 L1 L2 L3 L4 F0 HNEW
  obtain ⟨q0, q1, q2, -⟩ := HTT.out _ HBB.out
  have hql := cell_lt q0
  go_wp2_with fail
  refine (C1.out _ HBB.out).mono ?_
  rintro e x1 ⟨t1, rfl, hT, hb⟩
  have HBB := Lib.hid (HBB.out.trans (hb.mono HBB.out.size))
  have HT := Lib.hid hT
  clear hT hb q0 q1 q2 hql
  go_wp2_with fail
  obtain ⟨y1, hy⟩ : ∃ p, p = x1.alloc (.cells #[.string ⟨#[97]⟩, .string ⟨#[98]⟩] 9) := ⟨_, rfl⟩
  rw [← hy]
  have hb : Below x1.heap.size x1 y1 := by rw [hy]; exact below_box x1 _
  have HS := Lib.hid (show Texts 0 y1 (.slice (some ⟨x1.heap.size, 0, none⟩) 2 2) [[97], [98]] by rw [hy]; exact texts_two 0 x1 [97] [98] (Nat.zero_le _))
  have HT := Lib.hid (HT.out.below hb)
  have HBB := Lib.hid (HBB.out.trans (hb.mono HBB.out.size))
  clear hy hb
  refine (CS.out _ _ _ _ _ _ HT.out HS.out).mono ?_
  rintro e z1 ⟨rfl, hb⟩
  have HBB := Lib.hid (HBB.out.trans (hb.mono HBB.out.size))
  clear hb HT HS
  obtain ⟨q0, q1, q2, -⟩ := HTT.out _ HBB.out
  have hql := cell_lt q0
  go_wp2_with fail
  refine (C2.out _ HBB.out).mono ?_
  rintro e x2 ⟨t2, rfl, hT, hb⟩
  have HBB := Lib.hid (HBB.out.trans (hb.mono HBB.out.size))
  have HT := Lib.hid hT
  clear hT hb q0 q1 q2 hql
  go_wp2_with fail
  obtain ⟨y2, hy⟩ : ∃ p, p = x2.alloc (.cells #[.string ⟨#[46, 100]⟩] 9) := ⟨_, rfl⟩
  rw [← hy]
  have hb : Below x2.heap.size x2 y2 := by rw [hy]; exact below_box x2 _
  have HS := Lib.hid (show Texts 0 y2 (.slice (some ⟨x2.heap.size, 0, none⟩) 1 1) [[46, 100]] by rw [hy]; exact texts_one 0 x2 [46, 100] (Nat.zero_le _))
  have HT := Lib.hid (HT.out.below hb)
  have HBB := Lib.hid (HBB.out.trans (hb.mono HBB.out.size))
  clear hy hb
  refine (CS.out _ _ _ _ _ _ HT.out HS.out).mono ?_
  rintro e z2 ⟨rfl, hb⟩
  have HBB := Lib.hid (HBB.out.trans (hb.mono HBB.out.size))
  clear hb HT HS
  obtain ⟨q0, q1, q2, -⟩ := HTT.out _ HBB.out
  have hql := cell_lt q0
  go_wp2_with fail
  refine (C3.out _ HBB.out).mono ?_
  rintro e x3 ⟨t3, rfl, hT, hb⟩
  have HBB := Lib.hid (HBB.out.trans (hb.mono HBB.out.size))
  have HT := Lib.hid hT
  clear hT hb q0 q1 q2 hql
  go_wp2_with fail
  obtain ⟨y3, hy⟩ : ∃ p, p = x3.alloc (.cells #[.string ⟨#[98, 47, 99]⟩] 9) := ⟨_, rfl⟩
  rw [← hy]
  have hb : Below x3.heap.size x3 y3 := by rw [hy]; exact below_box x3 _
  have HS := Lib.hid (show Texts 0 y3 (.slice (some ⟨x3.heap.size, 0, none⟩) 1 1) [[98, 47, 99]] by rw [hy]; exact texts_one 0 x3 [98, 47, 99] (Nat.zero_le _))
  have HT := Lib.hid (HT.out.below hb)
  have HBB := Lib.hid (HBB.out.trans (hb.mono HBB.out.size))
  clear hy hb
  refine (CS.out _ _ _ _ _ _ HT.out HS.out).mono ?_
  rintro e z3 ⟨rfl, hb⟩
  have HBB := Lib.hid (HBB.out.trans (hb.mono HBB.out.size))
  clear hb HT HS
  obtain ⟨q0, q1, q2, -⟩ := HTT.out _ HBB.out
  have hql := cell_lt q0
  go_wp2_with fail
  refine (C4.out _ HBB.out).mono ?_
  rintro e x4 ⟨t4, rfl, hT, hb⟩
  have HBB := Lib.hid (HBB.out.trans (hb.mono HBB.out.size))
  obtain ⟨ta, tc, rfl⟩ := texts_nil11 hT
  clear hT hb q0 q1 q2 hql
  go_wp2_with fail
  go_ret
  exact ⟨by rfl, (HTT.out _ HBB.out).2.2.2⟩
end Go.Proofs.YtclhpedecimicaaGreat
