/-
  awake: chapter 6's example.
-/
import Derived.Deep.Cut
import Derived.Test.YtmaiphibpdngnaaGreatK7
import Derived.Test.YtmaiphibpdngnaaGreatK11
import Derived.Test.YtmaiphibpdngnaaGreatK12
namespace Go.Proofs.YtmaiphibpdngnaaGreat
set_option maxRecDepth 100000
open Go Go.RowKit

def dw1 : List Ino := aw0.set 0 { aw0[0]'(by decide +kernel) with kids := [([97], 1)] }
def dw2 : List Ino := dw1.set 1 ⟨2, 7, 1, [], [([102], 2)], 0⟩
def dw3 : List Ino := dw2.set 2 ⟨1, 6, 1, [], [], 0⟩
def dw4 : List Ino := (unlinkW dw3 0 [97, 47, 102]).1
def dw5 : List Ino := (rmdirW dw4 0 [97]).1
theorem dw_same : dw3 = aw2 := by kernel_rfl
theorem dw_fit3 : FitP dw3 8 100 := by rw [dw_same]; exact aw_fit2
theorem dw_un : unlinkW dw3 0 [97, 47, 102] = (dw4, 0) := Prod.ext rfl (by decide +kernel)
theorem dw_rm : rmdirW dw4 0 [97] = (dw5, 0) := Prod.ext rfl (by decide +kernel)
theorem dw_fit4 : FitP dw4 8 100 := by
  obtain ⟨d, k, s, -, hT, -, -, h⟩ := (unlink_ok dw_fit3 dw_un).1 rfl
  rw [h]
  exact hT.fits
theorem dw_fit5 : FitP dw5 8 100 := by
  obtain ⟨d, k, s, -, hT, h⟩ := (rmdir_ok dw_fit4 dw_rm).1 rfl
  rw [h]
  exact hT.fits
theorem dw_len : dw1.length = 8 ∧ dw2.length = 8 ∧ dw3.length = 8 ∧ dw4.length = 8 ∧ dw5.length = 8 := by decide +kernel
theorem dw_e1 : (rmdirW dw3 0 [97]).2 = 39 := by decide +kernel
theorem dw_e2 : (unlinkW dw3 0 [97]).2 = 21 := by decide +kernel
theorem dw_e3 : (renameW dw3 0 [97] [97, 47, 98]).2 = 22 := by decide +kernel
theorem dw_list : listGo dw5 (dw5.length + 1) 0 [] = [] := List.length_eq_zero_iff.1 (by decide +kernel)

theorem kids_just {w5 : World} {g B : Nat} {t : TypeId} {s : List UInt8} {k : Int} (hB : w5.heap[B]? = some (.cells #[.string ⟨s.toArray⟩, .int .i64 k] t (0, 0))) (hne : B ≠ g) (W' : World) (h : ∀ j, j ≠ g → j < w5.heap.size → W'.heap[j]? = w5.heap[j]?) : KidsIn W' (.slice (some ⟨B, 0, none⟩) 1 1) [(s, k)] := by
  have h1 := (h B hne (lt_of_block hB)).trans hB
  refine ⟨_, 1, rfl, Nat.le_refl _, by unfold maxLen; decide, fun i hi => ⟨B, 0, rfl, ?_⟩⟩
  have hi' : i < 1 := hi
  obtain rfl : i = 0 := by omega
  exact ⟨blk_cell h1 0, blk_cell h1 1⟩
theorem RefT.setK {W w5 : World} {g cap : Nat} {L : List Ino} {vs : List Value} (h : RefT W g cap L vs) {d : Nat} (hd : d < L.length) {v : Value} {M : List (List UInt8 × Int)} (hb : Below W.heap.size W w5)
    (hk : ∀ W', (∀ j, j ≠ g → j < w5.heap.size → W'.heap[j]? = w5.heap[j]?) → KidsIn W' v M) : RefT (w5.setCell ⟨g, d * 6 + 4, none⟩ v) g cap (L.set d { L[d] with kids := M }) (vs.set d v) := by
  have hv : d < vs.length := by rw [h.nodes.len]; exact hd
  refine ⟨(h.nodes.below hb).setKids hd hv v M, fun i hi hvi W' hw => ?_⟩
  have hw5 : ∀ j, j ≠ g → j < w5.heap.size → W'.heap[j]? = w5.heap[j]? := fun j hj hl => (hw j hj (by simpa [World.setCell] using hl)).trans (Below.heap_setCell _ _ _ _ hj)
  by_cases e : d = i
  · subst e
    rw [List.getElem_set_self, List.getElem_set_self]
    exact hk W' hw5
  · rw [List.length_set] at hi hvi
    rw [List.getElem_set_ne e, List.getElem_set_ne e]
    exact h.kids i hi hvi W' fun j hj hl => (hw5 j hj (Nat.lt_of_lt_of_le hl hb.size)).trans (hb.block j hl)
theorem RefT.setN {W w5 : World} {g cap : Nat} {L : List Ino} {vs : List Value} (h : RefT W g cap L vs) {d : Nat} (hd : d < L.length) (x : Ino) {v : Value} (hb : Below W.heap.size W w5)
    (hk : ∀ W', (∀ j, j ≠ g → j < w5.heap.size → W'.heap[j]? = w5.heap[j]?) → KidsIn W' v x.kids) : RefT (w5.setCells g (d * 6) (inoC x v)) g cap (L.set d x) (vs.set d v) := by
  have hv : d < vs.length := by rw [h.nodes.len]; exact hd
  refine ⟨(h.nodes.below hb).setNode hd hv x v, fun i hi hvi W' hw => ?_⟩
  have hw5 : ∀ j, j ≠ g → j < w5.heap.size → W'.heap[j]? = w5.heap[j]? := fun j hj hl => (hw j hj (by rw [size_sets]; exact hl)).trans (heap_sets _ _ _ _ _ hj)
  by_cases e : d = i
  · subst e
    rw [List.getElem_set_self, List.getElem_set_self]
    exact hk W' hw5
  · rw [List.length_set] at hi hvi
    rw [List.getElem_set_ne e, List.getElem_set_ne e]
    exact h.kids i hi hvi W' fun j hj hl => (hw5 j hj (Nat.lt_of_lt_of_le hl hb.size)).trans (hb.block j hl)
theorem RefT.bare {W W' : World} {g cap : Nat} {L : List Ino} {vs : List Value} (h : RefT W g cap L vs) (h0 : ∀ x ∈ L, x.kids = []) (hg : W'.heap[g]? = W.heap[g]?) : RefT W' g cap L vs := by
  refine ⟨h.nodes.same hg, fun i hi hv W'' _ => ?_⟩
  have h1 := h.kids i hi hv W fun _ _ _ => rfl
  rw [h0 _ (List.getElem_mem hi)] at h1 ⊢
  obtain ⟨a, c, e, h2, h3, -⟩ := h1
  exact ⟨a, c, e, h2, h3, fun i hi => absurd hi (Nat.not_lt_zero _)⟩
theorem sets_alloc (g : Nat) (obj : Obj) : ∀ (l : List Value) (o : Nat) (W : World), g < W.heap.size → (W.setCells g o l).alloc obj = (W.alloc obj).setCells g o l
  | [], _, _, _ => rfl
  | v :: r, o, W, h => by
    show ((W.setCell ⟨g, o, none⟩ v).setCells g (o + 1) r).alloc obj = ((W.alloc obj).setCell ⟨g, o, none⟩ v).setCells g (o + 1) r
    rw [sets_alloc g obj r (o + 1) _ (by simpa [World.setCell] using h), World.setCell_alloc_past (w := W) obj g o v h]
theorem below_sets {B : Nat} {w W : World} (h : Below B w W) {g : Nat} (hg : B ≤ g) (o : Nat) (l : List Value) : Below B w (W.setCells g o l) := by
  induction l generalizing o W with
  | nil => exact h
  | cons v r ih => exact ih (h.setCell hg _) (o + 1)
theorem nodes_tree {W : World} {c : Nat} {t : TypeId} {a a0 : Option Addr} {cap n0 c0 : Nat} {z1 z2 : Int} {L : List Ino} (h : NodesIn W a cap L) (hc : W.heap[c]? = some (.cells #[.slice a0 n0 c0, .int .i64 z1, .int .i64 z2] t (0, 0))) (x y z : Value) : NodesIn (put3 W c x y z) a cap L := by
  have hcell : ∀ j u, W.cell? ⟨c, j, none⟩ = some u → (∀ s, u ≠ .string s) ∧ j < 3 := fun j u hu => by
    rw [blk_cell hc j] at hu
    match j, hu with
    | 0, hu => have h := Option.some.inj hu; subst h; exact ⟨(fun s e => by cases e), by omega⟩
    | 1, hu => have h := Option.some.inj hu; subst h; exact ⟨(fun s e => by cases e), by omega⟩
    | 2, hu => have h := Option.some.inj hu; subst h; exact ⟨(fun s e => by cases e), by omega⟩
    | j + 3, hu => simp at hu
  have hsame : ∀ b j, b ≠ c → (put3 W c x y z).cell? ⟨b, j, none⟩ = W.cell? ⟨b, j, none⟩ := fun b j hb => World.cell?_of_block (a := ⟨b, j, none⟩) (put3_other hb x y z)
  refine ⟨h.1, h.2.1, fun i hi => ?_⟩
  obtain ⟨b, o, e, hn⟩ := h.2.2 i hi
  have hb : b ≠ c := fun e => by
    subst e
    have := (hcell _ _ hn.up).2
    omega
  obtain ⟨v, hv, ka, kc, rfl, h1, h2, h3⟩ := hn.kids
  exact ⟨b, o, e, ⟨(hsame b _ hb).trans hn.kind, (hsame b _ hb).trans hn.mode, (hsame b _ hb).trans hn.links, (hsame b _ hb).trans hn.data, ⟨_, (hsame b _ hb).trans hv, ka, kc, rfl, h1, h2, fun j hj => by
    obtain ⟨b', o', e', c0, c1⟩ := h3 j hj
    have hb' : b' ≠ c := fun e => by
      subst e
      exact (hcell _ _ c0).1 _ rfl
    exact ⟨b', o', e', (hsame b' _ hb').trans c0, (hsame b' _ hb').trans c1⟩⟩, (hsame b _ hb).trans hn.up⟩⟩
theorem texts_nil {B : Nat} {w : World} {v : Value} (h : Texts B w v []) : ∃ a c, v = .slice a 0 c := by
  rcases h.forms with ⟨rfl, -⟩ | ⟨g, c, rfl, -⟩
  · exact ⟨_, _, rfl⟩
  · exact ⟨_, _, rfl⟩
theorem set_sizes (W : World) (a : Addr) (v : Value) : (W.setCell a v).heap.size = W.heap.size := by simp [World.setCell]
/-- What the walk asks of an inode that is written. -/
theorem RefT.cells {W : World} {g cap : Nat} {L : List Ino} {vs : List Value} (h : RefT W g cap L vs) {i : Nat} (hi : i < L.length) (j : Nat) (hj : j < 6) : (∃ u, W.cell? ⟨g, i * 6 + j, none⟩ = some u) ∧ W.frozen? ⟨g, i * 6 + j, none⟩ = false := by
  obtain ⟨v, hn, -, hf⟩ := h.node hi
  refine ⟨?_, hf _⟩
  match j, hj with
  | 0, _ => exact ⟨_, hn.kind⟩
  | 1, _ => exact ⟨_, hn.mode⟩
  | 2, _ => exact ⟨_, hn.links⟩
  | 3, _ => exact ⟨_, hn.data⟩
  | 4, _ => exact ⟨_, hn.kids⟩
  | 5, _ => exact ⟨_, hn.up⟩

set_option maxHeartbeats 16000000 in
theorem awake6 (w : World) : Calls Tryz.prog 9 #[] w fun e w' => e = .returned (.bool true) ∧ Below w.heap.size w w' := by
  have hnew : ∀ w, Calls Tryz.prog 27 #[.int .i64 8, .int .i64 100] w fun e w' => (∃ a cap, e = .returned (.tuple #[.agg #[.slice a aw0.length cap, .int .i64 8, .int .i64 100], .int .i64 0]) ∧ NodesIn w' a cap aw0) ∧ Below w.heap.size w w' :=
    fun w => (rnew_yes 8 100 (by decide) (by decide) (by decide) (by decide) w).mono fun e w' h => by
      obtain ⟨⟨v, rfl, a, cap, rfl, hN⟩, hb⟩ := h
      exact ⟨⟨a, cap, rfl, hN⟩, hb⟩
  obtain ⟨l1, l2, l3, l4, l5⟩ := dw_len
  have l0 : aw0.length = 8 := aw_len.1
  have F0 := Lib.hid aw_fit0
  obtain ⟨A1, h1⟩ : ∃ L, L = dw1 := ⟨_, rfl⟩
  obtain ⟨A2, h2⟩ : ∃ L, L = dw2 := ⟨_, rfl⟩
  obtain ⟨A3, h3⟩ : ∃ L, L = dw3 := ⟨_, rfl⟩
  obtain ⟨A4, h4⟩ : ∃ L, L = dw4 := ⟨_, rfl⟩
  obtain ⟨A5, h5⟩ : ∃ L, L = dw5 := ⟨_, rfl⟩
  obtain ⟨B1, hB1⟩ : ∃ X, rmdirW dw3 0 [97] = (X, 39) := ⟨(rmdirW dw3 0 [97]).1, Prod.ext rfl dw_e1⟩
  obtain ⟨B2, hB2⟩ : ∃ X, unlinkW dw3 0 [97] = (X, 21) := ⟨(unlinkW dw3 0 [97]).1, Prod.ext rfl dw_e2⟩
  obtain ⟨B3, hB3⟩ : ∃ X, renameW dw3 0 [97] [97, 47, 98] = (X, 22) := ⟨(renameW dw3 0 [97] [97, 47, 98]).1, Prod.ext rfl dw_e3⟩
  have F3 := Lib.hid dw_fit3
  have F4 := Lib.hid dw_fit4
  have F5 := Lib.hid dw_fit5
  have E4 := Lib.hid dw_un
  have E5 := Lib.hid dw_rm
  have EL := Lib.hid dw_list
  have E1 := Lib.hid hB1
  have E2 := Lib.hid hB2
  have E3 := Lib.hid hB3
  have L1 := Lib.hid l1
  have L2 := Lib.hid l2
  have L3 := Lib.hid l3
  have L5 := Lib.hid l5
  have hd1 : ∀ h0 : 0 < aw0.length, aw0.set 0 { aw0[0] with kids := [([97], 1)] } = dw1 := fun _ => rfl
  have hd2 : dw1.set 1 ⟨2, 7, 1, [], [([102], 2)], 0⟩ = dw2 := rfl
  have hd3 : dw2.set 2 ⟨1, 6, 1, [], [], 0⟩ = dw3 := rfl
  have D1 := Lib.hid hd1
  have D2 := Lib.hid hd2
  have D3 := Lib.hid hd3
  obtain ⟨A0, h0⟩ : ∃ L, L = aw0 := ⟨_, rfl⟩
  have D0 := Lib.hid h0
  rw [← h0] at hnew F0 l0 D1
  rw [← h1] at D1 D2 L1
  rw [← h2] at D2 D3 L2
  rw [← h3] at D3 F3 E1 E2 E3 E4 L3
  rw [← h4] at F4 E4 E5
  rw [← h5] at F5 E5 EL L5
  have HNEW := Lib.hid hnew
  have L0 := Lib.hid l0
  clear hnew h0 h1 h2 h3 h4 h5 l0 l1 l2 l3 l4 l5 hB1 hB2 hB3 hd1 hd2 hd3
  go_enter Tryz.func9, Tryz.ntmps9
  go_wp2_with fail
  refine (HNEW.out _).mono ?_
  rintro e w1 ⟨⟨a, cap, rfl, hN⟩, hb1⟩
  have HN := Lib.hid hN
  have HB1 := Lib.hid hb1
  have hs1 := hb1.size
  clear hN hb1
  go_wp2_with fail
  obtain ⟨w2, hw2⟩ : ∃ w2, w2 = w1.alloc (.cells #[.slice a A0.length cap, .int .i64 8, .int .i64 100] 24) := ⟨_, rfl⟩
  have hb2 : Below w1.heap.size w1 w2 := by rw [hw2]; exact below_box w1 _
  have hX2 : w2.heap[w1.heap.size]? = some (.cells #[.slice a A0.length cap, .int .i64 8, .int .i64 100] 24 (0, 0)) := by rw [hw2]; exact new_block w1 _
  have hs2 : w2.heap.size = w1.heap.size + 1 := by rw [hw2]; simp
  rw [← hw2]
  have HB2 := Lib.hid (HB1.out.trans (hb2.mono hs1))
  have HN2 := Lib.hid (HN.out.below hb2)
  have HX2 := Lib.hid hX2
  clear hw2 hb2 hX2
  refine (rown6 _ _ _ _ A0 F0.out _ HN2.out).mono ?_
  rintro e w3 ⟨g, cap', vs, rfl, hR3, hg3, hb3⟩
  have HR3 := Lib.hid hR3
  have hgl := hR3.nodes.lt
  have hX3 := (hb3.block w1.heap.size (by omega)).trans HX2.out
  have HX3 := Lib.hid hX3
  have HB3 := Lib.hid (HB2.out.trans (hb3.mono HB2.out.size))
  have hs3 := hb3.size
  have q0 := blk_cell hX3 0
  have q1 := blk_cell hX3 1
  have q2 := blk_cell hX3 2
  have f0 := blk_free hX3 0
  have f1 := blk_free hX3 1
  have f2 := blk_free hX3 2
  have hql := lt_of_block hX3
  have HA0 := Lib.hid (show ∀ x ∈ A0, x.kids = [] by rw [D0.out]; decide +kernel)
  clear hR3 hX3 hb3
  -- the box of t
  obtain ⟨p3, hp3⟩ : ∃ p, p = put3 w3 w1.heap.size (.slice (some ⟨g, 0, none⟩) A0.length cap') (.int .i64 8) (.int .i64 100) := ⟨_, rfl⟩
  have hsp3 : p3.heap.size ≤ w3.heap.size ∧ w3.heap.size ≤ p3.heap.size := by rw [hp3, put3_size]; exact ⟨Nat.le_refl _, Nat.le_refl _⟩
  have HX4 := Lib.hid (show p3.heap[w1.heap.size]? = some (.cells #[.slice (some ⟨g, 0, none⟩) A0.length cap', .int .i64 8, .int .i64 100] 24 (0, 0)) by rw [hp3]; exact put3_block HX3.out _ _ _)
  have HR4 := Lib.hid (show RefT p3 g cap' A0 vs from HR3.out.bare HA0.out (by rw [hp3]; exact put3_other (by omega) _ _ _))
  have HB4 := Lib.hid (show Below w.heap.size w p3 by rw [hp3]; exact put3_below HB3.out (by omega) _ _ _)
  go_upto_region 3 with fail
  change Code.wp _ _ _ _ (put3 w3 w1.heap.size (.slice (some ⟨g, 0, none⟩) A0.length cap') (.int .i64 8) (.int .i64 100))
  rw [← hp3]
  clear hp3 q0 q1 q2 f0 f1 f2 hql
  have q0 := blk_cell HX4.out 0
  have hql := lt_of_block HX4.out
  have hA0 : (0 : Int) < (A0.length : Int) := by have := L0.out; omega
  have hg3 : g < p3.heap.size := by omega
  obtain ⟨u4, c4⟩ : ∃ u, p3.cell? ⟨g, 4, none⟩ = some u := (HR4.out.cells (i := 0) (by have := L0.out; omega) 4 (by decide)).1
  have fr4 : p3.frozen? ⟨g, 4, none⟩ = false := (HR4.out.cells (i := 0) (by have := L0.out; omega) 4 (by decide)).2
  go_upto_region 4 with fail
  obtain ⟨p4, hp4⟩ : ∃ p, p = (p3.setCell ⟨g, 4, none⟩ (.slice (some ⟨p3.heap.size, 0, none⟩) 1 1)).alloc (.cells #[.string ⟨#[97]⟩, .int .i64 1] 59) := ⟨_, rfl⟩
  rw [← hp4]
  have hp4' : p4 = (p3.alloc (.cells #[.string ⟨([97] : List UInt8).toArray⟩, .int .i64 1] 59)).setCell ⟨g, 0 * 6 + 4, none⟩ (.slice (some ⟨p3.heap.size, 0, none⟩) 1 1) := hp4.trans (World.setCell_alloc_past (w := p3) _ g 4 _ hg3).symm
  have hsp4 : p4.heap.size ≤ p3.heap.size + 1 ∧ p3.heap.size + 1 ≤ p4.heap.size := by rw [hp4, World.size_alloc, set_sizes]; exact ⟨Nat.le_refl _, Nat.le_refl _⟩
  have hR5 : RefT p4 g cap' A1 (vs.set 0 (.slice (some ⟨p3.heap.size, 0, none⟩) 1 1)) := by
    have h := HR4.out.setK (d := 0) (by have := L0.out; omega) (M := [([97], 1)]) (v := .slice (some ⟨p3.heap.size, 0, none⟩) 1 1) (below_box p3 (.cells #[.string ⟨([97] : List UInt8).toArray⟩, .int .i64 1] 59)) (kids_just (new_block p3 _) (by omega))
    rw [hp4', ← D1.out (by have := L0.out; omega)]
    exact h
  have HR5 := Lib.hid hR5
  have HX5 := Lib.hid (show p4.heap[w1.heap.size]? = some (.cells #[.slice (some ⟨g, 0, none⟩) A0.length cap', .int .i64 8, .int .i64 100] 24 (0, 0)) by
    rw [hp4']; exact (Below.heap_setCell _ _ _ _ (by show w1.heap.size ≠ g; omega)).trans ((Below.heap_alloc _ _ _ (by omega)).trans HX4.out))
  have HB5 := Lib.hid (show Below w.heap.size w p4 by rw [hp4']; exact (HB4.out.alloc (by omega) _).setCell (by show w.heap.size ≤ g; omega) _)
  clear hp4 hp4' hR5 q0 hql c4 fr4
  have q0 := blk_cell HX5.out 0
  have hql := lt_of_block HX5.out
  have hA1 : (1 : Int) < (A0.length : Int) := by have := L0.out; omega
  have hl1 : 1 < A1.length := by have := L1.out; omega
  have hg4 : g < p4.heap.size := by omega
  obtain ⟨v0, c0⟩ : ∃ u, p4.cell? ⟨g, 6, none⟩ = some u := (HR5.out.cells (i := 1) hl1 0 (by decide)).1
  obtain ⟨v1, c1⟩ : ∃ u, p4.cell? ⟨g, 7, none⟩ = some u := (HR5.out.cells (i := 1) hl1 1 (by decide)).1
  obtain ⟨v2, c2⟩ : ∃ u, p4.cell? ⟨g, 8, none⟩ = some u := (HR5.out.cells (i := 1) hl1 2 (by decide)).1
  obtain ⟨v3, c3⟩ : ∃ u, p4.cell? ⟨g, 9, none⟩ = some u := (HR5.out.cells (i := 1) hl1 3 (by decide)).1
  obtain ⟨v4, c4⟩ : ∃ u, p4.cell? ⟨g, 10, none⟩ = some u := (HR5.out.cells (i := 1) hl1 4 (by decide)).1
  obtain ⟨v5, c5⟩ : ∃ u, p4.cell? ⟨g, 11, none⟩ = some u := (HR5.out.cells (i := 1) hl1 5 (by decide)).1
  have f0 : p4.frozen? ⟨g, 6, none⟩ = false := (HR5.out.cells (i := 1) hl1 0 (by decide)).2
  have f1 : p4.frozen? ⟨g, 7, none⟩ = false := (HR5.out.cells (i := 1) hl1 1 (by decide)).2
  have f2 : p4.frozen? ⟨g, 8, none⟩ = false := (HR5.out.cells (i := 1) hl1 2 (by decide)).2
  have f3 : p4.frozen? ⟨g, 9, none⟩ = false := (HR5.out.cells (i := 1) hl1 3 (by decide)).2
  have f4 : p4.frozen? ⟨g, 10, none⟩ = false := (HR5.out.cells (i := 1) hl1 4 (by decide)).2
  have f5 : p4.frozen? ⟨g, 11, none⟩ = false := (HR5.out.cells (i := 1) hl1 5 (by decide)).2
  go_upto_region 5 with fail
  obtain ⟨p5, hp5⟩ : ∃ p, p = (p4.setCells g (1 * 6) (inoC ⟨2, 7, 1, [], [([102], 2)], 0⟩ (.slice (some ⟨p4.heap.size, 0, none⟩) 1 1))).alloc (.cells #[.string ⟨#[102]⟩, .int .i64 2] 59) := ⟨_, rfl⟩
  change Code.wp _ _ _ _ ((p4.setCells g (1 * 6) (inoC ⟨2, 7, 1, [], [([102], 2)], 0⟩ (.slice (some ⟨p4.heap.size, 0, none⟩) 1 1))).alloc (.cells #[.string ⟨#[102]⟩, .int .i64 2] 59))
  rw [← hp5]
  have hp5' : p5 = (p4.alloc (.cells #[.string ⟨([102] : List UInt8).toArray⟩, .int .i64 2] 59)).setCells g (1 * 6) (inoC ⟨2, 7, 1, [], [([102], 2)], 0⟩ (.slice (some ⟨p4.heap.size, 0, none⟩) 1 1)) := hp5.trans (sets_alloc g _ _ _ _ hg4)
  have hsp5 : p5.heap.size ≤ p4.heap.size + 1 ∧ p4.heap.size + 1 ≤ p5.heap.size := by rw [hp5', size_sets, World.size_alloc]; exact ⟨Nat.le_refl _, Nat.le_refl _⟩
  have hR6 : RefT p5 g cap' A2 ((vs.set 0 (.slice (some ⟨p3.heap.size, 0, none⟩) 1 1)).set 1 (.slice (some ⟨p4.heap.size, 0, none⟩) 1 1)) := by
    have h := HR5.out.setN (d := 1) hl1 ⟨2, 7, 1, [], [([102], 2)], 0⟩ (v := .slice (some ⟨p4.heap.size, 0, none⟩) 1 1) (below_box p4 (.cells #[.string ⟨([102] : List UInt8).toArray⟩, .int .i64 2] 59)) (kids_just (new_block p4 _) (by omega))
    rw [hp5', ← D2.out]
    exact h
  have HR6 := Lib.hid hR6
  have HX6 := Lib.hid (show p5.heap[w1.heap.size]? = some (.cells #[.slice (some ⟨g, 0, none⟩) A0.length cap', .int .i64 8, .int .i64 100] 24 (0, 0)) by
    rw [hp5']; exact (heap_sets _ _ _ _ _ (by omega)).trans ((Below.heap_alloc _ _ _ (by omega)).trans HX5.out))
  have HB6 := Lib.hid (show Below w.heap.size w p5 by rw [hp5']; exact below_sets (HB5.out.alloc (by omega) _) (by omega) _ _)
  clear hp5 hp5' hR6 q0 hql c0 c1 c2 c3 c4 c5 f0 f1 f2 f3 f4 f5
  have q0 := blk_cell HX6.out 0
  have q1 := blk_cell HX6.out 1
  have q2 := blk_cell HX6.out 2
  have hql := lt_of_block HX6.out
  have hA2 : (2 : Int) < (A0.length : Int) := by have := L0.out; omega
  have hl2 : 2 < A2.length := by have := L2.out; omega
  obtain ⟨v0, c0⟩ : ∃ u, p5.cell? ⟨g, 12, none⟩ = some u := (HR6.out.cells (i := 2) hl2 0 (by decide)).1
  obtain ⟨v1, c1⟩ : ∃ u, p5.cell? ⟨g, 13, none⟩ = some u := (HR6.out.cells (i := 2) hl2 1 (by decide)).1
  obtain ⟨v2, c2⟩ : ∃ u, p5.cell? ⟨g, 14, none⟩ = some u := (HR6.out.cells (i := 2) hl2 2 (by decide)).1
  obtain ⟨v3, c3⟩ : ∃ u, p5.cell? ⟨g, 15, none⟩ = some u := (HR6.out.cells (i := 2) hl2 3 (by decide)).1
  obtain ⟨v4, c4⟩ : ∃ u, p5.cell? ⟨g, 16, none⟩ = some u := (HR6.out.cells (i := 2) hl2 4 (by decide)).1
  obtain ⟨v5, c5⟩ : ∃ u, p5.cell? ⟨g, 17, none⟩ = some u := (HR6.out.cells (i := 2) hl2 5 (by decide)).1
  have f0 : p5.frozen? ⟨g, 12, none⟩ = false := (HR6.out.cells (i := 2) hl2 0 (by decide)).2
  have f1 : p5.frozen? ⟨g, 13, none⟩ = false := (HR6.out.cells (i := 2) hl2 1 (by decide)).2
  have f2 : p5.frozen? ⟨g, 14, none⟩ = false := (HR6.out.cells (i := 2) hl2 2 (by decide)).2
  have f3 : p5.frozen? ⟨g, 15, none⟩ = false := (HR6.out.cells (i := 2) hl2 3 (by decide)).2
  have f4 : p5.frozen? ⟨g, 16, none⟩ = false := (HR6.out.cells (i := 2) hl2 4 (by decide)).2
  have f5 : p5.frozen? ⟨g, 17, none⟩ = false := (HR6.out.cells (i := 2) hl2 5 (by decide)).2
  go_upto_region 6 with fail
  obtain ⟨p6, hp6⟩ : ∃ p, p = p5.setCells g (2 * 6) (inoC ⟨1, 6, 1, [], [], 0⟩ (.slice none 0 0)) := ⟨_, rfl⟩
  change Code.wp _ _ _ _ (p5.setCells g (2 * 6) (inoC ⟨1, 6, 1, [], [], 0⟩ (.slice none 0 0)))
  rw [← hp6]
  have hsp6 : p6.heap.size ≤ p5.heap.size ∧ p5.heap.size ≤ p6.heap.size := by rw [hp6, size_sets]; exact ⟨Nat.le_refl _, Nat.le_refl _⟩
  have HR7 := Lib.hid (show NodesIn p6 (some ⟨g, 0, none⟩) cap' A3 from by
    have h := HR6.out.setNode (i := 2) hl2 ⟨1, 6, 1, [], [], 0⟩ rfl
    rw [D3.out, ← hp6] at h
    exact h.nodesIn)
  have HX7 := Lib.hid (show p6.heap[w1.heap.size]? = some (.cells #[.slice (some ⟨g, 0, none⟩) A3.length cap', .int .i64 8, .int .i64 100] 24 (0, 0)) by
    rw [L3.out, ← L0.out, hp6]; exact (heap_sets _ _ _ _ _ (by omega)).trans HX6.out)
  have HB7 := Lib.hid (show Below w.heap.size w p6 by rw [hp6]; exact below_sets HB6.out (by omega) _ _)
  clear hp6 q0 q1 q2 hql c0 c1 c2 c3 c4 c5 f0 f1 f2 f3 f4 f5 HR3 HR4 HR5 HR6 HX3 HX4 HX5 HX6 HA0 D0 D1 D2 D3 HB1 HB2 HB3 HB4 HB5 HB6 HN HN2 HX2 hA0 hA1 hA2 hl1 hl2
  have hsw : w.heap.size ≤ p6.heap.size := by omega
  have HBB := Lib.hid (show Below p6.heap.size p6 p6 from Below.refl _ _)
  have HTT := Lib.hid (show ∀ W, Below p6.heap.size p6 W → W.cell? ⟨w1.heap.size, 0, none⟩ = some (.slice (some ⟨g, 0, none⟩) A3.length cap') ∧ W.cell? ⟨w1.heap.size, 1, none⟩ = some (.int .i64 8) ∧ W.cell? ⟨w1.heap.size, 2, none⟩ = some (.int .i64 100) ∧ NodesIn W (some ⟨g, 0, none⟩) cap' A3 ∧ Below w.heap.size w W from fun W hW => by
    have h := (hW.block _ (lt_of_block HX7.out)).trans HX7.out
    exact ⟨blk_cell h 0, blk_cell h 1, blk_cell h 2, HR7.out.below hW, HB7.out.trans (hW.mono HB7.out.size)⟩)
  obtain ⟨q0, q1, q2, -, -⟩ := HTT.out _ HBB.out
  have hql := cell_lt q0
  go_wp2_with fail
  refine (lrmdir_any _ _ _ _ _ ⟨#[97]⟩ (by decide) A3 F3.out _ _ E1.out _ (HTT.out _ HBB.out).2.2.2.1).mono ?_
  rintro e x1 ⟨⟨a1, k1, he, hN⟩, hb⟩
  have he' : e = .returned (.tuple #[.agg #[.slice a1 B1.length k1, .int .i64 8, .int .i64 100], .int .i64 39]) := he
  subst he'
  have HN1 := Lib.hid hN
  have HBB := Lib.hid (HBB.out.trans (hb.mono HBB.out.size))
  have hs1 := hb.size
  clear he hN hb
  clear q0 q1 q2 hql
  obtain ⟨q0, q1, q2, -, -⟩ := HTT.out _ HBB.out
  have hql := cell_lt q0
  go_wp2_with fail
  obtain ⟨y1, hy⟩ : ∃ p, p = x1.alloc (.cells #[.slice a1 B1.length k1, .int .i64 8, .int .i64 100] 24) := ⟨_, rfl⟩
  rw [← hy]
  have hb : Below x1.heap.size x1 y1 := by rw [hy]; exact below_box x1 _
  have hsy1 : x1.heap.size + 1 ≤ y1.heap.size := by rw [hy, World.size_alloc]; exact Nat.le_refl _
  have HBB := Lib.hid (HBB.out.trans (hb.mono HBB.out.size))
  clear hy hb
  clear q0 q1 q2 hql
  obtain ⟨q0, q1, q2, -, -⟩ := HTT.out _ HBB.out
  have hql := cell_lt q0
  refine (lunlink_any _ _ _ _ _ ⟨#[97]⟩ (by decide) A3 F3.out _ _ E2.out _ (HTT.out _ HBB.out).2.2.2.1).mono ?_
  rintro e x2 ⟨⟨a2, k2, he, hN⟩, hb⟩
  have he' : e = .returned (.tuple #[.agg #[.slice a2 B2.length k2, .int .i64 8, .int .i64 100], .int .i64 21]) := he
  subst he'
  have HN2 := Lib.hid hN
  have HBB := Lib.hid (HBB.out.trans (hb.mono HBB.out.size))
  have hs2 := hb.size
  clear he hN hb
  clear q0 q1 q2 hql
  obtain ⟨q0, q1, q2, -, -⟩ := HTT.out _ HBB.out
  have hql := cell_lt q0
  go_wp2_with fail
  obtain ⟨y2, hy⟩ : ∃ p, p = x2.alloc (.cells #[.slice a2 B2.length k2, .int .i64 8, .int .i64 100] 24) := ⟨_, rfl⟩
  rw [← hy]
  have hb : Below x2.heap.size x2 y2 := by rw [hy]; exact below_box x2 _
  have hsy2 : x2.heap.size + 1 ≤ y2.heap.size := by rw [hy, World.size_alloc]; exact Nat.le_refl _
  have HBB := Lib.hid (HBB.out.trans (hb.mono HBB.out.size))
  clear hy hb
  clear q0 q1 q2 hql
  obtain ⟨q0, q1, q2, -, -⟩ := HTT.out _ HBB.out
  have hql := cell_lt q0
  refine (lunlink_any _ _ _ _ _ ⟨#[97, 47, 102]⟩ (by decide) A3 F3.out _ _ E4.out _ (HTT.out _ HBB.out).2.2.2.1).mono ?_
  rintro e x3 ⟨⟨a3, k3, he, hN⟩, hb⟩
  have he' : e = .returned (.tuple #[.agg #[.slice a3 A4.length k3, .int .i64 8, .int .i64 100], .int .i64 0]) := he
  subst he'
  have HN3 := Lib.hid hN
  have HBB := Lib.hid (HBB.out.trans (hb.mono HBB.out.size))
  have hs3 := hb.size
  clear he hN hb
  clear q0 q1 q2 hql
  obtain ⟨q0, q1, q2, -, -⟩ := HTT.out _ HBB.out
  have hql := cell_lt q0
  clear q0 q1 q2 hql
  go_upto_region 9 with fail
  obtain ⟨y3, hy⟩ : ∃ p, p = x3.alloc (.cells #[.slice a3 A4.length k3, .int .i64 8, .int .i64 100] 24) := ⟨_, rfl⟩
  rw [← hy]
  have hb : Below x3.heap.size x3 y3 := by rw [hy]; exact below_box x3 _
  have hsy3 : x3.heap.size + 1 ≤ y3.heap.size := by rw [hy, World.size_alloc]; exact Nat.le_refl _
  have KU := Lib.hid (show y3.heap[x3.heap.size]? = some (.cells #[.slice a3 A4.length k3, .int .i64 8, .int .i64 100] 24 (0, 0)) by rw [hy]; exact new_block x3 _)
  have NU := Lib.hid (HN3.out.below hb)
  have HBB := Lib.hid (HBB.out.trans (hb.mono HBB.out.size))
  clear hy hb
  have q0 := blk_cell KU.out 0
  have q1 := blk_cell KU.out 1
  have q2 := blk_cell KU.out 2
  have hql := lt_of_block KU.out
  go_wp2_with fail
  refine (lrmdir_any _ _ _ _ _ ⟨#[97]⟩ (by decide) A4 F4.out _ _ E5.out _ NU.out).mono ?_
  rintro e x4 ⟨⟨a4, k4, he, hN⟩, hb⟩
  have he' : e = .returned (.tuple #[.agg #[.slice a4 A5.length k4, .int .i64 8, .int .i64 100], .int .i64 0]) := he
  subst he'
  have HN4 := Lib.hid hN
  have hs4 := hb.size
  have KU4 := Lib.hid ((hb.block _ (lt_of_block KU.out)).trans KU.out)
  have HBB := Lib.hid (HBB.out.trans (hb.mono HBB.out.size))
  clear he hN hb q0 q1 q2 hql KU NU
  have r0 := blk_cell KU4.out 0
  have r1 := blk_cell KU4.out 1
  have r2 := blk_cell KU4.out 2
  have s0 := blk_free KU4.out 0
  have s1 := blk_free KU4.out 1
  have s2 := blk_free KU4.out 2
  have hrl := lt_of_block KU4.out
  go_upto_region 10 with fail
  obtain ⟨y4, hy⟩ : ∃ p, p = put3 x4 x3.heap.size (.slice a4 A5.length k4) (.int .i64 8) (.int .i64 100) := ⟨_, rfl⟩
  change Code.wp _ _ _ _ (put3 x4 x3.heap.size (.slice a4 A5.length k4) (.int .i64 8) (.int .i64 100))
  rw [← hy]
  have hsy4 : x4.heap.size ≤ y4.heap.size ∧ y4.heap.size ≤ x4.heap.size := by rw [hy, put3_size]; exact ⟨Nat.le_refl _, Nat.le_refl _⟩
  have KU := Lib.hid (show y4.heap[x3.heap.size]? = some (.cells #[.slice a4 A5.length k4, .int .i64 8, .int .i64 100] 24 (0, 0)) by rw [hy]; exact put3_block KU4.out _ _ _)
  have NU := Lib.hid (show NodesIn y4 a4 k4 A5 by rw [hy]; exact nodes_tree HN4.out KU4.out _ _ _)
  have h3p : p6.heap.size ≤ x3.heap.size := by omega
  have HBB := Lib.hid (show Below p6.heap.size p6 y4 by rw [hy]; exact put3_below HBB.out h3p _ _ _)
  clear hy r0 r1 r2 s0 s1 s2 hrl KU4 HN4
  obtain ⟨q0, q1, q2, -, -⟩ := HTT.out _ HBB.out
  have hql := cell_lt q0
  go_wp2_with fail
  refine (lrename_any _ _ _ _ _ ⟨#[97]⟩ ⟨#[97, 47, 98]⟩ (by decide) (by decide) A3 F3.out _ _ E3.out _ (HTT.out _ HBB.out).2.2.2.1).mono ?_
  rintro e x5 ⟨⟨a5, k5, he, hN⟩, hb⟩
  have he' : e = .returned (.tuple #[.agg #[.slice a5 B3.length k5, .int .i64 8, .int .i64 100], .int .i64 22]) := he
  subst he'
  have HN5 := Lib.hid hN
  have HBB := Lib.hid (HBB.out.trans (hb.mono HBB.out.size))
  have hs5 := hb.size
  have KU := Lib.hid ((hb.block _ (lt_of_block KU.out)).trans KU.out)
  have NU := Lib.hid (NU.out.below hb)
  clear he hN hb
  clear q0 q1 q2 hql
  obtain ⟨q0, q1, q2, -, -⟩ := HTT.out _ HBB.out
  have hql := cell_lt q0
  clear q0 q1 q2 hql
  go_upto_region 11 with fail
  obtain ⟨y5, hy⟩ : ∃ p, p = x5.alloc (.cells #[.slice a5 B3.length k5, .int .i64 8, .int .i64 100] 24) := ⟨_, rfl⟩
  rw [← hy]
  have hb : Below x5.heap.size x5 y5 := by rw [hy]; exact below_box x5 _
  have KU := Lib.hid ((hb.block _ (lt_of_block KU.out)).trans KU.out)
  have NU := Lib.hid (NU.out.below hb)
  have HBB := Lib.hid (HBB.out.trans (hb.mono HBB.out.size))
  clear hy hb
  have q0 := blk_cell KU.out 0
  have q1 := blk_cell KU.out 1
  have q2 := blk_cell KU.out 2
  have hql := lt_of_block KU.out
  have h85 : (A5.length : Int) = 8 := by have := L5.out; omega
  have hlst := rlistT_any a4 k4 8 100 A5 (by omega) (by omega) (falls_of F5.out.ins) (by rw [EL.out]; simp) y5 NU.out
  rw [EL.out] at hlst
  have HLST := Lib.hid hlst
  have H85 := Lib.hid h85
  clear hlst h85
  go_wp2_with (first | (go_at_call 21; refine HLST.out.mono ?_; rintro e x6 ⟨v, rfl, hT, hb⟩; obtain ⟨va, vc, rfl⟩ := (texts_nil hT); have KU := Lib.hid ((hb.block _ (lt_of_block KU.out)).trans KU.out); have HBB := Lib.hid (HBB.out.trans (hb.mono HBB.out.size)); clear q0 q1 q2 hql; have q0 := blk_cell KU.out 0; have hql := lt_of_block KU.out; have h85 := H85.out; have h85b : ((A5.length : Int) == 8) = true := by rw [h85]; rfl) | fail)
  go_ret
  exact ⟨by rfl, (HTT.out _ HBB.out).2.2.2.2⟩
end Go.Proofs.YtmaiphibpdngnaaGreat
