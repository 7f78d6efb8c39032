/-
  The reference's added, of chapter 5: a tree with a new inode of a name.
-/
import Derived.Test.YtfmaagcomplooaaGreatK3
import Derived.Test.YtfmaagcomplooaaGreatK4
import Derived.Test.YtfmaagcomplooaaGreatK12
import Derived.BigRegion
import Derived.BigQuiet
import Derived.Deep.Draws
import Derived.OwnWalk
namespace Go.Proofs.YtfmaagcomplooaaGreat
set_option maxRecDepth 100000
open Go Go.RowKit

set_option maxHeartbeats 2000000 in
theorem rown_vs (bb o cap : Nat) (m b : Int) (L : List Ino) (vs : List Value) (hL : 0 < L.length) (hb : L.length ≤ 1000) (_hcap : L.length ≤ cap) (_hmax : cap ≤ maxLen) (hl : vs.length = L.length) (hone : ∀ v ∈ vs, v.oneCell' = true) (w : World) (hcell : ∀ j u, (nodeC L vs)[j]? = some u → w.cell? ⟨bb, o + j, none⟩ = some u) :
    Calls Tryz.prog 35 #[.agg #[.slice (some ⟨bb, o, none⟩) L.length cap, .int .i64 m, .int .i64 b]] w fun e w' => ∃ g cap', e = .returned (.agg #[.slice (some ⟨g, 0, none⟩) L.length cap', .int .i64 m, .int .i64 b]) ∧ NodesOwn w' g cap' L vs ∧ w.heap.size ≤ g ∧ Below w.heap.size w w' := by
  obtain ⟨i0, hi, hz0, hz1, hz2⟩ := info_parts infoIn
  obtain ⟨w2, hw2, hb2, hs2, hA, hB⟩ := two_boxes w #[.slice (some ⟨bb, o, none⟩) L.length cap, .int .i64 m, .int .i64 b] #[.slice none 0 0, .int .i64 0, .int .i64 0] 24 24
  have AS : Aside (∀ j u, (nodeC L vs)[j]? = some u → w2.cell? ⟨bb, o + j, none⟩ = some u) := fun j u hj => cell_below hb2 (hcell j u hj)
  have HL := Lib.hid hl
  have HB2 := Lib.hid hb2
  have HA := Lib.hid hA
  have HR := Lib.hid hB
  have a0 := blk_cell hA 0
  have hal := lt_of_block hA
  clear hcell hl hb2 hA hB
  go_enter Tryz.func35, Tryz.ntmps35
  go_wp2_with (at_builtin; refine wpList_append_own _ rfl _ _ 22 rfl (w.heap.size + 2) 49 i0 _ 6 72 Tryz.underlying22 hi hz0 hz1 hz2 rfl (by decide) (.slice none 0 0) 0 [] rfl (World.ownsRow_nil _ _ _ _) ⟨bb, o, none⟩ L.length cap (nodeC L vs) rfl (nodeC_len L vs HL.out) (fun j u hj => by rw [Addr.add_lit, ← hw2]; exact AS.out j u hj) (nodeC_one hone) (by unfold maxLen; omega) (by omega) (by rw [← hw2]; omega) ?_)
  intro v' w3 hown hgrow hnil
  rw [← hw2] at hgrow
  have hb3 : Below w2.heap.size w2 w3 := (Below.refl _ _).grown hgrow (Nat.le_refl _) (fun k hk => by cases hk)
  rcases hown.2 with ⟨rfl, h0⟩ | ⟨g, cap', cur, rfl, hgb, -⟩
  · omega
  have hown2 : w3.ownsRow (w.heap.size + 2) 49 6 (.slice (some ⟨g, 0, none⟩) L.length cap') L.length (nodeC L vs) := by simpa using hown
  have hN3 := (nodes_of_row HL.out hown2).1
  have hA3 := (hb3.block w.heap.size (by omega)).trans HA.out
  have hR3 := (hb3.block (w.heap.size + 1) (by omega)).trans HR.out
  have q0 := blk_cell hA3 0
  have q1 := blk_cell hA3 1
  have q2 := blk_cell hA3 2
  have f0 := blk_free hA3 0
  have r0 := blk_cell hR3 0
  have r1 := blk_cell hR3 1
  have r2 := blk_cell hR3 2
  have s0 := blk_free hR3 0
  have s1 := blk_free hR3 1
  have s2 := blk_free hR3 2
  have hrl := lt_of_block hR3
  have hq := lt_of_block hA3
  obtain ⟨w4, hw4⟩ : ∃ w4, w4 = w3.setCell ⟨w.heap.size, 0, none⟩ (.slice (some ⟨g, 0, none⟩) L.length cap') := ⟨_, rfl⟩
  have hA4 : w4.heap[w.heap.size]? = some (.cells #[.slice (some ⟨g, 0, none⟩) L.length cap', .int .i64 m, .int .i64 b] 24 (0, 0)) := by rw [hw4]; exact blk_set hA3 0 _
  have hst : ∀ k, k ≠ w.heap.size → w4.heap[k]? = w3.heap[k]? := fun k hk => by rw [hw4]; exact Below.heap_setCell _ _ _ _ hk
  have hR4 := (hst (w.heap.size + 1) (by omega)).trans hR3
  have hN4 : NodesOwn w4 g cap' L vs := hN3.same (hst g (by omega))
  have hb4 : Below w.heap.size w w4 := by rw [hw4]; exact (HB2.out.trans (hb3.mono (by omega))).setCell (show w.heap.size ≤ w.heap.size from Nat.le_refl _) _
  have HW4 := Lib.hid hw4
  have HN4 := Lib.hid hN4
  have HB4 := Lib.hid hb4
  have HR4 := Lib.hid hR4
  have HA4 := Lib.hid hA4
  clear hw4 hN4 hb4 hR4 hA4 hst hN3 hown hown2 hgrow hnil hb3 hA3 hR3 a0 hal hw2
  go_wp2_with fail
  change bodyPost _ _ _ _ _ (put3 (w3.setCell ⟨w.heap.size, 0, none⟩ (.slice (some ⟨g, 0, none⟩) L.length cap')) (w.heap.size + 1) (.slice (some ⟨g, 0, none⟩) L.length cap') (.int .i64 m) (.int .i64 b))
  rw [← HW4.out]
  obtain ⟨c0, c1, c2⟩ := put3_cells HR4.out (.slice (some ⟨g, 0, none⟩) L.length cap') (.int .i64 m) (.int .i64 b)
  have HNF := Lib.hid (HN4.out.same (W' := put3 w4 (w.heap.size + 1) (.slice (some ⟨g, 0, none⟩) L.length cap') (.int .i64 m) (.int .i64 b)) (put3_other (by omega) _ _ _))
  have HBF := Lib.hid (put3_below HB4.out (show w.heap.size ≤ w.heap.size + 1 by omega) (.slice (some ⟨g, 0, none⟩) L.length cap') (.int .i64 m) (.int .i64 b))
  generalize put3 w4 (w.heap.size + 1) (.slice (some ⟨g, 0, none⟩) L.length cap') (.int .i64 m) (.int .i64 b) = wF at *
  exact bodyPost_ret (v := .agg #[.slice (some ⟨g, 0, none⟩) L.length cap', .int .i64 m, .int .i64 b]) (by simp [results, Tryz.results35, go_sem, c0, c1, c2]) rfl ⟨g, cap', rfl, HNF.out, by omega, HBF.out⟩

def FreeRel (L : List Ino) (w2 : World) (iv : Value) (wr : World) : Prop :=
  ∃ k : Nat, k ≤ L.length ∧ iv = .int .i64 k ∧ Below w2.heap.size w2 wr ∧ freeW L L.length 0 = freeW L (L.length - k) k

set_option maxHeartbeats 8000000 in
theorem radded_any (a : Option Addr) (cap : Nat) (m b : Int) (d : Nat) (s : List UInt8) (xk xm xl : Int) (xd : List UInt8) (xu : Int) (L : List Ino) (hd : d < L.length) (hL1 : L.length ≤ 256) (hlen : L[d].kids.length ≤ 1024) (hnew : ∀ e ∈ L[d].kids, e.1 ≠ s) (hdk : L[d].kind ≠ 0)
    (L' : List Ino) (kz er : Int) (hz : addedW L (d : Int) s ⟨xk, xm, xl, xd, [], xu⟩ = (L', kz, er)) (w : World) (hN : NodesIn w a cap L) :
    Calls Tryz.prog 26 #[.agg #[.slice a L.length cap, .int .i64 m, .int .i64 b], .int .i64 d, .string ⟨s.toArray⟩, .agg #[.int .i64 xk, .int .i64 xm, .int .i64 xl, .string ⟨xd.toArray⟩, .slice none 0 0, .int .i64 xu]] w (RefAns w m b L' [.int .i64 kz, .int .i64 er]) := by
  obtain ⟨vs, hvsl, hone, hkk, hcell⟩ := nodes_open hN
  obtain ⟨bb, o, rfl, hx0⟩ := hN.2.2 d hd
  have HCELL := Lib.hid (show ∀ j u, (nodeC L vs)[j]? = some u → w.cell? ⟨bb, o + j, none⟩ = some u from fun j u hj => by
    obtain ⟨b', o', e, hc⟩ := hcell j u hj
    cases e
    exact hc)
  have HKK := Lib.hid hkk
  have HCAP := Lib.hid (show L.length ≤ cap ∧ cap ≤ maxLen from ⟨hN.1, hN.2.1⟩)
  clear hcell hkk hx0
  obtain ⟨w2, hw2, hb2, hs2, hA, hQ, hB⟩ := three_boxes w #[.slice (some ⟨bb, o, none⟩) L.length cap, .int .i64 m, .int .i64 b] #[.int .i64 xk, .int .i64 xm, .int .i64 xl, .string ⟨xd.toArray⟩, .slice none 0 0, .int .i64 xu] #[.slice none 0 0, .int .i64 0, .int .i64 0] 24 49 24
  have HX := Lib.hid (show ∀ W, Below w2.heap.size w2 W → W.cell? ⟨w.heap.size, 0, none⟩ = some (.slice (some ⟨bb, o, none⟩) L.length cap) ∧ W.cell? ⟨w.heap.size, 1, none⟩ = some (.int .i64 m) ∧ W.cell? ⟨w.heap.size, 2, none⟩ = some (.int .i64 b) from fun W hW => by
    have h := (hW.block w.heap.size (by omega)).trans hA
    exact ⟨blk_cell h 0, blk_cell h 1, blk_cell h 2⟩)
  have HQ := Lib.hid (show ∀ W, Below w2.heap.size w2 W → W.heap[w.heap.size + 1]? = some (.cells #[.int .i64 xk, .int .i64 xm, .int .i64 xl, .string ⟨xd.toArray⟩, .slice none 0 0, .int .i64 xu] 49 (0, 0)) from fun W hW => (hW.block _ (by omega)).trans hQ)
  have HR := Lib.hid (show ∀ W, Below w2.heap.size w2 W → W.heap[w.heap.size + 2]? = some (.cells #[.slice none 0 0, .int .i64 0, .int .i64 0] 24 (0, 0)) from fun W hW => (hW.block _ (by omega)).trans hB)
  have HM := Lib.hid (show ∀ W, Below w2.heap.size w2 W → NodesIn W (some ⟨bb, o, none⟩) cap L from fun W hW => hN.below (hb2.trans (hW.mono (by omega))))
  have HB2 := Lib.hid hb2
  have HN := Lib.hid hN
  have HZ := Lib.hid hz
  have HNEW := Lib.hid hnew
  clear hz hN hb2 hA hQ hB hnew
  go_enter Tryz.func26, Tryz.ntmps26
  go_wp2_with fail
  rw [← hw2]
  clear hw2
  go_loopw [11] (fun iv wr => FreeRel L w2 iv wr) (fun iv _ => L.length - (intOf iv).toNat)
  case atStart => exact ⟨0, by omega, rfl, Below.refl _ _, rfl⟩
  case round =>
    obtain ⟨k, hk, rfl, hbr, hfr⟩ := hrel
    have HFR := Lib.hid hfr
    have HBR := Lib.hid hbr
    obtain ⟨q0, q1, q2⟩ := HX.out _ hbr
    have hq := cell_lt q0
    have hNd := HM.out _ hbr
    have hszr := hbr.size
    obtain ⟨b1, o1, e0, hx⟩ := hNd.2.2 d hd
    obtain ⟨rfl, rfl⟩ : bb = b1 ∧ o = o1 := by simpa using e0
    obtain ⟨kv, x4, hks⟩ := hx.kids
    obtain ⟨ka, kc, rfl, hkc, hkm, hkk⟩ := hks
    have hd0 : (0 : Int) ≤ (d : Int) := by omega
    have hd1 : (d : Int) < (L.length : Int) := by omega
    have hRx := HR.out _ hbr
    have HRX := Lib.hid hRx
    have r0 := blk_cell hRx 0
    have r1 := blk_cell hRx 1
    have r2 := blk_cell hRx 2
    have s0 := blk_free hRx 0
    have s1 := blk_free hRx 1
    have s2 := blk_free hRx 2
    have hrl := lt_of_block hRx
    unfold maxLen at hkm
    clear hbr hfr hRx hx hkk e0
    by_cases hlt : k < L.length
    · by_cases hroom : L[d].kids.length < 1024
      · have hroomi : (L[d].kids.length : Int) < 1024 := by omega
        obtain ⟨bb', o', e1, hy⟩ := hNd.2.2 k hlt
        obtain ⟨rfl, rfl⟩ : bb = bb' ∧ o = o' := by simpa using e1
        have y0 := hy.kind
        have hk0 : (0 : Int) ≤ (k : Int) := by omega
        have hk1 : (k : Int) < (L.length : Int) := by omega
        have hbl := cell_lt y0
        clear hy hNd e1
        by_cases hkz : L[k].kind = 0
        · rw [hkz] at y0
          have hfree : freeW L L.length 0 = some k := by
            rw [HFR.out, show L.length - k = (L.length - k - 1) + 1 by omega]
            unfold freeW
            rw [node_nat L k hlt, if_pos hkz]
          have hz2 := HZ.out
          unfold addedW at hz2
          rw [node_nat L d hd, if_neg (by omega), hfree] at hz2
          simp only [Prod.mk.injEq, Int.toNat_natCast] at hz2
          obtain ⟨hL2, rfl, rfl⟩ := hz2
          have HL2 := Lib.hid hL2
          clear hL2 hfree
          go_wp2_with fail
          refine (rown_vs _ _ cap m b L vs (by omega) (by omega) HCAP.out.1 HCAP.out.2 hvsl hone _ (fun j u hj => cell_below (HB2.out.trans (HBR.out.mono (by omega))) (HCELL.out j u hj))).mono ?_
          rintro e w3 ⟨g, cap', rfl, hN3, hg3, hb3⟩
          have hs3 := hb3.size
          have hkv : k < vs.length := by rw [hN3.len]; exact hlt
          have hdv : d < vs.length := by rw [hN3.len]; exact hd
          have HN3 := Lib.hid hN3
          have HB3 := Lib.hid hb3
          have HBR3 := Lib.hid (HBR.out.trans (hb3.mono hszr))
          have hQx := HQ.out _ HBR3.out
          have HQX := Lib.hid hQx
          have v0 := blk_cell hQx 0
          have v1 := blk_cell hQx 1
          have v2 := blk_cell hQx 2
          have v3 := blk_cell hQx 3
          have v4 := blk_cell hQx 4
          have v5 := blk_cell hQx 5
          have vf2 := blk_free hQx 2
          have hvl := lt_of_block hQx
          have hn := hN3.node k hlt hkv
          have n0 := hn.kind
          have n1 := hn.mode
          have n2 := hn.links
          have n3 := hn.data
          have n4 := hn.kids
          have n5 := hn.up
          have f0 := hN3.free (k * 6)
          have f1 := hN3.free (k * 6 + 1)
          have f2 := hN3.free (k * 6 + 2)
          have f3 := hN3.free (k * 6 + 3)
          have f4 := hN3.free (k * 6 + 4)
          have f5 := hN3.free (k * 6 + 5)
          have hgl := hN3.lt
          clear hN3 hb3 hQx hn q0 q1 q2 hq r0 r1 r2 s0 s1 s2 hrl x4 y0 hbl
          go_wp2_with fail
          obtain ⟨wq, hwq⟩ : ∃ p, p = (((((((w3.setCell ⟨w.heap.size + 1, 2, none⟩ (.int .i64 1)).setCell ⟨g, k * 6, none⟩ (.int .i64 xk)).setCell ⟨g, k * 6 + 1, none⟩ (.int .i64 xm)).setCell ⟨g, k * 6 + 2, none⟩ (.int .i64 1)).setCell ⟨g, k * 6 + 3, none⟩ (.string ⟨xd.toArray⟩)).setCell ⟨g, k * 6 + 4, none⟩ (.slice none 0 0)).setCell ⟨g, k * 6 + 5, none⟩ (.int .i64 xu)) := ⟨_, rfl⟩
          rw [← hwq]
          obtain ⟨w4, hw4⟩ : ∃ p, p = wq.alloc (.cells #[.slice (some ⟨g, 0, none⟩) L.length cap', .int .i64 m, .int .i64 b] 24) := ⟨_, rfl⟩
          rw [← hw4]
          have hqx : wq = (w3.setCell ⟨w.heap.size + 1, 2, none⟩ (.int .i64 1)).setCells g (k * 6) (inoC ⟨xk, xm, 1, xd, [], xu⟩ (.slice none 0 0)) := hwq
          have hqs : wq.heap.size = w3.heap.size := by rw [hqx, size_sets]; simp [World.setCell]
          have hgw : w.heap.size + 3 ≤ g := by omega
          have hqb : Below w.heap.size w wq := by
            rw [hwq]
            have h1 : Below w.heap.size w w3 := HB2.out.trans (HBR3.out.mono (by omega))
            exact ((((((h1.setCell (by show w.heap.size ≤ w.heap.size + 1; omega) _).setCell (by show w.heap.size ≤ g; omega) _).setCell (by show w.heap.size ≤ g; omega) _).setCell (by show w.heap.size ≤ g; omega) _).setCell (by show w.heap.size ≤ g; omega) _).setCell (by show w.heap.size ≤ g; omega) _).setCell (by show w.heap.size ≤ g; omega) _
          have hqo : ∀ j, j ≠ g → j ≠ w.heap.size + 1 → wq.heap[j]? = w3.heap[j]? := fun j h1 h2 => by
            rw [hwq, Below.heap_setCell _ _ _ _ h1, Below.heap_setCell _ _ _ _ h1, Below.heap_setCell _ _ _ _ h1, Below.heap_setCell _ _ _ _ h1, Below.heap_setCell _ _ _ _ h1, Below.heap_setCell _ _ _ _ h1, Below.heap_setCell _ _ _ _ h2]
          have hNq : NodesOwn wq g cap' (L.set k ⟨xk, xm, 1, xd, [], xu⟩) (vs.set k (.slice none 0 0)) := by
            rw [hqx]
            exact (HN3.out.same (Below.heap_setCell _ _ _ _ (by show g ≠ w.heap.size + 1; omega))).setNode hlt hkv _ _
          have hb4 : Below wq.heap.size wq w4 := by rw [hw4]; exact below_box wq _
          have hs4 : w4.heap.size = w3.heap.size + 1 := by rw [hw4, World.size_alloc, hqs]
          have HN4 := Lib.hid (hNq.below hb4)
          have HB4 := Lib.hid (hqb.trans (hb4.mono (by omega)))
          have HR4 := Lib.hid (show w4.heap[w.heap.size + 2]? = some (.cells #[.slice none 0 0, .int .i64 0, .int .i64 0] 24 (0, 0)) from (hb4.block _ (by omega)).trans ((hqo _ (by omega) (by omega)).trans (HR.out _ HBR3.out)))
          have HU4 := Lib.hid (show w4.heap[w3.heap.size]? = some (.cells #[.slice (some ⟨g, 0, none⟩) L.length cap', .int .i64 m, .int .i64 b] 24 (0, 0)) by
            have h := new_block wq (.cells #[.slice (some ⟨g, 0, none⟩) L.length cap', .int .i64 m, .int .i64 b] 24)
            rw [hqs, ← hw4] at h
            exact h)
          have hdne : k ≠ d := fun e => by
            subst e
            exact hdk hkz
          obtain ⟨ja, jc, hvd⟩ : ∃ ja jc, vs[d] = .slice ja L[d].kids.length jc := by
            obtain ⟨x1, x2, x3, -⟩ := HKK.out d hd hdv
            exact ⟨x1, x2, x3⟩
          have HVD := Lib.hid hvd
          have HKD := Lib.hid (show ∀ W, Below w.heap.size w W → KidsIn W (.slice ja L[d].kids.length jc) L[d].kids from fun W hW => by
            have h := (HKK.out d hd hdv).below hW
            rw [hvd] at h
            exact h)
          have hd1' : d < (L.set k ⟨xk, xm, 1, xd, [], xu⟩ : List Ino).length := by rw [List.length_set]; exact hd
          have hv1' : d < (vs.set k (.slice none 0 0)).length := by rw [List.length_set]; exact hdv
          have HD4 := Lib.hid (show ∀ W, Below w4.heap.size w4 W → W.cell? ⟨g, d * 6 + 4, none⟩ = some (.slice ja L[d].kids.length jc) ∧ W.frozen? ⟨g, d * 6 + 4, none⟩ = false from fun W hW => by
            have h1 := HN4.out.below hW
            have h2 := (h1.node d hd1' hv1').kids
            rw [List.getElem_set_ne hdne, hvd] at h2
            exact ⟨h2, h1.free _⟩)
          have HUU := Lib.hid (show ∀ W, Below w4.heap.size w4 W → W.cell? ⟨w3.heap.size, 0, none⟩ = some (.slice (some ⟨g, 0, none⟩) L.length cap') ∧ W.cell? ⟨w3.heap.size, 1, none⟩ = some (.int .i64 m) ∧ W.cell? ⟨w3.heap.size, 2, none⟩ = some (.int .i64 b) from fun W hW => by
            have h := (hW.block w3.heap.size (by omega)).trans HU4.out
            exact ⟨blk_cell h 0, blk_cell h 1, blk_cell h 2⟩)
          have HNAM := Lib.hid (show ∀ W, Below w4.heap.size w4 W → Calls Tryz.prog 36 #[.slice ja L[d].kids.length jc, .string ⟨s.toArray⟩, .int .i64 k] W fun e w' => ∃ v', e = .returned v' ∧ KidsOwn w' W.heap.size v' (namedL L[d].kids s k) ∧ Below W.heap.size W w' from fun W hW => rnamed_any _ L[d].kids (by omega) s k HNEW.out W (HKD.out W (HB4.out.trans (hW.mono HB4.out.size))))
          have HQF := Lib.hid (show ∀ w5, Below w4.heap.size w4 w5 → ∀ v, KidsOwn w5 w4.heap.size v (namedL L[d].kids s k) → (w5.setCell ⟨g, d * 6 + 4, none⟩ v).heap[w3.heap.size]? = some (.cells #[.slice (some ⟨g, 0, none⟩) L.length cap', .int .i64 m, .int .i64 b] 24 (0, 0)) ∧ (w5.setCell ⟨g, d * 6 + 4, none⟩ v).heap[w.heap.size + 2]? = some (.cells #[.slice none 0 0, .int .i64 0, .int .i64 0] 24 (0, 0)) ∧
              ∀ x y z, NodesIn (put3 (w5.setCell ⟨g, d * 6 + 4, none⟩ v) (w.heap.size + 2) x y z) (some ⟨g, 0, none⟩) cap' L' ∧ Below w.heap.size w (put3 (w5.setCell ⟨g, d * 6 + 4, none⟩ v) (w.heap.size + 2) x y z) from fun w5 h5 v hv => by
            have hBB : Below w.heap.size w (w5.setCell ⟨g, d * 6 + 4, none⟩ v) := (HB4.out.trans (h5.mono HB4.out.size)).setCell (by show w.heap.size ≤ g; omega) _
            refine ⟨(Below.heap_setCell _ _ _ _ (by show w3.heap.size ≠ g; omega)).trans ((h5.block _ (by omega)).trans HU4.out), (Below.heap_setCell _ _ _ _ (by show w.heap.size + 2 ≠ g; omega)).trans ((h5.block _ (by omega)).trans HR4.out), fun x y z => ⟨?_, put3_below hBB (by omega) x y z⟩⟩
            have hN6 := ((HN4.out.below h5).setKids hd1' hv1' v (namedL L[d].kids s k)).same (W' := put3 (w5.setCell ⟨g, d * 6 + 4, none⟩ v) (w.heap.size + 2) x y z) (put3_other (by omega) x y z)
            have hLL : (L.set k ⟨xk, xm, 1, xd, [], xu⟩ : List Ino).set d { (L.set k ⟨xk, xm, 1, xd, [], xu⟩ : List Ino)[d] with kids := namedL L[d].kids s k } = L' := by
              rw [← HL2.out, List.getElem_set_ne hdne]
              unfold addL
              rw [node_nat L d hd]
              rfl
            rw [hLL] at hN6
            refine hN6.nodesIn fun i hi hv6 => ?_
            have hgi : L'[i] = if d = i then withKids L[d] (namedL L[d].kids s k) else if k = i then ⟨xk, xm, 1, xd, [], xu⟩ else L[i]'(by rw [← HL2.out, add_len] at hi; exact hi) := by
              have hi2 : i < L.length := by rw [← HL2.out, add_len] at hi; exact hi
              have h := add_get (k := k) hd s ⟨xk, xm, 1, xd, [], xu⟩ i hi2
              rw [← h]
              congr 1
              exact HL2.out.symm
            rw [hgi, List.getElem_set]
            by_cases e1 : d = i
            · rw [if_pos e1, if_pos e1]
              exact (hv.same fun j hj => by
                have hj2 := (hv.lt j hj).1
                exact (put3_other (by omega) x y z).trans (Below.heap_setCell _ _ _ _ (by show j ≠ g; omega))).kidsIn
            · rw [if_neg e1, if_neg e1, List.getElem_set]
              by_cases e2 : k = i
              · rw [if_pos e2, if_pos e2]
                exact ⟨none, 0, rfl, Nat.le_refl _, Nat.zero_le _, fun _ hi => absurd hi (Nat.not_lt_zero _)⟩
              · rw [if_neg e2, if_neg e2]
                exact (HKK.out i _ _).below (put3_below hBB (by omega) x y z))
          obtain ⟨u0, u1, u2⟩ := HUU.out _ (Below.refl _ _)
          obtain ⟨z4, zf⟩ := HD4.out _ (Below.refl _ _)
          have hul := cell_lt u0
          have hzl := cell_lt z4
          have hLl : L'.length = L.length := by rw [← HL2.out, add_len]
          clear hwq hw4 hqx hqs hqb hqo hNq hb4 hvd n0 n1 n2 n3 n4 n5 f0 f1 f2 f3 f4 f5 v0 v1 v2 v3 v4 v5 vf2 hvl
          go_region_with (first | (go_at_call 36; refine (HNAM.out _ ?_).mono ?_; (exact ⟨rfl, rfl, rfl, Nat.le_refl _, fun _ _ => rfl⟩); rintro e w5 ⟨v', rfl, hk5, hb5'⟩; have hb5 : Below w4.heap.size w4 w5 := ⟨hb5'.os, hb5'.tape, hb5'.output, hb5'.size, hb5'.block⟩; obtain ⟨va, vc, rfl⟩ := hk5.form; obtain ⟨z4', zf'⟩ := HD4.out w5 hb5; obtain ⟨u0', u1', u2'⟩ := HUU.out w5 hb5; have hul' := cell_lt u0'; have hzl' := cell_lt z4'; have HK5 := Lib.hid hk5; have HB5 := Lib.hid hb5; clear hk5 hb5 hb5'))
          all_goals
            obtain ⟨hU6, hR6, hfin⟩ := HQF.out w5 HB5.out _ HK5.out
            have HFIN := Lib.hid hfin
            have HR6 := Lib.hid hR6
            have t0 := blk_cell hU6 0
            have t1 := blk_cell hU6 1
            have t2 := blk_cell hU6 2
            have r0 := blk_cell hR6 0
            have r1 := blk_cell hR6 1
            have r2 := blk_cell hR6 2
            have s0 := blk_free hR6 0
            have s1 := blk_free hR6 1
            have s2 := blk_free hR6 2
            have htl := lt_of_block hU6
            have hrl := lt_of_block hR6
            clear hU6 hR6 hfin u0 u1 u2 z4 zf hul hzl
            try clear u0' u1' u2' z4' zf' hul' hzl'
            generalize w5.setCell ⟨g, d * 6 + 4, none⟩ (.slice va (namedL L[d].kids s k).length vc) = w6 at *
            go_wp2_with fail
            change bodyPost _ _ _ _ _ (put3 w6 (w.heap.size + 2) (.slice (some ⟨g, 0, none⟩) L.length cap') (.int .i64 m) (.int .i64 b))
            obtain ⟨c0, c1, c2⟩ := put3_cells HR6.out (.slice (some ⟨g, 0, none⟩) L.length cap') (.int .i64 m) (.int .i64 b)
            obtain ⟨hf1, hf2⟩ := HFIN.out (.slice (some ⟨g, 0, none⟩) L.length cap') (.int .i64 m) (.int .i64 b)
            refine bodyPost_ret (v := .tuple #[.agg #[.slice (some ⟨g, 0, none⟩) L'.length cap', .int .i64 m, .int .i64 b], .int .i64 k, .int .i64 0]) (by simp [results, Tryz.results26, go_sem, c0, c1, c2, hLl]) rfl ⟨⟨_, _, rfl, hf1⟩, hf2⟩

        · have hkb : (L[k].kind == 0) = false := by simpa using hkz
          have hnext := Lib.hid (show freeW L L.length 0 = freeW L (L.length - (k + 1)) (k + 1) by
            rw [HFR.out, show L.length - k = (L.length - (k + 1)) + 1 by omega]
            conv => lhs; unfold freeW
            rw [node_nat L k hlt, if_neg hkz])
          clear r0 r1 r2 s0 s1 s2
          go_wp2_with fail
          go_roundw
          case rel => exact ⟨k + 1, by omega, by go_num, ⟨HBR.out.os, HBR.out.tape, HBR.out.output, HBR.out.size, HBR.out.block⟩, hnext.out⟩
          case measure => simp [intOf] <;> omega
      · have hroomi : ¬ (L[d].kids.length : Int) < 1024 := by omega
        have hk0 : (0 : Int) ≤ (k : Int) := by omega
        have hk1 : (k : Int) < (L.length : Int) := by omega
        have hbl := cell_lt x4
        have hz2 := HZ.out
        unfold addedW at hz2
        rw [node_nat L d hd, if_pos (by omega)] at hz2
        simp only [Prod.mk.injEq] at hz2
        obtain ⟨rfl, rfl, rfl⟩ := hz2
        clear hNd
        go_wp2_with fail
        change bodyPost _ _ _ _ _ (put3 wr (w.heap.size + 2) (.slice (some ⟨bb, o, none⟩) L.length cap) (.int .i64 m) (.int .i64 b))
        obtain ⟨c0, c1, c2⟩ := put3_cells HRX.out (.slice (some ⟨bb, o, none⟩) L.length cap) (.int .i64 m) (.int .i64 b)
        have hBF := put3_below (HB2.out.trans (HBR.out.mono (by omega))) (show w.heap.size ≤ w.heap.size + 2 by omega) (.slice (some ⟨bb, o, none⟩) L.length cap) (.int .i64 m) (.int .i64 b)
        refine bodyPost_ret (v := .tuple #[.agg #[.slice (some ⟨bb, o, none⟩) L.length cap, .int .i64 m, .int .i64 b], .int .i64 0, .int .i64 28]) (by simp [results, Tryz.results26, go_sem, c0, c1, c2]) rfl ⟨⟨_, _, rfl, HN.out.below hBF⟩, hBF⟩
    · obtain rfl : k = L.length := by omega
      have hz2 := HZ.out
      have hno : freeW L L.length 0 = none := by
        rw [HFR.out, Nat.sub_self]
        rfl
      unfold addedW at hz2
      have hz3 : (L, (0 : Int), (28 : Int)) = (L', kz, er) := by
        rw [hno] at hz2
        split at hz2 <;> exact hz2
      simp only [Prod.mk.injEq] at hz3
      obtain ⟨rfl, rfl, rfl⟩ := hz3
      clear hNd hz2 hno
      go_wp2_with fail
      change bodyPost _ _ _ _ _ (put3 wr (w.heap.size + 2) (.slice (some ⟨bb, o, none⟩) L.length cap) (.int .i64 m) (.int .i64 b))
      obtain ⟨c0, c1, c2⟩ := put3_cells HRX.out (.slice (some ⟨bb, o, none⟩) L.length cap) (.int .i64 m) (.int .i64 b)
      have hBF := put3_below (HB2.out.trans (HBR.out.mono (by omega))) (show w.heap.size ≤ w.heap.size + 2 by omega) (.slice (some ⟨bb, o, none⟩) L.length cap) (.int .i64 m) (.int .i64 b)
      refine bodyPost_ret (v := .tuple #[.agg #[.slice (some ⟨bb, o, none⟩) L.length cap, .int .i64 m, .int .i64 b], .int .i64 0, .int .i64 28]) (by simp [results, Tryz.results26, go_sem, c0, c1, c2]) rfl ⟨⟨_, _, rfl, HN.out.below hBF⟩, hBF⟩
end Go.Proofs.YtfmaagcomplooaaGreat
