/-
  The reference's Link, of chapter 5.
-/
import Derived.Test.YtfmaagcomplooaaGreatK13
import Derived.Test.YtfmaagcomplooaaGreatWRefTop
import Derived.Test.YtfmaagcomplooaaGreatK14
namespace Go.Proofs.YtfmaagcomplooaaGreat
set_option maxRecDepth 100000
open Go Go.RowKit

set_option maxHeartbeats 8000000 in
theorem rlink_any (a : Option Addr) (cap : Nat) (m b cwd : Int) (ob pb : ByteArray) (ho : ob.size ≤ 1073741824) (hp : pb.size ≤ 1073741824) (L : List Ino) (hF : FitP L m b) (L' : List Ino) (er : Int) (hz : linkW L cwd ob.data.toList pb.data.toList = (L', er)) (w : World) (hN : NodesIn w a cap L) :
    Calls Tryz.prog 14 #[.agg #[.slice a L.length cap, .int .i64 m, .int .i64 b], .int .i64 cwd, .string ob, .string pb] w (RefAns w m b L' [.int .i64 er]) := by
  have hL0 : 0 < L.length := by have := hF.limits; obtain ⟨_, _, _, _, _⟩ := this; omega
  obtain ⟨vs, hvsl, hone, hkk, hcell⟩ := nodes_open hN
  obtain ⟨bb, o, rfl, hx0⟩ := hN.2.2 0 hL0
  have HCELL := Lib.hid (show ∀ j u, (nodeC L vs)[j]? = some u → w.cell? ⟨bb, o + j, none⟩ = some u from fun j u hj => by
    obtain ⟨b', o', e, hc⟩ := hcell j u hj
    cases e
    exact hc)
  have HKK := Lib.hid hkk
  have HCAP := Lib.hid (show L.length ≤ cap ∧ cap ≤ maxLen from ⟨hN.1, hN.2.1⟩)
  clear hcell hkk hx0
  obtain ⟨w2, hw2, hb2, hs2, hA, hB⟩ := two_boxes w #[.slice (some ⟨bb, o, none⟩) L.length cap, .int .i64 m, .int .i64 b] #[.slice none 0 0, .int .i64 0, .int .i64 0] 24 24
  obtain ⟨l1, l2, l3, l4, l5⟩ := hF.limits
  have HX := Lib.hid (show ∀ W, Below w2.heap.size w2 W → W.cell? ⟨w.heap.size, 0, none⟩ = some (.slice (some ⟨bb, o, none⟩) L.length cap) ∧ W.cell? ⟨w.heap.size, 1, none⟩ = some (.int .i64 m) ∧ W.cell? ⟨w.heap.size, 2, none⟩ = some (.int .i64 b) from fun W hW => by
    have h := (hW.block w.heap.size (by omega)).trans hA
    exact ⟨blk_cell h 0, blk_cell h 1, blk_cell h 2⟩)
  have HR := Lib.hid (show ∀ W, Below w2.heap.size w2 W → W.heap[w.heap.size + 1]? = some (.cells #[.slice none 0 0, .int .i64 0, .int .i64 0] 24 (0, 0)) from fun W hW => (hW.block _ (by omega)).trans hB)
  have HM := Lib.hid (show ∀ W, Below w2.heap.size w2 W → NodesIn W (some ⟨bb, o, none⟩) cap L from fun W hW => hN.below (hb2.trans (hW.mono (by omega))))
  have HN0 := Lib.hid hN
  have HB2 := Lib.hid hb2
  have HZ := Lib.hid hz
  have HF := Lib.hid hF
  have HBW2 := Lib.hid (Below.refl w2.heap.size w2)
  clear hz hN hb2 hA hB hF
  have hz2 := HZ.out
  unfold linkW at hz2
  obtain ⟨⟨z, we⟩, hf⟩ : ∃ r, walkW L cwd ob.data.toList false = r := ⟨_, rfl⟩
  rw [hf] at hz2
  have HWK := Lib.hid hf
  have HZ2 := Lib.hid hz2
  clear hf hz2
  go_enter Tryz.func14, Tryz.ntmps14
  go_wp2_with fail
  rw [← hw2]
  clear hw2
  have hwk := walk4_any (some ⟨bb, o, none⟩) cap m b cwd ob ho false L HF.out w2 (HM.out _ HBW2.out)
  rw [HWK.out] at hwk
  refine hwk.mono ?_
  rintro e w3 ⟨rfl, hb3⟩
  have HB3 := Lib.hid hb3
  have hs3 := hb3.size
  clear hb3 hwk
  obtain ⟨q0, q1, q2⟩ := HX.out _ HB3.out
  have hq := cell_lt q0
  have hRx := HR.out _ HB3.out
  have HRX := Lib.hid hRx
  have r0 := blk_cell hRx 0
  have r1 := blk_cell hRx 1
  have r2 := blk_cell hRx 2
  have s0 := blk_free hRx 0
  have s1 := blk_free hRx 1
  have s2 := blk_free hRx 2
  have hrl := lt_of_block hRx
  clear hRx
  by_cases h1 : we = 0
  · subst h1
    have hz2 := HZ2.out
    rw [if_neg (by simp)] at hz2
    obtain ⟨k, hk, hzk, hkz⟩ := live_ino (walk_live HF.out (by rw [HWK.out]))
    rw [HWK.out] at hzk
    have hzk' : z = (k : Int) := hzk
    subst hzk'
    simp only [Int.toNat_natCast] at hz2
    rw [node_nat L k hk] at hz2
    have hk0 : (0 : Int) ≤ (k : Int) := by omega
    have hk1 : (k : Int) < (L.length : Int) := by omega
    obtain ⟨bb', o', e1, hx⟩ := (HM.out _ HB3.out).2.2 k hk
    obtain ⟨rfl, rfl⟩ : bb = bb' ∧ o = o' := by simpa using e1
    have x0 := hx.kind
    have hxl := cell_lt x0
    clear hx e1 hzk
    by_cases hdir : L[k].kind = 2
    · rw [if_pos hdir] at hz2
      simp only [Prod.mk.injEq] at hz2
      obtain ⟨rfl, rfl⟩ := hz2
      rw [hdir] at x0
      clear hkz
      go_wp2_with fail
      change bodyPost _ _ _ _ _ (put3 w3 (w.heap.size + 1) (.slice (some ⟨bb, o, none⟩) L.length cap) (.int .i64 m) (.int .i64 b))
      obtain ⟨c0, c1, c2⟩ := put3_cells HRX.out (.slice (some ⟨bb, o, none⟩) L.length cap) (.int .i64 m) (.int .i64 b)
      have hBF := put3_below (HB2.out.trans (HB3.out.mono (by omega))) (show w.heap.size ≤ w.heap.size + 1 by omega) (.slice (some ⟨bb, o, none⟩) L.length cap) (.int .i64 m) (.int .i64 b)
      exact bodyPost_ret (v := .tuple #[.agg #[.slice (some ⟨bb, o, none⟩) L.length cap, .int .i64 m, .int .i64 b], .int .i64 1]) (by simp [results, Tryz.results14, go_sem, c0, c1, c2]) rfl ⟨⟨_, _, rfl, nodes_put3 (HM.out _ HB3.out) HRX.out _ _ _⟩, hBF⟩
    have hdirb : (L[k].kind == 2) = false := by simpa using hdir
    rw [if_neg hdir] at hz2
    obtain ⟨⟨z2, s, fe⟩, hf⟩ : ∃ r, freshW L cwd pb.data.toList false = r := ⟨_, rfl⟩
    rw [hf] at hz2
    have HFR := Lib.hid hf
    have HZ3 := Lib.hid hz2
    clear hf hz2
    go_wp2_with fail
    clear q0 q1 q2 hq HRX r0 r1 r2 s0 s1 s2 hrl x0 hxl
    refine (rfresh_any _ _ _ _ _ _ hp false L HF.out _ _ _ HFR.out _ (HM.out _ HB3.out)).mono ?_
    rintro e w4 ⟨rfl, hb4⟩
    have HB4 := Lib.hid (HB3.out.trans (hb4.mono HB3.out.size))
    have hs4 := hb4.size
    clear hb4
    obtain ⟨q0, q1, q2⟩ := HX.out _ HB4.out
    have hq := cell_lt q0
    have hRx := HR.out _ HB4.out
    have HRX := Lib.hid hRx
    have r0 := blk_cell hRx 0
    have r1 := blk_cell hRx 1
    have r2 := blk_cell hRx 2
    have s0 := blk_free hRx 0
    have s1 := blk_free hRx 1
    have s2 := blk_free hRx 2
    have hrl := lt_of_block hRx
    clear hRx
    by_cases h2 : fe = 0
    · subst h2
      have hz2 := HZ3.out
      rw [if_neg (by simp)] at hz2
      obtain ⟨d, s2', hd, -, hf2, hddir, -, hn, -⟩ := fresh_ok HF.out (by rw [HFR.out])
      rw [HFR.out] at hf2
      simp only [Prod.mk.injEq, and_true] at hf2
      obtain ⟨rfl, rfl⟩ := hf2
      simp only [Int.toNat_natCast] at hz2
      rw [node_nat L d hd] at hz2
      have HZ4 := Lib.hid hz2
      have HNEW := Lib.hid hn
      have hkl : L[d].kids.length ≤ 1024 := (HF.out.ins d hd).2.1
      have hkd : k ≠ d := fun e => by subst e; exact hdir hddir
      have hd0 : (0 : Int) ≤ (d : Int) := by omega
      have hd1 : (d : Int) < (L.length : Int) := by omega
      obtain ⟨bb', o', e1, hx⟩ := (HM.out _ HB4.out).2.2 d hd
      obtain ⟨rfl, rfl⟩ : bb = bb' ∧ o = o' := by simpa using e1
      obtain ⟨kv, x4, ka, kc, rfl, hkc, hkm, -⟩ := hx.kids
      unfold maxLen at hkm
      have hxl := cell_lt x4
      clear hx e1 hz2 hn
      by_cases hroom : 1024 ≤ L[d].kids.length
      · have hri : (1024 : Int) ≤ (L[d].kids.length : Int) := by omega
        have hz2 := HZ4.out
        rw [if_pos hroom] at hz2
        simp only [Prod.mk.injEq] at hz2
        obtain ⟨rfl, rfl⟩ := hz2
        go_wp2_with fail
        change bodyPost _ _ _ _ _ (put3 w4 (w.heap.size + 1) (.slice (some ⟨bb, o, none⟩) L.length cap) (.int .i64 m) (.int .i64 b))
        obtain ⟨c0, c1, c2⟩ := put3_cells HRX.out (.slice (some ⟨bb, o, none⟩) L.length cap) (.int .i64 m) (.int .i64 b)
        have hBF := put3_below (HB2.out.trans (HB4.out.mono (by omega))) (show w.heap.size ≤ w.heap.size + 1 by omega) (.slice (some ⟨bb, o, none⟩) L.length cap) (.int .i64 m) (.int .i64 b)
        exact bodyPost_ret (v := .tuple #[.agg #[.slice (some ⟨bb, o, none⟩) L.length cap, .int .i64 m, .int .i64 b], .int .i64 28]) (by simp [results, Tryz.results14, go_sem, c0, c1, c2]) rfl ⟨⟨_, _, rfl, nodes_put3 (HM.out _ HB4.out) HRX.out _ _ _⟩, hBF⟩
      have hri : ¬ (1024 : Int) ≤ (L[d].kids.length : Int) := by omega
      have hz2 := HZ4.out
      rw [if_neg hroom] at hz2
      simp only [Prod.mk.injEq] at hz2
      obtain ⟨hL2, rfl⟩ := hz2
      have HL2 := Lib.hid hL2
      obtain ⟨lk, hlk⟩ : ∃ v, v = L[k].links := ⟨_, rfl⟩
      have hlb : 0 ≤ lk ∧ lk ≤ 262144 := by
        have h1 := (HF.out.names.2 k hk).1
        rw [countL_get L (kids_pos (kids_there HF.out.ins)) k hk] at h1
        have h2 := few_names HF.out k
        omega
      have hwr : IntKind.i64.wrap (lk + 1) = lk + 1 := by rw [IntKind.wrap_i64]; omega
      clear hL2
      go_wp2_with fail
      clear q0 q1 q2 hq HRX r0 r1 r2 s0 s1 s2 hrl x4 hxl
      refine (rown_vs _ _ cap m b L vs hL0 (by omega) HCAP.out.1 HCAP.out.2 hvsl hone _ (fun j u hj => cell_below (HB2.out.trans (HB4.out.mono (by omega))) (HCELL.out j u hj))).mono ?_
      rintro e w5 ⟨g, cap', rfl, hN5, hg5, hb5⟩
      have hs5 := hb5.size
      have hkv : k < vs.length := by rw [hvsl]; exact hk
      have hdv : d < vs.length := by rw [hvsl]; exact hd
      have HN5 := Lib.hid hN5
      have HB5 := Lib.hid (HB4.out.trans (hb5.mono HB4.out.size))
      have hgl := hN5.lt
      clear hN5 hb5
      go_wp2_with fail
      obtain ⟨w6, hw6⟩ : ∃ p, p = w5.alloc (.cells #[.slice (some ⟨g, 0, none⟩) L.length cap', .int .i64 m, .int .i64 b] 24) := ⟨_, rfl⟩
      rw [← hw6]
      have hb6 : Below w5.heap.size w5 w6 := by rw [hw6]; exact below_box w5 _
      have hs6 : w6.heap.size = w5.heap.size + 1 := by rw [hw6]; simp
      have HU6 := Lib.hid (show w6.heap[w5.heap.size]? = some (.cells #[.slice (some ⟨g, 0, none⟩) L.length cap', .int .i64 m, .int .i64 b] 24 (0, 0)) by rw [hw6]; exact new_block w5 _)
      have HN6 := Lib.hid (HN5.out.below hb6)
      have HB6 := Lib.hid (HB5.out.trans (hb6.mono HB5.out.size))
      have HW6 := Lib.hid (HB2.out.trans (HB6.out.mono (by omega)))
      obtain ⟨ja, jc, hvd⟩ : ∃ ja jc, vs[d] = .slice ja L[d].kids.length jc := by
        obtain ⟨x1, x2, x3, -⟩ := HKK.out d hd hdv
        exact ⟨x1, x2, x3⟩
      have HKD := Lib.hid (show ∀ W, Below w.heap.size w W → KidsIn W (.slice ja L[d].kids.length jc) L[d].kids from fun W hW => by
        have h := (HKK.out d hd hdv).below hW
        rw [hvd] at h
        exact h)
      have HD6 := Lib.hid (show ∀ W, Below w6.heap.size w6 W → W.cell? ⟨g, d * 6 + 4, none⟩ = some (.slice ja L[d].kids.length jc) ∧ W.frozen? ⟨g, d * 6 + 4, none⟩ = false from fun W hW => by
        have h1 := HN6.out.below hW
        have h2 := (h1.node d hd hdv).kids
        rw [hvd] at h2
        exact ⟨h2, h1.free _⟩)
      have HUU := Lib.hid (show ∀ W, Below w6.heap.size w6 W → W.cell? ⟨w5.heap.size, 0, none⟩ = some (.slice (some ⟨g, 0, none⟩) L.length cap') ∧ W.cell? ⟨w5.heap.size, 1, none⟩ = some (.int .i64 m) ∧ W.cell? ⟨w5.heap.size, 2, none⟩ = some (.int .i64 b) from fun W hW => by
        have h := (hW.block w5.heap.size (by omega)).trans HU6.out
        exact ⟨blk_cell h 0, blk_cell h 1, blk_cell h 2⟩)
      have HNAM := Lib.hid (show ∀ W, Below w6.heap.size w6 W → Calls Tryz.prog 36 #[.slice ja L[d].kids.length jc, .string ⟨s.toArray⟩, .int .i64 k] W fun e w' => ∃ v', e = .returned v' ∧ KidsOwn w' W.heap.size v' (namedL L[d].kids s k) ∧ Below W.heap.size W w' from fun W hW => rnamed_any _ L[d].kids (by omega) s k HNEW.out W (HKD.out W (HW6.out.trans (hW.mono (by omega)))))
      have hk2 : k < (L.set d { L[d] with kids := namedL L[d].kids s k } : List Ino).length := by rw [List.length_set]; exact hk
      have hLK := Lib.hid hlk
      have HQF := Lib.hid (show ∀ w7, Below w6.heap.size w6 w7 → ∀ v, KidsOwn w7 w6.heap.size v (namedL L[d].kids s k) → (w7.setCell ⟨g, d * 6 + 4, none⟩ v).heap[w5.heap.size]? = some (.cells #[.slice (some ⟨g, 0, none⟩) L.length cap', .int .i64 m, .int .i64 b] 24 (0, 0)) ∧ (w7.setCell ⟨g, d * 6 + 4, none⟩ v).heap[w.heap.size + 1]? = some (.cells #[.slice none 0 0, .int .i64 0, .int .i64 0] 24 (0, 0)) ∧
          (w7.setCell ⟨g, d * 6 + 4, none⟩ v).cell? ⟨g, k * 6 + 2, none⟩ = some (.int .i64 lk) ∧ (w7.setCell ⟨g, d * 6 + 4, none⟩ v).frozen? ⟨g, k * 6 + 2, none⟩ = false ∧ ∀ x y z, NodesIn (put3 ((w7.setCell ⟨g, d * 6 + 4, none⟩ v).setCell ⟨g, k * 6 + 2, none⟩ (.int .i64 (lk + 1))) (w.heap.size + 1) x y z) (some ⟨g, 0, none⟩) cap' L' ∧ Below w.heap.size w (put3 ((w7.setCell ⟨g, d * 6 + 4, none⟩ v).setCell ⟨g, k * 6 + 2, none⟩ (.int .i64 (lk + 1))) (w.heap.size + 1) x y z) from fun w7 h7 v hv => by
        have hBB : Below w.heap.size w ((w7.setCell ⟨g, d * 6 + 4, none⟩ v).setCell ⟨g, k * 6 + 2, none⟩ (.int .i64 (lk + 1))) := ((HW6.out.trans (h7.mono (by omega))).setCell (by show w.heap.size ≤ g; omega) _).setCell (by show w.heap.size ≤ g; omega) _
        have hN7 := (HN6.out.below h7).setKids hd hdv v (namedL L[d].kids s k)
        have hkv7 : k < (vs.set d v).length := by rw [List.length_set]; exact hkv
        have hLk : (L.set d { L[d] with kids := namedL L[d].kids s k } : List Ino)[k] = L[k] := List.getElem_set_ne hkd.symm _
        have hn7 := (hN7.node k hk2 hkv7).links
        rw [hLk, ← hLK.out] at hn7
        have hN8 := hN7.setLinks hk2 hkv7 (lk + 1)
        have hLL : (L.set d { L[d] with kids := namedL L[d].kids s k } : List Ino).set k { (L.set d { L[d] with kids := namedL L[d].kids s k } : List Ino)[k] with links := lk + 1 } = L' := by
          rw [← HL2.out, hLk, hLK.out]
          unfold addL
          rw [node_nat L d hd, List.set_comm _ _ hkd.symm]
          rfl
        rw [hLL, set_self] at hN8
        refine ⟨(Below.heap_setCell _ _ _ _ (by show w5.heap.size ≠ g; omega)).trans ((h7.block _ (by omega)).trans HU6.out), (Below.heap_setCell _ _ _ _ (by show w.heap.size + 1 ≠ g; omega)).trans ((h7.block _ (by omega)).trans ((hb6.block _ (by omega)).trans (HR.out _ HB5.out))), hn7, hN7.free _, fun x y z => ⟨?_, put3_below hBB (by omega) x y z⟩⟩
        have hN9 := hN8.same (W' := put3 ((w7.setCell ⟨g, d * 6 + 4, none⟩ v).setCell ⟨g, k * 6 + 2, none⟩ (.int .i64 (lk + 1))) (w.heap.size + 1) x y z) (put3_other (by omega) x y z)
        refine hN9.nodesIn fun i hi hvi => ?_
        have hi2 : i < L.length := by rw [← HL2.out, add_len] at hi; exact hi
        have hgi : L'[i].kids = if d = i then namedL L[d].kids s k else L[i].kids := by
          have h := add_get (k := k) hd s { L[k] with links := L[k].links + 1 } i hi2
          have e : L'[i] = (addL L d k s { L[k] with links := L[k].links + 1 })[i]'(by rw [add_len]; exact hi2) := by
            congr 1
            exact HL2.out.symm
          rw [e, h]
          by_cases e1 : d = i
          · rw [if_pos e1, if_pos e1]; rfl
          · rw [if_neg e1, if_neg e1]
            by_cases e2 : k = i
            · rw [if_pos e2]; subst e2; rfl
            · rw [if_neg e2]
        rw [hgi, List.getElem_set]
        by_cases e1 : d = i
        · rw [if_pos e1, if_pos e1]
          exact (hv.same fun j hj => by
            have hj2 := (hv.lt j hj).1
            exact (put3_other (by omega) x y z).trans ((Below.heap_setCell _ _ _ _ (by show j ≠ g; omega)).trans (Below.heap_setCell _ _ _ _ (by show j ≠ g; omega)))).kidsIn
        · rw [if_neg e1, if_neg e1]
          exact (HKK.out i _ _).below (put3_below hBB (by omega) x y z))
      obtain ⟨u0, u1, u2⟩ := HUU.out _ (Below.refl _ _)
      obtain ⟨z4, zf⟩ := HD6.out _ (Below.refl _ _)
      have hul := cell_lt u0
      have hzl := cell_lt z4
      have hLl : L'.length = L.length := by rw [← HL2.out, add_len]
      clear hw6 hb6 hvd hlk
      go_wp2_with fail
      go_region_with (first | (go_at_call 36; refine (HNAM.out _ ?_).mono ?_; (exact ⟨rfl, rfl, rfl, Nat.le_refl _, fun _ _ => rfl⟩); rintro e w7 ⟨v', rfl, hk7, hb7'⟩; have hb7 : Below w6.heap.size w6 w7 := ⟨hb7'.os, hb7'.tape, hb7'.output, hb7'.size, hb7'.block⟩; obtain ⟨va, vc, rfl⟩ := hk7.form; obtain ⟨z4', zf'⟩ := HD6.out w7 hb7; obtain ⟨u0', u1', u2'⟩ := HUU.out w7 hb7; have hul' := cell_lt u0'; have hzl' := cell_lt z4'; have HK7 := Lib.hid hk7; have HB7 := Lib.hid hb7; clear hk7 hb7 hb7'))
      all_goals
        obtain ⟨hU8, hR8, n2, nf2, hfin⟩ := HQF.out w7 HB7.out _ HK7.out
        have HFIN := Lib.hid hfin
        have HR8 := Lib.hid hR8
        have t0 := blk_cell hU8 0
        have t1 := blk_cell hU8 1
        have t2 := blk_cell hU8 2
        have r0 := blk_cell hR8 0
        have r1 := blk_cell hR8 1
        have r2 := blk_cell hR8 2
        have s0 := blk_free hR8 0
        have s1 := blk_free hR8 1
        have s2 := blk_free hR8 2
        have htl := lt_of_block hU8
        have hrl := lt_of_block hR8
        have hnl := cell_lt n2
        clear hU8 hR8 hfin u0 u1 u2 z4 zf hul hzl
        try clear u0' u1' u2' z4' zf' hul' hzl'
        generalize w7.setCell ⟨g, d * 6 + 4, none⟩ (.slice va (namedL L[d].kids s k).length vc) = w8 at *
        go_wp2_with fail
        change bodyPost _ _ _ _ _ (put3 (w8.setCell ⟨g, k * 6 + 2, none⟩ (.int .i64 (lk + 1))) (w.heap.size + 1) (.slice (some ⟨g, 0, none⟩) L.length cap') (.int .i64 m) (.int .i64 b))
        obtain ⟨c0, c1, c2⟩ := put3_cells ((Below.heap_setCell w8 ⟨g, k * 6 + 2, none⟩ (.int .i64 (lk + 1)) (w.heap.size + 1) (by show w.heap.size + 1 ≠ g; omega)).trans HR8.out) (.slice (some ⟨g, 0, none⟩) L.length cap') (.int .i64 m) (.int .i64 b)
        obtain ⟨hf1, hf2⟩ := HFIN.out (.slice (some ⟨g, 0, none⟩) L.length cap') (.int .i64 m) (.int .i64 b)
        refine bodyPost_ret (v := .tuple #[.agg #[.slice (some ⟨g, 0, none⟩) L'.length cap', .int .i64 m, .int .i64 b], .int .i64 0]) (by simp [results, Tryz.results14, go_sem, c0, c1, c2, hLl]) rfl ⟨⟨_, _, rfl, hf1⟩, hf2⟩
    · have hb1 : (fe != 0) = true := by simpa using h2
      have hz2 := HZ3.out
      rw [if_pos (by simpa using h2)] at hz2
      simp only [Prod.mk.injEq] at hz2
      obtain ⟨rfl, rfl⟩ := hz2
      go_wp2_with fail
      change bodyPost _ _ _ _ _ (put3 w4 (w.heap.size + 1) (.slice (some ⟨bb, o, none⟩) L.length cap) (.int .i64 m) (.int .i64 b))
      obtain ⟨c0, c1, c2⟩ := put3_cells HRX.out (.slice (some ⟨bb, o, none⟩) L.length cap) (.int .i64 m) (.int .i64 b)
      have hBF := put3_below (HB2.out.trans (HB4.out.mono (by omega))) (show w.heap.size ≤ w.heap.size + 1 by omega) (.slice (some ⟨bb, o, none⟩) L.length cap) (.int .i64 m) (.int .i64 b)
      exact bodyPost_ret (v := .tuple #[.agg #[.slice (some ⟨bb, o, none⟩) L.length cap, .int .i64 m, .int .i64 b], .int .i64 fe]) (by simp [results, Tryz.results14, go_sem, c0, c1, c2]) rfl ⟨⟨_, _, rfl, nodes_put3 (HM.out _ HB4.out) HRX.out _ _ _⟩, hBF⟩
  · have hb1 : (we != 0) = true := by simpa using h1
    have hz2 := HZ2.out
    rw [if_pos (by simpa using h1)] at hz2
    simp only [Prod.mk.injEq] at hz2
    obtain ⟨rfl, rfl⟩ := hz2
    go_wp2_with fail
    change bodyPost _ _ _ _ _ (put3 w3 (w.heap.size + 1) (.slice (some ⟨bb, o, none⟩) L.length cap) (.int .i64 m) (.int .i64 b))
    obtain ⟨c0, c1, c2⟩ := put3_cells HRX.out (.slice (some ⟨bb, o, none⟩) L.length cap) (.int .i64 m) (.int .i64 b)
    have hBF := put3_below (HB2.out.trans (HB3.out.mono (by omega))) (show w.heap.size ≤ w.heap.size + 1 by omega) (.slice (some ⟨bb, o, none⟩) L.length cap) (.int .i64 m) (.int .i64 b)
    exact bodyPost_ret (v := .tuple #[.agg #[.slice (some ⟨bb, o, none⟩) L.length cap, .int .i64 m, .int .i64 b], .int .i64 we]) (by simp [results, Tryz.results14, go_sem, c0, c1, c2]) rfl ⟨⟨_, _, rfl, nodes_put3 (HM.out _ HB3.out) HRX.out _ _ _⟩, hBF⟩

end Go.Proofs.YtfmaagcomplooaaGreat
