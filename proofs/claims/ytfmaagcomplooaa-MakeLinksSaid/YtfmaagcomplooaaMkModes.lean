/-
  The law MakeModes, walked.
-/
import Derived.BigRegion
import Derived.Test.YtfmaagcomplooaaK13
import Derived.Test.YtfmaagcomplooaaTreeSame
import Derived.Test.YtfmaagcomplooaaK14
namespace Go.Proofs.Ytfmaagcomplooaa
set_option maxRecDepth 100000
open Go Go.RowKit

theorem walk5_known (a : Option Addr) (cap : Nat) (m b cwd : Int) (pb : ByteArray) (hp : pb.size ≤ 1073741824) (follow : Bool) (L : List Ino) (hF : FitP L m b) (z e : Int) (h : walkW L cwd pb.data.toList follow = (z, e)) (w : World) (hN : NodesIn w a cap L) :
    Calls Try.prog 20 #[.agg #[.slice a L.length cap, .int .i64 m, .int .i64 b], .int .i64 cwd, .string pb, .bool follow] w fun r w' => r = .returned (.tuple #[.int .i64 z, .int .i64 e]) ∧ Below w.heap.size w w' := by
  have := walk4_any a cap m b cwd pb hp follow L hF w hN
  rw [h] at this
  exact this
theorem rsame3_yes (a a' : Option Addr) (cap cap' : Nat) (m b : Int) (L : List Ino) (hL : L.length ≤ 1000) (w : World) (hN : NodesIn w a cap L) (hN' : NodesIn w a' cap' L) :
    Calls Try.prog 11 #[.agg #[.slice a L.length cap, .int .i64 m, .int .i64 b], .agg #[.slice a' L.length cap', .int .i64 m, .int .i64 b]] w fun e w' => e = .returned (.bool true) ∧ Below w.heap.size w w' :=
  (rsame3_any a a' cap cap' m b m b L L hL w hN hN').mono fun e w' h => by
    obtain ⟨⟨v, he, hv⟩, hb⟩ := h
    exact ⟨by rw [he, hv.2 rfl], hb⟩
theorem rfit_yes (a : Option Addr) (cap : Nat) (m b : Int) (L : List Ino) (hL : L.length ≤ 300) (hS : Sized L) (hF : FitP L m b) (w : World) (hN : NodesIn w a cap L) :
    Calls Try.prog 13 #[.agg #[.slice a L.length cap, .int .i64 m, .int .i64 b]] w fun e w' => e = .returned (.bool true) ∧ Below w.heap.size w w' :=
  (rfit_any a cap m b L hL hS w hN).mono fun e w' h => by
    obtain ⟨⟨v, he, hv⟩, hb⟩ := h
    exact ⟨by rw [he, hv.2 (ref_iff.2 hF)], hb⟩

set_option maxHeartbeats 8000000 in
theorem lmodes_walk (a : Option Addr) (cap : Nat) (m b cwd q : Int) (pb : ByteArray) (hpb : pb.size ≤ 281474976710656) (L : List Ino) (hS : Sized L) (w : World) (hN : NodesIn w a cap L) :
    Calls Try.prog 5 #[.agg #[.slice a L.length cap, .int .i64 m, .int .i64 b], .int .i64 cwd, .string pb, .int .i64 q] w fun e w' => e = .returned (.bool true) ∧ Below w.heap.size w w' := by
  obtain ⟨w1, hw1⟩ : ∃ w1, w1 = w.alloc (.cells #[.slice a L.length cap, .int .i64 m, .int .i64 b] 24) := ⟨_, rfl⟩
  have hb1 : Below w.heap.size w w1 := by rw [hw1]; exact below_box w _
  have hX : w1.heap[w.heap.size]? = some (.cells #[.slice a L.length cap, .int .i64 m, .int .i64 b] 24 (0, 0)) := by rw [hw1]; exact new_block w _
  have hs1 : w1.heap.size = w.heap.size + 1 := by rw [hw1]; simp
  have HB := Lib.hid hb1
  obtain ⟨w2, hw2⟩ : ∃ w2, w2 = w1.alloc (.cells #[.string pb] 9) := ⟨_, rfl⟩
  have hb2 : Below w1.heap.size w1 w2 := by rw [hw2]; exact below_box w1 _
  have hs2 : w2.heap.size = w.heap.size + 2 := by rw [hw2, World.size_alloc, hs1]
  have hT2 : w2.heap[w.heap.size + 1]? = some (.cells #[.string pb] 9 (0, 0)) := by rw [hw2, ← hs1]; exact new_block w1 _
  have HX := Lib.hid (show ∀ W, Below w2.heap.size w2 W → W.cell? ⟨w.heap.size, 0, none⟩ = some (.slice a L.length cap) ∧ W.cell? ⟨w.heap.size, 1, none⟩ = some (.int .i64 m) ∧ W.cell? ⟨w.heap.size, 2, none⟩ = some (.int .i64 b) from fun W hW => by
    have h := (hW.block w.heap.size (by omega)).trans ((hb2.block w.heap.size (by omega)).trans hX)
    exact ⟨blk_cell h 0, blk_cell h 1, blk_cell h 2⟩)
  have HEND := Lib.hid (show ∀ W', Below w2.heap.size w2 W' → Below w.heap.size w W' from fun W' h => HB.out.trans ((hb2.trans (h.mono (by omega))).mono (by omega)))
  have HM := Lib.hid (show ∀ W', Below w2.heap.size w2 W' → NodesIn W' a cap L from fun W' h => hN.below (HB.out.trans ((hb2.trans (h.mono (by omega))).mono (by omega))))
  have HS := Lib.hid hS
  have hgood := good5_any a cap m b L hS [pb] (fun s hs => by
      simp only [List.mem_cons, List.not_mem_nil, or_false] at hs
      rw [hs]
      exact hpb) (by simp) (w.heap.size + 1) 1 w2 (HM.out w2 (Below.refl _ _)) (fun i hi => by
      match i, hi with
      | 0, _ => exact blk_cell hT2 0)
  have HGOOD := Lib.hid hgood
  clear hN hb1 hX hS hb2 hT2 hgood
  go_enter Try.func5, Try.ntmps5
  go_wp2_with fail
  rw [← hw1, ← hw2]
  clear hw1 hw2
  refine HGOOD.out.mono ?_
  rintro e w3 ⟨⟨v, rfl, hv⟩, hb3⟩
  have HV := Lib.hid hv
  have HB3 := Lib.hid hb3
  have hs3 := hb3.size
  obtain ⟨q0, q1, q2⟩ := HX.out _ hb3
  have hq := cell_lt q0
  clear hv hb3 HGOOD
  cases v with
  | false =>
    clear q0 q1 q2 hq
    go_wp2_with fail
    refine (awake5 _).mono ?_
    rintro e w4 ⟨rfl, hb4⟩
    have HB4 := Lib.hid (HB3.out.trans (hb4.mono hs3))
    clear hb4
    go_wp2_with fail
    go_ret
    exact ⟨rfl, HEND.out _ HB4.out⟩
  | true =>
    obtain ⟨hl, hF, hsz⟩ := HV.out rfl
    have HF := Lib.hid hF
    have hL0 : 0 < L.length := by have := hF.limits; obtain ⟨_, _, _, _, _⟩ := this; omega
    have hp3 : pb.size ≤ 1073741824 := by have := hsz pb (by simp); omega
    obtain ⟨⟨L', er⟩, hz⟩ : ∃ r, chmodW L cwd pb.data.toList q = r := ⟨_, rfl⟩
    have HZ := Lib.hid hz
    have HMADE := Lib.hid (chmod_made hF hz)
    clear hz hF hsz
    go_wp2_with fail
    refine (lchmod_any a cap m b cwd q pb hp3 L HF.out L' er HZ.out _ (HM.out _ HB3.out)).mono ?_
    rintro e w4 hmade
    obtain ⟨g, c, vs, rfl, hO4, hb4⟩ := MadeAns.two hmade
    have HB4 := Lib.hid (HB3.out.trans (hb4.mono hs3))
    have hs4 := hb4.size
    have HO4 := Lib.hid hO4
    clear hmade hO4 hb4 q0 q1 q2 hq
    by_cases h1 : er = 0
    · subst h1
      obtain ⟨k, hk, hwk, hLe, hP⟩ := HMADE.out.1 rfl
      have HWK := Lib.hid hwk
      have HLE := Lib.hid hLe
      have HP := Lib.hid hP
      have hL' : L'.length = L.length := by rw [hLe, List.length_set]
      have HLL := Lib.hid hL'
      have HF' := Lib.hid (show FitP L' m b by rw [hLe]; exact hP.fits)
      have HS' := Lib.hid (sized_fit HF'.out)
      have hkl' : (k : Int) < (L.length : Int) := by omega
      have hkl2 : (k : Int) < (L'.length : Int) := by omega
      have hk0' : (0 : Int) ≤ (k : Int) := by omega
      clear hwk hLe hP hL'
      obtain ⟨q0, q1, q2⟩ := HX.out _ HB4.out
      have hq := cell_lt q0
      go_wp2_with fail
      obtain ⟨w5, hw5⟩ : ∃ p, p = w4.alloc (.cells #[.slice (some ⟨g, 0, none⟩) L'.length c, .int .i64 m, .int .i64 b] 24) := ⟨_, rfl⟩
      have hb5 : Below w4.heap.size w4 w5 := by rw [hw5]; exact below_box w4 _
      have hU : w5.heap[w4.heap.size]? = some (.cells #[.slice (some ⟨g, 0, none⟩) L'.length c, .int .i64 m, .int .i64 b] 24 (0, 0)) := by rw [hw5]; exact new_block w4 _
      have hs5 : w5.heap.size = w4.heap.size + 1 := by rw [hw5]; simp
      rw [← hw5]
      have HB5 := Lib.hid (HB4.out.trans (hb5.mono (by omega)))
      have HU5 := Lib.hid (show ∀ W, Below w5.heap.size w5 W → W.cell? ⟨w4.heap.size, 0, none⟩ = some (.slice (some ⟨g, 0, none⟩) L'.length c) ∧ W.cell? ⟨w4.heap.size, 1, none⟩ = some (.int .i64 m) ∧ W.cell? ⟨w4.heap.size, 2, none⟩ = some (.int .i64 b) from fun W hW => by
        have h := (hW.block w4.heap.size (by omega)).trans hU
        exact ⟨blk_cell h 0, blk_cell h 1, blk_cell h 2⟩)
      have HO5 := Lib.hid (HO4.out.below hb5)
      clear hw5 hb5 hU q0 q1 q2 hq
      refine (walk5_known _ _ _ _ _ _ hp3 _ L HF.out _ _ HWK.out _ (HM.out _ HB5.out)).mono ?_
      rintro e w6 ⟨rfl, hb6⟩
      have HB6 := Lib.hid (HB5.out.trans (hb6.mono (by omega)))
      have HB56 := Lib.hid hb6
      have hs6 := hb6.size
      have HO6 := Lib.hid (HO5.out.below hb6)
      clear hb6
      obtain ⟨u0, u1, u2⟩ := HU5.out _ HB56.out
      have hul := cell_lt u0
      have hkv : k < vs.length := by rw [HO6.out.nodes.len]; omega
      have hkL' : k < L'.length := by omega
      have hn := (HO6.out.nodes.node k hkL' hkv).mode
      have hLk : L'[k] = { L[k] with mode := q } := by
        have := HLE.out
        subst this
        exact List.getElem_set_self ..
      rw [hLk] at hn
      have HLK := Lib.hid hLk
      have hgl := cell_lt hn
      clear hLk
      go_wp2_with fail
      refine (rown_any _ _ _ _ L' (by rw [HLL.out]; exact hL0) (by rw [HLL.out]; omega) _ HO6.out.nodesIn).mono ?_
      rintro e w7 ⟨g7, c7, vs7, rfl, hN7, hg7, hk7, hb7⟩
      have HB7 := Lib.hid (HB6.out.trans (hb7.mono (by omega)))
      have HB67 := Lib.hid hb7
      have hs7 := hb7.size
      have HN7 := Lib.hid hN7
      have HK7 := Lib.hid hk7
      clear hN7 hk7 hb7 u0 u1 u2 hul hn hgl
      go_wp2_with fail
      obtain ⟨w8, hw8⟩ : ∃ p, p = w7.alloc (.cells #[.slice (some ⟨g7, 0, none⟩) L'.length c7, .int .i64 m, .int .i64 b] 24) := ⟨_, rfl⟩
      have hb8 : Below w7.heap.size w7 w8 := by rw [hw8]; exact below_box w7 _
      have hU : w8.heap[w7.heap.size]? = some (.cells #[.slice (some ⟨g7, 0, none⟩) L'.length c7, .int .i64 m, .int .i64 b] 24 (0, 0)) := by rw [hw8]; exact new_block w7 _
      have hs8 : w8.heap.size = w7.heap.size + 1 := by rw [hw8]; simp
      rw [← hw8]
      have HB8 := Lib.hid (HB7.out.trans (hb8.mono (by omega)))
      have HB78 := Lib.hid hb8
      have HU8 := Lib.hid (hU)
      clear hw8 hb8 hU
      have hkv7 : k < vs7.length := by rw [HN7.out.len]; omega
      have hN8 := HN7.out.below HB78.out
      have hn8 := (hN8.node k hkL' hkv7).mode
      have hf8 := hN8.free (k * 6 + 1)
      have hg8 := hN8.lt
      obtain ⟨bb, o, hab, hx⟩ := (HM.out _ HB8.out).2.2 k hk
      subst hab
      have hx1 := hx.mode
      obtain ⟨q0, q1, q2⟩ := HX.out _ HB8.out
      have hq := cell_lt q0
      have hbl := cell_lt hx1
      have v0 := blk_cell HU8.out 0
      have hvl := cell_lt v0
      obtain ⟨md, hmd⟩ : ∃ v, v = L[k].mode := ⟨_, rfl⟩
      rw [← hmd] at hx1
      have HMD := Lib.hid hmd
      rw [HLK.out] at hn8
      clear hx hmd hN8
      go_wp2_with fail
      go_region
      obtain ⟨w9, hw9⟩ : ∃ w9, w9 = (w8.setCell ⟨g7, k * 6 + 1, none⟩ (.int .i64 md)).drew := ⟨_, rfl⟩
      rw [← hw9]
      have hst9 : ∀ j, j ≠ g7 → w9.heap[j]? = w8.heap[j]? := fun j hj => by rw [hw9]; exact Below.heap_setCell _ _ _ _ hj
      have hs9 : w9.heap.size = w8.heap.size := by rw [hw9]; exact size_set _ _
      have hg78 : g7 < w7.heap.size := HN7.out.lt
      have hb9 : ∀ n, n ≤ w6.heap.size → Below n w8 w9 := fun n hn => by rw [hw9]; exact ((Below.refl n w8).setCell (show n ≤ g7 by omega) _).drew
      have HB9 := Lib.hid (HB8.out.trans (hb9 w2.heap.size (by have := HB6.out.size; omega)))
      have HB69 := Lib.hid ((HB67.out.trans (HB78.out.mono hs7)).trans (hb9 w6.heap.size (Nat.le_refl _)))
      have hset : L'.set k { L'[k] with mode := md } = L := by
        have e := HLE.out
        rw [HLK.out, HMD.out, e, List.set_set]
        exact List.set_getElem_self ..
      have hN9 : NodesOwn w9 g7 c7 L vs7 := by
        have h1 := (HN7.out.below HB78.out).setMode hkL' hkv7 md
        rw [set_self, hset] at h1
        rw [hw9]
        exact h1.same (W' := (w8.setCell ⟨g7, k * 6 + 1, none⟩ (.int .i64 md)).drew) rfl
      have hkids : ∀ i (hi : i < L.length) (hi' : i < L'.length), L'[i].kids = L[i].kids := fun i hi hi' => by
        have e := HLE.out
        subst e
        rw [List.getElem_set]
        split
        · rename_i e; subst e; rfl
        · rfl
      have hV9 : NodesIn w9 (some ⟨g7, 0, none⟩) c7 L := hN9.nodesIn fun i hi hv => by
        have hi' : i < L'.length := by rw [HLL.out]; exact hi
        have := (HK7.out i hi' hv).below HB69.out
        rw [hkids i hi hi'] at this
        exact this
      have HV9 := Lib.hid hV9
      have HO9 := Lib.hid (HO6.out.below HB69.out)
      have hU9 := HU5.out _ (HB56.out.trans (HB69.out.mono hs6))
      have v9 := (World.cell?_of_block (a := ⟨w7.heap.size, 0, none⟩) (hst9 w7.heap.size (by omega))).trans (blk_cell HU8.out 0)
      have v91 := (World.cell?_of_block (a := ⟨w7.heap.size, 1, none⟩) (hst9 w7.heap.size (by omega))).trans (blk_cell HU8.out 1)
      have v92 := (World.cell?_of_block (a := ⟨w7.heap.size, 2, none⟩) (hst9 w7.heap.size (by omega))).trans (blk_cell HU8.out 2)
      have hv9l := cell_lt v9
      clear q0 q1 q2 hq hbl v0 hvl hx1 hn8 hf8 hg8 hw9 hst9 hb9 hset hN9 hkids hV9
      obtain ⟨q0, q1, q2⟩ := HX.out _ HB9.out
      obtain ⟨u0, u1, u2⟩ := hU9
      have hq := cell_lt q0
      have hul := cell_lt u0
      go_wp2_with fail
      rw [HLL.out]
      refine (rsame3_yes _ _ _ _ _ _ L (by omega) _ (HM.out _ HB9.out) HV9.out).mono ?_
      rintro e w10 ⟨rfl, hb10⟩
      have HB10 := Lib.hid (HB9.out.trans (hb10.mono HB9.out.size))
      have HO10 := Lib.hid (HO9.out.below hb10)
      have hs10 := hb10.size
      have u0' := cell_below hb10 u0
      have u1' := cell_below hb10 u1
      have u2' := cell_below hb10 u2
      have hul' := cell_lt u0'
      clear hb10 q0 q1 q2 u0 u1 u2 hq hul v9 v91 v92 hv9l
      rw [HLL.out] at u0'
      go_wp2_with fail
      have hfit := rfit_yes (some ⟨g, 0, none⟩) c m b L' (by rw [HLL.out]; exact hl) HS'.out HF'.out w10 HO10.out.nodesIn
      rw [HLL.out] at hfit
      refine hfit.mono ?_
      rintro e w11 ⟨rfl, hb11⟩
      have HB11 := Lib.hid (HB10.out.trans (hb11.mono HB10.out.size))
      clear hb11 hfit u0' u1' u2' hul'
      go_wp2_with fail
      refine (awake5 _).mono ?_
      rintro e w12 ⟨rfl, hb12⟩
      have HB12 := Lib.hid (HB11.out.trans (hb12.mono HB11.out.size))
      clear hb12
      go_wp2_with fail
      go_ret
      exact ⟨rfl, HEND.out _ HB12.out⟩


    · have hLL := HMADE.out.2 h1
      subst hLL
      have hb1 : (er != 0) = true := by simpa using h1
      obtain ⟨q0, q1, q2⟩ := HX.out _ HB4.out
      have hq := cell_lt q0
      go_wp2_with fail
      obtain ⟨w5, hw5⟩ : ∃ p, p = w4.alloc (.cells #[.slice (some ⟨g, 0, none⟩) L'.length c, .int .i64 m, .int .i64 b] 24) := ⟨_, rfl⟩
      have hb5 : Below w4.heap.size w4 w5 := by rw [hw5]; exact below_box w4 _
      have hU : w5.heap[w4.heap.size]? = some (.cells #[.slice (some ⟨g, 0, none⟩) L'.length c, .int .i64 m, .int .i64 b] 24 (0, 0)) := by rw [hw5]; exact new_block w4 _
      have hs5 : w5.heap.size = w4.heap.size + 1 := by rw [hw5]; simp
      rw [← hw5]
      have HB5 := Lib.hid (HB4.out.trans (hb5.mono (by omega)))
      have HU5 := Lib.hid hU
      have HO5 := Lib.hid (HO4.out.below hb5)
      clear hw5 hb5 hU q0 q1 q2 hq
      refine (rsame3_yes _ _ _ _ _ _ L' (by omega) _ (HM.out _ HB5.out) HO5.out.nodesIn).mono ?_
      rintro e w6 ⟨rfl, hb6⟩
      have HB6 := Lib.hid (HB5.out.trans (hb6.mono (by omega)))
      have hs6 := hb6.size
      clear hb6
      go_wp2_with fail
      refine (awake5 _).mono ?_
      rintro e w7 ⟨rfl, hb7⟩
      have HB7 := Lib.hid (HB6.out.trans (hb7.mono (by omega)))
      clear hb7
      go_wp2_with fail
      go_ret
      exact ⟨rfl, HEND.out _ HB7.out⟩
end Go.Proofs.Ytfmaagcomplooaa
