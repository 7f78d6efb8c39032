/-
  The law MakeThere, walked.
-/
import Derived.Test.YtfmaagcomplooaaMkModes
import Derived.Test.YtfmaagcomplooaaMkLinks
import Derived.Test.YtfmaagcomplooaaK16
namespace Go.Proofs.Ytfmaagcomplooaa
set_option maxRecDepth 100000
open Go Go.RowKit

theorem rplace5_known (a : Option Addr) (cap : Nat) (m b d : Int) (L : List Ino) (hL : L.length ≤ 300) (hF : FitP L m b) (P : List UInt8) (hP : placeL L d = P) (w : World) (hN : NodesIn w a cap L) :
    Calls Try.prog 15 #[.agg #[.slice a L.length cap, .int .i64 m, .int .i64 b], .int .i64 d] w fun e w' => e = .returned (.string ⟨P.toArray⟩) ∧ Below w.heap.size w w' := by
  have h := rplace_any a cap m b d L hL (fun k hk => ⟨ups_in hF.root hF.rootUp hF.ins hF.names k hk, (short_of hF.ins k hk).1, (short_of hF.ins k hk).2⟩) w hN
  rw [hP] at h
  exact h
theorem rlist5_known (a : Option Addr) (cap : Nat) (m b : Int) (L : List Ino) (hL : L.length ≤ 300) (hF : FitP L m b) (X : List (List UInt8)) (hX : listGo L (L.length + 1) 0 [] = X) (w : World) (hN : NodesIn w a cap L) :
    Calls Try.prog 18 #[.agg #[.slice a L.length cap, .int .i64 m, .int .i64 b]] w fun e W' => ∃ v, e = .returned v ∧ Texts w.heap.size W' v X ∧ Below w.heap.size w W' := by
  have hc := few_paths hF
  have h := rlistT_any a cap m b L hL (by have := hF.limits; obtain ⟨_, _, _, _, _⟩ := this; omega) (falls_of hF.ins) (by omega) w hN
  rw [hX] at h
  exact h
theorem rsame5_yes (X : List (List UInt8)) (B1 B2 : Nat) (v1 v2 : Value) (w : World) (hT1 : Texts B1 w v1 X) (hT2 : Texts B2 w v2 X) :
    Calls Try.prog 16 #[v1, v2] w fun e w' => e = .returned (.bool true) ∧ Below w.heap.size w w' := by
  have h := rsame_any X X B1 B2 v1 v2 w hT1 hT2
  rw [decide_eq_true (rfl : X = X)] at h
  exact h
theorem none_own {W : World} {base : Nat} {v : Value} (h : KidsOwn W base v []) : ∃ a c, v = .slice a 0 c := by
  rcases h.2 with ⟨rfl, h0⟩ | ⟨g, cap, cur, rfl, -⟩
  · exact ⟨none, 0, rfl⟩
  · exact ⟨_, cap, rfl⟩
theorem at_len5 {L : List Ino} {m b : Int} (hF : FitP L m b) : ∀ (j : Nat) (c : Int), Rk L c j → dirB L c = true → (atL L c).length ≤ j * 65
  | 0, c, hr, _ => by
    have h0 : c = 0 := hr.1
    rw [h0, at_root]
    exact Nat.zero_le _
  | j + 1, c, hr, hc => by
    have h0 : c ≠ 0 := hr.2 0 (by omega)
    obtain ⟨u, hu, hue, hud, x, hxm, hx⟩ := at_up hF hc h0
    have h1 := at_len5 hF j (u : Int) (by rw [← hue]; exact rk_up hr) hud
    have h2 := (name_parts (name_of hF.ins hu hxm).1).2.2.2.1
    have h3 : x.length ≤ 64 := h2
    rw [hx, List.length_append, List.length_cons]
    omega
theorem place_len5 {L : List Ino} {m b : Int} (hF : FitP L m b) (hL : L.length ≤ 300) {d : Nat} (hd : d < L.length) (hc : dirB L (d : Int) = true) : (placeL L (d : Int)).length ≤ 20000 := by
  obtain ⟨j, hj⟩ := rk_of L.length ((leads_iff L _ _).1 (hF.leads d hd hc))
  have hlt := rk_lt hF.leads hc hj
  have h1 := at_len5 hF j (d : Int) hj hc
  have h2 := place_at hF hc
  by_cases h : placeL L (d : Int) = [47]
  · rw [h]; decide
  · rw [if_neg h] at h2
    rw [h2]
    omega
/-- The same fact at a world that differs by draws alone. -/
theorem below_next5 {n : Nat} {A B B' C : World} (h : Below n A B) (k : Below B'.heap.size B' C) (hn : n ≤ B.heap.size) (e : B'.os = B.os ∧ B'.tape = B.tape ∧ B'.output = B.output ∧ B'.heap = B.heap) : Below n A C := by
  have h' : Below n A B' := ⟨e.1.trans h.os, e.2.1.trans h.tape, e.2.2.1.trans h.output, by rw [e.2.2.2]; exact h.size, by rw [e.2.2.2]; exact h.block⟩
  exact h'.trans (k.mono (by rw [e.2.2.2]; exact hn))

set_option maxHeartbeats 8000000 in
theorem lthere_walk (a : Option Addr) (cap : Nat) (m b cwd q kind : Int) (pb tb : ByteArray) (hpb : pb.size ≤ 281474976710656) (htb : tb.size ≤ 281474976710656) (L : List Ino) (hS : Sized L) (w : World) (hN : NodesIn w a cap L) :
    Calls Try.prog 3 #[.agg #[.slice a L.length cap, .int .i64 m, .int .i64 b], .int .i64 cwd, .string pb, .int .i64 q, .string tb, .int .i64 kind] w fun e w' => e = .returned (.bool true) ∧ Below w.heap.size w w' := by
  obtain ⟨w1, hw1⟩ : ∃ w1, w1 = w.alloc (.cells #[.slice a L.length cap, .int .i64 m, .int .i64 b] 24) := ⟨_, rfl⟩
  have hb1 : Below w.heap.size w w1 := by rw [hw1]; exact below_box w _
  have hX : w1.heap[w.heap.size]? = some (.cells #[.slice a L.length cap, .int .i64 m, .int .i64 b] 24 (0, 0)) := by rw [hw1]; exact new_block w _
  have hs1 : w1.heap.size = w.heap.size + 1 := by rw [hw1]; simp
  have HB := Lib.hid hb1
  obtain ⟨w2, hw2⟩ : ∃ w2, w2 = w1.alloc (.cells #[.string pb, .string tb] 9) := ⟨_, rfl⟩
  have hb2 : Below w1.heap.size w1 w2 := by rw [hw2]; exact below_box w1 _
  have hs2 : w2.heap.size = w.heap.size + 2 := by rw [hw2, World.size_alloc, hs1]
  have hT2 : w2.heap[w.heap.size + 1]? = some (.cells #[.string pb, .string tb] 9 (0, 0)) := by rw [hw2, ← hs1]; exact new_block w1 _
  have HX := Lib.hid (show ∀ W, Below w2.heap.size w2 W → W.cell? ⟨w.heap.size, 0, none⟩ = some (.slice a L.length cap) ∧ W.cell? ⟨w.heap.size, 1, none⟩ = some (.int .i64 m) ∧ W.cell? ⟨w.heap.size, 2, none⟩ = some (.int .i64 b) from fun W hW => by
    have h := (hW.block w.heap.size (by omega)).trans ((hb2.block w.heap.size (by omega)).trans hX)
    exact ⟨blk_cell h 0, blk_cell h 1, blk_cell h 2⟩)
  have HEND := Lib.hid (show ∀ W', Below w2.heap.size w2 W' → Below w.heap.size w W' from fun W' h => HB.out.trans ((hb2.trans (h.mono (by omega))).mono (by omega)))
  have HM := Lib.hid (show ∀ W', Below w2.heap.size w2 W' → NodesIn W' a cap L from fun W' h => hN.below (HB.out.trans ((hb2.trans (h.mono (by omega))).mono (by omega))))
  have HS := Lib.hid hS
  have hgood := good5_any a cap m b L hS [pb, tb] (fun s hs => by
      simp only [List.mem_cons, List.not_mem_nil, or_false] at hs
      rcases hs with rfl | rfl
      · exact hpb
      · exact htb) (by simp) (w.heap.size + 1) 2 w2 (HM.out w2 (Below.refl _ _)) (fun i hi => by
      match i, hi with
      | 0, _ => exact blk_cell hT2 0
      | 1, _ => exact blk_cell hT2 1)
  have HGOOD := Lib.hid hgood
  clear hN hb1 hX hS hb2 hT2 hgood
  go_enter Try.func3, Try.ntmps3
  go_wp2_with fail
  rw [← hw1, ← hw2]
  clear hw1 hw2
  refine HGOOD.out.mono ?_
  rintro e w3 ⟨⟨v, rfl, hv⟩, hb3⟩
  have HV := Lib.hid hv
  have HB3 := Lib.hid hb3
  have hs3 := hb3.size
  obtain ⟨q0, q1, q2⟩ := HX.out _ hb3
  have hq := cell_lt q0
  clear hv hb3 HGOOD
  cases v with
  | false =>
    clear q0 q1 q2 hq
    go_wp2_with fail
    refine (awake5 _).mono ?_
    rintro e w4 ⟨rfl, hb4⟩
    have HB4 := Lib.hid (HB3.out.trans (hb4.mono hs3))
    clear hb4
    go_wp2_with fail
    go_ret
    exact ⟨rfl, HEND.out _ HB4.out⟩
  | true =>
    obtain ⟨hl, hF, hsz⟩ := HV.out rfl
    have HF := Lib.hid hF
    have hL0 : 0 < L.length := by have := hF.limits; obtain ⟨_, _, _, _, _⟩ := this; omega
    have hp3 : pb.size ≤ 1073741824 := by have := hsz pb (by simp); omega
    have ht3 : tb.size ≤ 1073741824 := by have := hsz tb (by simp); omega
    obtain ⟨to, rfl⟩ : ∃ to : List UInt8, tb = ⟨to.toArray⟩ := ⟨tb.data.toList, rfl⟩
    clear hsz hF HV HS
    have hw3 : w.heap.size + 2 ≤ w3.heap.size := by omega
    go_wp2_with fail

    · obtain ⟨⟨L', kz, er⟩, hz⟩ : ∃ r, mkdirW L cwd pb.data.toList q = r := ⟨_, rfl⟩
      have HZ := Lib.hid hz
      have HMADE := Lib.hid (show (er = 0 → ∃ u, MadeOk L m b cwd pb.data.toList (newIno 2 q [] u) L' kz) ∧ (er ≠ 0 → L' = L ∧ kz = 0) from ⟨fun h => ((mkdir_made HF.out hz).1 h).2, (mkdir_made HF.out hz).2⟩)
      obtain ⟨w4, hw4, hb4, hs4, hU4, hW4⟩ := two_boxes w3 #[.slice none 0 0, .int .i64 0, .int .i64 0] #[.int .i64 0, .int .i64 q, .int .i64 1, .string ⟨#[]⟩, .slice none 0 0, .int .i64 0] 24 29
      rw [← hw4]
      have HB4 := Lib.hid (HB3.out.trans (hb4.mono hs3))
      have HU := Lib.hid (show ∀ W, Below w4.heap.size w4 W → W.heap[w3.heap.size]? = some (.cells #[.slice none 0 0, .int .i64 0, .int .i64 0] 24 (0, 0)) from fun W hW => (hW.block w3.heap.size (by omega)).trans hU4)
      have HW := Lib.hid (show ∀ W, Below w4.heap.size w4 W → W.heap[w3.heap.size + 1]? = some (.cells #[.int .i64 0, .int .i64 q, .int .i64 1, .string ⟨#[]⟩, .slice none 0 0, .int .i64 0] 29 (0, 0)) from fun W hW => (hW.block (w3.heap.size + 1) (by omega)).trans hW4)
      clear hz hw4 hb4 hU4 hW4 q0 q1 q2 hq
      refine (lmkdir_any a cap m b cwd q pb hp3 L HF.out L' kz er HZ.out _ (HM.out _ HB4.out)).mono ?_
      rintro e w5 hmade
      obtain ⟨g, c, vs, rfl, hO5, hb5⟩ := MadeAns.three hmade
      have HB5 := Lib.hid (HB4.out.trans (hb5.mono (by omega)))
      have HO5 := Lib.hid hO5
      have HU5 := Lib.hid (HU.out _ hb5)
      have HW5 := Lib.hid (HW.out _ hb5)
      have hs5 := hb5.size
      clear hmade hO5 hb5 HU HW
      have r0 := blk_cell HU5.out 0
      have r1 := blk_cell HU5.out 1
      have r2 := blk_cell HU5.out 2
      have rf0 := blk_free HU5.out 0
      have rf1 := blk_free HU5.out 1
      have rf2 := blk_free HU5.out 2
      have v0 := blk_cell HW5.out 0
      have vf0 := blk_free HW5.out 0
      have hul : w3.heap.size < w5.heap.size := by omega
      have hwl : w3.heap.size + 1 < w5.heap.size := by omega
      obtain ⟨q0, q1, q2⟩ := HX.out _ HB5.out
      have hq := cell_lt q0
      by_cases h1 : er = 0
      · subst h1
        obtain ⟨uu, hmk⟩ := HMADE.out.1 rfl
        obtain ⟨d, nm, k, rfl, hpw, hLe, ⟨hkl, hk0⟩, hA, hkne⟩ := hmk.made
        have HPW := Lib.hid hpw
        have HLE := Lib.hid hLe
        have HA := Lib.hid hA
        have HK0 := Lib.hid hk0
        have hL' : L'.length = L.length := by rw [hLe, add_len]
        have HLL := Lib.hid hL'
        have HF' := Lib.hid (show FitP L' m b by rw [hLe]; exact hA.fits)
        have HS' := Lib.hid (sized_fit HF'.out)
        have hkl' : (k : Int) < (L.length : Int) := by omega
        have hkl2 : (k : Int) < (L'.length : Int) := by omega
        have hk0' : (0 : Int) ≤ (k : Int) := by omega
        have hk1' : ¬ (k : Int) < 1 := by omega
        have HKD := Lib.hid (show kidL L' (d : Int) nm = (k : Int) by rw [hLe]; exact hA.kid)
        have HDD := Lib.hid (show dirB L (d : Int) = true from (dir_nat hA.dlt).2 hA.dir)
        have hkL' : k < L'.length := by omega
        have HNK := Lib.hid (show L'[k] = ⟨2, q, 1, [], [], uu⟩ by
          have h1 := hA.nodeK
          rw [← hLe, node_nat L' k hkL'] at h1
          rw [h1]
          rfl)
        clear hpw hLe hA hk0 hL' hmk
        go_wp2_with fail
        obtain ⟨w6, hw6⟩ : ∃ p, p = (((((w5.setCell ⟨w3.heap.size, 0, none⟩ (.slice (some ⟨g, 0, none⟩) L'.length c)).setCell ⟨w3.heap.size, 1, none⟩ (.int .i64 m)).setCell ⟨w3.heap.size, 2, none⟩ (.int .i64 b)).setCell ⟨w3.heap.size + 1, 0, none⟩ (.int .i64 2))).alloc (.cells #[.slice (some ⟨g, 0, none⟩) L'.length c, .int .i64 m, .int .i64 b] 24) := ⟨_, rfl⟩
        rw [← hw6]
        obtain ⟨wq, hwq⟩ : ∃ p, p = ((put3 w5 w3.heap.size (.slice (some ⟨g, 0, none⟩) L'.length c) (.int .i64 m) (.int .i64 b)).setCell ⟨w3.heap.size + 1, 0, none⟩ (.int .i64 2)) := ⟨_, rfl⟩
        have hwx : w6 = wq.alloc (.cells #[.slice (some ⟨g, 0, none⟩) L'.length c, .int .i64 m, .int .i64 b] 24) := by rw [hw6, hwq]; rfl
        have hqs : wq.heap.size = w5.heap.size := by rw [hwq]; simp [World.setCell, put3_size]
        have hqb : Below w2.heap.size w2 wq := by rw [hwq]; exact ((put3_below HB5.out (by omega) _ _ _).setCell (by show w2.heap.size ≤ w3.heap.size + 1; omega) _)
        have hqu : wq.heap[w3.heap.size]? = some (.cells #[.slice (some ⟨g, 0, none⟩) L'.length c, .int .i64 m, .int .i64 b] 24 (0, 0)) := by rw [hwq]; exact ((Below.heap_setCell _ _ _ _ (by show w3.heap.size ≠ w3.heap.size + 1; omega)).trans (put3_block HU5.out _ _ _))
        have hqw : wq.heap[w3.heap.size + 1]? = some (.cells #[.int .i64 2, .int .i64 q, .int .i64 1, .string ⟨#[]⟩, .slice none 0 0, .int .i64 0] 29 (0, 0)) := by rw [hwq]; exact (blk_set ((put3_other (by omega) _ _ _).trans HW5.out) 0 _)
        have hqo : OwnT wq w4.heap.size g c L' vs := by rw [hwq]; exact HO5.out.low fun k hk => ((Below.heap_setCell _ _ _ _ (by show k ≠ w3.heap.size + 1; omega)).trans (put3_other (by omega) _ _ _))
        have hb6 : Below wq.heap.size wq w6 := by rw [hwx]; exact below_box wq _
        have hs6 : w6.heap.size = w5.heap.size + 1 := by rw [hwx, World.size_alloc, hqs]
        have HB6 := Lib.hid (hqb.trans (hb6.mono (by omega)))
        have HO6 := Lib.hid (hqo.below hb6)
        have HU6 := Lib.hid (show ∀ W, Below w6.heap.size w6 W → W.cell? ⟨w3.heap.size, 0, none⟩ = some (.slice (some ⟨g, 0, none⟩) L'.length c) ∧ W.cell? ⟨w3.heap.size, 1, none⟩ = some (.int .i64 m) ∧ W.cell? ⟨w3.heap.size, 2, none⟩ = some (.int .i64 b) from fun W hW => by
          have h := (hW.block w3.heap.size (by omega)).trans ((hb6.block w3.heap.size (by omega)).trans hqu)
          exact ⟨blk_cell h 0, blk_cell h 1, blk_cell h 2⟩)
        have HW6 := Lib.hid (show ∀ W, Below w6.heap.size w6 W → W.cell? ⟨w3.heap.size + 1, 0, none⟩ = some (.int .i64 2) ∧ W.cell? ⟨w3.heap.size + 1, 1, none⟩ = some (.int .i64 q) ∧ W.cell? ⟨w3.heap.size + 1, 3, none⟩ = some (.string ⟨#[]⟩) from fun W hW => by
          have h := (hW.block (w3.heap.size + 1) (by omega)).trans ((hb6.block (w3.heap.size + 1) (by omega)).trans hqw)
          exact ⟨blk_cell h 0, blk_cell h 1, blk_cell h 3⟩)
        clear hw6 hwq hwx hqs hqb hqu hqw hqo hb6 q0 q1 q2 hq r0 r1 r2 rf0 rf1 rf2 v0 vf0 HU5 HW5 HO5
        refine (parent5_known _ _ _ _ _ _ hp3 L HF.out _ _ _ HPW.out _ (HM.out _ HB6.out)).mono ?_
        rintro e w7 ⟨rfl, hb7⟩
        have HB7 := Lib.hid (HB6.out.trans (hb7.mono HB6.out.size))
        have HB67 := Lib.hid hb7
        have hs7 := hb7.size
        have HO7 := Lib.hid (HO6.out.below hb7)
        clear hb7
        obtain ⟨q0, q1, q2⟩ := HX.out _ HB7.out
        obtain ⟨u0, u1, u2⟩ := HU6.out _ HB67.out
        obtain ⟨bb, o, hab, hx⟩ := (HM.out _ HB7.out).2.2 k hkl
        subst hab
        have x0 := hx.kind
        rw [HK0.out] at x0
        have HKX := Lib.hid (show ∀ W, Below w7.heap.size w7 W → W.cell? ⟨bb, o + k * 6, none⟩ = some (.int .i64 0) from fun W hW => cell_below hW x0)
        have hq := cell_lt q0
        have hul := cell_lt u0
        have hxl := cell_lt x0
        clear hx
        go_wp2_with fail
        refine (rfit_yes (some ⟨g, 0, none⟩) c m b L' (by rw [HLL.out]; exact hl) HS'.out HF'.out _ HO7.out.nodesIn).mono ?_
        rintro e w71 ⟨rfl, hb71⟩
        have HB71 := Lib.hid (HB7.out.trans (hb71.mono HB7.out.size))
        have HB77 := Lib.hid hb71
        have HB671 := Lib.hid (HB67.out.trans (hb71.mono hs7))
        have hs71 := hb71.size
        have HO71 := Lib.hid (HO7.out.below hb71)
        clear hb71 q0 q1 q2 u0 u1 u2 x0 hq hul hxl
        obtain ⟨q0, q1, q2⟩ := HX.out _ HB71.out
        obtain ⟨u0, u1, u2⟩ := HU6.out _ HB671.out
        have x0 := HKX.out _ HB77.out
        have hq := cell_lt q0
        have hul := cell_lt u0
        have hxl := cell_lt x0
        go_wp2_with fail
        refine (rkid_known (some ⟨g, 0, none⟩) c m b d nm L' k HKD.out _ HO71.out.nodesIn).mono ?_
        rintro e w8 ⟨rfl, hb8⟩
        have HB8 := Lib.hid (HB71.out.trans (hb8.mono HB71.out.size))
        have HB68 := Lib.hid (HB671.out.trans (hb8.mono (by omega)))
        have hs8 := hb8.size
        have HO8 := Lib.hid (HO71.out.below hb8)
        clear hb8 q0 q1 q2 u0 u1 u2 x0 hq hul hxl
        obtain ⟨q0, q1, q2⟩ := HX.out _ HB8.out
        obtain ⟨u0, u1, u2⟩ := HU6.out _ HB68.out
        obtain ⟨y0, y1, y3⟩ := HW6.out _ HB68.out
        have hkv : k < vs.length := by rw [HO8.out.nodes.len]; omega
        have hn := HO8.out.nodes.node k hkL' hkv
        obtain ⟨ka, kc, hvk⟩ := none_own (show KidsOwn w8 w4.heap.size vs[k] [] by have h := HO8.out.kids k hkL' hkv; rw [HNK.out] at h; exact h)
        have n0 := hn.kind
        have n1 := hn.mode
        have n2 := hn.links
        have n3 := hn.data
        have n4 := hn.kids
        have n5 := hn.up
        rw [HNK.out] at n0 n1 n2 n3 n5
        rw [hvk] at n4
        have hq := cell_lt q0
        have hul := cell_lt u0
        have hyl := cell_lt y0
        have hgl := cell_lt n0
        clear hn
        go_wp2_with fail
        obtain ⟨w9, hw9⟩ : ∃ p, p = w8.alloc (.cells #[.int .i64 2, .int .i64 q, .int .i64 1, .string ⟨#[]⟩, .slice ka 0 kc, .int .i64 uu] 29) := ⟨_, rfl⟩
        rw [← hw9]
        have hb9 : Below w8.heap.size w8 w9 := by rw [hw9]; exact below_box w8 _
        have hs9 : w9.heap.size = w8.heap.size + 1 := by rw [hw9]; simp
        have HB9 := Lib.hid (HB8.out.trans (hb9.mono HB8.out.size))
        have HB69 := Lib.hid (HB68.out.trans (hb9.mono (by omega)))
        clear hw9 hb9 q0 q1 q2 u0 u1 u2 y0 y1 y3 n0 n1 n2 n3 n4 n5 hq hul hyl hgl
        obtain ⟨P, hP⟩ : ∃ P, placeL L (d : Int) = P := ⟨_, rfl⟩
        refine (rplace5_known _ _ _ _ _ L hl HF.out P hP _ (HM.out _ HB9.out)).mono ?_
        rintro e w10 ⟨rfl, hb10⟩
        have HB10 := Lib.hid (HB9.out.trans (hb10.mono HB9.out.size))
        have HB610 := Lib.hid (HB69.out.trans (hb10.mono (by omega)))
        have HO10 := Lib.hid (HO6.out.below HB610.out)
        have hs10 := hb10.size
        clear hb10
        obtain ⟨q0, q1, q2⟩ := HX.out _ HB10.out
        obtain ⟨u0, u1, u2⟩ := HU6.out _ HB610.out
        have hPA := place_at HF.out (show dirB L (d : Int) = true from HDD.out)
        rw [hP] at hPA
        obtain ⟨X0, hX0⟩ : ∃ X, listGo L (L.length + 1) 0 [] = X := ⟨_, rfl⟩
        obtain ⟨X1, hX1⟩ : ∃ X, listGo L' (L'.length + 1) 0 [] = X := ⟨_, rfl⟩
        have hbut := HA.out.paths HK0.out
        have hone := HA.out.paths1
        have hfew0 := few_paths HF.out
        rw [hX0] at hfew0
        rw [← HLE.out, hX1, hX0] at hone
        rw [show (addL L d k nm _) = L' from HLE.out.symm, show L.length + 1 = L'.length + 1 by rw [HLL.out], hX1] at hbut
        rw [show L'.length + 1 = L.length + 1 by rw [HLL.out], hX0] at hbut
        have HBUT := Lib.hid (show butL X1 (atL L (d : Int) ++ 47 :: nm) = X0 from hbut)
        have H18 := Lib.hid (show ∀ W, Below w10.heap.size w10 W → Calls Try.prog 18 #[.agg #[.slice (some ⟨bb, o, none⟩) L.length cap, .int .i64 m, .int .i64 b]] W fun e W' => ∃ v, e = .returned v ∧ Texts W.heap.size W' v X0 ∧ Below W.heap.size W W' from fun W hW => rlist5_known _ cap m b L hl HF.out X0 hX0 W (HM.out _ (HB10.out.trans (hW.mono HB10.out.size))))
        have H18u := Lib.hid (show ∀ W, NodesIn W (some ⟨g, 0, none⟩) c L' → Calls Try.prog 18 #[.agg #[.slice (some ⟨g, 0, none⟩) L'.length c, .int .i64 m, .int .i64 b]] W fun e W' => ∃ v, e = .returned v ∧ Texts W.heap.size W' v X1 ∧ Below W.heap.size W W' from fun W hW => rlist5_known _ c m b L' (by rw [HLL.out]; exact hl) HF'.out X1 hX1 W hW)
        have H17 := Lib.hid (show ∀ s : ByteArray, s = ⟨(atL L (d : Int) ++ 47 :: nm).toArray⟩ → ∀ W, Below w10.heap.size w10 W → Calls Try.prog 17 #[.agg #[.slice (some ⟨g, 0, none⟩) L'.length c, .int .i64 m, .int .i64 b], .string s] W fun e W' => ∃ v, e = .returned v ∧ Texts W.heap.size W' v X0 ∧ Below W.heap.size W W' from fun s hs W hW => by
          have h := lawpaths_any _ c m b (atL L (d : Int) ++ 47 :: nm) L' X1 (by omega) H18u.out W (HO10.out.below hW).nodesIn
          rw [HBUT.out, ← hs] at h
          exact h)
        have hle : ((X1.length : Int) == IntKind.i64.wrap ((X0.length : Int) + 1)) = true := by
          rw [IntWalk.i64_in _ ⟨by omega, by omega⟩, beq_iff_eq]
          omega
        have hplen := place_len5 HF.out hl HA.out.dlt HDD.out
        rw [hP] at hplen
        have hnlen : nm.length ≤ 64 := (name_parts HA.out.name).2.2.2.1
        have hc1 : ¬ 9223372036854775807 < P.length + 1 := by omega
        have hc2 : ¬ 9223372036854775807 < P.length + 1 + nm.length := by omega
        have hc4 : ¬ 9223372036854775807 < 1 + nm.length := by omega
        have HBB := Lib.hid (Below.refl w10.heap.size w10)
        have HONE := Lib.hid hone
        clear hbut hX0 hX1 hP hone
        cases hpq : (P == [47]) with
        | true =>
          have HCAT := Lib.hid (show ((⟨#[]⟩ : ByteArray) ++ (⟨#[47]⟩ : ByteArray)) ++ (⟨nm.toArray⟩ : ByteArray) = ⟨(atL L (d : Int) ++ 47 :: nm).toArray⟩ by
            rw [if_pos (beq_iff_eq.1 hpq)] at hPA
            rw [← hPA]
            exact cat_slash [] nm)
          clear hPA
          go_wp2_with fail
          go_region_held3 (fun W => W.cell? ⟨w.heap.size, 0, none⟩ = some (.slice (some ⟨bb, o, none⟩) L.length cap) ∧ W.cell? ⟨w.heap.size, 1, none⟩ = some (.int .i64 m) ∧ W.cell? ⟨w.heap.size, 2, none⟩ = some (.int .i64 b) ∧ W.cell? ⟨w3.heap.size, 0, none⟩ = some (.slice (some ⟨g, 0, none⟩) L'.length c) ∧ W.cell? ⟨w3.heap.size, 1, none⟩ = some (.int .i64 m) ∧ W.cell? ⟨w3.heap.size, 2, none⟩ = some (.int .i64 b))
            (exact ⟨q0, q1, q2, u0, u1, u2⟩)
            (first
              | (go_at_call 17; refine (H17.out _ HCAT.out _ ?_).mono ?_; (exact ⟨HBB.out.os, HBB.out.tape, HBB.out.output, HBB.out.size, HBB.out.block⟩); rintro e wn ⟨v1, rfl, hT1, hbn⟩; have HT1 := Lib.hid hT1; have HBB : Hid (Below w10.heap.size w10 wn) := Lib.hid (below_next5 HBB.out hbn HBB.out.size ⟨rfl, rfl, rfl, rfl⟩); obtain ⟨q0, q1, q2⟩ := HX.out _ (HB10.out.trans (HBB.out.mono HB10.out.size)); obtain ⟨u0, u1, u2⟩ := HU6.out _ (HB610.out.trans (HBB.out.mono HB610.out.size)))
              | (go_at_call 18; with_reducible (show Calls _ _ #[.agg #[.slice (some ⟨bb, o, none⟩) _ _, _, _]] _ _); refine (H18.out _ ?_).mono ?_; (exact ⟨HBB.out.os, HBB.out.tape, HBB.out.output, HBB.out.size, HBB.out.block⟩); rintro e wn ⟨v2, rfl, hT2, hbn⟩; obtain ⟨a2, c2, rfl, -, -⟩ := hT2.slot3; have HT2 := Lib.hid hT2; have HBB : Hid (Below w10.heap.size w10 wn) := Lib.hid (below_next5 HBB.out hbn HBB.out.size ⟨rfl, rfl, rfl, rfl⟩); obtain ⟨q0, q1, q2⟩ := HX.out _ (HB10.out.trans (HBB.out.mono HB10.out.size)); obtain ⟨u0, u1, u2⟩ := HU6.out _ (HB610.out.trans (HBB.out.mono HB610.out.size)); (try have HT1 : Hid (Texts _ wn _ X0) := Lib.hid (Texts.below HT1.out ⟨hbn.os, hbn.tape, hbn.output, hbn.size, hbn.block⟩)))
              | (go_at_call 18; with_reducible (show Calls _ _ #[.agg #[.slice (some ⟨g, 0, none⟩) _ _, _, _]] _ _); refine (H18u.out _ (HO10.out.below ?_).nodesIn).mono ?_; (exact ⟨HBB.out.os, HBB.out.tape, HBB.out.output, HBB.out.size, HBB.out.block⟩); rintro e wn ⟨v3, rfl, hT3, hbn⟩; obtain ⟨a3, c3, rfl, -, -⟩ := hT3.slot3; clear hT3; have HBB : Hid (Below w10.heap.size w10 wn) := Lib.hid (below_next5 HBB.out hbn HBB.out.size ⟨rfl, rfl, rfl, rfl⟩); obtain ⟨q0, q1, q2⟩ := HX.out _ (HB10.out.trans (HBB.out.mono HB10.out.size)); obtain ⟨u0, u1, u2⟩ := HU6.out _ (HB610.out.trans (HBB.out.mono HB610.out.size)))
              | (go_at_call 16; refine (rsame5_yes X0 _ _ _ _ _ HT1.out HT2.out).mono ?_; rintro e wn ⟨rfl, hbn⟩; have HBB : Hid (Below w10.heap.size w10 wn) := Lib.hid (below_next5 HBB.out hbn HBB.out.size ⟨rfl, rfl, rfl, rfl⟩); obtain ⟨q0, q1, q2⟩ := HX.out _ (HB10.out.trans (HBB.out.mono HB10.out.size)); obtain ⟨u0, u1, u2⟩ := HU6.out _ (HB610.out.trans (HBB.out.mono HB610.out.size)))
              | (go_at_call 7; refine (awake5 _).mono ?_; rintro e wn ⟨rfl, hbn⟩; have HBB : Hid (Below w10.heap.size w10 wn) := Lib.hid (below_next5 HBB.out hbn HBB.out.size ⟨rfl, rfl, rfl, rfl⟩); obtain ⟨q0, q1, q2⟩ := HX.out _ (HB10.out.trans (HBB.out.mono HB10.out.size)); obtain ⟨u0, u1, u2⟩ := HU6.out _ (HB610.out.trans (HBB.out.mono HB610.out.size))))
          all_goals
            go_wp2_with fail
            go_ret
            exact ⟨rfl, HEND.out _ (HB10.out.trans (HBB.out.mono HB10.out.size))⟩
        | false =>
          have HCAT := Lib.hid (show ((⟨P.toArray⟩ : ByteArray) ++ (⟨#[47]⟩ : ByteArray)) ++ (⟨nm.toArray⟩ : ByteArray) = ⟨(atL L (d : Int) ++ 47 :: nm).toArray⟩ by
            rw [if_neg (beq_eq_false_iff_ne.1 hpq)] at hPA
            rw [← hPA]
            exact cat_slash P nm)
          clear hPA
          go_wp2_with fail
          go_region_held3 (fun W => W.cell? ⟨w.heap.size, 0, none⟩ = some (.slice (some ⟨bb, o, none⟩) L.length cap) ∧ W.cell? ⟨w.heap.size, 1, none⟩ = some (.int .i64 m) ∧ W.cell? ⟨w.heap.size, 2, none⟩ = some (.int .i64 b) ∧ W.cell? ⟨w3.heap.size, 0, none⟩ = some (.slice (some ⟨g, 0, none⟩) L'.length c) ∧ W.cell? ⟨w3.heap.size, 1, none⟩ = some (.int .i64 m) ∧ W.cell? ⟨w3.heap.size, 2, none⟩ = some (.int .i64 b))
            (exact ⟨q0, q1, q2, u0, u1, u2⟩)
            (first
              | (go_at_call 17; refine (H17.out _ HCAT.out _ ?_).mono ?_; (exact ⟨HBB.out.os, HBB.out.tape, HBB.out.output, HBB.out.size, HBB.out.block⟩); rintro e wn ⟨v1, rfl, hT1, hbn⟩; have HT1 := Lib.hid hT1; have HBB : Hid (Below w10.heap.size w10 wn) := Lib.hid (below_next5 HBB.out hbn HBB.out.size ⟨rfl, rfl, rfl, rfl⟩); obtain ⟨q0, q1, q2⟩ := HX.out _ (HB10.out.trans (HBB.out.mono HB10.out.size)); obtain ⟨u0, u1, u2⟩ := HU6.out _ (HB610.out.trans (HBB.out.mono HB610.out.size)))
              | (go_at_call 18; with_reducible (show Calls _ _ #[.agg #[.slice (some ⟨bb, o, none⟩) _ _, _, _]] _ _); refine (H18.out _ ?_).mono ?_; (exact ⟨HBB.out.os, HBB.out.tape, HBB.out.output, HBB.out.size, HBB.out.block⟩); rintro e wn ⟨v2, rfl, hT2, hbn⟩; obtain ⟨a2, c2, rfl, -, -⟩ := hT2.slot3; have HT2 := Lib.hid hT2; have HBB : Hid (Below w10.heap.size w10 wn) := Lib.hid (below_next5 HBB.out hbn HBB.out.size ⟨rfl, rfl, rfl, rfl⟩); obtain ⟨q0, q1, q2⟩ := HX.out _ (HB10.out.trans (HBB.out.mono HB10.out.size)); obtain ⟨u0, u1, u2⟩ := HU6.out _ (HB610.out.trans (HBB.out.mono HB610.out.size)); (try have HT1 : Hid (Texts _ wn _ X0) := Lib.hid (Texts.below HT1.out ⟨hbn.os, hbn.tape, hbn.output, hbn.size, hbn.block⟩)))
              | (go_at_call 18; with_reducible (show Calls _ _ #[.agg #[.slice (some ⟨g, 0, none⟩) _ _, _, _]] _ _); refine (H18u.out _ (HO10.out.below ?_).nodesIn).mono ?_; (exact ⟨HBB.out.os, HBB.out.tape, HBB.out.output, HBB.out.size, HBB.out.block⟩); rintro e wn ⟨v3, rfl, hT3, hbn⟩; obtain ⟨a3, c3, rfl, -, -⟩ := hT3.slot3; clear hT3; have HBB : Hid (Below w10.heap.size w10 wn) := Lib.hid (below_next5 HBB.out hbn HBB.out.size ⟨rfl, rfl, rfl, rfl⟩); obtain ⟨q0, q1, q2⟩ := HX.out _ (HB10.out.trans (HBB.out.mono HB10.out.size)); obtain ⟨u0, u1, u2⟩ := HU6.out _ (HB610.out.trans (HBB.out.mono HB610.out.size)))
              | (go_at_call 16; refine (rsame5_yes X0 _ _ _ _ _ HT1.out HT2.out).mono ?_; rintro e wn ⟨rfl, hbn⟩; have HBB : Hid (Below w10.heap.size w10 wn) := Lib.hid (below_next5 HBB.out hbn HBB.out.size ⟨rfl, rfl, rfl, rfl⟩); obtain ⟨q0, q1, q2⟩ := HX.out _ (HB10.out.trans (HBB.out.mono HB10.out.size)); obtain ⟨u0, u1, u2⟩ := HU6.out _ (HB610.out.trans (HBB.out.mono HB610.out.size)))
              | (go_at_call 7; refine (awake5 _).mono ?_; rintro e wn ⟨rfl, hbn⟩; have HBB : Hid (Below w10.heap.size w10 wn) := Lib.hid (below_next5 HBB.out hbn HBB.out.size ⟨rfl, rfl, rfl, rfl⟩); obtain ⟨q0, q1, q2⟩ := HX.out _ (HB10.out.trans (HBB.out.mono HB10.out.size)); obtain ⟨u0, u1, u2⟩ := HU6.out _ (HB610.out.trans (HBB.out.mono HB610.out.size))))
          all_goals
            go_wp2_with fail
            go_ret
            exact ⟨rfl, HEND.out _ (HB10.out.trans (HBB.out.mono HB10.out.size))⟩

      · have hb1 : (er != 0) = true := by simpa using h1
        go_wp2_with fail
        obtain ⟨w6, hw6⟩ : ∃ p, p = (((((w5.setCell ⟨w3.heap.size, 0, none⟩ (.slice (some ⟨g, 0, none⟩) L'.length c)).setCell ⟨w3.heap.size, 1, none⟩ (.int .i64 m)).setCell ⟨w3.heap.size, 2, none⟩ (.int .i64 b)).setCell ⟨w3.heap.size + 1, 0, none⟩ (.int .i64 2))).alloc (.cells #[.slice (some ⟨g, 0, none⟩) L'.length c, .int .i64 m, .int .i64 b] 24) := ⟨_, rfl⟩
        rw [← hw6]
        obtain ⟨wq, hwq⟩ : ∃ p, p = ((put3 w5 w3.heap.size (.slice (some ⟨g, 0, none⟩) L'.length c) (.int .i64 m) (.int .i64 b)).setCell ⟨w3.heap.size + 1, 0, none⟩ (.int .i64 2)) := ⟨_, rfl⟩
        have hwx : w6 = wq.alloc (.cells #[.slice (some ⟨g, 0, none⟩) L'.length c, .int .i64 m, .int .i64 b] 24) := by rw [hw6, hwq]; rfl
        have hqs : wq.heap.size = w5.heap.size := by rw [hwq]; simp [World.setCell, put3_size]
        have hqb : Below w2.heap.size w2 wq := by rw [hwq]; exact ((put3_below HB5.out (by omega) _ _ _).setCell (by show w2.heap.size ≤ w3.heap.size + 1; omega) _)
        have hqu : wq.heap[w3.heap.size]? = some (.cells #[.slice (some ⟨g, 0, none⟩) L'.length c, .int .i64 m, .int .i64 b] 24 (0, 0)) := by rw [hwq]; exact ((Below.heap_setCell _ _ _ _ (by show w3.heap.size ≠ w3.heap.size + 1; omega)).trans (put3_block HU5.out _ _ _))
        have hqw : wq.heap[w3.heap.size + 1]? = some (.cells #[.int .i64 2, .int .i64 q, .int .i64 1, .string ⟨#[]⟩, .slice none 0 0, .int .i64 0] 29 (0, 0)) := by rw [hwq]; exact (blk_set ((put3_other (by omega) _ _ _).trans HW5.out) 0 _)
        have hqo : OwnT wq w4.heap.size g c L' vs := by rw [hwq]; exact HO5.out.low fun k hk => ((Below.heap_setCell _ _ _ _ (by show k ≠ w3.heap.size + 1; omega)).trans (put3_other (by omega) _ _ _))
        have hb6 : Below wq.heap.size wq w6 := by rw [hwx]; exact below_box wq _
        have hs6 : w6.heap.size = w5.heap.size + 1 := by rw [hwx, World.size_alloc, hqs]
        have HB6 := Lib.hid (hqb.trans (hb6.mono (by omega)))
        have HO6 := Lib.hid (hqo.below hb6)
        have HU6 := Lib.hid (show ∀ W, Below w6.heap.size w6 W → W.cell? ⟨w3.heap.size, 0, none⟩ = some (.slice (some ⟨g, 0, none⟩) L'.length c) ∧ W.cell? ⟨w3.heap.size, 1, none⟩ = some (.int .i64 m) ∧ W.cell? ⟨w3.heap.size, 2, none⟩ = some (.int .i64 b) from fun W hW => by
          have h := (hW.block w3.heap.size (by omega)).trans ((hb6.block w3.heap.size (by omega)).trans hqu)
          exact ⟨blk_cell h 0, blk_cell h 1, blk_cell h 2⟩)
        have HW6 := Lib.hid (show ∀ W, Below w6.heap.size w6 W → W.cell? ⟨w3.heap.size + 1, 0, none⟩ = some (.int .i64 2) ∧ W.cell? ⟨w3.heap.size + 1, 1, none⟩ = some (.int .i64 q) ∧ W.cell? ⟨w3.heap.size + 1, 3, none⟩ = some (.string ⟨#[]⟩) from fun W hW => by
          have h := (hW.block (w3.heap.size + 1) (by omega)).trans ((hb6.block (w3.heap.size + 1) (by omega)).trans hqw)
          exact ⟨blk_cell h 0, blk_cell h 1, blk_cell h 3⟩)
        clear hw6 hwq hwx hqs hqb hqu hqw hqo hb6 q0 q1 q2 hq r0 r1 r2 rf0 rf1 rf2 v0 vf0 HU5 HW5 HO5
        obtain ⟨hLL, hkz⟩ := HMADE.out.2 h1
        subst hkz
        subst hLL
        refine (rsame3_yes _ _ _ _ _ _ L' (by omega) _ (HM.out _ HB6.out) HO6.out.nodesIn).mono ?_
        rintro e w7 ⟨rfl, hb7⟩
        have HB7 := Lib.hid (HB6.out.trans (hb7.mono HB6.out.size))
        clear hb7
        go_wp2_with fail
        refine (awake5 _).mono ?_
        rintro e w8 ⟨rfl, hb8⟩
        have HB8 := Lib.hid (HB7.out.trans (hb8.mono HB7.out.size))
        clear hb8
        go_wp2_with fail
        go_ret
        exact ⟨rfl, HEND.out _ HB8.out⟩


    · obtain ⟨⟨L', kz, er⟩, hz⟩ : ∃ r, createW L cwd pb.data.toList q = r := ⟨_, rfl⟩
      have HZ := Lib.hid hz
      have HMADE := Lib.hid (show (er = 0 → ∃ u, MadeOk L m b cwd pb.data.toList (newIno 1 q [] u) L' kz) ∧ (er ≠ 0 → L' = L ∧ kz = 0) from ⟨fun h => ⟨0, ((create_made HF.out hz).1 h).2⟩, (create_made HF.out hz).2⟩)
      obtain ⟨w4, hw4, hb4, hs4, hU4, hW4⟩ := two_boxes w3 #[.slice none 0 0, .int .i64 0, .int .i64 0] #[.int .i64 0, .int .i64 q, .int .i64 1, .string ⟨#[]⟩, .slice none 0 0, .int .i64 0] 24 29
      rw [← hw4]
      have HB4 := Lib.hid (HB3.out.trans (hb4.mono hs3))
      have HU := Lib.hid (show ∀ W, Below w4.heap.size w4 W → W.heap[w3.heap.size]? = some (.cells #[.slice none 0 0, .int .i64 0, .int .i64 0] 24 (0, 0)) from fun W hW => (hW.block w3.heap.size (by omega)).trans hU4)
      have HW := Lib.hid (show ∀ W, Below w4.heap.size w4 W → W.heap[w3.heap.size + 1]? = some (.cells #[.int .i64 0, .int .i64 q, .int .i64 1, .string ⟨#[]⟩, .slice none 0 0, .int .i64 0] 29 (0, 0)) from fun W hW => (hW.block (w3.heap.size + 1) (by omega)).trans hW4)
      clear hz hw4 hb4 hU4 hW4 q0 q1 q2 hq
      refine (lcreate_any a cap m b cwd q pb hp3 L HF.out L' kz er HZ.out _ (HM.out _ HB4.out)).mono ?_
      rintro e w5 hmade
      obtain ⟨g, c, vs, rfl, hO5, hb5⟩ := MadeAns.three hmade
      have HB5 := Lib.hid (HB4.out.trans (hb5.mono (by omega)))
      have HO5 := Lib.hid hO5
      have HU5 := Lib.hid (HU.out _ hb5)
      have HW5 := Lib.hid (HW.out _ hb5)
      have hs5 := hb5.size
      clear hmade hO5 hb5 HU HW
      have r0 := blk_cell HU5.out 0
      have r1 := blk_cell HU5.out 1
      have r2 := blk_cell HU5.out 2
      have rf0 := blk_free HU5.out 0
      have rf1 := blk_free HU5.out 1
      have rf2 := blk_free HU5.out 2
      have v0 := blk_cell HW5.out 0
      have vf0 := blk_free HW5.out 0
      have hul : w3.heap.size < w5.heap.size := by omega
      have hwl : w3.heap.size + 1 < w5.heap.size := by omega
      obtain ⟨q0, q1, q2⟩ := HX.out _ HB5.out
      have hq := cell_lt q0
      by_cases h1 : er = 0
      · subst h1
        obtain ⟨uu, hmk⟩ := HMADE.out.1 rfl
        obtain ⟨d, nm, k, rfl, hpw, hLe, ⟨hkl, hk0⟩, hA, hkne⟩ := hmk.made
        have HPW := Lib.hid hpw
        have HLE := Lib.hid hLe
        have HA := Lib.hid hA
        have HK0 := Lib.hid hk0
        have hL' : L'.length = L.length := by rw [hLe, add_len]
        have HLL := Lib.hid hL'
        have HF' := Lib.hid (show FitP L' m b by rw [hLe]; exact hA.fits)
        have HS' := Lib.hid (sized_fit HF'.out)
        have hkl' : (k : Int) < (L.length : Int) := by omega
        have hkl2 : (k : Int) < (L'.length : Int) := by omega
        have hk0' : (0 : Int) ≤ (k : Int) := by omega
        have hk1' : ¬ (k : Int) < 1 := by omega
        have HKD := Lib.hid (show kidL L' (d : Int) nm = (k : Int) by rw [hLe]; exact hA.kid)
        have HDD := Lib.hid (show dirB L (d : Int) = true from (dir_nat hA.dlt).2 hA.dir)
        have hkL' : k < L'.length := by omega
        have HNK := Lib.hid (show L'[k] = ⟨1, q, 1, [], [], uu⟩ by
          have h1 := hA.nodeK
          rw [← hLe, node_nat L' k hkL'] at h1
          rw [h1]
          rfl)
        clear hpw hLe hA hk0 hL' hmk
        go_wp2_with fail
        obtain ⟨w6, hw6⟩ : ∃ p, p = (((((w5.setCell ⟨w3.heap.size, 0, none⟩ (.slice (some ⟨g, 0, none⟩) L'.length c)).setCell ⟨w3.heap.size, 1, none⟩ (.int .i64 m)).setCell ⟨w3.heap.size, 2, none⟩ (.int .i64 b)).setCell ⟨w3.heap.size + 1, 0, none⟩ (.int .i64 1))).alloc (.cells #[.slice (some ⟨g, 0, none⟩) L'.length c, .int .i64 m, .int .i64 b] 24) := ⟨_, rfl⟩
        rw [← hw6]
        obtain ⟨wq, hwq⟩ : ∃ p, p = ((put3 w5 w3.heap.size (.slice (some ⟨g, 0, none⟩) L'.length c) (.int .i64 m) (.int .i64 b)).setCell ⟨w3.heap.size + 1, 0, none⟩ (.int .i64 1)) := ⟨_, rfl⟩
        have hwx : w6 = wq.alloc (.cells #[.slice (some ⟨g, 0, none⟩) L'.length c, .int .i64 m, .int .i64 b] 24) := by rw [hw6, hwq]; rfl
        have hqs : wq.heap.size = w5.heap.size := by rw [hwq]; simp [World.setCell, put3_size]
        have hqb : Below w2.heap.size w2 wq := by rw [hwq]; exact ((put3_below HB5.out (by omega) _ _ _).setCell (by show w2.heap.size ≤ w3.heap.size + 1; omega) _)
        have hqu : wq.heap[w3.heap.size]? = some (.cells #[.slice (some ⟨g, 0, none⟩) L'.length c, .int .i64 m, .int .i64 b] 24 (0, 0)) := by rw [hwq]; exact ((Below.heap_setCell _ _ _ _ (by show w3.heap.size ≠ w3.heap.size + 1; omega)).trans (put3_block HU5.out _ _ _))
        have hqw : wq.heap[w3.heap.size + 1]? = some (.cells #[.int .i64 1, .int .i64 q, .int .i64 1, .string ⟨#[]⟩, .slice none 0 0, .int .i64 0] 29 (0, 0)) := by rw [hwq]; exact (blk_set ((put3_other (by omega) _ _ _).trans HW5.out) 0 _)
        have hqo : OwnT wq w4.heap.size g c L' vs := by rw [hwq]; exact HO5.out.low fun k hk => ((Below.heap_setCell _ _ _ _ (by show k ≠ w3.heap.size + 1; omega)).trans (put3_other (by omega) _ _ _))
        have hb6 : Below wq.heap.size wq w6 := by rw [hwx]; exact below_box wq _
        have hs6 : w6.heap.size = w5.heap.size + 1 := by rw [hwx, World.size_alloc, hqs]
        have HB6 := Lib.hid (hqb.trans (hb6.mono (by omega)))
        have HO6 := Lib.hid (hqo.below hb6)
        have HU6 := Lib.hid (show ∀ W, Below w6.heap.size w6 W → W.cell? ⟨w3.heap.size, 0, none⟩ = some (.slice (some ⟨g, 0, none⟩) L'.length c) ∧ W.cell? ⟨w3.heap.size, 1, none⟩ = some (.int .i64 m) ∧ W.cell? ⟨w3.heap.size, 2, none⟩ = some (.int .i64 b) from fun W hW => by
          have h := (hW.block w3.heap.size (by omega)).trans ((hb6.block w3.heap.size (by omega)).trans hqu)
          exact ⟨blk_cell h 0, blk_cell h 1, blk_cell h 2⟩)
        have HW6 := Lib.hid (show ∀ W, Below w6.heap.size w6 W → W.cell? ⟨w3.heap.size + 1, 0, none⟩ = some (.int .i64 1) ∧ W.cell? ⟨w3.heap.size + 1, 1, none⟩ = some (.int .i64 q) ∧ W.cell? ⟨w3.heap.size + 1, 3, none⟩ = some (.string ⟨#[]⟩) from fun W hW => by
          have h := (hW.block (w3.heap.size + 1) (by omega)).trans ((hb6.block (w3.heap.size + 1) (by omega)).trans hqw)
          exact ⟨blk_cell h 0, blk_cell h 1, blk_cell h 3⟩)
        clear hw6 hwq hwx hqs hqb hqu hqw hqo hb6 q0 q1 q2 hq r0 r1 r2 rf0 rf1 rf2 v0 vf0 HU5 HW5 HO5
        refine (parent5_known _ _ _ _ _ _ hp3 L HF.out _ _ _ HPW.out _ (HM.out _ HB6.out)).mono ?_
        rintro e w7 ⟨rfl, hb7⟩
        have HB7 := Lib.hid (HB6.out.trans (hb7.mono HB6.out.size))
        have HB67 := Lib.hid hb7
        have hs7 := hb7.size
        have HO7 := Lib.hid (HO6.out.below hb7)
        clear hb7
        obtain ⟨q0, q1, q2⟩ := HX.out _ HB7.out
        obtain ⟨u0, u1, u2⟩ := HU6.out _ HB67.out
        obtain ⟨bb, o, hab, hx⟩ := (HM.out _ HB7.out).2.2 k hkl
        subst hab
        have x0 := hx.kind
        rw [HK0.out] at x0
        have HKX := Lib.hid (show ∀ W, Below w7.heap.size w7 W → W.cell? ⟨bb, o + k * 6, none⟩ = some (.int .i64 0) from fun W hW => cell_below hW x0)
        have hq := cell_lt q0
        have hul := cell_lt u0
        have hxl := cell_lt x0
        clear hx
        go_wp2_with fail
        refine (rfit_yes (some ⟨g, 0, none⟩) c m b L' (by rw [HLL.out]; exact hl) HS'.out HF'.out _ HO7.out.nodesIn).mono ?_
        rintro e w71 ⟨rfl, hb71⟩
        have HB71 := Lib.hid (HB7.out.trans (hb71.mono HB7.out.size))
        have HB77 := Lib.hid hb71
        have HB671 := Lib.hid (HB67.out.trans (hb71.mono hs7))
        have hs71 := hb71.size
        have HO71 := Lib.hid (HO7.out.below hb71)
        clear hb71 q0 q1 q2 u0 u1 u2 x0 hq hul hxl
        obtain ⟨q0, q1, q2⟩ := HX.out _ HB71.out
        obtain ⟨u0, u1, u2⟩ := HU6.out _ HB671.out
        have x0 := HKX.out _ HB77.out
        have hq := cell_lt q0
        have hul := cell_lt u0
        have hxl := cell_lt x0
        go_wp2_with fail
        refine (rkid_known (some ⟨g, 0, none⟩) c m b d nm L' k HKD.out _ HO71.out.nodesIn).mono ?_
        rintro e w8 ⟨rfl, hb8⟩
        have HB8 := Lib.hid (HB71.out.trans (hb8.mono HB71.out.size))
        have HB68 := Lib.hid (HB671.out.trans (hb8.mono (by omega)))
        have hs8 := hb8.size
        have HO8 := Lib.hid (HO71.out.below hb8)
        clear hb8 q0 q1 q2 u0 u1 u2 x0 hq hul hxl
        obtain ⟨q0, q1, q2⟩ := HX.out _ HB8.out
        obtain ⟨u0, u1, u2⟩ := HU6.out _ HB68.out
        obtain ⟨y0, y1, y3⟩ := HW6.out _ HB68.out
        have hkv : k < vs.length := by rw [HO8.out.nodes.len]; omega
        have hn := HO8.out.nodes.node k hkL' hkv
        obtain ⟨ka, kc, hvk⟩ := none_own (show KidsOwn w8 w4.heap.size vs[k] [] by have h := HO8.out.kids k hkL' hkv; rw [HNK.out] at h; exact h)
        have n0 := hn.kind
        have n1 := hn.mode
        have n2 := hn.links
        have n3 := hn.data
        have n4 := hn.kids
        have n5 := hn.up
        rw [HNK.out] at n0 n1 n2 n3 n5
        rw [hvk] at n4
        have hq := cell_lt q0
        have hul := cell_lt u0
        have hyl := cell_lt y0
        have hgl := cell_lt n0
        clear hn
        go_wp2_with fail
        obtain ⟨w9, hw9⟩ : ∃ p, p = w8.alloc (.cells #[.int .i64 1, .int .i64 q, .int .i64 1, .string ⟨#[]⟩, .slice ka 0 kc, .int .i64 uu] 29) := ⟨_, rfl⟩
        rw [← hw9]
        have hb9 : Below w8.heap.size w8 w9 := by rw [hw9]; exact below_box w8 _
        have hs9 : w9.heap.size = w8.heap.size + 1 := by rw [hw9]; simp
        have HB9 := Lib.hid (HB8.out.trans (hb9.mono HB8.out.size))
        have HB69 := Lib.hid (HB68.out.trans (hb9.mono (by omega)))
        clear hw9 hb9 q0 q1 q2 u0 u1 u2 y0 y1 y3 n0 n1 n2 n3 n4 n5 hq hul hyl hgl
        obtain ⟨P, hP⟩ : ∃ P, placeL L (d : Int) = P := ⟨_, rfl⟩
        refine (rplace5_known _ _ _ _ _ L hl HF.out P hP _ (HM.out _ HB9.out)).mono ?_
        rintro e w10 ⟨rfl, hb10⟩
        have HB10 := Lib.hid (HB9.out.trans (hb10.mono HB9.out.size))
        have HB610 := Lib.hid (HB69.out.trans (hb10.mono (by omega)))
        have HO10 := Lib.hid (HO6.out.below HB610.out)
        have hs10 := hb10.size
        clear hb10
        obtain ⟨q0, q1, q2⟩ := HX.out _ HB10.out
        obtain ⟨u0, u1, u2⟩ := HU6.out _ HB610.out
        have hPA := place_at HF.out (show dirB L (d : Int) = true from HDD.out)
        rw [hP] at hPA
        obtain ⟨X0, hX0⟩ : ∃ X, listGo L (L.length + 1) 0 [] = X := ⟨_, rfl⟩
        obtain ⟨X1, hX1⟩ : ∃ X, listGo L' (L'.length + 1) 0 [] = X := ⟨_, rfl⟩
        have hbut := HA.out.paths HK0.out
        have hone := HA.out.paths1
        have hfew0 := few_paths HF.out
        rw [hX0] at hfew0
        rw [← HLE.out, hX1, hX0] at hone
        rw [show (addL L d k nm _) = L' from HLE.out.symm, show L.length + 1 = L'.length + 1 by rw [HLL.out], hX1] at hbut
        rw [show L'.length + 1 = L.length + 1 by rw [HLL.out], hX0] at hbut
        have HBUT := Lib.hid (show butL X1 (atL L (d : Int) ++ 47 :: nm) = X0 from hbut)
        have H18 := Lib.hid (show ∀ W, Below w10.heap.size w10 W → Calls Try.prog 18 #[.agg #[.slice (some ⟨bb, o, none⟩) L.length cap, .int .i64 m, .int .i64 b]] W fun e W' => ∃ v, e = .returned v ∧ Texts W.heap.size W' v X0 ∧ Below W.heap.size W W' from fun W hW => rlist5_known _ cap m b L hl HF.out X0 hX0 W (HM.out _ (HB10.out.trans (hW.mono HB10.out.size))))
        have H18u := Lib.hid (show ∀ W, NodesIn W (some ⟨g, 0, none⟩) c L' → Calls Try.prog 18 #[.agg #[.slice (some ⟨g, 0, none⟩) L'.length c, .int .i64 m, .int .i64 b]] W fun e W' => ∃ v, e = .returned v ∧ Texts W.heap.size W' v X1 ∧ Below W.heap.size W W' from fun W hW => rlist5_known _ c m b L' (by rw [HLL.out]; exact hl) HF'.out X1 hX1 W hW)
        have H17 := Lib.hid (show ∀ s : ByteArray, s = ⟨(atL L (d : Int) ++ 47 :: nm).toArray⟩ → ∀ W, Below w10.heap.size w10 W → Calls Try.prog 17 #[.agg #[.slice (some ⟨g, 0, none⟩) L'.length c, .int .i64 m, .int .i64 b], .string s] W fun e W' => ∃ v, e = .returned v ∧ Texts W.heap.size W' v X0 ∧ Below W.heap.size W W' from fun s hs W hW => by
          have h := lawpaths_any _ c m b (atL L (d : Int) ++ 47 :: nm) L' X1 (by omega) H18u.out W (HO10.out.below hW).nodesIn
          rw [HBUT.out, ← hs] at h
          exact h)
        have hle : ((X1.length : Int) == IntKind.i64.wrap ((X0.length : Int) + 1)) = true := by
          rw [IntWalk.i64_in _ ⟨by omega, by omega⟩, beq_iff_eq]
          omega
        have hplen := place_len5 HF.out hl HA.out.dlt HDD.out
        rw [hP] at hplen
        have hnlen : nm.length ≤ 64 := (name_parts HA.out.name).2.2.2.1
        have hc1 : ¬ 9223372036854775807 < P.length + 1 := by omega
        have hc2 : ¬ 9223372036854775807 < P.length + 1 + nm.length := by omega
        have hc4 : ¬ 9223372036854775807 < 1 + nm.length := by omega
        have HBB := Lib.hid (Below.refl w10.heap.size w10)
        have HONE := Lib.hid hone
        clear hbut hX0 hX1 hP hone
        cases hpq : (P == [47]) with
        | true =>
          have HCAT := Lib.hid (show ((⟨#[]⟩ : ByteArray) ++ (⟨#[47]⟩ : ByteArray)) ++ (⟨nm.toArray⟩ : ByteArray) = ⟨(atL L (d : Int) ++ 47 :: nm).toArray⟩ by
            rw [if_pos (beq_iff_eq.1 hpq)] at hPA
            rw [← hPA]
            exact cat_slash [] nm)
          clear hPA
          go_wp2_with fail
          go_region_held3 (fun W => W.cell? ⟨w.heap.size, 0, none⟩ = some (.slice (some ⟨bb, o, none⟩) L.length cap) ∧ W.cell? ⟨w.heap.size, 1, none⟩ = some (.int .i64 m) ∧ W.cell? ⟨w.heap.size, 2, none⟩ = some (.int .i64 b) ∧ W.cell? ⟨w3.heap.size, 0, none⟩ = some (.slice (some ⟨g, 0, none⟩) L'.length c) ∧ W.cell? ⟨w3.heap.size, 1, none⟩ = some (.int .i64 m) ∧ W.cell? ⟨w3.heap.size, 2, none⟩ = some (.int .i64 b))
            (exact ⟨q0, q1, q2, u0, u1, u2⟩)
            (first
              | (go_at_call 17; refine (H17.out _ HCAT.out _ ?_).mono ?_; (exact ⟨HBB.out.os, HBB.out.tape, HBB.out.output, HBB.out.size, HBB.out.block⟩); rintro e wn ⟨v1, rfl, hT1, hbn⟩; have HT1 := Lib.hid hT1; have HBB : Hid (Below w10.heap.size w10 wn) := Lib.hid (below_next5 HBB.out hbn HBB.out.size ⟨rfl, rfl, rfl, rfl⟩); obtain ⟨q0, q1, q2⟩ := HX.out _ (HB10.out.trans (HBB.out.mono HB10.out.size)); obtain ⟨u0, u1, u2⟩ := HU6.out _ (HB610.out.trans (HBB.out.mono HB610.out.size)))
              | (go_at_call 18; with_reducible (show Calls _ _ #[.agg #[.slice (some ⟨bb, o, none⟩) _ _, _, _]] _ _); refine (H18.out _ ?_).mono ?_; (exact ⟨HBB.out.os, HBB.out.tape, HBB.out.output, HBB.out.size, HBB.out.block⟩); rintro e wn ⟨v2, rfl, hT2, hbn⟩; obtain ⟨a2, c2, rfl, -, -⟩ := hT2.slot3; have HT2 := Lib.hid hT2; have HBB : Hid (Below w10.heap.size w10 wn) := Lib.hid (below_next5 HBB.out hbn HBB.out.size ⟨rfl, rfl, rfl, rfl⟩); obtain ⟨q0, q1, q2⟩ := HX.out _ (HB10.out.trans (HBB.out.mono HB10.out.size)); obtain ⟨u0, u1, u2⟩ := HU6.out _ (HB610.out.trans (HBB.out.mono HB610.out.size)); (try have HT1 : Hid (Texts _ wn _ X0) := Lib.hid (Texts.below HT1.out ⟨hbn.os, hbn.tape, hbn.output, hbn.size, hbn.block⟩)))
              | (go_at_call 18; with_reducible (show Calls _ _ #[.agg #[.slice (some ⟨g, 0, none⟩) _ _, _, _]] _ _); refine (H18u.out _ (HO10.out.below ?_).nodesIn).mono ?_; (exact ⟨HBB.out.os, HBB.out.tape, HBB.out.output, HBB.out.size, HBB.out.block⟩); rintro e wn ⟨v3, rfl, hT3, hbn⟩; obtain ⟨a3, c3, rfl, -, -⟩ := hT3.slot3; clear hT3; have HBB : Hid (Below w10.heap.size w10 wn) := Lib.hid (below_next5 HBB.out hbn HBB.out.size ⟨rfl, rfl, rfl, rfl⟩); obtain ⟨q0, q1, q2⟩ := HX.out _ (HB10.out.trans (HBB.out.mono HB10.out.size)); obtain ⟨u0, u1, u2⟩ := HU6.out _ (HB610.out.trans (HBB.out.mono HB610.out.size)))
              | (go_at_call 16; refine (rsame5_yes X0 _ _ _ _ _ HT1.out HT2.out).mono ?_; rintro e wn ⟨rfl, hbn⟩; have HBB : Hid (Below w10.heap.size w10 wn) := Lib.hid (below_next5 HBB.out hbn HBB.out.size ⟨rfl, rfl, rfl, rfl⟩); obtain ⟨q0, q1, q2⟩ := HX.out _ (HB10.out.trans (HBB.out.mono HB10.out.size)); obtain ⟨u0, u1, u2⟩ := HU6.out _ (HB610.out.trans (HBB.out.mono HB610.out.size)))
              | (go_at_call 7; refine (awake5 _).mono ?_; rintro e wn ⟨rfl, hbn⟩; have HBB : Hid (Below w10.heap.size w10 wn) := Lib.hid (below_next5 HBB.out hbn HBB.out.size ⟨rfl, rfl, rfl, rfl⟩); obtain ⟨q0, q1, q2⟩ := HX.out _ (HB10.out.trans (HBB.out.mono HB10.out.size)); obtain ⟨u0, u1, u2⟩ := HU6.out _ (HB610.out.trans (HBB.out.mono HB610.out.size))))
          all_goals
            go_wp2_with fail
            go_ret
            exact ⟨rfl, HEND.out _ (HB10.out.trans (HBB.out.mono HB10.out.size))⟩
        | false =>
          have HCAT := Lib.hid (show ((⟨P.toArray⟩ : ByteArray) ++ (⟨#[47]⟩ : ByteArray)) ++ (⟨nm.toArray⟩ : ByteArray) = ⟨(atL L (d : Int) ++ 47 :: nm).toArray⟩ by
            rw [if_neg (beq_eq_false_iff_ne.1 hpq)] at hPA
            rw [← hPA]
            exact cat_slash P nm)
          clear hPA
          go_wp2_with fail
          go_region_held3 (fun W => W.cell? ⟨w.heap.size, 0, none⟩ = some (.slice (some ⟨bb, o, none⟩) L.length cap) ∧ W.cell? ⟨w.heap.size, 1, none⟩ = some (.int .i64 m) ∧ W.cell? ⟨w.heap.size, 2, none⟩ = some (.int .i64 b) ∧ W.cell? ⟨w3.heap.size, 0, none⟩ = some (.slice (some ⟨g, 0, none⟩) L'.length c) ∧ W.cell? ⟨w3.heap.size, 1, none⟩ = some (.int .i64 m) ∧ W.cell? ⟨w3.heap.size, 2, none⟩ = some (.int .i64 b))
            (exact ⟨q0, q1, q2, u0, u1, u2⟩)
            (first
              | (go_at_call 17; refine (H17.out _ HCAT.out _ ?_).mono ?_; (exact ⟨HBB.out.os, HBB.out.tape, HBB.out.output, HBB.out.size, HBB.out.block⟩); rintro e wn ⟨v1, rfl, hT1, hbn⟩; have HT1 := Lib.hid hT1; have HBB : Hid (Below w10.heap.size w10 wn) := Lib.hid (below_next5 HBB.out hbn HBB.out.size ⟨rfl, rfl, rfl, rfl⟩); obtain ⟨q0, q1, q2⟩ := HX.out _ (HB10.out.trans (HBB.out.mono HB10.out.size)); obtain ⟨u0, u1, u2⟩ := HU6.out _ (HB610.out.trans (HBB.out.mono HB610.out.size)))
              | (go_at_call 18; with_reducible (show Calls _ _ #[.agg #[.slice (some ⟨bb, o, none⟩) _ _, _, _]] _ _); refine (H18.out _ ?_).mono ?_; (exact ⟨HBB.out.os, HBB.out.tape, HBB.out.output, HBB.out.size, HBB.out.block⟩); rintro e wn ⟨v2, rfl, hT2, hbn⟩; obtain ⟨a2, c2, rfl, -, -⟩ := hT2.slot3; have HT2 := Lib.hid hT2; have HBB : Hid (Below w10.heap.size w10 wn) := Lib.hid (below_next5 HBB.out hbn HBB.out.size ⟨rfl, rfl, rfl, rfl⟩); obtain ⟨q0, q1, q2⟩ := HX.out _ (HB10.out.trans (HBB.out.mono HB10.out.size)); obtain ⟨u0, u1, u2⟩ := HU6.out _ (HB610.out.trans (HBB.out.mono HB610.out.size)); (try have HT1 : Hid (Texts _ wn _ X0) := Lib.hid (Texts.below HT1.out ⟨hbn.os, hbn.tape, hbn.output, hbn.size, hbn.block⟩)))
              | (go_at_call 18; with_reducible (show Calls _ _ #[.agg #[.slice (some ⟨g, 0, none⟩) _ _, _, _]] _ _); refine (H18u.out _ (HO10.out.below ?_).nodesIn).mono ?_; (exact ⟨HBB.out.os, HBB.out.tape, HBB.out.output, HBB.out.size, HBB.out.block⟩); rintro e wn ⟨v3, rfl, hT3, hbn⟩; obtain ⟨a3, c3, rfl, -, -⟩ := hT3.slot3; clear hT3; have HBB : Hid (Below w10.heap.size w10 wn) := Lib.hid (below_next5 HBB.out hbn HBB.out.size ⟨rfl, rfl, rfl, rfl⟩); obtain ⟨q0, q1, q2⟩ := HX.out _ (HB10.out.trans (HBB.out.mono HB10.out.size)); obtain ⟨u0, u1, u2⟩ := HU6.out _ (HB610.out.trans (HBB.out.mono HB610.out.size)))
              | (go_at_call 16; refine (rsame5_yes X0 _ _ _ _ _ HT1.out HT2.out).mono ?_; rintro e wn ⟨rfl, hbn⟩; have HBB : Hid (Below w10.heap.size w10 wn) := Lib.hid (below_next5 HBB.out hbn HBB.out.size ⟨rfl, rfl, rfl, rfl⟩); obtain ⟨q0, q1, q2⟩ := HX.out _ (HB10.out.trans (HBB.out.mono HB10.out.size)); obtain ⟨u0, u1, u2⟩ := HU6.out _ (HB610.out.trans (HBB.out.mono HB610.out.size)))
              | (go_at_call 7; refine (awake5 _).mono ?_; rintro e wn ⟨rfl, hbn⟩; have HBB : Hid (Below w10.heap.size w10 wn) := Lib.hid (below_next5 HBB.out hbn HBB.out.size ⟨rfl, rfl, rfl, rfl⟩); obtain ⟨q0, q1, q2⟩ := HX.out _ (HB10.out.trans (HBB.out.mono HB10.out.size)); obtain ⟨u0, u1, u2⟩ := HU6.out _ (HB610.out.trans (HBB.out.mono HB610.out.size))))
          all_goals
            go_wp2_with fail
            go_ret
            exact ⟨rfl, HEND.out _ (HB10.out.trans (HBB.out.mono HB10.out.size))⟩

      · have hb1 : (er != 0) = true := by simpa using h1
        go_wp2_with fail
        obtain ⟨w6, hw6⟩ : ∃ p, p = (((((w5.setCell ⟨w3.heap.size, 0, none⟩ (.slice (some ⟨g, 0, none⟩) L'.length c)).setCell ⟨w3.heap.size, 1, none⟩ (.int .i64 m)).setCell ⟨w3.heap.size, 2, none⟩ (.int .i64 b)).setCell ⟨w3.heap.size + 1, 0, none⟩ (.int .i64 1))).alloc (.cells #[.slice (some ⟨g, 0, none⟩) L'.length c, .int .i64 m, .int .i64 b] 24) := ⟨_, rfl⟩
        rw [← hw6]
        obtain ⟨wq, hwq⟩ : ∃ p, p = ((put3 w5 w3.heap.size (.slice (some ⟨g, 0, none⟩) L'.length c) (.int .i64 m) (.int .i64 b)).setCell ⟨w3.heap.size + 1, 0, none⟩ (.int .i64 1)) := ⟨_, rfl⟩
        have hwx : w6 = wq.alloc (.cells #[.slice (some ⟨g, 0, none⟩) L'.length c, .int .i64 m, .int .i64 b] 24) := by rw [hw6, hwq]; rfl
        have hqs : wq.heap.size = w5.heap.size := by rw [hwq]; simp [World.setCell, put3_size]
        have hqb : Below w2.heap.size w2 wq := by rw [hwq]; exact ((put3_below HB5.out (by omega) _ _ _).setCell (by show w2.heap.size ≤ w3.heap.size + 1; omega) _)
        have hqu : wq.heap[w3.heap.size]? = some (.cells #[.slice (some ⟨g, 0, none⟩) L'.length c, .int .i64 m, .int .i64 b] 24 (0, 0)) := by rw [hwq]; exact ((Below.heap_setCell _ _ _ _ (by show w3.heap.size ≠ w3.heap.size + 1; omega)).trans (put3_block HU5.out _ _ _))
        have hqw : wq.heap[w3.heap.size + 1]? = some (.cells #[.int .i64 1, .int .i64 q, .int .i64 1, .string ⟨#[]⟩, .slice none 0 0, .int .i64 0] 29 (0, 0)) := by rw [hwq]; exact (blk_set ((put3_other (by omega) _ _ _).trans HW5.out) 0 _)
        have hqo : OwnT wq w4.heap.size g c L' vs := by rw [hwq]; exact HO5.out.low fun k hk => ((Below.heap_setCell _ _ _ _ (by show k ≠ w3.heap.size + 1; omega)).trans (put3_other (by omega) _ _ _))
        have hb6 : Below wq.heap.size wq w6 := by rw [hwx]; exact below_box wq _
        have hs6 : w6.heap.size = w5.heap.size + 1 := by rw [hwx, World.size_alloc, hqs]
        have HB6 := Lib.hid (hqb.trans (hb6.mono (by omega)))
        have HO6 := Lib.hid (hqo.below hb6)
        have HU6 := Lib.hid (show ∀ W, Below w6.heap.size w6 W → W.cell? ⟨w3.heap.size, 0, none⟩ = some (.slice (some ⟨g, 0, none⟩) L'.length c) ∧ W.cell? ⟨w3.heap.size, 1, none⟩ = some (.int .i64 m) ∧ W.cell? ⟨w3.heap.size, 2, none⟩ = some (.int .i64 b) from fun W hW => by
          have h := (hW.block w3.heap.size (by omega)).trans ((hb6.block w3.heap.size (by omega)).trans hqu)
          exact ⟨blk_cell h 0, blk_cell h 1, blk_cell h 2⟩)
        have HW6 := Lib.hid (show ∀ W, Below w6.heap.size w6 W → W.cell? ⟨w3.heap.size + 1, 0, none⟩ = some (.int .i64 1) ∧ W.cell? ⟨w3.heap.size + 1, 1, none⟩ = some (.int .i64 q) ∧ W.cell? ⟨w3.heap.size + 1, 3, none⟩ = some (.string ⟨#[]⟩) from fun W hW => by
          have h := (hW.block (w3.heap.size + 1) (by omega)).trans ((hb6.block (w3.heap.size + 1) (by omega)).trans hqw)
          exact ⟨blk_cell h 0, blk_cell h 1, blk_cell h 3⟩)
        clear hw6 hwq hwx hqs hqb hqu hqw hqo hb6 q0 q1 q2 hq r0 r1 r2 rf0 rf1 rf2 v0 vf0 HU5 HW5 HO5
        obtain ⟨hLL, hkz⟩ := HMADE.out.2 h1
        subst hkz
        subst hLL
        refine (rsame3_yes _ _ _ _ _ _ L' (by omega) _ (HM.out _ HB6.out) HO6.out.nodesIn).mono ?_
        rintro e w7 ⟨rfl, hb7⟩
        have HB7 := Lib.hid (HB6.out.trans (hb7.mono HB6.out.size))
        clear hb7
        go_wp2_with fail
        refine (awake5 _).mono ?_
        rintro e w8 ⟨rfl, hb8⟩
        have HB8 := Lib.hid (HB7.out.trans (hb8.mono HB7.out.size))
        clear hb8
        go_wp2_with fail
        go_ret
        exact ⟨rfl, HEND.out _ HB8.out⟩


    · obtain ⟨⟨L', kz, er⟩, hz⟩ : ∃ r, symlinkW L b cwd to pb.data.toList = r := ⟨_, rfl⟩
      have HZ := Lib.hid hz
      have HMADE := Lib.hid (show (er = 0 → ∃ u, MadeOk L m b cwd pb.data.toList (newIno 3 7 to u) L' kz) ∧ (er ≠ 0 → L' = L ∧ kz = 0) from ⟨fun h => ⟨0, (symlink_made HF.out hz).1 h⟩, (symlink_made HF.out hz).2⟩)
      obtain ⟨w4, hw4, hb4, hs4, hU4, hW4⟩ := two_boxes w3 #[.slice none 0 0, .int .i64 0, .int .i64 0] #[.int .i64 0, .int .i64 q, .int .i64 1, .string ⟨#[]⟩, .slice none 0 0, .int .i64 0] 24 29
      rw [← hw4]
      have HB4 := Lib.hid (HB3.out.trans (hb4.mono hs3))
      have HU := Lib.hid (show ∀ W, Below w4.heap.size w4 W → W.heap[w3.heap.size]? = some (.cells #[.slice none 0 0, .int .i64 0, .int .i64 0] 24 (0, 0)) from fun W hW => (hW.block w3.heap.size (by omega)).trans hU4)
      have HW := Lib.hid (show ∀ W, Below w4.heap.size w4 W → W.heap[w3.heap.size + 1]? = some (.cells #[.int .i64 0, .int .i64 q, .int .i64 1, .string ⟨#[]⟩, .slice none 0 0, .int .i64 0] 29 (0, 0)) from fun W hW => (hW.block (w3.heap.size + 1) (by omega)).trans hW4)
      clear hz hw4 hb4 hU4 hW4 q0 q1 q2 hq
      refine (lsymlink_any a cap m b cwd to pb hp3 L HF.out L' kz er HZ.out _ (HM.out _ HB4.out)).mono ?_
      rintro e w5 hmade
      obtain ⟨g, c, vs, rfl, hO5, hb5⟩ := MadeAns.three hmade
      have HB5 := Lib.hid (HB4.out.trans (hb5.mono (by omega)))
      have HO5 := Lib.hid hO5
      have HU5 := Lib.hid (HU.out _ hb5)
      have HW5 := Lib.hid (HW.out _ hb5)
      have hs5 := hb5.size
      clear hmade hO5 hb5 HU HW
      have r0 := blk_cell HU5.out 0
      have r1 := blk_cell HU5.out 1
      have r2 := blk_cell HU5.out 2
      have rf0 := blk_free HU5.out 0
      have rf1 := blk_free HU5.out 1
      have rf2 := blk_free HU5.out 2
      have v0 := blk_cell HW5.out 0
      have vf0 := blk_free HW5.out 0
      have v1 := blk_cell HW5.out 1
      have vf1 := blk_free HW5.out 1
      have v3 := blk_cell HW5.out 3
      have vf3 := blk_free HW5.out 3
      have hul : w3.heap.size < w5.heap.size := by omega
      have hwl : w3.heap.size + 1 < w5.heap.size := by omega
      obtain ⟨q0, q1, q2⟩ := HX.out _ HB5.out
      have hq := cell_lt q0
      by_cases h1 : er = 0
      · subst h1
        obtain ⟨uu, hmk⟩ := HMADE.out.1 rfl
        obtain ⟨d, nm, k, rfl, hpw, hLe, ⟨hkl, hk0⟩, hA, hkne⟩ := hmk.made
        have HPW := Lib.hid hpw
        have HLE := Lib.hid hLe
        have HA := Lib.hid hA
        have HK0 := Lib.hid hk0
        have hL' : L'.length = L.length := by rw [hLe, add_len]
        have HLL := Lib.hid hL'
        have HF' := Lib.hid (show FitP L' m b by rw [hLe]; exact hA.fits)
        have HS' := Lib.hid (sized_fit HF'.out)
        have hkl' : (k : Int) < (L.length : Int) := by omega
        have hkl2 : (k : Int) < (L'.length : Int) := by omega
        have hk0' : (0 : Int) ≤ (k : Int) := by omega
        have hk1' : ¬ (k : Int) < 1 := by omega
        have HKD := Lib.hid (show kidL L' (d : Int) nm = (k : Int) by rw [hLe]; exact hA.kid)
        have HDD := Lib.hid (show dirB L (d : Int) = true from (dir_nat hA.dlt).2 hA.dir)
        have hkL' : k < L'.length := by omega
        have HNK := Lib.hid (show L'[k] = ⟨3, 7, 1, to, [], uu⟩ by
          have h1 := hA.nodeK
          rw [← hLe, node_nat L' k hkL'] at h1
          rw [h1]
          rfl)
        clear hpw hLe hA hk0 hL' hmk
        go_wp2_with fail
        obtain ⟨w6, hw6⟩ : ∃ p, p = (((((((w5.setCell ⟨w3.heap.size, 0, none⟩ (.slice (some ⟨g, 0, none⟩) L'.length c)).setCell ⟨w3.heap.size, 1, none⟩ (.int .i64 m)).setCell ⟨w3.heap.size, 2, none⟩ (.int .i64 b)).setCell ⟨w3.heap.size + 1, 0, none⟩ (.int .i64 3)).setCell ⟨w3.heap.size + 1, 1, none⟩ (.int .i64 7)).setCell ⟨w3.heap.size + 1, 3, none⟩ (.string ⟨to.toArray⟩))).alloc (.cells #[.slice (some ⟨g, 0, none⟩) L'.length c, .int .i64 m, .int .i64 b] 24) := ⟨_, rfl⟩
        rw [← hw6]
        obtain ⟨wq, hwq⟩ : ∃ p, p = ((((put3 w5 w3.heap.size (.slice (some ⟨g, 0, none⟩) L'.length c) (.int .i64 m) (.int .i64 b)).setCell ⟨w3.heap.size + 1, 0, none⟩ (.int .i64 3)).setCell ⟨w3.heap.size + 1, 1, none⟩ (.int .i64 7)).setCell ⟨w3.heap.size + 1, 3, none⟩ (.string ⟨to.toArray⟩)) := ⟨_, rfl⟩
        have hwx : w6 = wq.alloc (.cells #[.slice (some ⟨g, 0, none⟩) L'.length c, .int .i64 m, .int .i64 b] 24) := by rw [hw6, hwq]; rfl
        have hqs : wq.heap.size = w5.heap.size := by rw [hwq]; simp [World.setCell, put3_size]
        have hqb : Below w2.heap.size w2 wq := by rw [hwq]; exact ((((put3_below HB5.out (by omega) _ _ _).setCell (by show w2.heap.size ≤ w3.heap.size + 1; omega) _).setCell (by show w2.heap.size ≤ w3.heap.size + 1; omega) _).setCell (by show w2.heap.size ≤ w3.heap.size + 1; omega) _)
        have hqu : wq.heap[w3.heap.size]? = some (.cells #[.slice (some ⟨g, 0, none⟩) L'.length c, .int .i64 m, .int .i64 b] 24 (0, 0)) := by rw [hwq]; exact ((Below.heap_setCell _ _ _ _ (by show w3.heap.size ≠ w3.heap.size + 1; omega)).trans ((Below.heap_setCell _ _ _ _ (by show w3.heap.size ≠ w3.heap.size + 1; omega)).trans ((Below.heap_setCell _ _ _ _ (by show w3.heap.size ≠ w3.heap.size + 1; omega)).trans (put3_block HU5.out _ _ _))))
        have hqw : wq.heap[w3.heap.size + 1]? = some (.cells #[.int .i64 3, .int .i64 7, .int .i64 1, .string ⟨to.toArray⟩, .slice none 0 0, .int .i64 0] 29 (0, 0)) := by rw [hwq]; exact (blk_set (blk_set (blk_set ((put3_other (by omega) _ _ _).trans HW5.out) 0 _) 1 _) 3 _)
        have hqo : OwnT wq w4.heap.size g c L' vs := by rw [hwq]; exact HO5.out.low fun k hk => ((Below.heap_setCell _ _ _ _ (by show k ≠ w3.heap.size + 1; omega)).trans ((Below.heap_setCell _ _ _ _ (by show k ≠ w3.heap.size + 1; omega)).trans ((Below.heap_setCell _ _ _ _ (by show k ≠ w3.heap.size + 1; omega)).trans (put3_other (by omega) _ _ _))))
        have hb6 : Below wq.heap.size wq w6 := by rw [hwx]; exact below_box wq _
        have hs6 : w6.heap.size = w5.heap.size + 1 := by rw [hwx, World.size_alloc, hqs]
        have HB6 := Lib.hid (hqb.trans (hb6.mono (by omega)))
        have HO6 := Lib.hid (hqo.below hb6)
        have HU6 := Lib.hid (show ∀ W, Below w6.heap.size w6 W → W.cell? ⟨w3.heap.size, 0, none⟩ = some (.slice (some ⟨g, 0, none⟩) L'.length c) ∧ W.cell? ⟨w3.heap.size, 1, none⟩ = some (.int .i64 m) ∧ W.cell? ⟨w3.heap.size, 2, none⟩ = some (.int .i64 b) from fun W hW => by
          have h := (hW.block w3.heap.size (by omega)).trans ((hb6.block w3.heap.size (by omega)).trans hqu)
          exact ⟨blk_cell h 0, blk_cell h 1, blk_cell h 2⟩)
        have HW6 := Lib.hid (show ∀ W, Below w6.heap.size w6 W → W.cell? ⟨w3.heap.size + 1, 0, none⟩ = some (.int .i64 3) ∧ W.cell? ⟨w3.heap.size + 1, 1, none⟩ = some (.int .i64 7) ∧ W.cell? ⟨w3.heap.size + 1, 3, none⟩ = some (.string ⟨to.toArray⟩) from fun W hW => by
          have h := (hW.block (w3.heap.size + 1) (by omega)).trans ((hb6.block (w3.heap.size + 1) (by omega)).trans hqw)
          exact ⟨blk_cell h 0, blk_cell h 1, blk_cell h 3⟩)
        clear hw6 hwq hwx hqs hqb hqu hqw hqo hb6 q0 q1 q2 hq r0 r1 r2 rf0 rf1 rf2 v0 vf0 v1 vf1 v3 vf3 HU5 HW5 HO5
        refine (parent5_known _ _ _ _ _ _ hp3 L HF.out _ _ _ HPW.out _ (HM.out _ HB6.out)).mono ?_
        rintro e w7 ⟨rfl, hb7⟩
        have HB7 := Lib.hid (HB6.out.trans (hb7.mono HB6.out.size))
        have HB67 := Lib.hid hb7
        have hs7 := hb7.size
        have HO7 := Lib.hid (HO6.out.below hb7)
        clear hb7
        obtain ⟨q0, q1, q2⟩ := HX.out _ HB7.out
        obtain ⟨u0, u1, u2⟩ := HU6.out _ HB67.out
        obtain ⟨bb, o, hab, hx⟩ := (HM.out _ HB7.out).2.2 k hkl
        subst hab
        have x0 := hx.kind
        rw [HK0.out] at x0
        have HKX := Lib.hid (show ∀ W, Below w7.heap.size w7 W → W.cell? ⟨bb, o + k * 6, none⟩ = some (.int .i64 0) from fun W hW => cell_below hW x0)
        have hq := cell_lt q0
        have hul := cell_lt u0
        have hxl := cell_lt x0
        clear hx
        go_wp2_with fail
        refine (rfit_yes (some ⟨g, 0, none⟩) c m b L' (by rw [HLL.out]; exact hl) HS'.out HF'.out _ HO7.out.nodesIn).mono ?_
        rintro e w71 ⟨rfl, hb71⟩
        have HB71 := Lib.hid (HB7.out.trans (hb71.mono HB7.out.size))
        have HB77 := Lib.hid hb71
        have HB671 := Lib.hid (HB67.out.trans (hb71.mono hs7))
        have hs71 := hb71.size
        have HO71 := Lib.hid (HO7.out.below hb71)
        clear hb71 q0 q1 q2 u0 u1 u2 x0 hq hul hxl
        obtain ⟨q0, q1, q2⟩ := HX.out _ HB71.out
        obtain ⟨u0, u1, u2⟩ := HU6.out _ HB671.out
        have x0 := HKX.out _ HB77.out
        have hq := cell_lt q0
        have hul := cell_lt u0
        have hxl := cell_lt x0
        go_wp2_with fail
        refine (rkid_known (some ⟨g, 0, none⟩) c m b d nm L' k HKD.out _ HO71.out.nodesIn).mono ?_
        rintro e w8 ⟨rfl, hb8⟩
        have HB8 := Lib.hid (HB71.out.trans (hb8.mono HB71.out.size))
        have HB68 := Lib.hid (HB671.out.trans (hb8.mono (by omega)))
        have hs8 := hb8.size
        have HO8 := Lib.hid (HO71.out.below hb8)
        clear hb8 q0 q1 q2 u0 u1 u2 x0 hq hul hxl
        obtain ⟨q0, q1, q2⟩ := HX.out _ HB8.out
        obtain ⟨u0, u1, u2⟩ := HU6.out _ HB68.out
        obtain ⟨y0, y1, y3⟩ := HW6.out _ HB68.out
        have hkv : k < vs.length := by rw [HO8.out.nodes.len]; omega
        have hn := HO8.out.nodes.node k hkL' hkv
        obtain ⟨ka, kc, hvk⟩ := none_own (show KidsOwn w8 w4.heap.size vs[k] [] by have h := HO8.out.kids k hkL' hkv; rw [HNK.out] at h; exact h)
        have n0 := hn.kind
        have n1 := hn.mode
        have n2 := hn.links
        have n3 := hn.data
        have n4 := hn.kids
        have n5 := hn.up
        rw [HNK.out] at n0 n1 n2 n3 n5
        rw [hvk] at n4
        have hq := cell_lt q0
        have hul := cell_lt u0
        have hyl := cell_lt y0
        have hgl := cell_lt n0
        clear hn
        go_wp2_with fail
        obtain ⟨w9, hw9⟩ : ∃ p, p = w8.alloc (.cells #[.int .i64 3, .int .i64 7, .int .i64 1, .string ⟨to.toArray⟩, .slice ka 0 kc, .int .i64 uu] 29) := ⟨_, rfl⟩
        rw [← hw9]
        have hb9 : Below w8.heap.size w8 w9 := by rw [hw9]; exact below_box w8 _
        have hs9 : w9.heap.size = w8.heap.size + 1 := by rw [hw9]; simp
        have HB9 := Lib.hid (HB8.out.trans (hb9.mono HB8.out.size))
        have HB69 := Lib.hid (HB68.out.trans (hb9.mono (by omega)))
        clear hw9 hb9 q0 q1 q2 u0 u1 u2 y0 y1 y3 n0 n1 n2 n3 n4 n5 hq hul hyl hgl
        obtain ⟨P, hP⟩ : ∃ P, placeL L (d : Int) = P := ⟨_, rfl⟩
        refine (rplace5_known _ _ _ _ _ L hl HF.out P hP _ (HM.out _ HB9.out)).mono ?_
        rintro e w10 ⟨rfl, hb10⟩
        have HB10 := Lib.hid (HB9.out.trans (hb10.mono HB9.out.size))
        have HB610 := Lib.hid (HB69.out.trans (hb10.mono (by omega)))
        have HO10 := Lib.hid (HO6.out.below HB610.out)
        have hs10 := hb10.size
        clear hb10
        obtain ⟨q0, q1, q2⟩ := HX.out _ HB10.out
        obtain ⟨u0, u1, u2⟩ := HU6.out _ HB610.out
        have hPA := place_at HF.out (show dirB L (d : Int) = true from HDD.out)
        rw [hP] at hPA
        obtain ⟨X0, hX0⟩ : ∃ X, listGo L (L.length + 1) 0 [] = X := ⟨_, rfl⟩
        obtain ⟨X1, hX1⟩ : ∃ X, listGo L' (L'.length + 1) 0 [] = X := ⟨_, rfl⟩
        have hbut := HA.out.paths HK0.out
        have hone := HA.out.paths1
        have hfew0 := few_paths HF.out
        rw [hX0] at hfew0
        rw [← HLE.out, hX1, hX0] at hone
        rw [show (addL L d k nm _) = L' from HLE.out.symm, show L.length + 1 = L'.length + 1 by rw [HLL.out], hX1] at hbut
        rw [show L'.length + 1 = L.length + 1 by rw [HLL.out], hX0] at hbut
        have HBUT := Lib.hid (show butL X1 (atL L (d : Int) ++ 47 :: nm) = X0 from hbut)
        have H18 := Lib.hid (show ∀ W, Below w10.heap.size w10 W → Calls Try.prog 18 #[.agg #[.slice (some ⟨bb, o, none⟩) L.length cap, .int .i64 m, .int .i64 b]] W fun e W' => ∃ v, e = .returned v ∧ Texts W.heap.size W' v X0 ∧ Below W.heap.size W W' from fun W hW => rlist5_known _ cap m b L hl HF.out X0 hX0 W (HM.out _ (HB10.out.trans (hW.mono HB10.out.size))))
        have H18u := Lib.hid (show ∀ W, NodesIn W (some ⟨g, 0, none⟩) c L' → Calls Try.prog 18 #[.agg #[.slice (some ⟨g, 0, none⟩) L'.length c, .int .i64 m, .int .i64 b]] W fun e W' => ∃ v, e = .returned v ∧ Texts W.heap.size W' v X1 ∧ Below W.heap.size W W' from fun W hW => rlist5_known _ c m b L' (by rw [HLL.out]; exact hl) HF'.out X1 hX1 W hW)
        have H17 := Lib.hid (show ∀ s : ByteArray, s = ⟨(atL L (d : Int) ++ 47 :: nm).toArray⟩ → ∀ W, Below w10.heap.size w10 W → Calls Try.prog 17 #[.agg #[.slice (some ⟨g, 0, none⟩) L'.length c, .int .i64 m, .int .i64 b], .string s] W fun e W' => ∃ v, e = .returned v ∧ Texts W.heap.size W' v X0 ∧ Below W.heap.size W W' from fun s hs W hW => by
          have h := lawpaths_any _ c m b (atL L (d : Int) ++ 47 :: nm) L' X1 (by omega) H18u.out W (HO10.out.below hW).nodesIn
          rw [HBUT.out, ← hs] at h
          exact h)
        have hle : ((X1.length : Int) == IntKind.i64.wrap ((X0.length : Int) + 1)) = true := by
          rw [IntWalk.i64_in _ ⟨by omega, by omega⟩, beq_iff_eq]
          omega
        have hplen := place_len5 HF.out hl HA.out.dlt HDD.out
        rw [hP] at hplen
        have hnlen : nm.length ≤ 64 := (name_parts HA.out.name).2.2.2.1
        have hc1 : ¬ 9223372036854775807 < P.length + 1 := by omega
        have hc2 : ¬ 9223372036854775807 < P.length + 1 + nm.length := by omega
        have hc4 : ¬ 9223372036854775807 < 1 + nm.length := by omega
        have HBB := Lib.hid (Below.refl w10.heap.size w10)
        have HONE := Lib.hid hone
        clear hbut hX0 hX1 hP hone
        cases hpq : (P == [47]) with
        | true =>
          have HCAT := Lib.hid (show ((⟨#[]⟩ : ByteArray) ++ (⟨#[47]⟩ : ByteArray)) ++ (⟨nm.toArray⟩ : ByteArray) = ⟨(atL L (d : Int) ++ 47 :: nm).toArray⟩ by
            rw [if_pos (beq_iff_eq.1 hpq)] at hPA
            rw [← hPA]
            exact cat_slash [] nm)
          clear hPA
          go_wp2_with fail
          go_region_held3 (fun W => W.cell? ⟨w.heap.size, 0, none⟩ = some (.slice (some ⟨bb, o, none⟩) L.length cap) ∧ W.cell? ⟨w.heap.size, 1, none⟩ = some (.int .i64 m) ∧ W.cell? ⟨w.heap.size, 2, none⟩ = some (.int .i64 b) ∧ W.cell? ⟨w3.heap.size, 0, none⟩ = some (.slice (some ⟨g, 0, none⟩) L'.length c) ∧ W.cell? ⟨w3.heap.size, 1, none⟩ = some (.int .i64 m) ∧ W.cell? ⟨w3.heap.size, 2, none⟩ = some (.int .i64 b))
            (exact ⟨q0, q1, q2, u0, u1, u2⟩)
            (first
              | (go_at_call 17; refine (H17.out _ HCAT.out _ ?_).mono ?_; (exact ⟨HBB.out.os, HBB.out.tape, HBB.out.output, HBB.out.size, HBB.out.block⟩); rintro e wn ⟨v1, rfl, hT1, hbn⟩; have HT1 := Lib.hid hT1; have HBB : Hid (Below w10.heap.size w10 wn) := Lib.hid (below_next5 HBB.out hbn HBB.out.size ⟨rfl, rfl, rfl, rfl⟩); obtain ⟨q0, q1, q2⟩ := HX.out _ (HB10.out.trans (HBB.out.mono HB10.out.size)); obtain ⟨u0, u1, u2⟩ := HU6.out _ (HB610.out.trans (HBB.out.mono HB610.out.size)))
              | (go_at_call 18; with_reducible (show Calls _ _ #[.agg #[.slice (some ⟨bb, o, none⟩) _ _, _, _]] _ _); refine (H18.out _ ?_).mono ?_; (exact ⟨HBB.out.os, HBB.out.tape, HBB.out.output, HBB.out.size, HBB.out.block⟩); rintro e wn ⟨v2, rfl, hT2, hbn⟩; obtain ⟨a2, c2, rfl, -, -⟩ := hT2.slot3; have HT2 := Lib.hid hT2; have HBB : Hid (Below w10.heap.size w10 wn) := Lib.hid (below_next5 HBB.out hbn HBB.out.size ⟨rfl, rfl, rfl, rfl⟩); obtain ⟨q0, q1, q2⟩ := HX.out _ (HB10.out.trans (HBB.out.mono HB10.out.size)); obtain ⟨u0, u1, u2⟩ := HU6.out _ (HB610.out.trans (HBB.out.mono HB610.out.size)); (try have HT1 : Hid (Texts _ wn _ X0) := Lib.hid (Texts.below HT1.out ⟨hbn.os, hbn.tape, hbn.output, hbn.size, hbn.block⟩)))
              | (go_at_call 18; with_reducible (show Calls _ _ #[.agg #[.slice (some ⟨g, 0, none⟩) _ _, _, _]] _ _); refine (H18u.out _ (HO10.out.below ?_).nodesIn).mono ?_; (exact ⟨HBB.out.os, HBB.out.tape, HBB.out.output, HBB.out.size, HBB.out.block⟩); rintro e wn ⟨v3, rfl, hT3, hbn⟩; obtain ⟨a3, c3, rfl, -, -⟩ := hT3.slot3; clear hT3; have HBB : Hid (Below w10.heap.size w10 wn) := Lib.hid (below_next5 HBB.out hbn HBB.out.size ⟨rfl, rfl, rfl, rfl⟩); obtain ⟨q0, q1, q2⟩ := HX.out _ (HB10.out.trans (HBB.out.mono HB10.out.size)); obtain ⟨u0, u1, u2⟩ := HU6.out _ (HB610.out.trans (HBB.out.mono HB610.out.size)))
              | (go_at_call 16; refine (rsame5_yes X0 _ _ _ _ _ HT1.out HT2.out).mono ?_; rintro e wn ⟨rfl, hbn⟩; have HBB : Hid (Below w10.heap.size w10 wn) := Lib.hid (below_next5 HBB.out hbn HBB.out.size ⟨rfl, rfl, rfl, rfl⟩); obtain ⟨q0, q1, q2⟩ := HX.out _ (HB10.out.trans (HBB.out.mono HB10.out.size)); obtain ⟨u0, u1, u2⟩ := HU6.out _ (HB610.out.trans (HBB.out.mono HB610.out.size)))
              | (go_at_call 7; refine (awake5 _).mono ?_; rintro e wn ⟨rfl, hbn⟩; have HBB : Hid (Below w10.heap.size w10 wn) := Lib.hid (below_next5 HBB.out hbn HBB.out.size ⟨rfl, rfl, rfl, rfl⟩); obtain ⟨q0, q1, q2⟩ := HX.out _ (HB10.out.trans (HBB.out.mono HB10.out.size)); obtain ⟨u0, u1, u2⟩ := HU6.out _ (HB610.out.trans (HBB.out.mono HB610.out.size))))
          all_goals
            go_wp2_with fail
            go_ret
            exact ⟨rfl, HEND.out _ (HB10.out.trans (HBB.out.mono HB10.out.size))⟩
        | false =>
          have HCAT := Lib.hid (show ((⟨P.toArray⟩ : ByteArray) ++ (⟨#[47]⟩ : ByteArray)) ++ (⟨nm.toArray⟩ : ByteArray) = ⟨(atL L (d : Int) ++ 47 :: nm).toArray⟩ by
            rw [if_neg (beq_eq_false_iff_ne.1 hpq)] at hPA
            rw [← hPA]
            exact cat_slash P nm)
          clear hPA
          go_wp2_with fail
          go_region_held3 (fun W => W.cell? ⟨w.heap.size, 0, none⟩ = some (.slice (some ⟨bb, o, none⟩) L.length cap) ∧ W.cell? ⟨w.heap.size, 1, none⟩ = some (.int .i64 m) ∧ W.cell? ⟨w.heap.size, 2, none⟩ = some (.int .i64 b) ∧ W.cell? ⟨w3.heap.size, 0, none⟩ = some (.slice (some ⟨g, 0, none⟩) L'.length c) ∧ W.cell? ⟨w3.heap.size, 1, none⟩ = some (.int .i64 m) ∧ W.cell? ⟨w3.heap.size, 2, none⟩ = some (.int .i64 b))
            (exact ⟨q0, q1, q2, u0, u1, u2⟩)
            (first
              | (go_at_call 17; refine (H17.out _ HCAT.out _ ?_).mono ?_; (exact ⟨HBB.out.os, HBB.out.tape, HBB.out.output, HBB.out.size, HBB.out.block⟩); rintro e wn ⟨v1, rfl, hT1, hbn⟩; have HT1 := Lib.hid hT1; have HBB : Hid (Below w10.heap.size w10 wn) := Lib.hid (below_next5 HBB.out hbn HBB.out.size ⟨rfl, rfl, rfl, rfl⟩); obtain ⟨q0, q1, q2⟩ := HX.out _ (HB10.out.trans (HBB.out.mono HB10.out.size)); obtain ⟨u0, u1, u2⟩ := HU6.out _ (HB610.out.trans (HBB.out.mono HB610.out.size)))
              | (go_at_call 18; with_reducible (show Calls _ _ #[.agg #[.slice (some ⟨bb, o, none⟩) _ _, _, _]] _ _); refine (H18.out _ ?_).mono ?_; (exact ⟨HBB.out.os, HBB.out.tape, HBB.out.output, HBB.out.size, HBB.out.block⟩); rintro e wn ⟨v2, rfl, hT2, hbn⟩; obtain ⟨a2, c2, rfl, -, -⟩ := hT2.slot3; have HT2 := Lib.hid hT2; have HBB : Hid (Below w10.heap.size w10 wn) := Lib.hid (below_next5 HBB.out hbn HBB.out.size ⟨rfl, rfl, rfl, rfl⟩); obtain ⟨q0, q1, q2⟩ := HX.out _ (HB10.out.trans (HBB.out.mono HB10.out.size)); obtain ⟨u0, u1, u2⟩ := HU6.out _ (HB610.out.trans (HBB.out.mono HB610.out.size)); (try have HT1 : Hid (Texts _ wn _ X0) := Lib.hid (Texts.below HT1.out ⟨hbn.os, hbn.tape, hbn.output, hbn.size, hbn.block⟩)))
              | (go_at_call 18; with_reducible (show Calls _ _ #[.agg #[.slice (some ⟨g, 0, none⟩) _ _, _, _]] _ _); refine (H18u.out _ (HO10.out.below ?_).nodesIn).mono ?_; (exact ⟨HBB.out.os, HBB.out.tape, HBB.out.output, HBB.out.size, HBB.out.block⟩); rintro e wn ⟨v3, rfl, hT3, hbn⟩; obtain ⟨a3, c3, rfl, -, -⟩ := hT3.slot3; clear hT3; have HBB : Hid (Below w10.heap.size w10 wn) := Lib.hid (below_next5 HBB.out hbn HBB.out.size ⟨rfl, rfl, rfl, rfl⟩); obtain ⟨q0, q1, q2⟩ := HX.out _ (HB10.out.trans (HBB.out.mono HB10.out.size)); obtain ⟨u0, u1, u2⟩ := HU6.out _ (HB610.out.trans (HBB.out.mono HB610.out.size)))
              | (go_at_call 16; refine (rsame5_yes X0 _ _ _ _ _ HT1.out HT2.out).mono ?_; rintro e wn ⟨rfl, hbn⟩; have HBB : Hid (Below w10.heap.size w10 wn) := Lib.hid (below_next5 HBB.out hbn HBB.out.size ⟨rfl, rfl, rfl, rfl⟩); obtain ⟨q0, q1, q2⟩ := HX.out _ (HB10.out.trans (HBB.out.mono HB10.out.size)); obtain ⟨u0, u1, u2⟩ := HU6.out _ (HB610.out.trans (HBB.out.mono HB610.out.size)))
              | (go_at_call 7; refine (awake5 _).mono ?_; rintro e wn ⟨rfl, hbn⟩; have HBB : Hid (Below w10.heap.size w10 wn) := Lib.hid (below_next5 HBB.out hbn HBB.out.size ⟨rfl, rfl, rfl, rfl⟩); obtain ⟨q0, q1, q2⟩ := HX.out _ (HB10.out.trans (HBB.out.mono HB10.out.size)); obtain ⟨u0, u1, u2⟩ := HU6.out _ (HB610.out.trans (HBB.out.mono HB610.out.size))))
          all_goals
            go_wp2_with fail
            go_ret
            exact ⟨rfl, HEND.out _ (HB10.out.trans (HBB.out.mono HB10.out.size))⟩

      · have hb1 : (er != 0) = true := by simpa using h1
        go_wp2_with fail
        obtain ⟨w6, hw6⟩ : ∃ p, p = (((((((w5.setCell ⟨w3.heap.size, 0, none⟩ (.slice (some ⟨g, 0, none⟩) L'.length c)).setCell ⟨w3.heap.size, 1, none⟩ (.int .i64 m)).setCell ⟨w3.heap.size, 2, none⟩ (.int .i64 b)).setCell ⟨w3.heap.size + 1, 0, none⟩ (.int .i64 3)).setCell ⟨w3.heap.size + 1, 1, none⟩ (.int .i64 7)).setCell ⟨w3.heap.size + 1, 3, none⟩ (.string ⟨to.toArray⟩))).alloc (.cells #[.slice (some ⟨g, 0, none⟩) L'.length c, .int .i64 m, .int .i64 b] 24) := ⟨_, rfl⟩
        rw [← hw6]
        obtain ⟨wq, hwq⟩ : ∃ p, p = ((((put3 w5 w3.heap.size (.slice (some ⟨g, 0, none⟩) L'.length c) (.int .i64 m) (.int .i64 b)).setCell ⟨w3.heap.size + 1, 0, none⟩ (.int .i64 3)).setCell ⟨w3.heap.size + 1, 1, none⟩ (.int .i64 7)).setCell ⟨w3.heap.size + 1, 3, none⟩ (.string ⟨to.toArray⟩)) := ⟨_, rfl⟩
        have hwx : w6 = wq.alloc (.cells #[.slice (some ⟨g, 0, none⟩) L'.length c, .int .i64 m, .int .i64 b] 24) := by rw [hw6, hwq]; rfl
        have hqs : wq.heap.size = w5.heap.size := by rw [hwq]; simp [World.setCell, put3_size]
        have hqb : Below w2.heap.size w2 wq := by rw [hwq]; exact ((((put3_below HB5.out (by omega) _ _ _).setCell (by show w2.heap.size ≤ w3.heap.size + 1; omega) _).setCell (by show w2.heap.size ≤ w3.heap.size + 1; omega) _).setCell (by show w2.heap.size ≤ w3.heap.size + 1; omega) _)
        have hqu : wq.heap[w3.heap.size]? = some (.cells #[.slice (some ⟨g, 0, none⟩) L'.length c, .int .i64 m, .int .i64 b] 24 (0, 0)) := by rw [hwq]; exact ((Below.heap_setCell _ _ _ _ (by show w3.heap.size ≠ w3.heap.size + 1; omega)).trans ((Below.heap_setCell _ _ _ _ (by show w3.heap.size ≠ w3.heap.size + 1; omega)).trans ((Below.heap_setCell _ _ _ _ (by show w3.heap.size ≠ w3.heap.size + 1; omega)).trans (put3_block HU5.out _ _ _))))
        have hqw : wq.heap[w3.heap.size + 1]? = some (.cells #[.int .i64 3, .int .i64 7, .int .i64 1, .string ⟨to.toArray⟩, .slice none 0 0, .int .i64 0] 29 (0, 0)) := by rw [hwq]; exact (blk_set (blk_set (blk_set ((put3_other (by omega) _ _ _).trans HW5.out) 0 _) 1 _) 3 _)
        have hqo : OwnT wq w4.heap.size g c L' vs := by rw [hwq]; exact HO5.out.low fun k hk => ((Below.heap_setCell _ _ _ _ (by show k ≠ w3.heap.size + 1; omega)).trans ((Below.heap_setCell _ _ _ _ (by show k ≠ w3.heap.size + 1; omega)).trans ((Below.heap_setCell _ _ _ _ (by show k ≠ w3.heap.size + 1; omega)).trans (put3_other (by omega) _ _ _))))
        have hb6 : Below wq.heap.size wq w6 := by rw [hwx]; exact below_box wq _
        have hs6 : w6.heap.size = w5.heap.size + 1 := by rw [hwx, World.size_alloc, hqs]
        have HB6 := Lib.hid (hqb.trans (hb6.mono (by omega)))
        have HO6 := Lib.hid (hqo.below hb6)
        have HU6 := Lib.hid (show ∀ W, Below w6.heap.size w6 W → W.cell? ⟨w3.heap.size, 0, none⟩ = some (.slice (some ⟨g, 0, none⟩) L'.length c) ∧ W.cell? ⟨w3.heap.size, 1, none⟩ = some (.int .i64 m) ∧ W.cell? ⟨w3.heap.size, 2, none⟩ = some (.int .i64 b) from fun W hW => by
          have h := (hW.block w3.heap.size (by omega)).trans ((hb6.block w3.heap.size (by omega)).trans hqu)
          exact ⟨blk_cell h 0, blk_cell h 1, blk_cell h 2⟩)
        have HW6 := Lib.hid (show ∀ W, Below w6.heap.size w6 W → W.cell? ⟨w3.heap.size + 1, 0, none⟩ = some (.int .i64 3) ∧ W.cell? ⟨w3.heap.size + 1, 1, none⟩ = some (.int .i64 7) ∧ W.cell? ⟨w3.heap.size + 1, 3, none⟩ = some (.string ⟨to.toArray⟩) from fun W hW => by
          have h := (hW.block (w3.heap.size + 1) (by omega)).trans ((hb6.block (w3.heap.size + 1) (by omega)).trans hqw)
          exact ⟨blk_cell h 0, blk_cell h 1, blk_cell h 3⟩)
        clear hw6 hwq hwx hqs hqb hqu hqw hqo hb6 q0 q1 q2 hq r0 r1 r2 rf0 rf1 rf2 v0 vf0 v1 vf1 v3 vf3 HU5 HW5 HO5
        obtain ⟨hLL, hkz⟩ := HMADE.out.2 h1
        subst hkz
        subst hLL
        refine (rsame3_yes _ _ _ _ _ _ L' (by omega) _ (HM.out _ HB6.out) HO6.out.nodesIn).mono ?_
        rintro e w7 ⟨rfl, hb7⟩
        have HB7 := Lib.hid (HB6.out.trans (hb7.mono HB6.out.size))
        clear hb7
        go_wp2_with fail
        refine (awake5 _).mono ?_
        rintro e w8 ⟨rfl, hb8⟩
        have HB8 := Lib.hid (HB7.out.trans (hb8.mono HB7.out.size))
        clear hb8
        go_wp2_with fail
        go_ret
        exact ⟨rfl, HEND.out _ HB8.out⟩


end Go.Proofs.Ytfmaagcomplooaa
