/-
  The law MakeLinks, walked.
-/
import Derived.Test.YtfmaagcomplooaaMkModes
namespace Go.Proofs.Ytfmaagcomplooaa
set_option maxRecDepth 100000
open Go Go.RowKit

theorem Adds.kid {L : List Ino} {m b : Int} {d k : Nat} {s : List UInt8} {x : Ino} (h : Adds L m b d k s x) : kidL (addL L d k s x) (d : Int) s = (k : Int) := by
  have hd : d < (addL L d k s x).length := by rw [add_len]; exact h.dlt
  have hg : (addL L d k s x)[d] = withKids (L[d]'h.dlt) (namedL (L[d]'h.dlt).kids s k) := by
    have := add_get (k := k) h.dlt s x d h.dlt
    rw [if_pos rfl] at this
    exact this
  have hm : (s, (k : Int)) ∈ (addL L d k s x)[d].kids := by
    rw [hg]
    show _ ∈ namedL _ _ _
    rw [named_mem (k : Int) h.new]
    exact Or.inl rfl
  obtain ⟨i, hi, he⟩ := List.getElem_of_mem hm
  have := kid_of h.fits d hd i hi
  rw [he] at this
  exact this
theorem parent5_known (a : Option Addr) (cap : Nat) (m b cwd : Int) (pb : ByteArray) (hp : pb.size ≤ 1073741824) (L : List Ino) (hF : FitP L m b) (z : Int) (s : List UInt8) (e : Int) (h : parentW L cwd pb.data.toList = (z, s, e)) (w : World) (hN : NodesIn w a cap L) :
    Calls Try.prog 12 #[.agg #[.slice a L.length cap, .int .i64 m, .int .i64 b], .int .i64 cwd, .string pb] w fun r w' => r = .returned (.tuple #[.int .i64 z, .string ⟨s.toArray⟩, .int .i64 e]) ∧ Below w.heap.size w w' := by
  have := parent4_any a cap m b cwd pb hp L hF w hN
  rw [h] at this
  exact this

set_option maxHeartbeats 8000000 in
theorem llinks_walk (a : Option Addr) (cap : Nat) (m b cwd : Int) (ob pb : ByteArray) (hob : ob.size ≤ 281474976710656) (hpb : pb.size ≤ 281474976710656) (L : List Ino) (hS : Sized L) (w : World) (hN : NodesIn w a cap L) :
    Calls Try.prog 4 #[.agg #[.slice a L.length cap, .int .i64 m, .int .i64 b], .int .i64 cwd, .string ob, .string pb] w fun e w' => e = .returned (.bool true) ∧ Below w.heap.size w w' := by
  obtain ⟨w1, hw1⟩ : ∃ w1, w1 = w.alloc (.cells #[.slice a L.length cap, .int .i64 m, .int .i64 b] 24) := ⟨_, rfl⟩
  have hb1 : Below w.heap.size w w1 := by rw [hw1]; exact below_box w _
  have hX : w1.heap[w.heap.size]? = some (.cells #[.slice a L.length cap, .int .i64 m, .int .i64 b] 24 (0, 0)) := by rw [hw1]; exact new_block w _
  have hs1 : w1.heap.size = w.heap.size + 1 := by rw [hw1]; simp
  have HB := Lib.hid hb1
  obtain ⟨w2, hw2⟩ : ∃ w2, w2 = w1.alloc (.cells #[.string ob, .string pb] 9) := ⟨_, rfl⟩
  have hb2 : Below w1.heap.size w1 w2 := by rw [hw2]; exact below_box w1 _
  have hs2 : w2.heap.size = w.heap.size + 2 := by rw [hw2, World.size_alloc, hs1]
  have hT2 : w2.heap[w.heap.size + 1]? = some (.cells #[.string ob, .string pb] 9 (0, 0)) := by rw [hw2, ← hs1]; exact new_block w1 _
  have HX := Lib.hid (show ∀ W, Below w2.heap.size w2 W → W.cell? ⟨w.heap.size, 0, none⟩ = some (.slice a L.length cap) ∧ W.cell? ⟨w.heap.size, 1, none⟩ = some (.int .i64 m) ∧ W.cell? ⟨w.heap.size, 2, none⟩ = some (.int .i64 b) from fun W hW => by
    have h := (hW.block w.heap.size (by omega)).trans ((hb2.block w.heap.size (by omega)).trans hX)
    exact ⟨blk_cell h 0, blk_cell h 1, blk_cell h 2⟩)
  have HEND := Lib.hid (show ∀ W', Below w2.heap.size w2 W' → Below w.heap.size w W' from fun W' h => HB.out.trans ((hb2.trans (h.mono (by omega))).mono (by omega)))
  have HM := Lib.hid (show ∀ W', Below w2.heap.size w2 W' → NodesIn W' a cap L from fun W' h => hN.below (HB.out.trans ((hb2.trans (h.mono (by omega))).mono (by omega))))
  have HS := Lib.hid hS
  have hgood := good5_any a cap m b L hS [ob, pb] (fun s hs => by
      simp only [List.mem_cons, List.not_mem_nil, or_false] at hs
      rcases hs with rfl | rfl
      · exact hob
      · exact hpb) (by simp) (w.heap.size + 1) 2 w2 (HM.out w2 (Below.refl _ _)) (fun i hi => by
      match i, hi with
      | 0, _ => exact blk_cell hT2 0
      | 1, _ => exact blk_cell hT2 1)
  have HGOOD := Lib.hid hgood
  clear hN hb1 hX hS hb2 hT2 hgood
  go_enter Try.func4, Try.ntmps4
  go_wp2_with fail
  rw [← hw1, ← hw2]
  clear hw1 hw2
  refine HGOOD.out.mono ?_
  rintro e w3 ⟨⟨v, rfl, hv⟩, hb3⟩
  have HV := Lib.hid hv
  have HB3 := Lib.hid hb3
  have hs3 := hb3.size
  obtain ⟨q0, q1, q2⟩ := HX.out _ hb3
  have hq := cell_lt q0
  clear hv hb3 HGOOD
  cases v with
  | false =>
    clear q0 q1 q2 hq
    go_wp2_with fail
    refine (awake5 _).mono ?_
    rintro e w4 ⟨rfl, hb4⟩
    have HB4 := Lib.hid (HB3.out.trans (hb4.mono hs3))
    clear hb4
    go_wp2_with fail
    go_ret
    exact ⟨rfl, HEND.out _ HB4.out⟩
  | true =>
    obtain ⟨hl, hF, hsz⟩ := HV.out rfl
    have HF := Lib.hid hF
    have hL0 : 0 < L.length := by have := hF.limits; obtain ⟨_, _, _, _, _⟩ := this; omega
    have hp3 : pb.size ≤ 1073741824 := by have := hsz pb (by simp); omega
    have ho3 : ob.size ≤ 1073741824 := by have := hsz ob (by simp); omega
    obtain ⟨⟨L', er⟩, hz⟩ : ∃ r, linkW L cwd ob.data.toList pb.data.toList = r := ⟨_, rfl⟩
    have HZ := Lib.hid hz
    have HMADE := Lib.hid (link_made hF hz)
    clear hz hF hsz
    go_wp2_with fail
    refine (llink_any a cap m b cwd ob pb ho3 hp3 L HF.out L' er HZ.out _ (HM.out _ HB3.out)).mono ?_
    rintro e w4 hmade
    obtain ⟨g, c, vs, rfl, hO4, hb4⟩ := MadeAns.two hmade
    have HB4 := Lib.hid (HB3.out.trans (hb4.mono hs3))
    have hs4 := hb4.size
    have HO4 := Lib.hid hO4
    clear hmade hO4 hb4 q0 q1 q2 hq
    by_cases h1 : er = 0
    · subst h1
      obtain ⟨d, nm, k, hk, hwk, hpw, hLe, hA⟩ := HMADE.out.1 rfl
      have HWK := Lib.hid hwk
      have HPW := Lib.hid hpw
      have HLE := Lib.hid hLe
      have HA := Lib.hid hA
      have hL' : L'.length = L.length := by rw [hLe, add_len]
      have HLL := Lib.hid hL'
      have HF' := Lib.hid (show FitP L' m b by rw [hLe]; exact hA.fits)
      have HS' := Lib.hid (sized_fit HF'.out)
      have hkl' : (k : Int) < (L.length : Int) := by omega
      have hkl2 : (k : Int) < (L'.length : Int) := by omega
      have hk0' : (0 : Int) ≤ (k : Int) := by omega
      have HKD := Lib.hid (show kidL L' (d : Int) nm = (k : Int) by rw [hLe]; exact hA.kid)
      have hkL' : k < L'.length := by omega
      obtain ⟨lk, hlk⟩ : ∃ v, v = L[k].links := ⟨_, rfl⟩
      obtain ⟨xd, hxd⟩ : ∃ v, v = L[k].data := ⟨_, rfl⟩
      have hlb : 0 ≤ lk ∧ lk ≤ 262144 := by
        have h1 := (HF.out.names.2 k hk).1
        rw [countL_get L (kids_pos (kids_there HF.out.ins)) k hk] at h1
        have h2 := few_names HF.out k
        omega
      have hwr : IntKind.i64.wrap (lk + 1) = lk + 1 := by rw [IntKind.wrap_i64]; omega
      have HLK := Lib.hid (show L'[k].links = lk + 1 ∧ L'[k].data = xd by
        have h1 := hA.nodeK
        rw [← hLe, node_nat L' k hkL'] at h1
        rw [h1]
        exact ⟨by rw [hlk], by rw [hxd]⟩)
      have HLK0 := Lib.hid (show L[k].links = lk ∧ L[k].data = xd from ⟨hlk.symm, hxd.symm⟩)
      clear hwk hpw hLe hA hL' hlk hxd
      obtain ⟨q0, q1, q2⟩ := HX.out _ HB4.out
      have hq := cell_lt q0
      go_wp2_with fail
      obtain ⟨w5, hw5⟩ : ∃ p, p = w4.alloc (.cells #[.slice (some ⟨g, 0, none⟩) L'.length c, .int .i64 m, .int .i64 b] 24) := ⟨_, rfl⟩
      have hb5 : Below w4.heap.size w4 w5 := by rw [hw5]; exact below_box w4 _
      have hU : w5.heap[w4.heap.size]? = some (.cells #[.slice (some ⟨g, 0, none⟩) L'.length c, .int .i64 m, .int .i64 b] 24 (0, 0)) := by rw [hw5]; exact new_block w4 _
      have hs5 : w5.heap.size = w4.heap.size + 1 := by rw [hw5]; simp
      rw [← hw5]
      have HB5 := Lib.hid (HB4.out.trans (hb5.mono (by omega)))
      have HU5 := Lib.hid (show ∀ W, Below w5.heap.size w5 W → W.cell? ⟨w4.heap.size, 0, none⟩ = some (.slice (some ⟨g, 0, none⟩) L'.length c) ∧ W.cell? ⟨w4.heap.size, 1, none⟩ = some (.int .i64 m) ∧ W.cell? ⟨w4.heap.size, 2, none⟩ = some (.int .i64 b) from fun W hW => by
        have h := (hW.block w4.heap.size (by omega)).trans hU
        exact ⟨blk_cell h 0, blk_cell h 1, blk_cell h 2⟩)
      have HO5 := Lib.hid (HO4.out.below hb5)
      clear hw5 hb5 hU q0 q1 q2 hq
      refine (walk5_known _ _ _ _ _ _ ho3 _ L HF.out _ _ HWK.out _ (HM.out _ HB5.out)).mono ?_
      rintro e w6 ⟨rfl, hb6⟩
      have HB6 := Lib.hid (HB5.out.trans (hb6.mono (by omega)))
      have HB56 := Lib.hid hb6
      have hs6 := hb6.size
      clear hb6
      obtain ⟨q0, q1, q2⟩ := HX.out _ HB6.out
      have hq := cell_lt q0
      go_wp2_with fail
      refine (parent5_known _ _ _ _ _ _ hp3 L HF.out _ _ _ HPW.out _ (HM.out _ HB6.out)).mono ?_
      rintro e w7 ⟨rfl, hb7⟩
      have HB7 := Lib.hid (HB6.out.trans (hb7.mono HB6.out.size))
      have HB57 := Lib.hid (HB56.out.trans (hb7.mono hs6))
      have hs7 := hb7.size
      have HO7 := Lib.hid (HO5.out.below HB57.out)
      clear hb7 q0 q1 q2 hq
      obtain ⟨q0, q1, q2⟩ := HX.out _ HB7.out
      obtain ⟨u0, u1, u2⟩ := HU5.out _ HB57.out
      have hkv : k < vs.length := by rw [HO7.out.nodes.len]; omega
      have hn := HO7.out.nodes.node k hkL' hkv
      have n2 := hn.links
      have n3 := hn.data
      rw [HLK.out.1] at n2
      rw [HLK.out.2] at n3
      obtain ⟨bb, o, hab, hx⟩ := (HM.out _ HB7.out).2.2 k hk
      subst hab
      have x2 := hx.links
      have x3 := hx.data
      rw [HLK0.out.1] at x2
      rw [HLK0.out.2] at x3
      have f0 := grown_cell q0
      have f1 := grown_cell q1
      have f2 := grown_cell q2
      have e0 := grown_cell u0
      have e1 := grown_cell u1
      have e2 := grown_cell u2
      have gn2 := grown_cell n2
      have gn3 := grown_cell n3
      have gx2 := grown_cell x2
      have gx3 := grown_cell x3
      have HN7 := Lib.hid (show ∀ W, Below w7.heap.size w7 W → NodesIn W (some ⟨g, 0, none⟩) c L' from fun W hW => (HO7.out.below hW).nodesIn)
      have h1 : ∀ W, Below w7.heap.size w7 W → Calls Try.prog 13 #[.agg #[.slice (some ⟨g, 0, none⟩) L'.length c, .int .i64 m, .int .i64 b]] W fun e w' => e = .returned (.bool true) ∧ Below W.heap.size W w' := fun W hW => rfit_yes _ c m b L' (by rw [HLL.out]; exact hl) HS'.out HF'.out W (HN7.out W hW)
      have h2 : ∀ W, Below w7.heap.size w7 W → Calls Try.prog 14 #[.agg #[.slice (some ⟨g, 0, none⟩) L'.length c, .int .i64 m, .int .i64 b], .int .i64 d, .string ⟨nm.toArray⟩] W fun e w' => e = .returned (.int .i64 k) ∧ Below W.heap.size W w' := fun W hW => rkid_known _ c m b d nm L' k HKD.out W (HN7.out W hW)
      have G1 := Lib.hid (grown_call (wb := w7) h1)
      have G2 := Lib.hid (grown_call (wb := w7) h2)
      have G3 := Lib.hid (grown_call (wb := w7) (fun W _ => awake5 W))
      clear q0 q1 q2 u0 u1 u2 n2 n3 x2 x3 hn hx h1 h2
      go_wp2_with fail
      refine wp_region_grown (by kernel_rfl) (by kernel_rfl) ?_
      repeat (first | go_big_quiet_skip | (go_big_quiet_want; go_big_quiet_op; (first | go_big_quiet_on | (refine ⟨_, G1.out, ?_⟩; go_big_quiet_on) | (refine ⟨_, G2.out, ?_⟩; go_big_quiet_on) | (refine ⟨_, G3.out, ?_⟩; go_big_quiet_on))))
      refine wpQuiet_nil ?_
      intro w8 hw8
      have hbg : Below w7.heap.size w7 w8 := by obtain ⟨x, rfl⟩ := hw8; exact x.below
      have HB8 := Lib.hid (HB7.out.trans (hbg.mono HB7.out.size))
      clear hw8 hbg
      go_wp2_with fail
      go_ret
      exact ⟨rfl, HEND.out _ HB8.out⟩
    · have hLL := HMADE.out.2 h1
      subst hLL
      have hb1 : (er != 0) = true := by simpa using h1
      obtain ⟨q0, q1, q2⟩ := HX.out _ HB4.out
      have hq := cell_lt q0
      go_wp2_with fail
      obtain ⟨w5, hw5⟩ : ∃ p, p = w4.alloc (.cells #[.slice (some ⟨g, 0, none⟩) L'.length c, .int .i64 m, .int .i64 b] 24) := ⟨_, rfl⟩
      have hb5 : Below w4.heap.size w4 w5 := by rw [hw5]; exact below_box w4 _
      have hU : w5.heap[w4.heap.size]? = some (.cells #[.slice (some ⟨g, 0, none⟩) L'.length c, .int .i64 m, .int .i64 b] 24 (0, 0)) := by rw [hw5]; exact new_block w4 _
      have hs5 : w5.heap.size = w4.heap.size + 1 := by rw [hw5]; simp
      rw [← hw5]
      have HB5 := Lib.hid (HB4.out.trans (hb5.mono (by omega)))
      have HO5 := Lib.hid (HO4.out.below hb5)
      clear hw5 hb5 hU q0 q1 q2 hq
      refine (rsame3_yes _ _ _ _ _ _ L' (by omega) _ (HM.out _ HB5.out) HO5.out.nodesIn).mono ?_
      rintro e w6 ⟨rfl, hb6⟩
      have HB6 := Lib.hid (HB5.out.trans (hb6.mono (by omega)))
      have hs6 := hb6.size
      clear hb6
      go_wp2_with fail
      refine (awake5 _).mono ?_
      rintro e w7 ⟨rfl, hb7⟩
      have HB7 := Lib.hid (HB6.out.trans (hb7.mono (by omega)))
      clear hb7
      go_wp2_with fail
      go_ret
      exact ⟨rfl, HEND.out _ HB7.out⟩
end Go.Proofs.Ytfmaagcomplooaa
