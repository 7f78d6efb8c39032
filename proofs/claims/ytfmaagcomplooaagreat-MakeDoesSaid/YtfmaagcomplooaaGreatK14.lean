/-
  make's Link of the landed code: it answers what chapter 5 says.
-/
import Derived.Test.YtfmaagcomplooaaGreatK13
namespace Go.Proofs.YtfmaagcomplooaaGreat
set_option maxRecDepth 100000
open Go Go.RowKit

theorem few_names {L : List Ino} {m b : Int} (hF : FitP L m b) (c : Int) : namesOf (kidsOf L) c ≤ 262144 := by
  have h1 : ∀ (M : List (List UInt8 × Int)), namesOf M c ≤ M.length := fun M => by
    induction M with
    | nil => exact Nat.le_refl _
    | cons e r ih => rw [names_cons, List.length_cons]; split <;> omega
  have h2 : ∀ (l : List Ino), (∀ x ∈ l, x.kids.length ≤ 1024) → (kidsOf l).length ≤ 1024 * l.length := fun l => by
    induction l with
    | nil => exact fun _ => Nat.le_refl _
    | cons x r ih =>
      intro h
      have e1 := ih (fun y hy => h y (List.mem_cons_of_mem _ hy))
      have e2 := h x List.mem_cons_self
      show (x.kids ++ kidsOf r).length ≤ 1024 * (r.length + 1)
      rw [List.length_append]
      omega
  have h3 := h1 (kidsOf L)
  have h4 := h2 L (fun x hx => by obtain ⟨j, hj, rfl⟩ := List.getElem_of_mem hx; exact (hF.ins j hj).2.1)
  obtain ⟨l1, l2, l3, l4, l5⟩ := hF.limits
  omega
/-- A tree in which an inode has one more name. -/
theorem link_both {L : List Ino} {d k : Nat} (hd : d < L.length) (hk : k < L.length) (hdk : d ≠ k) (s : List UInt8) :
    ((L.set d (withKids L[d] (namedL L[d].kids s k))).set k { L[k] with links := L[k].links + 1 }) = addL L d k s { nodeAt L (k : Int) with links := (nodeAt L (k : Int)).links + 1 } := by
  unfold addL
  rw [node_nat L d hd, node_nat L k hk, List.set_comm _ _ hdk]
/-- What Link tells, in the order in which the code asks. -/
theorem link_words {L : List Ino} {m b : Int} (hF : FitP L m b) (cwd : Int) (old p : List UInt8) (k : Nat) (hk : k < L.length) (hw : walkW L cwd old false = ((k : Int), 0)) (h2 : L[k].kind ≠ 2) :
    linkW L cwd old p = if (spotW L cwd p).2.2.2 ≠ 0 then (L, (spotW L cwd p).2.2.2) else if refuseW L (spotW L cwd p).1 (spotW L cwd p).2.2.1 L[k].kind ≠ 0 then (L, refuseW L (spotW L cwd p).1 (spotW L cwd p).2.2.1 L[k].kind) else
      (addL L (spotW L cwd p).1.toNat k (spotW L cwd p).2.1 { nodeAt L (k : Int) with links := (nodeAt L (k : Int)).links + 1 }, 0) := by
  unfold linkW
  rw [hw]
  simp only [ne_eq, not_true_eq_false, if_false]
  rw [if_neg (by rw [node_nat L k hk]; exact h2)]
  unfold spotW
  by_cases h0 : (freshW L cwd p true).2.2 = 0
  · obtain ⟨d, s, hdl, hp, hf, -⟩ := fresh_ok hF h0
    rw [spot_fresh, hf]
    simp only [ne_eq, not_true_eq_false, if_false]
    cases he : endL p with
    | true =>
      have hr : refuseW L (d : Int) true L[k].kind = 20 := by
        unfold refuseW
        rw [if_pos ⟨rfl, h2⟩]
      rw [hr]
      rfl
    | false =>
      have hr : refuseW L (d : Int) false L[k].kind = if 1024 ≤ (nodeAt L (d : Int)).kids.length then 28 else 0 := by
        unfold refuseW
        rw [if_neg (by simp)]
      rw [hr]
      by_cases h1 : 1024 ≤ (nodeAt L (d : Int)).kids.length
      · simp [h1]
      · simp [h1]
  · rw [spot_fresh]
    simp [h0]

set_option maxHeartbeats 8000000 in
theorem llink_any (a : Option Addr) (cap : Nat) (m b cwd : Int) (ob pb : ByteArray) (ho : ob.size ≤ 1073741824) (hp : pb.size ≤ 1073741824) (L : List Ino) (hF : FitP L m b) (L' : List Ino) (ez : Int) (hz : linkW L cwd ob.data.toList pb.data.toList = (L', ez)) (w : World) (hN : NodesIn w a cap L) :
    Calls Tryz.prog 13 #[.agg #[.slice a L.length cap, .int .i64 m, .int .i64 b], .int .i64 cwd, .string ob, .string pb] w (MadeAns w.heap.size w m b L' [.int .i64 ez]) := by
  obtain ⟨⟨wz, we⟩, hwk⟩ : ∃ r, walkW L cwd ob.data.toList false = r := ⟨_, rfl⟩
  obtain ⟨⟨d, nm, sl, pe⟩, hsp⟩ : ∃ r, spotW L cwd pb.data.toList = r := ⟨_, rfl⟩
  have HWK := Lib.hid hwk
  have HSP := Lib.hid hsp
  clear hwk hsp
  obtain ⟨w2, hw2, hb2, hs2, hA, hB⟩ := two_boxes w #[.slice a L.length cap, .int .i64 m, .int .i64 b] #[.slice none 0 0, .int .i64 0, .int .i64 0] 24 24
  obtain ⟨l1, l2, l3, l4, l5⟩ := hF.limits
  have hL0 : 0 < L.length := by omega
  have hL1 : L.length ≤ 256 := by omega
  have HF := Lib.hid hF
  have HN2 := Lib.hid (hN.below hb2)
  have HZ := Lib.hid hz
  have HB2 := Lib.hid hb2
  have HK := Lib.hid (show ∀ x ∈ L, x.kids.length ≤ 4096 from fun x hx => by obtain ⟨j, hj, rfl⟩ := List.getElem_of_mem hx; have := (hF.ins j hj).2.1; omega)
  have HR := Lib.hid (show ∀ W, Below w2.heap.size w2 W → W.heap[w.heap.size + 1]? = some (.cells #[.slice none 0 0, .int .i64 0, .int .i64 0] 24 (0, 0)) from fun W hW => (hW.block _ (by omega)).trans hB)
  have HAll := Lib.hid (show ∀ W, Below w2.heap.size w2 W → W.cell? ⟨w.heap.size, 0, none⟩ = some (.slice a L.length cap) ∧ W.cell? ⟨w.heap.size, 1, none⟩ = some (.int .i64 m) ∧ W.cell? ⟨w.heap.size, 2, none⟩ = some (.int .i64 b) from fun W hW => by
    have h := (hW.block w.heap.size (by omega)).trans hA
    exact ⟨blk_cell h 0, blk_cell h 1, blk_cell h 2⟩)
  clear hF hN hz hb2 hA hB
  go_enter Tryz.func13, Tryz.ntmps13
  go_wp2_with fail
  rw [← hw2]
  clear hw2
  refine (lcopied_any a cap m b L hL0 (by omega) HK.out _ HN2.out).mono ?_
  rintro e w3 ⟨g, cap', vs, rfl, hO3, hb3⟩
  have HO3 := Lib.hid hO3
  have HB3 := Lib.hid hb3
  have hs3 := hb3.size
  obtain ⟨q0, q1, q2⟩ := HAll.out _ hb3
  have hq := cell_lt q0
  clear hO3 hb3
  go_wp2_with fail
  obtain ⟨w4, hw4⟩ : ∃ w4, w4 = w3.alloc (.cells #[.slice (some ⟨g, 0, none⟩) L.length cap', .int .i64 m, .int .i64 b] 24) := ⟨_, rfl⟩
  have hb4 : Below w3.heap.size w3 w4 := by rw [hw4]; exact below_box w3 _
  have hM4 : w4.heap[w3.heap.size]? = some (.cells #[.slice (some ⟨g, 0, none⟩) L.length cap', .int .i64 m, .int .i64 b] 24 (0, 0)) := by rw [hw4]; exact new_block w3 _
  have hs4 : w4.heap.size = w3.heap.size + 1 := by rw [hw4]; simp
  rw [← hw4]
  clear hw4 q0 q1 q2 hq
  have HB34 := Lib.hid hb4
  have HB24 := Lib.hid (HB3.out.trans (hb4.mono hs3))
  have HR4 := Lib.hid (show ∀ W, Below w4.heap.size w4 W → W.heap[w.heap.size + 1]? = some (.cells #[.slice none 0 0, .int .i64 0, .int .i64 0] 24 (0, 0)) from fun W hW => HR.out W (HB24.out.trans (hW.mono (by omega))))
  have HA4 := Lib.hid (show ∀ W, Below w4.heap.size w4 W → W.cell? ⟨w.heap.size, 0, none⟩ = some (.slice a L.length cap) ∧ W.cell? ⟨w.heap.size, 1, none⟩ = some (.int .i64 m) ∧ W.cell? ⟨w.heap.size, 2, none⟩ = some (.int .i64 b) from fun W hW => HAll.out W (HB24.out.trans (hW.mono (by omega))))
  have HM4 := Lib.hid (show ∀ W, Below w4.heap.size w4 W → W.cell? ⟨w3.heap.size, 0, none⟩ = some (.slice (some ⟨g, 0, none⟩) L.length cap') ∧ W.cell? ⟨w3.heap.size, 1, none⟩ = some (.int .i64 m) ∧ W.cell? ⟨w3.heap.size, 2, none⟩ = some (.int .i64 b) from fun W hW => by
    have h := (hW.block w3.heap.size (by omega)).trans hM4
    exact ⟨blk_cell h 0, blk_cell h 1, blk_cell h 2⟩)
  have HN4 := Lib.hid (show ∀ W, Below w4.heap.size w4 W → NodesIn W a cap L from fun W hW => HN2.out.below (HB24.out.trans (hW.mono (by omega))))
  have HO4 := Lib.hid (show ∀ W, Below w4.heap.size w4 W → OwnT W (w.heap.size + 2) g cap' L vs from fun W hW => by
    have := HO3.out.below (HB34.out.trans (hW.mono (by omega)))
    rw [hs2] at this
    exact this)
  have HBW := Lib.hid (show ∀ W, Below w4.heap.size w4 W → Below w.heap.size w W from fun W hW => HB2.out.trans ((HB24.out.trans (hW.mono (by omega))).mono (by omega)))
  clear hb4 hM4 HAll HR
  refine (lwalk_kn _ _ _ _ _ _ ho _ L HF.out _ _ HWK.out _ (HN4.out w4 (Below.refl _ _))).mono ?_
  rintro e w5 ⟨rfl, hb5⟩
  have HB45 := Lib.hid hb5
  have hs5 := hb5.size
  clear hb5
  by_cases h1 : we = 0
  · subst h1
    have hlive := walk_live HF.out (cwd := cwd) (p := ob.data.toList) (f := false) (by rw [HWK.out])
    rw [HWK.out] at hlive
    obtain ⟨k, hk, hwz, hk0⟩ := live_ino hlive
    have hwz' : wz = (k : Int) := hwz
    subst hwz'
    obtain ⟨kk, hkk⟩ : ∃ v, L[k].kind = v := ⟨_, rfl⟩
    have HKK := Lib.hid hkk
    have hkl' : (k : Int) < (L.length : Int) := by omega
    have hk0' : (0 : Int) ≤ (k : Int) := by omega
    obtain ⟨bb, o, hab, hx⟩ := (HN4.out w5 HB45.out).2.2 k hk
    subst hab
    have x0 := hx.kind
    rw [hkk] at x0
    obtain ⟨q0, q1, q2⟩ := HA4.out w5 HB45.out
    have hq := cell_lt q0
    clear hx hkk hlive hwz
    by_cases h2 : kk = 2
    · subst h2
      have hz2 := HZ.out
      unfold linkW at hz2
      rw [HWK.out] at hz2
      simp only [ne_eq, not_true_eq_false, if_false] at hz2
      rw [if_pos (by rw [node_nat L k hk]; exact HKK.out)] at hz2
      simp only [Prod.mk.injEq] at hz2
      obtain ⟨rfl, rfl⟩ := hz2
      have HRX := Lib.hid (HR4.out w5 HB45.out)
      have r0 := blk_cell HRX.out 0
      have r1 := blk_cell HRX.out 1
      have r2 := blk_cell HRX.out 2
      have s0 := blk_free HRX.out 0
      have s1 := blk_free HRX.out 1
      have s2 := blk_free HRX.out 2
      have hrl := lt_of_block HRX.out
      obtain ⟨m0, m1, m2⟩ := HM4.out w5 HB45.out
      have hml := cell_lt m0
      go_wp2_with fail
      change bodyPost _ _ _ _ _ (put3 w5 (w.heap.size + 1) (.slice (some ⟨g, 0, none⟩) L.length cap') (.int .i64 m) (.int .i64 b))
      obtain ⟨c0, c1, c2⟩ := put3_cells HRX.out (.slice (some ⟨g, 0, none⟩) L.length cap') (.int .i64 m) (.int .i64 b)
      obtain ⟨hOF, hBF⟩ := end_made3 (c := w.heap.size + 1) (HO4.out w5 HB45.out) (HBW.out w5 HB45.out) (by omega) (by omega) (.slice (some ⟨g, 0, none⟩) L.length cap') (.int .i64 m) (.int .i64 b)
      have HOG := Lib.hid hOF
      have HBG := Lib.hid hBF
      clear hOF hBF
      generalize put3 w5 (w.heap.size + 1) (.slice (some ⟨g, 0, none⟩) L.length cap') (.int .i64 m) (.int .i64 b) = wF at *
      exact bodyPost_ret (v := .tuple #[.agg #[.slice (some ⟨g, 0, none⟩) L.length cap', .int .i64 m, .int .i64 b], .int .i64 1]) (by simp [results, Tryz.results13, go_sem, c0, c1, c2]) rfl ⟨⟨g, cap', vs, rfl, HOG.out⟩, HBG.out⟩
    · have h2b : (kk == 2) = false := by simpa using h2
      have hz2 := HZ.out
      rw [link_words HF.out cwd ob.data.toList pb.data.toList k hk HWK.out (by rw [HKK.out]; exact h2), HSP.out] at hz2
      simp only [HKK.out] at hz2
      go_wp2_with fail
      refine (lnew_any _ _ _ _ _ _ hp L HF.out _ _ _ _ HSP.out _ (HN4.out w5 HB45.out)).mono ?_
      rintro e w6 ⟨rfl, hb6⟩
      have HB46 := Lib.hid (HB45.out.trans (hb6.mono (by omega)))
      have hs6 := hb6.size
      clear hb6 q0 q1 q2 hq x0
      obtain ⟨q0, q1, q2⟩ := HA4.out w6 HB46.out
      have hq := cell_lt q0
      by_cases h3 : pe = 0
      · subst h3
        simp only [ne_eq, not_true_eq_false, if_false] at hz2
        have hsp0 := HSP.out
        obtain ⟨dn, s', hdn, hpw, hfw, hkd, hnk, hnew, hmay⟩ := fresh_ok HF.out (cwd := cwd) (p := pb.data.toList) (dirs := true) (by
          unfold spotW at hsp0
          split at hsp0
          · rename_i h0
            exfalso
            exact h0 (by simpa using (Prod.mk.inj (Prod.mk.inj (Prod.mk.inj hsp0).2).2).2)
          · rename_i h0
            simpa using h0)
        have hdd : d = (dn : Int) ∧ nm = s' := by
          unfold spotW at hsp0
          rw [hfw] at hsp0
          simp at hsp0
          exact ⟨hsp0.1.symm, hsp0.2.1.symm⟩
        obtain ⟨rfl, rfl⟩ := hdd
        have HNEW := Lib.hid (show L[dn].kind = 2 ∧ nameOkL nm = true ∧ ∀ e ∈ L[dn].kids, e.1 ≠ nm from ⟨hkd, hnk, hnew⟩)
        clear hsp0 hpw hfw hkd hnk hnew hmay
        obtain ⟨rf, hrf⟩ : ∃ v, refuseW L (dn : Int) sl kk = v := ⟨_, rfl⟩
        have HRF := Lib.hid hrf
        simp only [hrf] at hz2
        clear hrf
        go_wp2_with fail
        obtain ⟨w7, hw7⟩ : ∃ w7, w7 = w6.alloc (.cells #[.int .i64 dn, .string ⟨nm.toArray⟩, .bool sl] 63) := ⟨_, rfl⟩
        have hb67 : Below w6.heap.size w6 w7 := by rw [hw7]; exact below_box w6 _
        have hS7 : w7.heap[w6.heap.size]? = some (.cells #[.int .i64 dn, .string ⟨nm.toArray⟩, .bool sl] 63 (0, 0)) := by rw [hw7]; exact new_block w6 _
        have hs7 : w7.heap.size = w6.heap.size + 1 := by rw [hw7]; simp
        rw [← hw7]
        clear hw7 q0 q1 q2 hq
        have HB47 := Lib.hid (HB46.out.trans (hb67.mono (by omega)))
        have HS7 := Lib.hid (show ∀ W, Below w7.heap.size w7 W → W.cell? ⟨w6.heap.size, 0, none⟩ = some (.int .i64 dn) ∧ W.cell? ⟨w6.heap.size, 1, none⟩ = some (.string ⟨nm.toArray⟩) ∧ W.cell? ⟨w6.heap.size, 2, none⟩ = some (.bool sl) from fun W hW => by
          have h := (hW.block w6.heap.size (by omega)).trans hS7
          exact ⟨blk_cell h 0, blk_cell h 1, blk_cell h 2⟩)
        clear hb67 hS7
        have hrefu := lrefuse_any (some ⟨bb, o, none⟩) cap m b dn ⟨nm.toArray⟩ sl kk L (by omega) hdn _ (HN4.out w7 HB47.out)
        rw [HRF.out] at hrefu
        have HREFU := Lib.hid hrefu
        clear hrefu
        refine HREFU.out.mono ?_
        rintro e w8 ⟨rfl, hb8⟩
        have HB48 := Lib.hid (HB47.out.trans (hb8.mono (by omega)))
        have HB78 := Lib.hid hb8
        have hs8 := hb8.size
        clear hb8
        by_cases h5 : rf = 0
        · subst h5
          simp only [not_true_eq_false, if_false, Prod.mk.injEq] at hz2
          obtain ⟨hL', rfl⟩ := hz2
          have hdk : dn ≠ k := fun e => by
            have h1 := HNEW.out.1
            subst e
            exact h2 (HKK.out.symm.trans h1)
          have HL' := Lib.hid (show L' = ((L.set dn (withKids L[dn] (namedL L[dn].kids nm k))).set k { L[k] with links := L[k].links + 1 }) by rw [← hL', Int.toNat_natCast, link_both hdn hk hdk])
          have hlk : 0 ≤ L[k].links ∧ L[k].links ≤ 4611686018427387904 := by
            have h1 := (HF.out.names.2 k hk).1
            rw [countL_get L (kids_pos (kids_there HF.out.ins)) k hk] at h1
            have h2 := few_names HF.out k
            omega
          have hgive := lgive_any (w.heap.size + 2) g cap' dn k m b nm sl L vs hdn hk hdk (kids_rise HF.out.ins dn hdn).2 (HF.out.ins dn hdn).2.1 HNEW.out.2.2 hlk.1 hlk.2 w8 (by have := (HBW.out w8 HB48.out).size; omega) (HO4.out w8 HB48.out)
          have HGIVE := Lib.hid hgive
          obtain ⟨u0, u1, u2⟩ := HS7.out w8 HB78.out
          have hul := cell_lt u0
          have hg3 : g < w3.heap.size := HO3.out.nodes.lt
          clear hgive hL' hlk
          obtain ⟨m0, m1, m2⟩ := HM4.out w8 HB48.out
          have hml := cell_lt m0
          go_wp2_with fail
          refine HGIVE.out.mono ?_
          rintro e w9 ⟨rfl, ⟨vs', hO9⟩, hb9, hkeep⟩
          have hM9 : w9.heap[w3.heap.size]? = w8.heap[w3.heap.size]? := hkeep _ HO3.out.under _ (Nat.le_refl _) (cell_lt m0)
          clear m0 m1 m2 u0 u1 u2 hml hul
          have m0 := (World.cell?_of_block (a := ⟨w3.heap.size, 0, none⟩) hM9).trans (HM4.out w8 HB48.out).1
          have m1 := (World.cell?_of_block (a := ⟨w3.heap.size, 1, none⟩) hM9).trans (HM4.out w8 HB48.out).2.1
          have m2 := (World.cell?_of_block (a := ⟨w3.heap.size, 2, none⟩) hM9).trans (HM4.out w8 HB48.out).2.2
          have hml := cell_lt m0
          have HRX := Lib.hid (show w9.heap[w.heap.size + 1]? = some (.cells #[.slice none 0 0, .int .i64 0, .int .i64 0] 24 (0, 0)) from (hb9.block _ (by omega)).trans (HR4.out w8 HB48.out))
          have r0 := blk_cell HRX.out 0
          have r1 := blk_cell HRX.out 1
          have r2 := blk_cell HRX.out 2
          have s0 := blk_free HRX.out 0
          have s1 := blk_free HRX.out 1
          have s2 := blk_free HRX.out 2
          have hrl := lt_of_block HRX.out
          rw [← HL'.out] at hO9
          have HO9 := Lib.hid hO9
          have HB9 := Lib.hid ((HBW.out w8 HB48.out).trans (hb9.mono (show w.heap.size ≤ w.heap.size + 2 by omega)))
          have hL9 : L'.length = L.length := by rw [HL'.out, List.length_set, List.length_set]
          clear hO9 hb9 hkeep hM9
          go_wp2_with fail
          change bodyPost _ _ _ _ _ (put3 w9 (w.heap.size + 1) (.slice (some ⟨g, 0, none⟩) L.length cap') (.int .i64 m) (.int .i64 b))
          obtain ⟨c0, c1, c2⟩ := put3_cells HRX.out (.slice (some ⟨g, 0, none⟩) L.length cap') (.int .i64 m) (.int .i64 b)
          obtain ⟨hOF, hBF⟩ := end_made3 (c := w.heap.size + 1) HO9.out HB9.out (by omega) (by omega) (.slice (some ⟨g, 0, none⟩) L.length cap') (.int .i64 m) (.int .i64 b)
          have HOG := Lib.hid hOF
          have HBG := Lib.hid hBF
          clear hOF hBF
          generalize put3 w9 (w.heap.size + 1) (.slice (some ⟨g, 0, none⟩) L.length cap') (.int .i64 m) (.int .i64 b) = wF at *
          exact bodyPost_ret (v := .tuple #[.agg #[.slice (some ⟨g, 0, none⟩) L.length cap', .int .i64 m, .int .i64 b], .int .i64 0]) (by simp [results, Tryz.results13, go_sem, c0, c1, c2]) rfl ⟨⟨g, cap', vs', by rw [hL9]; rfl, HOG.out⟩, HBG.out⟩
        · rw [if_pos h5] at hz2
          simp only [Prod.mk.injEq] at hz2
          obtain ⟨rfl, rfl⟩ := hz2
          have hb5 : (rf != 0) = true := by simpa using h5
          have HRX := Lib.hid (HR4.out w8 HB48.out)
          have r0 := blk_cell HRX.out 0
          have r1 := blk_cell HRX.out 1
          have r2 := blk_cell HRX.out 2
          have s0 := blk_free HRX.out 0
          have s1 := blk_free HRX.out 1
          have s2 := blk_free HRX.out 2
          have hrl := lt_of_block HRX.out
          obtain ⟨m0, m1, m2⟩ := HM4.out w8 HB48.out
          have hml := cell_lt m0
          go_wp2_with fail
          change bodyPost _ _ _ _ _ (put3 w8 (w.heap.size + 1) (.slice (some ⟨g, 0, none⟩) L.length cap') (.int .i64 m) (.int .i64 b))
          obtain ⟨c0, c1, c2⟩ := put3_cells HRX.out (.slice (some ⟨g, 0, none⟩) L.length cap') (.int .i64 m) (.int .i64 b)
          obtain ⟨hOF, hBF⟩ := end_made3 (c := w.heap.size + 1) (HO4.out w8 HB48.out) (HBW.out w8 HB48.out) (by omega) (by omega) (.slice (some ⟨g, 0, none⟩) L.length cap') (.int .i64 m) (.int .i64 b)
          have HOG := Lib.hid hOF
          have HBG := Lib.hid hBF
          clear hOF hBF
          generalize put3 w8 (w.heap.size + 1) (.slice (some ⟨g, 0, none⟩) L.length cap') (.int .i64 m) (.int .i64 b) = wF at *
          exact bodyPost_ret (v := .tuple #[.agg #[.slice (some ⟨g, 0, none⟩) L.length cap', .int .i64 m, .int .i64 b], .int .i64 rf]) (by simp [results, Tryz.results13, go_sem, c0, c1, c2]) rfl ⟨⟨g, cap', vs, rfl, HOG.out⟩, HBG.out⟩
      · rw [if_pos h3] at hz2
        simp only [Prod.mk.injEq] at hz2
        obtain ⟨rfl, rfl⟩ := hz2
        have hb3 : (pe != 0) = true := by simpa using h3
        have hb3' : (pe == 0) = false := by simpa using h3
        clear q0 q1 q2 hq
        have HRX := Lib.hid (HR4.out w6 HB46.out)
        have r0 := blk_cell HRX.out 0
        have r1 := blk_cell HRX.out 1
        have r2 := blk_cell HRX.out 2
        have s0 := blk_free HRX.out 0
        have s1 := blk_free HRX.out 1
        have s2 := blk_free HRX.out 2
        have hrl := lt_of_block HRX.out
        obtain ⟨m0, m1, m2⟩ := HM4.out w6 HB46.out
        have hml := cell_lt m0
        go_wp2_with fail
        change bodyPost _ _ _ _ _ ((put3 w6 (w.heap.size + 1) (.slice (some ⟨g, 0, none⟩) L.length cap') (.int .i64 m) (.int .i64 b)).alloc (.cells #[.int .i64 d, .string ⟨nm.toArray⟩, .bool sl] 63))
        obtain ⟨c0, c1, c2⟩ := put3_cells HRX.out (.slice (some ⟨g, 0, none⟩) L.length cap') (.int .i64 m) (.int .i64 b)
        obtain ⟨hOF, hBF⟩ := end_made (HO4.out w6 HB46.out) (HBW.out w6 HB46.out) (.slice (some ⟨g, 0, none⟩) L.length cap') (.int .i64 m) (.int .i64 b)
        have hbx := below_box (put3 w6 (w.heap.size + 1) (.slice (some ⟨g, 0, none⟩) L.length cap') (.int .i64 m) (.int .i64 b)) (.cells #[.int .i64 d, .string ⟨nm.toArray⟩, .bool sl] 63)
        have d0 := cell_below hbx c0
        have d1 := cell_below hbx c1
        have d2 := cell_below hbx c2
        have HOG := Lib.hid (hOF.below hbx)
        have HBG := Lib.hid (hBF.trans (hbx.mono hBF.size))
        clear c0 c1 c2 hOF hBF hbx
        generalize (put3 w6 (w.heap.size + 1) (.slice (some ⟨g, 0, none⟩) L.length cap') (.int .i64 m) (.int .i64 b)).alloc (.cells #[.int .i64 d, .string ⟨nm.toArray⟩, .bool sl] 63) = wF at *
        exact bodyPost_ret (v := .tuple #[.agg #[.slice (some ⟨g, 0, none⟩) L.length cap', .int .i64 m, .int .i64 b], .int .i64 pe]) (by simp [results, Tryz.results13, go_sem, d0, d1, d2]) rfl ⟨⟨g, cap', vs, rfl, HOG.out⟩, HBG.out⟩
  · have hz2 := HZ.out
    unfold linkW at hz2
    rw [HWK.out] at hz2
    rw [if_pos h1] at hz2
    simp only [Prod.mk.injEq] at hz2
    obtain ⟨rfl, rfl⟩ := hz2
    have hb1 : (we != 0) = true := by simpa using h1
    have HRX := Lib.hid (HR4.out w5 HB45.out)
    have r0 := blk_cell HRX.out 0
    have r1 := blk_cell HRX.out 1
    have r2 := blk_cell HRX.out 2
    have s0 := blk_free HRX.out 0
    have s1 := blk_free HRX.out 1
    have s2 := blk_free HRX.out 2
    have hrl := lt_of_block HRX.out
    obtain ⟨m0, m1, m2⟩ := HM4.out w5 HB45.out
    have hml := cell_lt m0
    go_wp2_with fail
    change bodyPost _ _ _ _ _ (put3 w5 (w.heap.size + 1) (.slice (some ⟨g, 0, none⟩) L.length cap') (.int .i64 m) (.int .i64 b))
    obtain ⟨c0, c1, c2⟩ := put3_cells HRX.out (.slice (some ⟨g, 0, none⟩) L.length cap') (.int .i64 m) (.int .i64 b)
    obtain ⟨hOF, hBF⟩ := end_made3 (c := w.heap.size + 1) (HO4.out w5 HB45.out) (HBW.out w5 HB45.out) (by omega) (by omega) (.slice (some ⟨g, 0, none⟩) L.length cap') (.int .i64 m) (.int .i64 b)
    have HOG := Lib.hid hOF
    have HBG := Lib.hid hBF
    clear hOF hBF
    generalize put3 w5 (w.heap.size + 1) (.slice (some ⟨g, 0, none⟩) L.length cap') (.int .i64 m) (.int .i64 b) = wF at *
    exact bodyPost_ret (v := .tuple #[.agg #[.slice (some ⟨g, 0, none⟩) L.length cap', .int .i64 m, .int .i64 b], .int .i64 we]) (by simp [results, Tryz.results13, go_sem, c0, c1, c2]) rfl ⟨⟨g, cap', vs, rfl, HOG.out⟩, HBG.out⟩
end Go.Proofs.YtfmaagcomplooaaGreat
