/-
  make's Link of the landed code: it answers what chapter 5 says.
  The reference's Fit, walked.
  good: which trees and texts the laws of layer 5 speak of.
  The reference's New.
  Plain laws on new trees: they can be, and use just their root.
  What is made, in plain words: the trees stay fit.
  awake: chapter 5's example; good: which trees and texts the laws speak of.
  The reference's Own: a copy of the slice of inodes, whose names' slices are shared.
-/
import Derived.Test.YtogheigpcppeiaaGreatK7
import Derived.Test.YtogheigpcppeiaaGreatK1
import Derived.Test.YtogheigpcppeiaaGreatK3
import Derived.Laws.MakeOwn
import Derived.Test.YtogheigpcppeiaaGreatK2
import Derived.Test.YtogheigpcppeiaaGreatK6
import Derived.Laws.AppendOwnNone
namespace Go.Proofs.YtogheigpcppeiaaGreat
set_option maxRecDepth 100000
open Go Go.RowKit

theorem few_names {L : List Ino} {m b : Int} (hF : FitP L m b) (c : Int) : namesOf (kidsOf L) c ≤ 262144 := by
  have h1 : ∀ (M : List (List UInt8 × Int)), namesOf M c ≤ M.length := fun M => by
    induction M with
    | nil => exact Nat.le_refl _
    | cons e r ih => rw [names_cons, List.length_cons]; split <;> omega
  have h2 : ∀ (l : List Ino), (∀ x ∈ l, x.kids.length ≤ 1024) → (kidsOf l).length ≤ 1024 * l.length := fun l => by
    induction l with
    | nil => exact fun _ => Nat.le_refl _
    | cons x r ih =>
      intro h
      have e1 := ih (fun y hy => h y (List.mem_cons_of_mem _ hy))
      have e2 := h x List.mem_cons_self
      show (x.kids ++ kidsOf r).length ≤ 1024 * (r.length + 1)
      rw [List.length_append]
      omega
  have h3 := h1 (kidsOf L)
  have h4 := h2 L (fun x hx => by obtain ⟨j, hj, rfl⟩ := List.getElem_of_mem hx; exact (hF.ins j hj).2.1)
  obtain ⟨l1, l2, l3, l4, l5⟩ := hF.limits
  omega
/-- A tree in which an inode has one more name. -/
theorem link_both {L : List Ino} {d k : Nat} (hd : d < L.length) (hk : k < L.length) (hdk : d ≠ k) (s : List UInt8) :
    ((L.set d (withKids L[d] (namedL L[d].kids s k))).set k { L[k] with links := L[k].links + 1 }) = addL L d k s { nodeAt L (k : Int) with links := (nodeAt L (k : Int)).links + 1 } := by
  unfold addL
  rw [node_nat L d hd, node_nat L k hk, List.set_comm _ _ hdk]
/-- What Link tells, in the order in which the code asks. -/
theorem link_words {L : List Ino} {m b : Int} (hF : FitP L m b) (cwd : Int) (old p : List UInt8) (k : Nat) (hk : k < L.length) (hw : walkW L cwd old false = ((k : Int), 0)) (h2 : L[k].kind ≠ 2) :
    linkW L cwd old p = if (spotW L cwd p).2.2.2 ≠ 0 then (L, (spotW L cwd p).2.2.2) else if refuseW L (spotW L cwd p).1 (spotW L cwd p).2.2.1 L[k].kind ≠ 0 then (L, refuseW L (spotW L cwd p).1 (spotW L cwd p).2.2.1 L[k].kind) else
      (addL L (spotW L cwd p).1.toNat k (spotW L cwd p).2.1 { nodeAt L (k : Int) with links := (nodeAt L (k : Int)).links + 1 }, 0) := by
  unfold linkW
  rw [hw]
  simp only [ne_eq, not_true_eq_false, if_false]
  rw [if_neg (by rw [node_nat L k hk]; exact h2)]
  unfold spotW
  by_cases h0 : (freshW L cwd p true).2.2 = 0
  · obtain ⟨d, s, hdl, hp, hf, -⟩ := fresh_ok hF h0
    rw [spot_fresh, hf]
    simp only [ne_eq, not_true_eq_false, if_false]
    cases he : endL p with
    | true =>
      have hr : refuseW L (d : Int) true L[k].kind = 20 := by
        unfold refuseW
        rw [if_pos ⟨rfl, h2⟩]
      rw [hr]
      rfl
    | false =>
      have hr : refuseW L (d : Int) false L[k].kind = if 1024 ≤ (nodeAt L (d : Int)).kids.length then 28 else 0 := by
        unfold refuseW
        rw [if_neg (by simp)]
      rw [hr]
      by_cases h1 : 1024 ≤ (nodeAt L (d : Int)).kids.length
      · simp [h1]
      · simp [h1]
  · rw [spot_fresh]
    simp [h0]

set_option maxHeartbeats 8000000 in
theorem llink_any (a : Option Addr) (cap : Nat) (m b cwd : Int) (ob pb : ByteArray) (ho : ob.size ≤ 1073741824) (hp : pb.size ≤ 1073741824) (L : List Ino) (hF : FitP L m b) (L' : List Ino) (ez : Int) (hz : linkW L cwd ob.data.toList pb.data.toList = (L', ez)) (w : World) (hN : NodesIn w a cap L) :
    Calls Tryz.prog 13 #[.agg #[.slice a L.length cap, .int .i64 m, .int .i64 b], .int .i64 cwd, .string ob, .string pb] w (MadeAns w.heap.size w m b L' [.int .i64 ez]) := by
  obtain ⟨⟨wz, we⟩, hwk⟩ : ∃ r, walkW L cwd ob.data.toList false = r := ⟨_, rfl⟩
  obtain ⟨⟨d, nm, sl, pe⟩, hsp⟩ : ∃ r, spotW L cwd pb.data.toList = r := ⟨_, rfl⟩
  have HWK := Lib.hid hwk
  have HSP := Lib.hid hsp
  clear hwk hsp
  obtain ⟨w2, hw2, hb2, hs2, hA, hB⟩ := two_boxes w #[.slice a L.length cap, .int .i64 m, .int .i64 b] #[.slice none 0 0, .int .i64 0, .int .i64 0] 24 24
  obtain ⟨l1, l2, l3, l4, l5⟩ := hF.limits
  have hL0 : 0 < L.length := by omega
  have hL1 : L.length ≤ 256 := by omega
  have HF := Lib.hid hF
  have HN2 := Lib.hid (hN.below hb2)
  have HZ := Lib.hid hz
  have HB2 := Lib.hid hb2
  have HK := Lib.hid (show ∀ x ∈ L, x.kids.length ≤ 4096 from fun x hx => by obtain ⟨j, hj, rfl⟩ := List.getElem_of_mem hx; have := (hF.ins j hj).2.1; omega)
  have HR := Lib.hid (show ∀ W, Below w2.heap.size w2 W → W.heap[w.heap.size + 1]? = some (.cells #[.slice none 0 0, .int .i64 0, .int .i64 0] 24 (0, 0)) from fun W hW => (hW.block _ (by omega)).trans hB)
  have HAll := Lib.hid (show ∀ W, Below w2.heap.size w2 W → W.cell? ⟨w.heap.size, 0, none⟩ = some (.slice a L.length cap) ∧ W.cell? ⟨w.heap.size, 1, none⟩ = some (.int .i64 m) ∧ W.cell? ⟨w.heap.size, 2, none⟩ = some (.int .i64 b) from fun W hW => by
    have h := (hW.block w.heap.size (by omega)).trans hA
    exact ⟨blk_cell h 0, blk_cell h 1, blk_cell h 2⟩)
  clear hF hN hz hb2 hA hB
  go_enter Tryz.func13, Tryz.ntmps13
  go_wp2_with fail
  rw [← hw2]
  clear hw2
  refine (lcopied_any a cap m b L hL0 (by omega) HK.out _ HN2.out).mono ?_
  rintro e w3 ⟨g, cap', vs, rfl, hO3, hb3⟩
  have HO3 := Lib.hid hO3
  have HB3 := Lib.hid hb3
  have hs3 := hb3.size
  obtain ⟨q0, q1, q2⟩ := HAll.out _ hb3
  have hq := cell_lt q0
  clear hO3 hb3
  go_wp2_with fail
  obtain ⟨w4, hw4⟩ : ∃ w4, w4 = w3.alloc (.cells #[.slice (some ⟨g, 0, none⟩) L.length cap', .int .i64 m, .int .i64 b] 24) := ⟨_, rfl⟩
  have hb4 : Below w3.heap.size w3 w4 := by rw [hw4]; exact below_box w3 _
  have hM4 : w4.heap[w3.heap.size]? = some (.cells #[.slice (some ⟨g, 0, none⟩) L.length cap', .int .i64 m, .int .i64 b] 24 (0, 0)) := by rw [hw4]; exact new_block w3 _
  have hs4 : w4.heap.size = w3.heap.size + 1 := by rw [hw4]; simp
  rw [← hw4]
  clear hw4 q0 q1 q2 hq
  have HB34 := Lib.hid hb4
  have HB24 := Lib.hid (HB3.out.trans (hb4.mono hs3))
  have HR4 := Lib.hid (show ∀ W, Below w4.heap.size w4 W → W.heap[w.heap.size + 1]? = some (.cells #[.slice none 0 0, .int .i64 0, .int .i64 0] 24 (0, 0)) from fun W hW => HR.out W (HB24.out.trans (hW.mono (by omega))))
  have HA4 := Lib.hid (show ∀ W, Below w4.heap.size w4 W → W.cell? ⟨w.heap.size, 0, none⟩ = some (.slice a L.length cap) ∧ W.cell? ⟨w.heap.size, 1, none⟩ = some (.int .i64 m) ∧ W.cell? ⟨w.heap.size, 2, none⟩ = some (.int .i64 b) from fun W hW => HAll.out W (HB24.out.trans (hW.mono (by omega))))
  have HM4 := Lib.hid (show ∀ W, Below w4.heap.size w4 W → W.cell? ⟨w3.heap.size, 0, none⟩ = some (.slice (some ⟨g, 0, none⟩) L.length cap') ∧ W.cell? ⟨w3.heap.size, 1, none⟩ = some (.int .i64 m) ∧ W.cell? ⟨w3.heap.size, 2, none⟩ = some (.int .i64 b) from fun W hW => by
    have h := (hW.block w3.heap.size (by omega)).trans hM4
    exact ⟨blk_cell h 0, blk_cell h 1, blk_cell h 2⟩)
  have HN4 := Lib.hid (show ∀ W, Below w4.heap.size w4 W → NodesIn W a cap L from fun W hW => HN2.out.below (HB24.out.trans (hW.mono (by omega))))
  have HO4 := Lib.hid (show ∀ W, Below w4.heap.size w4 W → OwnT W (w.heap.size + 2) g cap' L vs from fun W hW => by
    have := HO3.out.below (HB34.out.trans (hW.mono (by omega)))
    rw [hs2] at this
    exact this)
  have HBW := Lib.hid (show ∀ W, Below w4.heap.size w4 W → Below w.heap.size w W from fun W hW => HB2.out.trans ((HB24.out.trans (hW.mono (by omega))).mono (by omega)))
  clear hb4 hM4 HAll HR
  refine (lwalk_kn _ _ _ _ _ _ ho _ L HF.out _ _ HWK.out _ (HN4.out w4 (Below.refl _ _))).mono ?_
  rintro e w5 ⟨rfl, hb5⟩
  have HB45 := Lib.hid hb5
  have hs5 := hb5.size
  clear hb5
  by_cases h1 : we = 0
  · subst h1
    have hlive := walk_live HF.out (cwd := cwd) (p := ob.data.toList) (f := false) (by rw [HWK.out])
    rw [HWK.out] at hlive
    obtain ⟨k, hk, hwz, hk0⟩ := live_ino hlive
    have hwz' : wz = (k : Int) := hwz
    subst hwz'
    obtain ⟨kk, hkk⟩ : ∃ v, L[k].kind = v := ⟨_, rfl⟩
    have HKK := Lib.hid hkk
    have hkl' : (k : Int) < (L.length : Int) := by omega
    have hk0' : (0 : Int) ≤ (k : Int) := by omega
    obtain ⟨bb, o, hab, hx⟩ := (HN4.out w5 HB45.out).2.2 k hk
    subst hab
    have x0 := hx.kind
    rw [hkk] at x0
    obtain ⟨q0, q1, q2⟩ := HA4.out w5 HB45.out
    have hq := cell_lt q0
    clear hx hkk hlive hwz
    by_cases h2 : kk = 2
    · subst h2
      have hz2 := HZ.out
      unfold linkW at hz2
      rw [HWK.out] at hz2
      simp only [ne_eq, not_true_eq_false, if_false] at hz2
      rw [if_pos (by rw [node_nat L k hk]; exact HKK.out)] at hz2
      simp only [Prod.mk.injEq] at hz2
      obtain ⟨rfl, rfl⟩ := hz2
      have HRX := Lib.hid (HR4.out w5 HB45.out)
      have r0 := blk_cell HRX.out 0
      have r1 := blk_cell HRX.out 1
      have r2 := blk_cell HRX.out 2
      have s0 := blk_free HRX.out 0
      have s1 := blk_free HRX.out 1
      have s2 := blk_free HRX.out 2
      have hrl := lt_of_block HRX.out
      obtain ⟨m0, m1, m2⟩ := HM4.out w5 HB45.out
      have hml := cell_lt m0
      go_wp2_with fail
      change bodyPost _ _ _ _ _ (put3 w5 (w.heap.size + 1) (.slice (some ⟨g, 0, none⟩) L.length cap') (.int .i64 m) (.int .i64 b))
      obtain ⟨c0, c1, c2⟩ := put3_cells HRX.out (.slice (some ⟨g, 0, none⟩) L.length cap') (.int .i64 m) (.int .i64 b)
      obtain ⟨hOF, hBF⟩ := end_made3 (c := w.heap.size + 1) (HO4.out w5 HB45.out) (HBW.out w5 HB45.out) (by omega) (by omega) (.slice (some ⟨g, 0, none⟩) L.length cap') (.int .i64 m) (.int .i64 b)
      have HOG := Lib.hid hOF
      have HBG := Lib.hid hBF
      clear hOF hBF
      generalize put3 w5 (w.heap.size + 1) (.slice (some ⟨g, 0, none⟩) L.length cap') (.int .i64 m) (.int .i64 b) = wF at *
      exact bodyPost_ret (v := .tuple #[.agg #[.slice (some ⟨g, 0, none⟩) L.length cap', .int .i64 m, .int .i64 b], .int .i64 1]) (by simp [results, Tryz.results13, go_sem, c0, c1, c2]) rfl ⟨⟨g, cap', vs, rfl, HOG.out⟩, HBG.out⟩
    · have h2b : (kk == 2) = false := by simpa using h2
      have hz2 := HZ.out
      rw [link_words HF.out cwd ob.data.toList pb.data.toList k hk HWK.out (by rw [HKK.out]; exact h2), HSP.out] at hz2
      simp only [HKK.out] at hz2
      go_wp2_with fail
      refine (lnew_any _ _ _ _ _ _ hp L HF.out _ _ _ _ HSP.out _ (HN4.out w5 HB45.out)).mono ?_
      rintro e w6 ⟨rfl, hb6⟩
      have HB46 := Lib.hid (HB45.out.trans (hb6.mono (by omega)))
      have hs6 := hb6.size
      clear hb6 q0 q1 q2 hq x0
      obtain ⟨q0, q1, q2⟩ := HA4.out w6 HB46.out
      have hq := cell_lt q0
      by_cases h3 : pe = 0
      · subst h3
        simp only [ne_eq, not_true_eq_false, if_false] at hz2
        have hsp0 := HSP.out
        obtain ⟨dn, s', hdn, hpw, hfw, hkd, hnk, hnew, hmay⟩ := fresh_ok HF.out (cwd := cwd) (p := pb.data.toList) (dirs := true) (by
          unfold spotW at hsp0
          split at hsp0
          · rename_i h0
            exfalso
            exact h0 (by simpa using (Prod.mk.inj (Prod.mk.inj (Prod.mk.inj hsp0).2).2).2)
          · rename_i h0
            simpa using h0)
        have hdd : d = (dn : Int) ∧ nm = s' := by
          unfold spotW at hsp0
          rw [hfw] at hsp0
          simp at hsp0
          exact ⟨hsp0.1.symm, hsp0.2.1.symm⟩
        obtain ⟨rfl, rfl⟩ := hdd
        have HNEW := Lib.hid (show L[dn].kind = 2 ∧ nameOkL nm = true ∧ ∀ e ∈ L[dn].kids, e.1 ≠ nm from ⟨hkd, hnk, hnew⟩)
        clear hsp0 hpw hfw hkd hnk hnew hmay
        obtain ⟨rf, hrf⟩ : ∃ v, refuseW L (dn : Int) sl kk = v := ⟨_, rfl⟩
        have HRF := Lib.hid hrf
        simp only [hrf] at hz2
        clear hrf
        go_wp2_with fail
        obtain ⟨w7, hw7⟩ : ∃ w7, w7 = w6.alloc (.cells #[.int .i64 dn, .string ⟨nm.toArray⟩, .bool sl] 63) := ⟨_, rfl⟩
        have hb67 : Below w6.heap.size w6 w7 := by rw [hw7]; exact below_box w6 _
        have hS7 : w7.heap[w6.heap.size]? = some (.cells #[.int .i64 dn, .string ⟨nm.toArray⟩, .bool sl] 63 (0, 0)) := by rw [hw7]; exact new_block w6 _
        have hs7 : w7.heap.size = w6.heap.size + 1 := by rw [hw7]; simp
        rw [← hw7]
        clear hw7 q0 q1 q2 hq
        have HB47 := Lib.hid (HB46.out.trans (hb67.mono (by omega)))
        have HS7 := Lib.hid (show ∀ W, Below w7.heap.size w7 W → W.cell? ⟨w6.heap.size, 0, none⟩ = some (.int .i64 dn) ∧ W.cell? ⟨w6.heap.size, 1, none⟩ = some (.string ⟨nm.toArray⟩) ∧ W.cell? ⟨w6.heap.size, 2, none⟩ = some (.bool sl) from fun W hW => by
          have h := (hW.block w6.heap.size (by omega)).trans hS7
          exact ⟨blk_cell h 0, blk_cell h 1, blk_cell h 2⟩)
        clear hb67 hS7
        have hrefu := lrefuse_any (some ⟨bb, o, none⟩) cap m b dn ⟨nm.toArray⟩ sl kk L (by omega) hdn _ (HN4.out w7 HB47.out)
        rw [HRF.out] at hrefu
        have HREFU := Lib.hid hrefu
        clear hrefu
        refine HREFU.out.mono ?_
        rintro e w8 ⟨rfl, hb8⟩
        have HB48 := Lib.hid (HB47.out.trans (hb8.mono (by omega)))
        have HB78 := Lib.hid hb8
        have hs8 := hb8.size
        clear hb8
        by_cases h5 : rf = 0
        · subst h5
          simp only [not_true_eq_false, if_false, Prod.mk.injEq] at hz2
          obtain ⟨hL', rfl⟩ := hz2
          have hdk : dn ≠ k := fun e => by
            have h1 := HNEW.out.1
            subst e
            exact h2 (HKK.out.symm.trans h1)
          have HL' := Lib.hid (show L' = ((L.set dn (withKids L[dn] (namedL L[dn].kids nm k))).set k { L[k] with links := L[k].links + 1 }) by rw [← hL', Int.toNat_natCast, link_both hdn hk hdk])
          have hlk : 0 ≤ L[k].links ∧ L[k].links ≤ 4611686018427387904 := by
            have h1 := (HF.out.names.2 k hk).1
            rw [countL_get L (kids_pos (kids_there HF.out.ins)) k hk] at h1
            have h2 := few_names HF.out k
            omega
          have hgive := lgive_any (w.heap.size + 2) g cap' dn k m b nm sl L vs hdn hk hdk (kids_rise HF.out.ins dn hdn).2 (HF.out.ins dn hdn).2.1 HNEW.out.2.2 hlk.1 hlk.2 w8 (by have := (HBW.out w8 HB48.out).size; omega) (HO4.out w8 HB48.out)
          have HGIVE := Lib.hid hgive
          obtain ⟨u0, u1, u2⟩ := HS7.out w8 HB78.out
          have hul := cell_lt u0
          have hg3 : g < w3.heap.size := HO3.out.nodes.lt
          clear hgive hL' hlk
          obtain ⟨m0, m1, m2⟩ := HM4.out w8 HB48.out
          have hml := cell_lt m0
          go_wp2_with fail
          refine HGIVE.out.mono ?_
          rintro e w9 ⟨rfl, ⟨vs', hO9⟩, hb9, hkeep⟩
          have hM9 : w9.heap[w3.heap.size]? = w8.heap[w3.heap.size]? := hkeep _ HO3.out.under _ (Nat.le_refl _) (cell_lt m0)
          clear m0 m1 m2 u0 u1 u2 hml hul
          have m0 := (World.cell?_of_block (a := ⟨w3.heap.size, 0, none⟩) hM9).trans (HM4.out w8 HB48.out).1
          have m1 := (World.cell?_of_block (a := ⟨w3.heap.size, 1, none⟩) hM9).trans (HM4.out w8 HB48.out).2.1
          have m2 := (World.cell?_of_block (a := ⟨w3.heap.size, 2, none⟩) hM9).trans (HM4.out w8 HB48.out).2.2
          have hml := cell_lt m0
          have HRX := Lib.hid (show w9.heap[w.heap.size + 1]? = some (.cells #[.slice none 0 0, .int .i64 0, .int .i64 0] 24 (0, 0)) from (hb9.block _ (by omega)).trans (HR4.out w8 HB48.out))
          have r0 := blk_cell HRX.out 0
          have r1 := blk_cell HRX.out 1
          have r2 := blk_cell HRX.out 2
          have s0 := blk_free HRX.out 0
          have s1 := blk_free HRX.out 1
          have s2 := blk_free HRX.out 2
          have hrl := lt_of_block HRX.out
          rw [← HL'.out] at hO9
          have HO9 := Lib.hid hO9
          have HB9 := Lib.hid ((HBW.out w8 HB48.out).trans (hb9.mono (show w.heap.size ≤ w.heap.size + 2 by omega)))
          have hL9 : L'.length = L.length := by rw [HL'.out, List.length_set, List.length_set]
          clear hO9 hb9 hkeep hM9
          go_wp2_with fail
          change bodyPost _ _ _ _ _ (put3 w9 (w.heap.size + 1) (.slice (some ⟨g, 0, none⟩) L.length cap') (.int .i64 m) (.int .i64 b))
          obtain ⟨c0, c1, c2⟩ := put3_cells HRX.out (.slice (some ⟨g, 0, none⟩) L.length cap') (.int .i64 m) (.int .i64 b)
          obtain ⟨hOF, hBF⟩ := end_made3 (c := w.heap.size + 1) HO9.out HB9.out (by omega) (by omega) (.slice (some ⟨g, 0, none⟩) L.length cap') (.int .i64 m) (.int .i64 b)
          have HOG := Lib.hid hOF
          have HBG := Lib.hid hBF
          clear hOF hBF
          generalize put3 w9 (w.heap.size + 1) (.slice (some ⟨g, 0, none⟩) L.length cap') (.int .i64 m) (.int .i64 b) = wF at *
          exact bodyPost_ret (v := .tuple #[.agg #[.slice (some ⟨g, 0, none⟩) L.length cap', .int .i64 m, .int .i64 b], .int .i64 0]) (by simp [results, Tryz.results13, go_sem, c0, c1, c2]) rfl ⟨⟨g, cap', vs', by rw [hL9]; rfl, HOG.out⟩, HBG.out⟩
        · rw [if_pos h5] at hz2
          simp only [Prod.mk.injEq] at hz2
          obtain ⟨rfl, rfl⟩ := hz2
          have hb5 : (rf != 0) = true := by simpa using h5
          have HRX := Lib.hid (HR4.out w8 HB48.out)
          have r0 := blk_cell HRX.out 0
          have r1 := blk_cell HRX.out 1
          have r2 := blk_cell HRX.out 2
          have s0 := blk_free HRX.out 0
          have s1 := blk_free HRX.out 1
          have s2 := blk_free HRX.out 2
          have hrl := lt_of_block HRX.out
          obtain ⟨m0, m1, m2⟩ := HM4.out w8 HB48.out
          have hml := cell_lt m0
          go_wp2_with fail
          change bodyPost _ _ _ _ _ (put3 w8 (w.heap.size + 1) (.slice (some ⟨g, 0, none⟩) L.length cap') (.int .i64 m) (.int .i64 b))
          obtain ⟨c0, c1, c2⟩ := put3_cells HRX.out (.slice (some ⟨g, 0, none⟩) L.length cap') (.int .i64 m) (.int .i64 b)
          obtain ⟨hOF, hBF⟩ := end_made3 (c := w.heap.size + 1) (HO4.out w8 HB48.out) (HBW.out w8 HB48.out) (by omega) (by omega) (.slice (some ⟨g, 0, none⟩) L.length cap') (.int .i64 m) (.int .i64 b)
          have HOG := Lib.hid hOF
          have HBG := Lib.hid hBF
          clear hOF hBF
          generalize put3 w8 (w.heap.size + 1) (.slice (some ⟨g, 0, none⟩) L.length cap') (.int .i64 m) (.int .i64 b) = wF at *
          exact bodyPost_ret (v := .tuple #[.agg #[.slice (some ⟨g, 0, none⟩) L.length cap', .int .i64 m, .int .i64 b], .int .i64 rf]) (by simp [results, Tryz.results13, go_sem, c0, c1, c2]) rfl ⟨⟨g, cap', vs, rfl, HOG.out⟩, HBG.out⟩
      · rw [if_pos h3] at hz2
        simp only [Prod.mk.injEq] at hz2
        obtain ⟨rfl, rfl⟩ := hz2
        have hb3 : (pe != 0) = true := by simpa using h3
        have hb3' : (pe == 0) = false := by simpa using h3
        clear q0 q1 q2 hq
        have HRX := Lib.hid (HR4.out w6 HB46.out)
        have r0 := blk_cell HRX.out 0
        have r1 := blk_cell HRX.out 1
        have r2 := blk_cell HRX.out 2
        have s0 := blk_free HRX.out 0
        have s1 := blk_free HRX.out 1
        have s2 := blk_free HRX.out 2
        have hrl := lt_of_block HRX.out
        obtain ⟨m0, m1, m2⟩ := HM4.out w6 HB46.out
        have hml := cell_lt m0
        go_wp2_with fail
        change bodyPost _ _ _ _ _ ((put3 w6 (w.heap.size + 1) (.slice (some ⟨g, 0, none⟩) L.length cap') (.int .i64 m) (.int .i64 b)).alloc (.cells #[.int .i64 d, .string ⟨nm.toArray⟩, .bool sl] 63))
        obtain ⟨c0, c1, c2⟩ := put3_cells HRX.out (.slice (some ⟨g, 0, none⟩) L.length cap') (.int .i64 m) (.int .i64 b)
        obtain ⟨hOF, hBF⟩ := end_made (HO4.out w6 HB46.out) (HBW.out w6 HB46.out) (.slice (some ⟨g, 0, none⟩) L.length cap') (.int .i64 m) (.int .i64 b)
        have hbx := below_box (put3 w6 (w.heap.size + 1) (.slice (some ⟨g, 0, none⟩) L.length cap') (.int .i64 m) (.int .i64 b)) (.cells #[.int .i64 d, .string ⟨nm.toArray⟩, .bool sl] 63)
        have d0 := cell_below hbx c0
        have d1 := cell_below hbx c1
        have d2 := cell_below hbx c2
        have HOG := Lib.hid (hOF.below hbx)
        have HBG := Lib.hid (hBF.trans (hbx.mono hBF.size))
        clear c0 c1 c2 hOF hBF hbx
        generalize (put3 w6 (w.heap.size + 1) (.slice (some ⟨g, 0, none⟩) L.length cap') (.int .i64 m) (.int .i64 b)).alloc (.cells #[.int .i64 d, .string ⟨nm.toArray⟩, .bool sl] 63) = wF at *
        exact bodyPost_ret (v := .tuple #[.agg #[.slice (some ⟨g, 0, none⟩) L.length cap', .int .i64 m, .int .i64 b], .int .i64 pe]) (by simp [results, Tryz.results13, go_sem, d0, d1, d2]) rfl ⟨⟨g, cap', vs, rfl, HOG.out⟩, HBG.out⟩
  · have hz2 := HZ.out
    unfold linkW at hz2
    rw [HWK.out] at hz2
    rw [if_pos h1] at hz2
    simp only [Prod.mk.injEq] at hz2
    obtain ⟨rfl, rfl⟩ := hz2
    have hb1 : (we != 0) = true := by simpa using h1
    have HRX := Lib.hid (HR4.out w5 HB45.out)
    have r0 := blk_cell HRX.out 0
    have r1 := blk_cell HRX.out 1
    have r2 := blk_cell HRX.out 2
    have s0 := blk_free HRX.out 0
    have s1 := blk_free HRX.out 1
    have s2 := blk_free HRX.out 2
    have hrl := lt_of_block HRX.out
    obtain ⟨m0, m1, m2⟩ := HM4.out w5 HB45.out
    have hml := cell_lt m0
    go_wp2_with fail
    change bodyPost _ _ _ _ _ (put3 w5 (w.heap.size + 1) (.slice (some ⟨g, 0, none⟩) L.length cap') (.int .i64 m) (.int .i64 b))
    obtain ⟨c0, c1, c2⟩ := put3_cells HRX.out (.slice (some ⟨g, 0, none⟩) L.length cap') (.int .i64 m) (.int .i64 b)
    obtain ⟨hOF, hBF⟩ := end_made3 (c := w.heap.size + 1) (HO4.out w5 HB45.out) (HBW.out w5 HB45.out) (by omega) (by omega) (.slice (some ⟨g, 0, none⟩) L.length cap') (.int .i64 m) (.int .i64 b)
    have HOG := Lib.hid hOF
    have HBG := Lib.hid hBF
    clear hOF hBF
    generalize put3 w5 (w.heap.size + 1) (.slice (some ⟨g, 0, none⟩) L.length cap') (.int .i64 m) (.int .i64 b) = wF at *
    exact bodyPost_ret (v := .tuple #[.agg #[.slice (some ⟨g, 0, none⟩) L.length cap', .int .i64 m, .int .i64 b], .int .i64 we]) (by simp [results, Tryz.results13, go_sem, c0, c1, c2]) rfl ⟨⟨g, cap', vs, rfl, HOG.out⟩, HBG.out⟩
end Go.Proofs.YtogheigpcppeiaaGreat

namespace Go.Proofs.YtogheigpcppeiaaGreat
set_option maxRecDepth 100000
open Go Go.RowKit

theorem rrooted_known (a : Option Addr) (cap : Nat) (m b : Int) (L : List Ino) (hL : L.length ≤ 1000) (n : Nat) (hn : n < L.length) (v : Bool) (hv : rootedB L (n : Int) = v) (w : World) (hN : NodesIn w a cap L) :
    Calls Tryz.prog 40 #[.agg #[.slice a L.length cap, .int .i64 m, .int .i64 b], .int .i64 n] w fun e w' => e = .returned (.bool v) ∧ Below w.heap.size w w' := by
  subst hv
  exact rrooted_any a cap m b L hL n hn w hN

set_option maxRecDepth 100000 in
set_option maxHeartbeats 16000000 in
theorem rfit_any (a : Option Addr) (cap : Nat) (m b : Int) (L : List Ino) (hL : L.length ≤ 300) (hS : Sized L) (w : World) (hN : NodesIn w a cap L) :
    Calls Tryz.prog 17 #[.agg #[.slice a L.length cap, .int .i64 m, .int .i64 b]] w fun e w' => TellsP (RFitP L m b) e ∧ Below w.heap.size w w' := by
  by_cases hh : RHead L m b
  case neg => exact rfit_head a cap m b L (by omega) hh w hN
  obtain ⟨h1, h2, h3, h4, h5, h6, h7⟩ := hh
  have HH := Lib.hid (show RHead L m b from ⟨h1, h2, h3, h4, h5, h6, h7⟩)
  obtain ⟨i0, hi, hz0, hz1, hz2⟩ := info_parts infoInt
  have hb1 := below_box w (.cells #[.slice a L.length cap, .int .i64 m, .int .i64 b] 24)
  obtain ⟨w1, hw1⟩ : ∃ w1, w1 = w.alloc (.cells #[.slice a L.length cap, .int .i64 m, .int .i64 b] 24) := ⟨_, rfl⟩
  have hM := hN.below hb1
  have hsz : w1.heap.size = w.heap.size + 1 := by rw [hw1]; simp
  have hbox : ∀ W', Below w1.heap.size w1 W' → W'.cell? ⟨w.heap.size, 0, none⟩ = some (.slice a L.length cap) ∧ W'.cell? ⟨w.heap.size, 1, none⟩ = some (.int .i64 m) ∧ W'.cell? ⟨w.heap.size, 2, none⟩ = some (.int .i64 b) := fun W' h => box3 (by rw [← hw1]; exact h)
  have hmk : (Instr.makeSlice 70 (.int .i64 (L.length : Int)) (.int .i64 (L.length : Int))).run Tryz.prog (w.alloc (.cells #[.slice a L.length cap, .int .i64 m, .int .i64 b] 24)) =
      .ok (.slice (some ⟨w.heap.size + 1, 0, none⟩) L.length L.length) ((w.alloc (.cells #[.slice a L.length cap, .int .i64 m, .int .i64 b] 24)).alloc (.cells ((zeros L.length).map intv).toArray 3)) := by
    have h := run_makeSlice (P := Tryz.prog) (w.alloc (.cells #[.slice a L.length cap, .int .i64 m, .int .i64 b] 24)) 70 3 i0 (.int .i64 0) Tryz.underlying70 hi hz0 .i64 .i64 (L.length : Int) (L.length : Int) (by omega) (Int.le_refl _) (by rw [hz1]; simp; omega) (by rw [hz2]; omega) (by omega)
    rw [hz1, World.size_alloc, Int.toNat_natCast, made_int] at h
    exact h
  rw [← hw1] at hM hb1
  have HM := Lib.hid hM
  have HB := Lib.hid hb1
  have HX := Lib.hid hbox
  have HS := Lib.hid hS
  have HEND := Lib.hid (show ∀ W', Below w1.heap.size w1 W' → Below w.heap.size w W' from fun W' h => HB.out.trans (h.mono (by rw [hsz]; omega)))
  obtain ⟨w2, hw2⟩ : ∃ w2, w2 = w1.alloc (.cells ((zeros L.length).map intv).toArray 3) := ⟨_, rfl⟩
  have hcnt0 : CountIn w2 (w.heap.size + 1) (zeros L.length) := by rw [hw2, ← hsz]; exact new_block _ _
  have hb12 : Below w1.heap.size w1 w2 := by rw [hw2]; exact below_box _ _
  have HC0 := Lib.hid hcnt0
  have HB12 := Lib.hid hb12
  have HSZ := Lib.hid hsz
  obtain ⟨bb, o, rfl, hx⟩ := HM.out.2.2 0 (by omega)
  have HN0 := Lib.hid (show nodeAt L 0 = L[0] from node_nat L 0 (by omega))
  rw [HN0.out] at h6 h7
  have x0 := hx.kind
  have x5 := hx.up
  rw [Nat.zero_mul, Nat.add_zero, hw1] at x0 x5
  rw [h6] at x0
  rw [h7] at x5
  have hlen : (0 : Int) < (L.length : Int) := by omega
  obtain ⟨R, hR⟩ : ∃ R, R = RFitP L m b := ⟨_, rfl⟩
  have HR := Lib.hid hR
  rw [← hR]
  clear hM hN hb1 hS hbox hsz hcnt0 hb12 hi hz0 hz1 hz2 hx h6 h7 hR
  go_enter Tryz.func17, Tryz.ntmps17
  go_wp2_with fail
  rw [← hw1, ← hw2]
  clear hw1 hw2 hmk x0 x5
  go_loopw [5, 6] (fun bv iv wr => RF1 L (w.heap.size + 1) w1 bv iv wr) (fun _ iv _ => L.length - (intOf iv).toNat)
  case atStart => exact ⟨0, by omega, rfl, rfl, fun _ _ h => absurd h (Nat.not_lt_zero _), HC0.out, HB12.out⟩
  case round =>
    obtain ⟨k, hk, rfl, rfl, hok, hcnt, hbr⟩ := hrel
    have HOK := Lib.hid hok.out
    have HCNT := Lib.hid hcnt
    have HBR := Lib.hid hbr
    have hszr := hbr.size
    obtain ⟨q0, q1, q2⟩ := HX.out _ hbr
    clear hok hcnt hbr
    by_cases hlt : k < L.length
    · obtain ⟨b2, o2, e2, hx⟩ := HM.out.2.2 k hlt
      obtain ⟨rfl, rfl⟩ : b2 = bb ∧ o2 = o := by simpa [eq_comm] using e2
      have x0 := cell_below HBR.out hx.kind
      have x1 := cell_below HBR.out hx.mode
      have x2 := cell_below HBR.out hx.links
      have x3 := cell_below HBR.out hx.data
      obtain ⟨kv, x4', hks⟩ := hx.kids
      have x4 := cell_below HBR.out x4'
      have x5 := cell_below HBR.out hx.up
      obtain ⟨ka, kcap, rfl, -, -, -⟩ := hks
      have gb : b2 < wr.heap.size := cell_lt x0
      have gw : w.heap.size < wr.heap.size := by have := HSZ.out; omega
      have HBX := Lib.hid (show ∀ o, Below wr.heap.size wr (wr.alloc o) from fun o => below_box wr o)
      have hk0 : (0 : Int) ≤ (k : Int) := by omega
      have hkl : (k : Int) < (L.length : Int) := by omega
      have HSK := Lib.hid (HS.out k hlt)
      have hss := str_len L[k].data
      have hbt : usedB (L.take k) ≤ k * 65536 := by
        have h := usedB_le 65536 (L.take k) (fun j hj => by
          have hj' : j < k := by simp at hj; omega
          have h2 := (HOK.out j (by omega) hj').data
          simpa using h2)
        simp only [List.length_take] at h
        have h3 : min k L.length = k := by omega
        rw [h3] at h
        exact h
      have hbt2 : usedB (L.take k) ≤ 19660800 := by omega
      have HUB := Lib.hid (show usedB (L.take (k + 1)) = usedB (L.take k) + L[k].data.length by rw [List.take_succ_eq_append_getElem hlt, usedB_snoc])
      clear e2 hx x4' hbt
      go_wp2_with fail
      refine (ralone_any _ _ _ _ _ (by have := HSK.out.1; omega) _ _ _ _).mono ?_
      rintro e w3 ⟨he, hb3⟩
      obtain ⟨al, hal⟩ : ∃ al, al = aloneB L[k] := ⟨_, rfl⟩
      rw [show aloneB ⟨L[k].kind, L[k].mode, L[k].links, L[k].data, L[k].kids, L[k].up⟩ = aloneB L[k] from rfl, ← hal] at he
      subst he
      have HAL := Lib.hid hal
      obtain ⟨p0, p1, p2, p3, p4, p5⟩ := box6 hb3
      have hb3' : Below wr.heap.size wr w3 := (HBX.out _).trans (hb3.mono (by simp))
      have HB3 := Lib.hid (HBR.out.trans (hb3'.mono hszr))
      have HC3 := Lib.hid (HCNT.out.below hb3')
      obtain ⟨r0, r1, r2⟩ := HX.out _ HB3.out
      have hs3 := HB3.out.size
      have gr3 : wr.heap.size < w3.heap.size := by have := hb3.size; rw [World.size_alloc] at this; omega
      clear hb3 hb3' hal q0 q1 q2 x0 x1 x2 x3 x4 x5
      cases al with
      | false =>
        have hno := Lib.hid (show ¬ R from fun h => by rw [HR.out] at h; have h1 := (h.ins k hlt).alone; rw [← HAL.out] at h1; cases h1)
        go_wp2_with fail
        go_ret
        exact ⟨TellsP.no rfl hno.out, HEND.out _ HB3.out⟩
      | true =>
        by_cases hdl : L[k].data.length ≤ 65536
        · by_cases hk2 : L[k].kind = 2
          · have hk2b : (L[k].kind == 2) = true := by simpa using hk2
            have HK2 := Lib.hid hk2
            clear hk2
            cases hth : thereB L L[k].up with
            | false =>
              have HTH := Lib.hid hth
              have hno := Lib.hid (show ¬ R from fun h => by rw [HR.out] at h; have h1 := ((h.ins k hlt).dir HK2.out).1; rw [hth] at h1; cases h1)
              clear hth
              go_wp2_with fail
              refine (rthere_known _ _ _ _ _ L _ HTH.out _).mono ?_
              rintro e w4 ⟨rfl, hb4⟩
              have HB4 := Lib.hid (HB3.out.trans (hb4.mono hs3))
              clear hb4
              go_wp2_with fail
              go_ret
              exact ⟨TellsP.no rfl hno.out, HEND.out _ HB4.out⟩
            | true =>
              have HTH := Lib.hid hth
              clear hth
              go_wp2_with fail
              refine (rthere_known _ _ _ _ _ L _ HTH.out _).mono ?_
              rintro e w4 ⟨rfl, hb4⟩
              have HB4 := Lib.hid (HB3.out.trans (hb4.mono hs3))
              have HC4 := Lib.hid (HC3.out.below hb4)
              have s4 := cell_below hb4 p4
              obtain ⟨q0, q1, q2⟩ := HX.out _ HB4.out
              clear hb4 p0 p1 p2 p3 p4 p5 r0 r1 r2
              by_cases hkl2 : L[k].kids.length ≤ 1024
              · have hkl3 : ¬ (1024 : Int) < (L[k].kids.length : Int) := by omega
                have HLOW := Lib.hid (show Low (bump (zeros L.length) (kidsOf (L.take k))) 307200 from fun z hz => by
                  have h1 := low_bump (kidsOf (L.take k)) (zeros L.length) 0 (Int.le_refl _) (low_zeros _) z hz
                  have h2 := kidsOf_len 1024 (L.take k) (fun j hj => by
                    have hj' : j < k := by simp at hj; omega
                    have h3 := HOK.out j (by omega) hj'
                    by_cases h4 : (L[j]'(by omega)).kind = 2
                    · have h5 := (h3.dir h4).2.1
                      simpa using h5
                    · have h5 := no_kids h3.alone h4
                      simp [h5])
                  simp only [List.length_take] at h2
                  omega)
                have HCALL := Lib.hid (rkids_any (w.heap.size + 1) b2 o2 k cap L.length m b L hL hlt hkl2 (fun e he => by have := HSK.out.2 e he; omega) (bump (zeros L.length) (kidsOf (L.take k))) (by rw [bump_len]; simp [zeros]) 307200 (by omega) (by omega) HLOW.out
                  w1 w4 HM.out HB4.out (by rw [HSZ.out]; exact Nat.le_refl _) HC4.out (Nat.le_refl _) (by unfold maxLen; omega))
                go_wp2_with fail
                refine HCALL.out.mono ?_
                rintro e w5 ⟨v, rfl, hb5, hy, hn⟩
                have HB5 := Lib.hid (HB4.out.trans (show Below w1.heap.size w4 w5 by rw [HSZ.out]; exact hb5))
                have HY := Lib.hid hy
                have HNN := Lib.hid hn
                clear hb5 hy hn s4 q0 q1 q2
                cases v with
                | false =>
                  have hno := Lib.hid (show ¬ R from fun h => by rw [HR.out] at h; exact HNN.out (by simp) ((h.ins k hlt).dir HK2.out).2.2)
                  go_wp2_with fail
                  go_ret
                  exact ⟨TellsP.no rfl hno.out, HEND.out _ HB5.out⟩
                | true =>
                  have hnext := Lib.hid (show ∀ j (h : j < L.length), j < k + 1 → RA L j h from fun j h hj => by
                    by_cases e : j = k
                    · subst e
                      exact ⟨HAL.out.symm, hdl, fun _ => ⟨HTH.out, hkl2, (HY.out (by simp)).1⟩⟩
                    · exact HOK.out j h (by omega))
                  have HCN := Lib.hid (show CountIn w5 (w.heap.size + 1) (bump (zeros L.length) (kidsOf (L.take (k + 1)))) by
                    rw [kidsOf_take L k hlt, bump_app]
                    exact (HY.out (by simp)).2)
                  go_wp2_with fail
                  go_roundw
                  case rel => exact ⟨k + 1, by omega, by go_num, by rw [HUB.out]; go_num, hnext, HCN.out, HB5.out⟩
                  case measure => simp [intOf] <;> omega
              · have hkl3 : (1024 : Int) < (L[k].kids.length : Int) := by omega
                have hno := Lib.hid (show ¬ R from fun h => by rw [HR.out] at h; exact hkl2 ((h.ins k hlt).dir HK2.out).2.1)
                clear hkl2
                go_wp2_with fail
                go_ret
                exact ⟨TellsP.no rfl hno.out, HEND.out _ HB4.out⟩
          · have hk2b : (L[k].kind == 2) = false := by simpa using hk2
            have hnext := Lib.hid (show ∀ j (h : j < L.length), j < k + 1 → RA L j h from fun j h hj => by
              by_cases e : j = k
              · subst e
                exact ⟨HAL.out.symm, hdl, fun h2 => absurd h2 hk2⟩
              · exact HOK.out j h (by omega))
            have HCN := Lib.hid (show CountIn w3 (w.heap.size + 1) (bump (zeros L.length) (kidsOf (L.take (k + 1)))) by
              rw [kidsOf_take L k hlt, no_kids HAL.out.symm hk2, List.append_nil]
              exact HC3.out)
            clear hk2
            go_wp2_with fail
            go_roundw
            case rel => exact ⟨k + 1, by omega, by go_num, by rw [HUB.out]; go_num, hnext, HCN.out, HB3.out⟩
            case measure => simp [intOf] <;> omega
        · have hno := Lib.hid (show ¬ R from fun h => by rw [HR.out] at h; exact hdl (h.ins k hlt).data)
          have hdl' : 65536 < L[k].data.length := by omega
          clear hdl
          go_wp2_with fail
          go_ret
          exact ⟨TellsP.no rfl hno.out, HEND.out _ HB3.out⟩
    · have HA := Lib.hid (show ∀ j (h : j < L.length), RA L j h from fun j h => HOK.out j h (by omega))
      have HC3 := Lib.hid (show CountIn wr (w.heap.size + 1) (countL L) by
        have h := HCNT.out
        rw [List.take_of_length_le (show L.length ≤ k by omega)] at h
        exact h)
      have hub : L.take k = L := List.take_of_length_le (by omega)
      rw [hub]
      have HUB := Lib.hid (show usedB L ≤ 19660800 by
        have h := usedB_le 65536 L (fun j hj => (HA.out j hj).data)
        omega)
      clear hub HCNT HOK q0 q1 q2
      go_wp2_with fail
      have HBR0 := Lib.hid HBR.out
      clear HBR hszr
      go_loopw [8] (fun iv W => RF2 L (w.heap.size + 1) w1 iv W) (fun iv _ => L.length - (intOf iv).toNat)
      case atStart => exact ⟨0, by omega, rfl, fun _ _ h => absurd h (Nat.not_lt_zero _), HC3.out, HBR0.out⟩
      case round =>
        obtain ⟨k, hk, rfl, hok, hcnt, hbr⟩ := hrel
        have HOK := Lib.hid hok.out
        have HCNT := Lib.hid hcnt
        have HBR := Lib.hid hbr
        have hszr := hbr.size
        obtain ⟨q0, q1, q2⟩ := HX.out _ hbr
        clear hok hcnt hbr HC3 HBR0
        by_cases hlt : k < L.length
        · obtain ⟨b2, o2, e2, hx⟩ := HM.out.2.2 k hlt
          obtain ⟨rfl, rfl⟩ : b2 = bb ∧ o2 = o := by simpa [eq_comm] using e2
          have x0 := cell_below HBR.out hx.kind
          have x1 := cell_below HBR.out hx.mode
          have x2 := cell_below HBR.out hx.links
          have x3 := cell_below HBR.out hx.data
          obtain ⟨kv, x4', hks⟩ := hx.kids
          have x4 := cell_below HBR.out x4'
          have x5 := cell_below HBR.out hx.up
          obtain ⟨ka, kcap, rfl, -, -, -⟩ := hks
          have gb : b2 < wr.heap.size := cell_lt x0
          have hk0 : (0 : Int) ≤ (k : Int) := by omega
          have hkl : (k : Int) < (L.length : Int) := by omega
          clear e2 hx x4'
          go_wp2_with fail
          obtain ⟨wq, hwq⟩ : ∃ wq, wq = wr.alloc (.cells #[.int .i64 L[k].kind, .int .i64 L[k].mode, .int .i64 L[k].links, .string ⟨L[k].data.toArray⟩, .slice ka L[k].kids.length kcap, .int .i64 L[k].up] 49) := ⟨_, rfl⟩
          rw [← hwq]
          have hbq : Below wr.heap.size wr wq := by rw [hwq]; exact below_box _ _
          have HBQ := Lib.hid (HBR.out.trans (hbq.mono hszr))
          have HCQ := Lib.hid (HCNT.out.below hbq)
          obtain ⟨p0, -, p2, -, -, -⟩ := box6 (W' := wq) (w := wr) (x0 := .int .i64 L[k].kind) (x1 := .int .i64 L[k].mode) (x2 := .int .i64 L[k].links) (x3 := .string ⟨L[k].data.toArray⟩) (x4 := .slice ka L[k].kids.length kcap) (x5 := .int .i64 L[k].up) (t := 49) (by rw [hwq]; exact Below.refl _ _)
          have hcu := HCQ.out.cell k (by rw [countL_len]; exact hlt)
          obtain ⟨z, hz⟩ : ∃ z, z = (countL L)[k]'(by rw [countL_len]; exact hlt) := ⟨_, rfl⟩
          obtain ⟨rt, hrt0⟩ : ∃ rt, rootedB L (k : Int) = rt := ⟨_, rfl⟩
          have HRT := Lib.hid hrt0
          rw [← hz] at hcu
          have HNEXT := Lib.hid (show (L[k].links = z ∧ ¬ (L[k].kind ≠ 0 ∧ 0 < k ∧ z = 0) ∧ ¬ (L[k].kind = 2 ∧ (rt = false ∨ 0 < k ∧ z ≠ 1))) → ∀ j (h : j < L.length), j < k + 1 → RB L j h from fun h1 j h hj => by
            by_cases e : j = k
            · subst e
              unfold RB
              rw [← hz, hrt0]
              exact h1
            · exact HOK.out j h (by omega))
          have HNOT := Lib.hid (show ¬ (L[k].links = z ∧ ¬ (L[k].kind ≠ 0 ∧ 0 < k ∧ z = 0) ∧ ¬ (L[k].kind = 2 ∧ (rt = false ∨ 0 < k ∧ z ≠ 1))) → ¬ R from fun h1 h => h1 (by
            rw [HR.out] at h
            have h2 := h.nam k hlt
            unfold RB at h2
            rw [← hz, hrt0] at h2
            exact h2))
          have f0 := grown_cell p0
          have f1 := grown_cell p2
          have f2 := grown_cell hcu
          obtain ⟨t0, t1, t2⟩ := HX.out _ HBQ.out
          have f3 := grown_cell t0
          have f4 := grown_cell t1
          have f5 := grown_cell t2
          clear hwq hbq p0 p2 hcu hz hrt0 t0 t1 t2 x0 x1 x2 x3 x4 x5 q0 q1 q2
          by_cases c1 : L[k].links = z
          · have c1b : (L[k].links != z) = false := by simpa using c1
            by_cases c2 : L[k].kind = 0
            · have c2b : (L[k].kind != 0) = false := by simpa using c2
              have c2c : (L[k].kind == 2) = false := by rw [c2]; rfl
              have hy : (L[k].links = z ∧ ¬ (L[k].kind ≠ 0 ∧ 0 < k ∧ z = 0) ∧ ¬ (L[k].kind = 2 ∧ (rt = false ∨ 0 < k ∧ z ≠ 1))) := ⟨c1, fun h => h.1 c2, fun h => by have := h.1; omega⟩
              have HY := Lib.hid hy
              clear hy c1 c2
              have hnext := Lib.hid (HNEXT.out HY.out)
              refine wp_region_grown (by kernel_rfl) (by kernel_rfl) ?_
              repeat (first | go_big_quiet_skip | (go_big_quiet_want; go_big_quiet_op; (first | go_big_quiet_on | (refine ⟨_, grown_call (fun W hW => rrooted_known _ _ _ _ L (by omega) k hlt _ HRT.out W (HM.out.below (HBQ.out.trans (hW.mono HBQ.out.size)))), ?_⟩; go_big_quiet_on))))
              refine wpQuiet_nil ?_
              intro w4 hw4
              have hbg : Below wq.heap.size wq w4 := by obtain ⟨x, rfl⟩ := hw4; exact x.below
              have HB4 := Lib.hid (HBQ.out.trans (hbg.mono HBQ.out.size))
              have HC4 := Lib.hid (HCQ.out.below hbg)
              clear hw4 hbg f0 f1 f2 f3 f4 f5
              go_wp2_with fail
              go_roundw
              case rel => exact ⟨k + 1, by omega, by go_num, hnext.out, HC4.out, HB4.out⟩
              case measure => simp [intOf] <;> omega
            · have c2b : (L[k].kind != 0) = true := by simpa using c2
              by_cases c3 : 0 < k
              · by_cases c4 : z = 0
                · have c4b : (z == 0) = true := by simpa using c4
                  have HN := Lib.hid (show ¬ (L[k].links = z ∧ ¬ (L[k].kind ≠ 0 ∧ 0 < k ∧ z = 0) ∧ ¬ (L[k].kind = 2 ∧ (rt = false ∨ 0 < k ∧ z ≠ 1))) from fun h => h.2.1 ⟨c2, c3, c4⟩)
                  clear c1 c2 c4
                  have hno := Lib.hid (HNOT.out HN.out)
                  refine wp_region_grown (by kernel_rfl) (by kernel_rfl) ?_
                  repeat (first | go_big_quiet_skip | (go_big_quiet_want; go_big_quiet_op; (first | go_big_quiet_on | (refine ⟨_, grown_call (fun W hW => rrooted_known _ _ _ _ L (by omega) k hlt _ HRT.out W (HM.out.below (HBQ.out.trans (hW.mono HBQ.out.size)))), ?_⟩; go_big_quiet_on))))
                  refine wpQuiet_nil ?_
                  intro w4 hw4
                  have hbg : Below wq.heap.size wq w4 := by obtain ⟨x, rfl⟩ := hw4; exact x.below
                  have HB4 := Lib.hid (HBQ.out.trans (hbg.mono HBQ.out.size))
                  have HC4 := Lib.hid (HCQ.out.below hbg)
                  clear hw4 hbg f0 f1 f2 f3 f4 f5
                  go_wp2_with fail
                  go_ret
                  exact ⟨TellsP.no rfl hno.out, HEND.out _ HB4.out⟩
                · have c4b : (z == 0) = false := by simpa using c4
                  by_cases c5 : L[k].kind = 2
                  · have c5b : (L[k].kind == 2) = true := by simpa using c5
                    cases hrt : rt with
                    | false =>
                      have HN := Lib.hid (show ¬ (L[k].links = z ∧ ¬ (L[k].kind ≠ 0 ∧ 0 < k ∧ z = 0) ∧ ¬ (L[k].kind = 2 ∧ (rt = false ∨ 0 < k ∧ z ≠ 1))) from fun h => h.2.2 ⟨c5, Or.inl hrt⟩)
                      subst hrt
                      clear c1 c2 c4 c5
                      have hno := Lib.hid (HNOT.out HN.out)
                      refine wp_region_grown (by kernel_rfl) (by kernel_rfl) ?_
                      repeat (first | go_big_quiet_skip | (go_big_quiet_want; go_big_quiet_op; (first | go_big_quiet_on | (refine ⟨_, grown_call (fun W hW => rrooted_known _ _ _ _ L (by omega) k hlt _ HRT.out W (HM.out.below (HBQ.out.trans (hW.mono HBQ.out.size)))), ?_⟩; go_big_quiet_on))))
                      refine wpQuiet_nil ?_
                      intro w4 hw4
                      have hbg : Below wq.heap.size wq w4 := by obtain ⟨x, rfl⟩ := hw4; exact x.below
                      have HB4 := Lib.hid (HBQ.out.trans (hbg.mono HBQ.out.size))
                      have HC4 := Lib.hid (HCQ.out.below hbg)
                      clear hw4 hbg f0 f1 f2 f3 f4 f5
                      go_wp2_with fail
                      go_ret
                      exact ⟨TellsP.no rfl hno.out, HEND.out _ HB4.out⟩
                    | true =>
                      by_cases c6 : z = 1
                      · have c6b : (z != 1) = false := by simpa using c6
                        have HY := Lib.hid (show (L[k].links = z ∧ ¬ (L[k].kind ≠ 0 ∧ 0 < k ∧ z = 0) ∧ ¬ (L[k].kind = 2 ∧ (rt = false ∨ 0 < k ∧ z ≠ 1))) from ⟨c1, fun h => c4 h.2.2, fun h => by rcases h.2 with h2 | ⟨-, h2⟩; rw [hrt] at h2; cases h2; exact h2 c6⟩)
                        subst hrt
                        clear c1 c2 c4 c5 c6
                        have hnext := Lib.hid (HNEXT.out HY.out)
                        refine wp_region_grown (by kernel_rfl) (by kernel_rfl) ?_
                        repeat (first | go_big_quiet_skip | (go_big_quiet_want; go_big_quiet_op; (first | go_big_quiet_on | (refine ⟨_, grown_call (fun W hW => rrooted_known _ _ _ _ L (by omega) k hlt _ HRT.out W (HM.out.below (HBQ.out.trans (hW.mono HBQ.out.size)))), ?_⟩; go_big_quiet_on))))
                        refine wpQuiet_nil ?_
                        intro w4 hw4
                        have hbg : Below wq.heap.size wq w4 := by obtain ⟨x, rfl⟩ := hw4; exact x.below
                        have HB4 := Lib.hid (HBQ.out.trans (hbg.mono HBQ.out.size))
                        have HC4 := Lib.hid (HCQ.out.below hbg)
                        clear hw4 hbg f0 f1 f2 f3 f4 f5
                        go_wp2_with fail
                        go_roundw
                        case rel => exact ⟨k + 1, by omega, by go_num, hnext.out, HC4.out, HB4.out⟩
                        case measure => simp [intOf] <;> omega
                      · have c6b : (z != 1) = true := by simpa using c6
                        have HN := Lib.hid (show ¬ (L[k].links = z ∧ ¬ (L[k].kind ≠ 0 ∧ 0 < k ∧ z = 0) ∧ ¬ (L[k].kind = 2 ∧ (rt = false ∨ 0 < k ∧ z ≠ 1))) from fun h => h.2.2 ⟨c5, Or.inr ⟨c3, c6⟩⟩)
                        subst hrt
                        clear c1 c2 c4 c5 c6
                        have hno := Lib.hid (HNOT.out HN.out)
                        refine wp_region_grown (by kernel_rfl) (by kernel_rfl) ?_
                        repeat (first | go_big_quiet_skip | (go_big_quiet_want; go_big_quiet_op; (first | go_big_quiet_on | (refine ⟨_, grown_call (fun W hW => rrooted_known _ _ _ _ L (by omega) k hlt _ HRT.out W (HM.out.below (HBQ.out.trans (hW.mono HBQ.out.size)))), ?_⟩; go_big_quiet_on))))
                        refine wpQuiet_nil ?_
                        intro w4 hw4
                        have hbg : Below wq.heap.size wq w4 := by obtain ⟨x, rfl⟩ := hw4; exact x.below
                        have HB4 := Lib.hid (HBQ.out.trans (hbg.mono HBQ.out.size))
                        have HC4 := Lib.hid (HCQ.out.below hbg)
                        clear hw4 hbg f0 f1 f2 f3 f4 f5
                        go_wp2_with fail
                        go_ret
                        exact ⟨TellsP.no rfl hno.out, HEND.out _ HB4.out⟩
                  · have c5b : (L[k].kind == 2) = false := by simpa using c5
                    have HY := Lib.hid (show (L[k].links = z ∧ ¬ (L[k].kind ≠ 0 ∧ 0 < k ∧ z = 0) ∧ ¬ (L[k].kind = 2 ∧ (rt = false ∨ 0 < k ∧ z ≠ 1))) from ⟨c1, fun h => c4 h.2.2, fun h => c5 h.1⟩)
                    clear c1 c2 c4 c5
                    have hnext := Lib.hid (HNEXT.out HY.out)
                    refine wp_region_grown (by kernel_rfl) (by kernel_rfl) ?_
                    repeat (first | go_big_quiet_skip | (go_big_quiet_want; go_big_quiet_op; (first | go_big_quiet_on | (refine ⟨_, grown_call (fun W hW => rrooted_known _ _ _ _ L (by omega) k hlt _ HRT.out W (HM.out.below (HBQ.out.trans (hW.mono HBQ.out.size)))), ?_⟩; go_big_quiet_on))))
                    refine wpQuiet_nil ?_
                    intro w4 hw4
                    have hbg : Below wq.heap.size wq w4 := by obtain ⟨x, rfl⟩ := hw4; exact x.below
                    have HB4 := Lib.hid (HBQ.out.trans (hbg.mono HBQ.out.size))
                    have HC4 := Lib.hid (HCQ.out.below hbg)
                    clear hw4 hbg f0 f1 f2 f3 f4 f5
                    go_wp2_with fail
                    go_roundw
                    case rel => exact ⟨k + 1, by omega, by go_num, hnext.out, HC4.out, HB4.out⟩
                    case measure => simp [intOf] <;> omega
              · have c3b : decide (0 < k) = false := decide_eq_false c3
                by_cases c5 : L[k].kind = 2
                · have c5b : (L[k].kind == 2) = true := by simpa using c5
                  cases hrt : rt with
                  | false =>
                    have HN := Lib.hid (show ¬ (L[k].links = z ∧ ¬ (L[k].kind ≠ 0 ∧ 0 < k ∧ z = 0) ∧ ¬ (L[k].kind = 2 ∧ (rt = false ∨ 0 < k ∧ z ≠ 1))) from fun h => h.2.2 ⟨c5, Or.inl hrt⟩)
                    subst hrt
                    clear c1 c2 c3 c5
                    have hno := Lib.hid (HNOT.out HN.out)
                    refine wp_region_grown (by kernel_rfl) (by kernel_rfl) ?_
                    repeat (first | go_big_quiet_skip | (go_big_quiet_want; go_big_quiet_op; (first | go_big_quiet_on | (refine ⟨_, grown_call (fun W hW => rrooted_known _ _ _ _ L (by omega) k hlt _ HRT.out W (HM.out.below (HBQ.out.trans (hW.mono HBQ.out.size)))), ?_⟩; go_big_quiet_on))))
                    refine wpQuiet_nil ?_
                    intro w4 hw4
                    have hbg : Below wq.heap.size wq w4 := by obtain ⟨x, rfl⟩ := hw4; exact x.below
                    have HB4 := Lib.hid (HBQ.out.trans (hbg.mono HBQ.out.size))
                    have HC4 := Lib.hid (HCQ.out.below hbg)
                    clear hw4 hbg f0 f1 f2 f3 f4 f5
                    go_wp2_with fail
                    go_ret
                    exact ⟨TellsP.no rfl hno.out, HEND.out _ HB4.out⟩
                  | true =>
                    have HY := Lib.hid (show (L[k].links = z ∧ ¬ (L[k].kind ≠ 0 ∧ 0 < k ∧ z = 0) ∧ ¬ (L[k].kind = 2 ∧ (rt = false ∨ 0 < k ∧ z ≠ 1))) from ⟨c1, fun h => c3 h.2.1, fun h => by rcases h.2 with h2 | ⟨h2, -⟩; rw [hrt] at h2; cases h2; exact c3 h2⟩)
                    subst hrt
                    clear c1 c2 c3 c5
                    have hnext := Lib.hid (HNEXT.out HY.out)
                    refine wp_region_grown (by kernel_rfl) (by kernel_rfl) ?_
                    repeat (first | go_big_quiet_skip | (go_big_quiet_want; go_big_quiet_op; (first | go_big_quiet_on | (refine ⟨_, grown_call (fun W hW => rrooted_known _ _ _ _ L (by omega) k hlt _ HRT.out W (HM.out.below (HBQ.out.trans (hW.mono HBQ.out.size)))), ?_⟩; go_big_quiet_on))))
                    refine wpQuiet_nil ?_
                    intro w4 hw4
                    have hbg : Below wq.heap.size wq w4 := by obtain ⟨x, rfl⟩ := hw4; exact x.below
                    have HB4 := Lib.hid (HBQ.out.trans (hbg.mono HBQ.out.size))
                    have HC4 := Lib.hid (HCQ.out.below hbg)
                    clear hw4 hbg f0 f1 f2 f3 f4 f5
                    go_wp2_with fail
                    go_roundw
                    case rel => exact ⟨k + 1, by omega, by go_num, hnext.out, HC4.out, HB4.out⟩
                    case measure => simp [intOf] <;> omega
                · have c5b : (L[k].kind == 2) = false := by simpa using c5
                  have HY := Lib.hid (show (L[k].links = z ∧ ¬ (L[k].kind ≠ 0 ∧ 0 < k ∧ z = 0) ∧ ¬ (L[k].kind = 2 ∧ (rt = false ∨ 0 < k ∧ z ≠ 1))) from ⟨c1, fun h => c3 h.2.1, fun h => c5 h.1⟩)
                  clear c1 c2 c3 c5
                  have hnext := Lib.hid (HNEXT.out HY.out)
                  refine wp_region_grown (by kernel_rfl) (by kernel_rfl) ?_
                  repeat (first | go_big_quiet_skip | (go_big_quiet_want; go_big_quiet_op; (first | go_big_quiet_on | (refine ⟨_, grown_call (fun W hW => rrooted_known _ _ _ _ L (by omega) k hlt _ HRT.out W (HM.out.below (HBQ.out.trans (hW.mono HBQ.out.size)))), ?_⟩; go_big_quiet_on))))
                  refine wpQuiet_nil ?_
                  intro w4 hw4
                  have hbg : Below wq.heap.size wq w4 := by obtain ⟨x, rfl⟩ := hw4; exact x.below
                  have HB4 := Lib.hid (HBQ.out.trans (hbg.mono HBQ.out.size))
                  have HC4 := Lib.hid (HCQ.out.below hbg)
                  clear hw4 hbg f0 f1 f2 f3 f4 f5
                  go_wp2_with fail
                  go_roundw
                  case rel => exact ⟨k + 1, by omega, by go_num, hnext.out, HC4.out, HB4.out⟩
                  case measure => simp [intOf] <;> omega
          · have c1b : (L[k].links != z) = true := by simpa using c1
            have HN := Lib.hid (show ¬ (L[k].links = z ∧ ¬ (L[k].kind ≠ 0 ∧ 0 < k ∧ z = 0) ∧ ¬ (L[k].kind = 2 ∧ (rt = false ∨ 0 < k ∧ z ≠ 1))) from fun h => c1 h.1)
            clear c1
            have hno := Lib.hid (HNOT.out HN.out)
            refine wp_region_grown (by kernel_rfl) (by kernel_rfl) ?_
            repeat (first | go_big_quiet_skip | (go_big_quiet_want; go_big_quiet_op; (first | go_big_quiet_on | (refine ⟨_, grown_call (fun W hW => rrooted_known _ _ _ _ L (by omega) k hlt _ HRT.out W (HM.out.below (HBQ.out.trans (hW.mono HBQ.out.size)))), ?_⟩; go_big_quiet_on))))
            refine wpQuiet_nil ?_
            intro w4 hw4
            have hbg : Below wq.heap.size wq w4 := by obtain ⟨x, rfl⟩ := hw4; exact x.below
            have HB4 := Lib.hid (HBQ.out.trans (hbg.mono HBQ.out.size))
            have HC4 := Lib.hid (HCQ.out.below hbg)
            clear hw4 hbg f0 f1 f2 f3 f4 f5
            go_wp2_with fail
            go_ret
            exact ⟨TellsP.no rfl hno.out, HEND.out _ HB4.out⟩
        · have hall := Lib.hid (show R ↔ (usedB L : Int) ≤ b by
            rw [HR.out]
            exact ⟨fun h => h.bytes, fun h => ⟨HH.out, HA.out, fun j h => HOK.out j h (by omega), h⟩⟩)
          have hub := HUB.out
          go_wp2_with fail
          go_ret
          exact ⟨TellsP.of rfl (by rw [hall.out]; simp), HEND.out _ HBR.out⟩
end Go.Proofs.YtogheigpcppeiaaGreat

namespace Go.Proofs.YtogheigpcppeiaaGreat
set_option maxRecDepth 100000
open Go Go.RowKit

/-- What good answers. -/
def GoodAns (L : List Ino) (m b : Int) (Ts : List ByteArray) (e : Ending) : Prop := ∃ v : Bool, e = .returned (.bool v) ∧ (v = true → L.length ≤ 300 ∧ FitP L m b ∧ ∀ s ∈ Ts, s.size ≤ 3000)

set_option maxHeartbeats 4000000 in
theorem good5_any (a : Option Addr) (cap : Nat) (m b : Int) (L : List Ino) (hS : Sized L) (Ts : List ByteArray) (hTs : ∀ s ∈ Ts, s.size ≤ 281474976710656) (hTl : Ts.length ≤ 4) (q tc : Nat) (w : World) (hN : NodesIn w a cap L) (hT : ∀ i (hi : i < Ts.length), w.cell? ⟨q, i, none⟩ = some (.string Ts[i])) :
    Calls Tryz.prog 4 #[.agg #[.slice a L.length cap, .int .i64 m, .int .i64 b], .slice (some ⟨q, 0, none⟩) Ts.length tc] w fun e w' => GoodAns L m b Ts e ∧ Below w.heap.size w w' := by
  obtain ⟨w1, hw1⟩ : ∃ w1, w1 = w.alloc (.cells #[.slice a L.length cap, .int .i64 m, .int .i64 b] 24) := ⟨_, rfl⟩
  have hb1 : Below w.heap.size w w1 := by rw [hw1]; exact below_box w _
  have hX : w1.heap[w.heap.size]? = some (.cells #[.slice a L.length cap, .int .i64 m, .int .i64 b] 24 (0, 0)) := by rw [hw1]; exact new_block w _
  have hs1 : w1.heap.size = w.heap.size + 1 := by rw [hw1]; simp
  have HM := Lib.hid (hN.below hb1)
  have HB1 := Lib.hid hb1
  have HS := Lib.hid hS
  have HT := Lib.hid (show ∀ W, Below w1.heap.size w1 W → ∀ i (hi : i < Ts.length), W.cell? ⟨q, i, none⟩ = some (.string Ts[i]) from fun W hW i hi => cell_below (hb1.trans (hW.mono (by omega))) (hT i hi))
  have HX := Lib.hid (show ∀ W, Below w1.heap.size w1 W → W.cell? ⟨w.heap.size, 0, none⟩ = some (.slice a L.length cap) ∧ W.cell? ⟨w.heap.size, 1, none⟩ = some (.int .i64 m) ∧ W.cell? ⟨w.heap.size, 2, none⟩ = some (.int .i64 b) from fun W hW => by
    have h := (hW.block w.heap.size (by omega)).trans hX
    exact ⟨blk_cell h 0, blk_cell h 1, blk_cell h 2⟩)
  have HTS := Lib.hid hTs
  clear hN hT hS hb1 hX hTs
  go_enter Tryz.func4, Tryz.ntmps4
  go_wp2_with fail
  rw [← hw1]
  clear hw1
  go_loopw [6, 9] (fun _ iv wr => ∃ K : Nat, K ≤ Ts.length ∧ iv = .int .i64 K ∧ Hid (∀ i (hi : i < Ts.length), i < K → Ts[i].size ≤ 3000) ∧ Hid (Below w1.heap.size w1 wr)) (fun _ iv _ => Ts.length - (intOf iv).toNat)
  case atStart => exact ⟨0, Nat.zero_le _, rfl, fun _ _ h => absurd h (Nat.not_lt_zero _), Below.refl _ _⟩
  case round =>
    obtain ⟨K, hK, rfl, HOK, HBR⟩ := hrel
    by_cases hlt : K < Ts.length
    · have t0 := HT.out _ HBR.out K hlt
      have hq := cell_lt t0
      obtain ⟨s, hs⟩ : ∃ s, s = Ts[K] := ⟨_, rfl⟩
      rw [← hs] at t0
      have hss : s.size ≤ 281474976710656 := by rw [hs]; exact HTS.out _ (List.getElem_mem _)
      have HSK := Lib.hid hs
      have hlt' : (K : Int) < (Ts.length : Int) := by omega
      have hk0 : (0 : Int) ≤ (K : Int) := by omega
      clear hs
      by_cases h3 : s.size ≤ 3000
      · have h3' : ¬ ((3000 : Int) < (s.size : Int)) := by omega
        have hnext := Lib.hid (show ∀ i (hi : i < Ts.length), i < K + 1 → Ts[i].size ≤ 3000 from fun i hi hiK => by
          by_cases e : i = K
          · subst e
            rw [← HSK.out]
            exact h3
          · exact HOK.out i hi (by omega))
        go_wp2_with fail
        go_roundw
        case rel => exact ⟨K + 1, by omega, by go_num, hnext, HBR⟩
        case measure => simp [intOf] <;> omega
      · have h3' : (3000 : Int) < (s.size : Int) := by omega
        go_wp2_with fail
        go_ret
        exact ⟨⟨false, rfl, fun e => by cases e⟩, HB1.out.trans (HBR.out.mono (by omega))⟩
    · have hall := Lib.hid (show ∀ s ∈ Ts, s.size ≤ 3000 from fun s hs => by
        obtain ⟨i, hi, rfl⟩ := List.getElem_of_mem hs
        exact HOK.out i hi (by omega))
      obtain ⟨q0, q1, q2⟩ := HX.out _ HBR.out
      have hql := cell_lt q0
      by_cases hl : L.length ≤ 300
      · have hl2 : decide ((L.length : Int) ≤ 300) = true := decide_eq_true (by omega)
        go_wp2_with fail
        refine (rfit_any _ _ _ _ L hl HS.out _ (HM.out.below HBR.out)).mono ?_
        rintro e w2 ⟨⟨v, rfl, hv⟩, hb2⟩
        have HV := Lib.hid hv
        have HB2 := Lib.hid (HB1.out.trans ((HBR.out.trans (hb2.mono HBR.out.size)).mono (by omega)))
        clear hv hb2
        go_wp2_with fail
        go_ret
        exact ⟨⟨v, rfl, fun e => ⟨hl, ref_iff.1 (by subst e; exact HV.out.1 rfl), hall.out⟩⟩, HB2.out⟩
      · have hl2 : decide ((L.length : Int) ≤ 300) = false := decide_eq_false (by omega)
        go_wp2_with fail
        go_ret
        exact ⟨⟨false, rfl, fun e => by cases e⟩, HB1.out.trans (HBR.out.mono (by omega))⟩
end Go.Proofs.YtogheigpcppeiaaGreat

namespace Go.Proofs.YtogheigpcppeiaaGreat
set_option maxRecDepth 100000
open Go Go.RowKit

def rootIno : Ino := ⟨2, 7, 0, [], [], 0⟩
def newT (n : Nat) (b : Int) : Tre := ⟨rootIno :: List.replicate (n - 1) noIno, n, b⟩
def NewFits (n b : Int) : Prop := 1 ≤ n ∧ n ≤ 256 ∧ 0 ≤ b ∧ b ≤ 65536

set_option maxHeartbeats 1000000 in
theorem rnew_no (n b : Int) (h : ¬ NewFits n b) (w : World) :
    Calls Tryz.prog 18 #[.int .i64 n, .int .i64 b] w fun e w' => e = .returned (.tuple #[.agg #[.slice none 0 0, .int .i64 0, .int .i64 0], .int .i64 22]) ∧ Below w.heap.size w w' := by
  have h4 : n < 1 ∨ (1 ≤ n ∧ 256 < n) ∨ (1 ≤ n ∧ n ≤ 256 ∧ b < 0) ∨ (1 ≤ n ∧ n ≤ 256 ∧ 0 ≤ b ∧ 65536 < b) := by unfold NewFits at h; omega
  have hb := below_box w (.cells #[.slice none 0 0, .int .i64 0, .int .i64 0] 24)
  rcases h4 with h | ⟨h, h1⟩ | ⟨h, h1, h2⟩ | ⟨h, h1, h2, h3⟩
  all_goals
    go_enter Tryz.func18, Tryz.ntmps18
    go_wp2_with fail
    exact bodyPost_ret (v := .tuple #[.agg #[.slice none 0 0, .int .i64 0, .int .i64 0], .int .i64 22]) (by simp [results, Tryz.results18, go_sem]) rfl ⟨rfl, hb⟩

def zeroC : Array Value := #[.int .i64 0, .int .i64 0, .int .i64 0, .string ⟨#[]⟩, .slice none 0 0, .int .i64 0]
theorem infoI : (Tryz.prog.info? 49).map (fun i => (i.zero, i.size, i.bytes)) = some (some (.agg zeroC), 6, 72) := by kernel_rfl
theorem made_at (n i j : Nat) (hi : i < n) (hj : j < 6) : (madeCells zeroC (n * 6))[i * 6 + j]? = zeroC[j]? := by
  have hlt : i * 6 + j < n * 6 := by omega
  unfold madeCells
  rw [Array.getElem?_map, Array.getElem?_range, if_pos hlt]
  have e : (i * 6 + j) % zeroC.size = j := by show (i * 6 + j) % 6 = j; omega
  simp only [Option.map_some, e]
  match j, hj with
  | 0, _ => rfl
  | 1, _ => rfl
  | 2, _ => rfl
  | 3, _ => rfl
  | 4, _ => rfl
  | 5, _ => rfl

def rootC : Array Value := #[.int .i64 2, .int .i64 7, .int .i64 0, .string ⟨#[]⟩, .slice none 0 0, .int .i64 0]
theorem new_nodes (W : World) (N n : Nat) (h0 : 1 ≤ n) (hm : n ≤ 256) (h : ∀ i j, i < n → j < 6 → W.cell? ⟨N, i * 6 + j, none⟩ = (if i = 0 then rootC else zeroC)[j]?) : NodesIn W (some ⟨N, 0, none⟩) n (rootIno :: List.replicate (n - 1) noIno) := by
  have hl : (rootIno :: List.replicate (n - 1) noIno).length = n := by simp; omega
  refine ⟨by omega, by unfold maxLen; omega, fun i hi => ⟨N, 0, rfl, ?_⟩⟩
  rw [hl] at hi
  rw [Nat.zero_add]
  have hnil : ∀ (W : World), KidsIn W (.slice none 0 0) [] := fun W => ⟨none, 0, rfl, Nat.le_refl _, Nat.zero_le _, fun i hi => absurd hi (Nat.not_lt_zero _)⟩
  by_cases hi0 : i = 0
  · subst hi0
    have g : ∀ j, j < 6 → W.cell? ⟨N, 0 * 6 + j, none⟩ = rootC[j]? := fun j hj => h 0 j hi hj
    exact ⟨g 0 (by decide), g 1 (by decide), g 2 (by decide), g 3 (by decide), ⟨_, g 4 (by decide), hnil W⟩, g 5 (by decide)⟩
  · have g : ∀ j, j < 6 → W.cell? ⟨N, i * 6 + j, none⟩ = zeroC[j]? := fun j hj => by
      have := h i j hi hj
      rw [if_neg hi0] at this
      exact this
    obtain ⟨m, rfl⟩ : ∃ m, i = m + 1 := ⟨i - 1, by omega⟩
    have e : (rootIno :: List.replicate (n - 1) noIno)[m + 1]'(by rw [hl]; exact hi) = noIno := by simp
    rw [e]
    exact ⟨g 0 (by decide), g 1 (by decide), g 2 (by decide), g 3 (by decide), ⟨_, g 4 (by decide), hnil W⟩, g 5 (by decide)⟩

theorem six_set (A : Array Value) (n : Nat) (h1 : 1 ≤ n) (hs : A.size = n * 6) (hA : ∀ i j, i < n → j < 6 → A[i * 6 + j]? = zeroC[j]?) (i j : Nat) (hi : i < n) (hj : j < 6) :
    ((((((A.setIfInBounds 0 (Value.int .i64 2)).setIfInBounds 1 (Value.int .i64 7)).setIfInBounds 2 (Value.int .i64 0)).setIfInBounds 3 (Value.string ⟨#[]⟩)).setIfInBounds 4 (Value.slice none 0 0)).setIfInBounds 5 (Value.int .i64 0))[i * 6 + j]? = (if i = 0 then rootC else zeroC)[j]? := by
  by_cases hi0 : i = 0
  · subst hi0
    rw [if_pos rfl, Nat.zero_mul, Nat.zero_add]
    have hs6 : 6 ≤ A.size := by omega
    match j, hj with
    | 0, _ => rw [Array.getElem?_setIfInBounds_ne (show (5 : Nat) ≠ 0 by decide), Array.getElem?_setIfInBounds_ne (show (4 : Nat) ≠ 0 by decide), Array.getElem?_setIfInBounds_ne (show (3 : Nat) ≠ 0 by decide), Array.getElem?_setIfInBounds_ne (show (2 : Nat) ≠ 0 by decide), Array.getElem?_setIfInBounds_ne (show (1 : Nat) ≠ 0 by decide), Array.getElem?_setIfInBounds, if_pos rfl, if_pos (by (try simp only [Array.size_setIfInBounds]); omega)]; rfl
    | 1, _ => rw [Array.getElem?_setIfInBounds_ne (show (5 : Nat) ≠ 1 by decide), Array.getElem?_setIfInBounds_ne (show (4 : Nat) ≠ 1 by decide), Array.getElem?_setIfInBounds_ne (show (3 : Nat) ≠ 1 by decide), Array.getElem?_setIfInBounds_ne (show (2 : Nat) ≠ 1 by decide), Array.getElem?_setIfInBounds, if_pos rfl, if_pos (by (try simp only [Array.size_setIfInBounds]); omega)]; rfl
    | 2, _ => rw [Array.getElem?_setIfInBounds_ne (show (5 : Nat) ≠ 2 by decide), Array.getElem?_setIfInBounds_ne (show (4 : Nat) ≠ 2 by decide), Array.getElem?_setIfInBounds_ne (show (3 : Nat) ≠ 2 by decide), Array.getElem?_setIfInBounds, if_pos rfl, if_pos (by (try simp only [Array.size_setIfInBounds]); omega)]; rfl
    | 3, _ => rw [Array.getElem?_setIfInBounds_ne (show (5 : Nat) ≠ 3 by decide), Array.getElem?_setIfInBounds_ne (show (4 : Nat) ≠ 3 by decide), Array.getElem?_setIfInBounds, if_pos rfl, if_pos (by (try simp only [Array.size_setIfInBounds]); omega)]; rfl
    | 4, _ => rw [Array.getElem?_setIfInBounds_ne (show (5 : Nat) ≠ 4 by decide), Array.getElem?_setIfInBounds, if_pos rfl, if_pos (by (try simp only [Array.size_setIfInBounds]); omega)]; rfl
    | 5, _ => rw [Array.getElem?_setIfInBounds, if_pos rfl, if_pos (by (try simp only [Array.size_setIfInBounds]); omega)]; rfl
  · rw [if_neg hi0, ← hA i j hi hj]
    rw [Array.getElem?_setIfInBounds_ne (show (5 : Nat) ≠ i * 6 + j by omega), Array.getElem?_setIfInBounds_ne (show (4 : Nat) ≠ i * 6 + j by omega), Array.getElem?_setIfInBounds_ne (show (3 : Nat) ≠ i * 6 + j by omega), Array.getElem?_setIfInBounds_ne (show (2 : Nat) ≠ i * 6 + j by omega), Array.getElem?_setIfInBounds_ne (show (1 : Nat) ≠ i * 6 + j by omega), Array.getElem?_setIfInBounds_ne (show (0 : Nat) ≠ i * 6 + j by omega)]

set_option maxHeartbeats 1000000 in
theorem rnew_yes (n : Nat) (b : Int) (h1 : 1 ≤ n) (h2 : n ≤ 256) (h3 : 0 ≤ b) (h4 : b ≤ 65536) (w : World) :
    Calls Tryz.prog 18 #[.int .i64 n, .int .i64 b] w fun e w' => (∃ v, e = .returned (.tuple #[v, .int .i64 0]) ∧ TreeIn w' v (newT n b)) ∧ Below w.heap.size w w' := by
  obtain ⟨i0, hi, hz0, hz1, hz2⟩ := info_parts infoI
  have hmk : (Instr.makeSlice 22 (.int .i64 (n : Int)) (.int .i64 (n : Int))).run Tryz.prog (w.alloc (.cells #[.slice none 0 0, .int .i64 0, .int .i64 0] 24)) =
      .ok (.slice (some ⟨w.heap.size + 1, 0, none⟩) n n) ((w.alloc (.cells #[.slice none 0 0, .int .i64 0, .int .i64 0] 24)).alloc (.cells (madeCells zeroC (n * 6)) 49)) := by
    have h := run_makeSlice (P := Tryz.prog) (w.alloc (.cells #[.slice none 0 0, .int .i64 0, .int .i64 0] 24)) 22 49 i0 (.agg zeroC) Tryz.underlying22 hi hz0 .i64 .i64 (n : Int) (n : Int) (by omega) (Int.le_refl _) (by rw [hz1]; simp; omega) (by rw [hz2]; omega) (by omega)
    rw [hz1, World.size_alloc, Int.toNat_natCast] at h
    exact h
  have hA := fun i j hi hj => made_at n i j hi hj
  have hsz : (madeCells zeroC (n * 6)).size = n * 6 := size_madeCells _ _
  generalize madeCells zeroC (n * 6) = A at hmk hA hsz
  have a0 : A[0]? = some (.int .i64 0) := hA 0 0 (by omega) (by omega)
  have a1 : A[1]? = some (.int .i64 0) := hA 0 1 (by omega) (by omega)
  have a2 : A[2]? = some (.int .i64 0) := hA 0 2 (by omega) (by omega)
  have a3 : A[3]? = some (.string ⟨#[]⟩) := hA 0 3 (by omega) (by omega)
  have a4 : A[4]? = some (.slice none 0 0) := hA 0 4 (by omega) (by omega)
  have a5 : A[5]? = some (.int .i64 0) := hA 0 5 (by omega) (by omega)
  have HA := Lib.hid hA
  have HS := Lib.hid hsz
  clear hA hsz hi hz0 hz1 hz2
  go_enter Tryz.func18, Tryz.ntmps18
  go_wp2_with fail
  refine bodyPost_ret (v := .tuple #[.agg #[.slice (some ⟨w.heap.size + 1, 0, none⟩) n n, .int .i64 n, .int .i64 b], .int .i64 0]) (by simp [results, Tryz.results18, go_sem]) rfl ⟨⟨_, rfl, some ⟨w.heap.size + 1, 0, none⟩, n, ?_, ?_⟩, ?_⟩
  · have hl : (newT n b).nodes.length = n := by show (rootIno :: List.replicate (n - 1) noIno).length = n; simp; omega
    rw [hl]
    rfl
  · refine new_nodes _ _ n h1 h2 (fun i j hi hj => ?_)
    rw [← six_set A n h1 HS.out HA.out i j hi hj]
    have e : (w.alloc (.cells #[.slice (some ⟨w.heap.size + 1, 0, none⟩) n n, .int .i64 n, .int .i64 b] 24)).heap.size = w.heap.size + 1 := by simp
    simp only [World.cell?]
    rw [Below.heap_alloc _ _ _ (by simp)]
    have hb := new_block (w.alloc (.cells #[.slice (some ⟨w.heap.size + 1, 0, none⟩) n n, .int .i64 n, .int .i64 b] 24)) (.cells ((((((A.setIfInBounds 0 (Value.int .i64 2)).setIfInBounds 1 (Value.int .i64 7)).setIfInBounds 2 (Value.int .i64 0)).setIfInBounds 3 (Value.string ⟨#[]⟩)).setIfInBounds 4 (Value.slice none 0 0)).setIfInBounds 5 (Value.int .i64 0)) 49)
    rw [e] at hb
    rw [hb]
    rfl
  · exact ((below_box w _).alloc (by simp) _).alloc (by simp; omega) _
end Go.Proofs.YtogheigpcppeiaaGreat

namespace Go.Proofs.YtogheigpcppeiaaGreat
set_option maxRecDepth 100000
open Go Go.RowKit

theorem new_len {n : Nat} (b : Int) (h : 1 ≤ n) : (newT n b).nodes.length = n := by show (rootIno :: List.replicate (n - 1) noIno).length = n; simp; omega
theorem new_at {n : Nat} (b : Int) (k : Nat) (hk : k < (newT n b).nodes.length) : (newT n b).nodes[k] = if k = 0 then rootIno else noIno := by
  cases k with
  | zero => rfl
  | succ k =>
    rw [if_neg (by omega)]
    have e : ∀ (M : List Ino) (h : k + 1 < M.length), M = rootIno :: List.replicate (n - 1) noIno → M[k + 1] = noIno := by
      intro M h hM
      subst hM
      simp
    exact e _ hk rfl
theorem new_kids {n : Nat} (b : Int) (k : Nat) (hk : k < (newT n b).nodes.length) : (newT n b).nodes[k].kids = [] := by
  rw [new_at]
  split <;> rfl
theorem new_kidsOf (n : Nat) (b : Int) : kidsOf (newT n b).nodes = [] := by
  unfold kidsOf
  rw [List.flatMap_eq_nil_iff]
  intro x hx
  obtain ⟨k, hk, rfl⟩ := List.getElem_of_mem hx
  exact new_kids b k hk
theorem used_rep : ∀ n : Nat, usedN (List.replicate n noIno) = 0 ∧ usedB (List.replicate n noIno) = 0
  | 0 => ⟨rfl, rfl⟩
  | n + 1 => by
    have h := used_rep n
    rw [List.replicate_succ]
    exact ⟨by simp only [usedN, h.1]; rfl, by simp only [usedB, h.2]; rfl⟩
theorem new_usedN (n : Nat) (b : Int) : usedN (newT n b).nodes = 1 := by
  show usedN (rootIno :: List.replicate (n - 1) noIno) = 1
  simp only [usedN, (used_rep (n - 1)).1]
  rfl
theorem new_usedB (n : Nat) (b : Int) : usedB (newT n b).nodes = 0 := by
  show usedB (rootIno :: List.replicate (n - 1) noIno) = 0
  simp only [usedB, (used_rep (n - 1)).2]
  rfl
theorem new_fit {n : Nat} {b : Int} (h1 : 1 ≤ n) (h2 : n ≤ 256) (h3 : 0 ≤ b) (h4 : b ≤ 65536) : FitP (newT n b).nodes (n : Int) b := by
  have hl := new_len b h1
  have hI : AllFit (newT n b).nodes := fun k hk => by
    rw [new_kids]
    refine ⟨?_, Nat.zero_le _, fun i hi => absurd hi (Nat.not_lt_zero _)⟩
    rw [new_at]
    split <;> rfl
  have hdir : ∀ k (hk : k < (newT n b).nodes.length), dirB (newT n b).nodes (k : Int) = true → k = 0 := fun k hk hd => by
    have h5 := (dir_nat hk).1 hd
    rw [new_at] at h5
    by_cases e : k = 0
    · exact e
    · rw [if_neg e] at h5
      cases h5
  refine ⟨⟨by omega, by omega, by omega, by rw [new_usedB]; omega, h4⟩, ?_, rfl, hI, ⟨fun d hd e he => ?_, fun k hk => ?_⟩, fun k hk hd => ?_⟩
  · exact (dir_nat (L := (newT n b).nodes) (n := 0) (by omega)).2 rfl
  · rw [new_kids] at he
    cases he
  · have hc : (countL (newT n b).nodes)[k]'(by rw [countL_len]; exact hk) = 0 := by
      rw [countL_get _ (kids_pos (kids_there hI)) k hk, new_kidsOf]
      rfl
    rw [hc]
    refine ⟨by rw [new_at]; split <;> rfl, ?_⟩
    unfold MayHave
    rw [if_pos]
    rw [new_at]
    by_cases e : k = 0
    · exact Or.inl (by omega)
    · rw [if_neg e]
      exact Or.inr rfl
  · have e := hdir k hk hd
    subst e
    rw [hl]
    obtain ⟨t, rfl⟩ : ∃ t, n = t + 1 := ⟨n - 1, by omega⟩
    rfl
theorem new_sized (n : Nat) (b : Int) : Sized (newT n b).nodes := fun k hk => by
  rw [new_kids]
  refine ⟨?_, fun e he => by cases he⟩
  rw [new_at]
  split <;> exact Nat.zero_le _
theorem new_short (n : Nat) (b : Int) : Short64 (newT n b).nodes := fun k hk => by
  rw [new_kids]
  exact ⟨Nat.zero_le _, fun e he => by cases he⟩
theorem new_kid (n : Nat) (b : Int) (s : List UInt8) : kidL (newT n b).nodes 0 s = -1 := by
  unfold kidL
  split
  · rfl
  · rfl
end Go.Proofs.YtogheigpcppeiaaGreat

namespace Go.Proofs.YtogheigpcppeiaaGreat
set_option maxRecDepth 100000
open Go Go.RowKit

/-- What a new name of a new inode is. -/
structure MadeOk (L : List Ino) (m b : Int) (cwd : Int) (p : List UInt8) (x : Ino) (L' : List Ino) (k : Int) : Prop where
  made : ∃ (d : Nat) (s : List UInt8) (j : Nat), k = (j : Int) ∧ parentW L cwd p = ((d : Int), s, 0) ∧ L' = addL L d j s { x with links := 1 } ∧ (∃ h : j < L.length, L[j].kind = 0) ∧ Adds L m b d j s { x with links := 1 } ∧ j ≠ 0
theorem used_one : ∀ (L : List Ino) (k : Nat) (h : k < L.length), L[k].data.length ≤ usedB L
  | x :: r, 0, _ => by show x.data.length ≤ x.data.length + usedB r; omega
  | x :: r, k + 1, h => by
    have := used_one r k (Nat.lt_of_succ_lt_succ h)
    show (r[k]'(Nat.lt_of_succ_lt_succ h)).data.length ≤ x.data.length + usedB r
    omega
/-- A fit tree's texts are short. -/
theorem sized_fit {L : List Ino} {m b : Int} (hF : FitP L m b) : Sized L := fun k hk => by
  obtain ⟨l1, l2, l3, l4, l5⟩ := hF.limits
  have h1 := used_one L k hk
  refine ⟨by omega, fun e he => ?_⟩
  have := (name_parts (name_of hF.ins hk he).1).2.2.2.1
  omega
theorem root_used {L : List Ino} {m b : Int} (hF : FitP L m b) (h : 0 < L.length) : L[0].kind = 2 := (dir_nat (n := 0) h).1 hF.root
theorem added_ok {L : List Ino} {m b : Int} (hF : FitP L m b) {cwd : Int} {p : List UInt8} {dirs : Bool} (h : (freshW L cwd p dirs).2.2 = 0) {x : Ino} (ha : aloneB { x with links := 1 } = true) (h0 : x.kind ≠ 0) (hkids : x.kids = []) (hup : x.kind = 2 → x.up = (freshW L cwd p dirs).1) (hub : (usedB L : Int) + x.data.length ≤ b)
    {L' : List Ino} {k e : Int} (hz : addedW L (freshW L cwd p dirs).1 (freshW L cwd p dirs).2.1 x = (L', k, e)) : (e = 0 → MadeOk L m b cwd p x L' k) ∧ (e ≠ 0 → L' = L ∧ k = 0) := by
  obtain ⟨d, s, hd, hp, hf, hdir, hs, hn, -⟩ := fresh_ok hF h
  rw [hf] at hz hup
  unfold addedW at hz
  split at hz
  · cases hz
    exact ⟨(fun h => by cases h), fun _ => ⟨rfl, rfl⟩⟩
  · rename_i hroom
    have hroom' : L[d].kids.length < 1024 := by
      have h1 : ¬ 1024 ≤ (nodeAt L (d : Int)).kids.length := hroom
      rw [node_nat L d hd] at h1
      omega
    split at hz
    · cases hz
      exact ⟨(fun h => by cases h), fun _ => ⟨rfl, rfl⟩⟩
    · rename_i j hj
      obtain ⟨hjl, hj0, hA⟩ := added_adds hF hd hdir hs hn hj hroom' ha h0 hkids hup hub
      cases hz
      refine ⟨fun _ => ⟨d, s, j, rfl, hp, by rw [Int.toNat_natCast], ⟨hjl, hj0⟩, hA, fun e => ?_⟩, fun h => absurd rfl h⟩
      subst e
      rw [root_used hF hjl] at hj0
      cases hj0
theorem fresh_or {L : List Ino} {cwd : Int} {p : List UInt8} {dirs : Bool} {A B : List Ino × Int × Int} {z : List Ino × Int × Int} (h : (if (freshW L cwd p dirs).2.2 ≠ 0 then A else B) = z) : ((freshW L cwd p dirs).2.2 ≠ 0 ∧ A = z) ∨ ((freshW L cwd p dirs).2.2 = 0 ∧ B = z) := by
  by_cases h0 : (freshW L cwd p dirs).2.2 = 0
  · rw [if_neg (by simp [h0])] at h
    exact Or.inr ⟨h0, h⟩
  · rw [if_pos h0] at h
    exact Or.inl ⟨h0, h⟩
theorem mkdir_made {L : List Ino} {m b : Int} (hF : FitP L m b) {cwd : Int} {p : List UInt8} {q : Int} {L' : List Ino} {k e : Int} (hz : mkdirW L cwd p q = (L', k, e)) : (e = 0 → modeB q = true ∧ ∃ u, MadeOk L m b cwd p (newIno 2 q [] u) L' k) ∧ (e ≠ 0 → L' = L ∧ k = 0) := by
  obtain ⟨-, -, -, l4, -⟩ := hF.limits
  unfold mkdirW at hz
  split at hz
  · cases hz
    exact ⟨(fun h => by cases h), fun _ => ⟨rfl, rfl⟩⟩
  · rename_i hq
    have hq' : modeB q = true := by simpa using hq
    rcases fresh_or hz with ⟨h1, h2⟩ | ⟨h1, h2⟩
    · cases h2
      exact ⟨fun h => absurd h h1, fun _ => ⟨rfl, rfl⟩⟩
    · have := added_ok hF h1 (x := newIno 2 q [] (freshW L cwd p true).1) (alone_dir q _ hq') (by show (2 : Int) ≠ 0; decide) rfl (fun _ => rfl) (by show (usedB L : Int) + (0 : Nat) ≤ b; omega) h2
      exact ⟨fun h => ⟨hq', _, this.1 h⟩, this.2⟩
theorem create_made {L : List Ino} {m b : Int} (hF : FitP L m b) {cwd : Int} {p : List UInt8} {q : Int} {L' : List Ino} {k e : Int} (hz : createW L cwd p q = (L', k, e)) : (e = 0 → modeB q = true ∧ MadeOk L m b cwd p (newIno 1 q [] 0) L' k) ∧ (e ≠ 0 → L' = L ∧ k = 0) := by
  obtain ⟨-, -, -, l4, -⟩ := hF.limits
  unfold createW at hz
  split at hz
  · cases hz
    exact ⟨(fun h => by cases h), fun _ => ⟨rfl, rfl⟩⟩
  · rename_i hq
    have hq' : modeB q = true := by simpa using hq
    rcases fresh_or hz with ⟨h1, h2⟩ | ⟨h1, h2⟩
    · cases h2
      exact ⟨fun h => absurd h h1, fun _ => ⟨rfl, rfl⟩⟩
    · have := added_ok hF h1 (x := newIno 1 q [] 0) (alone_file q hq') (by show (1 : Int) ≠ 0; decide) rfl (fun h => by cases h) (by show (usedB L : Int) + (0 : Nat) ≤ b; omega) h2
      exact ⟨fun h => ⟨hq', this.1 h⟩, this.2⟩
theorem symlink_made {L : List Ino} {m b : Int} (hF : FitP L m b) {cwd : Int} {to p : List UInt8} {L' : List Ino} {k e : Int} (hz : symlinkW L b cwd to p = (L', k, e)) : (e = 0 → MadeOk L m b cwd p (newIno 3 7 to 0) L' k) ∧ (e ≠ 0 → L' = L ∧ k = 0) := by
  unfold symlinkW at hz
  split at hz
  · cases hz
    exact ⟨(fun h => by cases h), fun _ => ⟨rfl, rfl⟩⟩
  · rename_i h1
    split at hz
    · cases hz
      exact ⟨(fun h => by cases h), fun _ => ⟨rfl, rfl⟩⟩
    · rename_i h2
      rcases fresh_or hz with ⟨h3, h4⟩ | ⟨h3, h4⟩
      · cases h4
        exact ⟨fun h => absurd h h3, fun _ => ⟨rfl, rfl⟩⟩
      · split at h4
        · cases h4
          exact ⟨(fun h => by cases h), fun _ => ⟨rfl, rfl⟩⟩
        · rename_i h5
          exact added_ok hF h3 (x := newIno 3 7 to 0) (alone_link to (fun e => h1 (Or.inl e)) (by cases h : to.any (fun c => c == 0) with | false => rfl | true => exact absurd (Or.inr h) h1) (by omega)) (by show (3 : Int) ≠ 0; decide) rfl (fun h => by cases h) (by show (usedB L : Int) + to.length ≤ b; omega) h4
theorem MadeOk.fits {L : List Ino} {m b : Int} {cwd : Int} {p : List UInt8} {x : Ino} {L' : List Ino} {k : Int} (h : MadeOk L m b cwd p x L' k) : FitP L' m b := by
  obtain ⟨d, s, j, -, -, rfl, -, hA, -⟩ := h.made
  exact hA.fits
theorem link_made {L : List Ino} {m b : Int} (hF : FitP L m b) {cwd : Int} {old p : List UInt8} {L' : List Ino} {e : Int} (hz : linkW L cwd old p = (L', e)) :
    (e = 0 → ∃ (d : Nat) (s : List UInt8) (k : Nat) (hk : k < L.length), walkW L cwd old false = ((k : Int), 0) ∧ parentW L cwd p = ((d : Int), s, 0) ∧ L' = addL L d k s { L[k] with links := L[k].links + 1 } ∧ Adds L m b d k s { L[k] with links := L[k].links + 1 }) ∧ (e ≠ 0 → L' = L) := by
  unfold linkW at hz
  split at hz
  · rename_i h1
    cases hz
    exact ⟨fun h => absurd h h1, fun _ => rfl⟩
  · rename_i h1
    have h1' : (walkW L cwd old false).2 = 0 := by simpa using h1
    obtain ⟨k, hk, hwk, hk0⟩ := live_ino (walk_live hF h1')
    split at hz
    · cases hz
      exact ⟨(fun h => by cases h), fun _ => rfl⟩
    · rename_i h2
      rw [hwk, node_nat L k hk] at h2
      split at hz
      · rename_i h3
        cases hz
        exact ⟨fun h => absurd h h3, fun _ => rfl⟩
      · rename_i h3
        have h3' : (freshW L cwd p false).2.2 = 0 := by simpa using h3
        obtain ⟨d, s, hd, hp, hf, hdir, hs, hn, -⟩ := fresh_ok hF h3'
        rw [hf, hwk, node_nat L k hk] at hz
        split at hz
        · cases hz
          exact ⟨(fun h => by cases h), fun _ => rfl⟩
        · rename_i h4
          have hroom : L[d].kids.length < 1024 := by
            have h5 : ¬ 1024 ≤ (nodeAt L (d : Int)).kids.length := h4
            rw [node_nat L d hd] at h5
            omega
          cases hz
          refine ⟨fun _ => ⟨d, s, k, hk, Prod.ext hwk h1', hp, by rw [Int.toNat_natCast, Int.toNat_natCast], link_adds hF hd hdir hs hn hroom hk hk0 h2⟩, fun h => absurd rfl h⟩
theorem chmod_made {L : List Ino} {m b : Int} (hF : FitP L m b) {cwd : Int} {p : List UInt8} {q : Int} {L' : List Ino} {e : Int} (hz : chmodW L cwd p q = (L', e)) :
    (e = 0 → ∃ (k : Nat) (hk : k < L.length), walkW L cwd p true = ((k : Int), 0) ∧ L' = L.set k { L[k] with mode := q } ∧ Puts L m b k { L[k] with mode := q }) ∧ (e ≠ 0 → L' = L) := by
  unfold chmodW at hz
  split at hz
  · cases hz
    exact ⟨(fun h => by cases h), fun _ => rfl⟩
  · rename_i hq
    have hq' : modeB q = true := by simpa using hq
    split at hz
    · rename_i h1
      cases hz
      exact ⟨fun h => absurd h h1, fun _ => rfl⟩
    · rename_i h1
      have h1' : (walkW L cwd p true).2 = 0 := by simpa using h1
      obtain ⟨k, hk, hwk, hk0⟩ := live_ino (walk_live hF h1')
      rw [hwk, node_nat L k hk] at hz
      cases hz
      refine ⟨fun _ => ⟨k, hk, Prod.ext hwk h1', by rw [Int.toNat_natCast], mode_puts hF hk hk0 hq'⟩, fun h => absurd rfl h⟩
end Go.Proofs.YtogheigpcppeiaaGreat

namespace Go.Proofs.YtogheigpcppeiaaGreat
set_option maxRecDepth 100000
open Go Go.RowKit

def aw0 : List Ino := (newT 8 100).nodes
def aw1 : List Ino := (mkdirW aw0 0 [97] 7).1
def aw2 : List Ino := (createW aw1 0 [97, 47, 102] 6).1
def aw3 : List Ino := (linkW aw2 0 [97, 47, 102] [103]).1
theorem aw_mk : mkdirW aw0 0 [97] 7 = (aw1, 1, 0) := Prod.ext rfl (by decide +kernel)
theorem aw_cr : createW aw1 0 [97, 47, 102] 6 = (aw2, 2, 0) := Prod.ext rfl (by decide +kernel)
theorem aw_ln : linkW aw2 0 [97, 47, 102] [103] = (aw3, 0) := Prod.ext rfl (by decide +kernel)
theorem aw_fit0 : FitP aw0 8 100 := new_fit (n := 8) (b := 100) (by decide) (by decide) (by decide) (by decide)
theorem aw_fit1 : FitP aw1 8 100 := by
  obtain ⟨-, u, h⟩ := (mkdir_made aw_fit0 aw_mk).1 rfl
  exact h.fits
theorem aw_fit2 : FitP aw2 8 100 := ((create_made aw_fit1 aw_cr).1 rfl).2.fits
theorem aw_fit3 : FitP aw3 8 100 := by
  obtain ⟨d, s, k, hk, -, -, h, hA⟩ := (link_made aw_fit2 aw_ln).1 rfl
  rw [h]
  exact hA.fits
theorem aw_len : aw0.length = 8 ∧ aw1.length = 8 ∧ aw2.length = 8 ∧ aw3.length = 8 := by decide +kernel
theorem aw_used : usedN aw3 = 3 := by decide +kernel
theorem aw_links : (nodeAt aw3 2).links = 2 := by decide +kernel
theorem aw_again : (mkdirW aw3 0 [97] 7).2 = (0, 17) := by decide +kernel

theorem MadeAns.three {base : Nat} {w w' : World} {m b k z : Int} {L' : List Ino} {e : Ending} (h : MadeAns base w m b L' [.int .i64 k, .int .i64 z] e w') :
    ∃ g cap vs, e = .returned (.tuple #[.agg #[.slice (some ⟨g, 0, none⟩) L'.length cap, .int .i64 m, .int .i64 b], .int .i64 k, .int .i64 z]) ∧ OwnT w' base g cap L' vs ∧ Below w.heap.size w w' := by
  obtain ⟨⟨g, cap, vs, he, hO⟩, hb⟩ := h
  exact ⟨g, cap, vs, he, hO, hb⟩
theorem MadeAns.two {base : Nat} {w w' : World} {m b z : Int} {L' : List Ino} {e : Ending} (h : MadeAns base w m b L' [.int .i64 z] e w') :
    ∃ g cap vs, e = .returned (.tuple #[.agg #[.slice (some ⟨g, 0, none⟩) L'.length cap, .int .i64 m, .int .i64 b], .int .i64 z]) ∧ OwnT w' base g cap L' vs ∧ Below w.heap.size w w' := by
  obtain ⟨⟨g, cap, vs, he, hO⟩, hb⟩ := h
  exact ⟨g, cap, vs, he, hO, hb⟩

set_option maxHeartbeats 8000000 in
theorem awake5 (w : World) : Calls Tryz.prog 5 #[] w fun e w' => e = .returned (.bool true) ∧ Below w.heap.size w w' := by
  have hnew : ∀ w, Calls Tryz.prog 18 #[.int .i64 8, .int .i64 100] w fun e w' => (∃ a cap, e = .returned (.tuple #[.agg #[.slice a aw0.length cap, .int .i64 8, .int .i64 100], .int .i64 0]) ∧ NodesIn w' a cap aw0) ∧ Below w.heap.size w w' :=
    fun w => (rnew_yes 8 100 (by decide) (by decide) (by decide) (by decide) w).mono fun e w' h => by
      obtain ⟨⟨v, rfl, a, cap, rfl, hN⟩, hb⟩ := h
      exact ⟨⟨a, cap, rfl, hN⟩, hb⟩
  obtain ⟨l0, l1, l2, l3⟩ := aw_len
  have F0 := Lib.hid aw_fit0
  have F1 := Lib.hid aw_fit1
  have F2 := Lib.hid aw_fit2
  have F3 := Lib.hid aw_fit3
  have E1 := Lib.hid aw_mk
  have E2 := Lib.hid aw_cr
  have E3 := Lib.hid aw_ln
  have hU : usedN aw3 = 3 := aw_used
  have EL := Lib.hid aw_links
  obtain ⟨A4, hA4⟩ : ∃ A4, mkdirW aw3 0 [97] 7 = (A4, 0, 17) := ⟨(mkdirW aw3 0 [97] 7).1, Prod.ext rfl aw_again⟩
  have E4 := Lib.hid hA4
  clear hA4
  obtain ⟨A0, h0⟩ : ∃ L, L = aw0 := ⟨_, rfl⟩
  obtain ⟨A1, h1⟩ : ∃ L, L = aw1 := ⟨_, rfl⟩
  obtain ⟨A2, h2⟩ : ∃ L, L = aw2 := ⟨_, rfl⟩
  obtain ⟨A3, h3⟩ : ∃ L, L = aw3 := ⟨_, rfl⟩
  rw [← h0] at hnew F0 E1 l0
  rw [← h1] at F1 E1 E2 l1
  rw [← h2] at F2 E2 E3 l2
  rw [← h3] at F3 E3 E4 EL hU l3
  have HNEW := Lib.hid hnew
  have HU := Lib.hid hU
  have hB3 := Lib.hid (show usedB A3 ≤ 1048576 from by have := F3.out.limits; obtain ⟨_, _, _, l4, l5⟩ := this; omega)
  have HL3 := Lib.hid l3
  have HL2 := Lib.hid l2
  have HL1 := Lib.hid l1
  clear hnew h0 h1 h2 h3 hU l0 l1 l2 l3
  go_enter Tryz.func5, Tryz.ntmps5
  go_wp2_with fail
  refine (HNEW.out _).mono ?_
  rintro e w1 ⟨⟨a, cap, rfl, hN⟩, hb1⟩
  have HN := Lib.hid hN
  have HB1 := Lib.hid hb1
  have hs1 := hb1.size
  clear hN hb1
  go_wp2_with fail
  obtain ⟨w2, hw2⟩ : ∃ w2, w2 = w1.alloc (.cells #[.slice a A0.length cap, .int .i64 8, .int .i64 100] 24) := ⟨_, rfl⟩
  have hb2 : Below w1.heap.size w1 w2 := by rw [hw2]; exact below_box w1 _
  have hX2 : w2.heap[w1.heap.size]? = some (.cells #[.slice a A0.length cap, .int .i64 8, .int .i64 100] 24 (0, 0)) := by rw [hw2]; exact new_block w1 _
  have hs2 : w2.heap.size = w1.heap.size + 1 := by rw [hw2]; simp
  rw [← hw2]
  have HB2 := Lib.hid (HB1.out.trans (hb2.mono hs1))
  have HN2 := Lib.hid (HN.out.below hb2)
  have HX2 := Lib.hid hX2
  clear hw2 hb2 hX2
  have q0 := blk_cell HX2.out 0
  have q1 := blk_cell HX2.out 1
  have q2 := blk_cell HX2.out 2
  clear q0 q1 q2
  refine (lmkdir_any _ _ _ _ _ _ ⟨#[97]⟩ (by decide) A0 F0.out _ _ _ E1.out _ HN2.out).mono ?_
  rintro e u3 hmade
  obtain ⟨g3, c3, v3, rfl, hO, hb⟩ := MadeAns.three hmade
  have hXu := (hb.block w1.heap.size (by omega)).trans HX2.out
  have HXU := Lib.hid hXu
  have HOU := Lib.hid hO
  have HBU := Lib.hid (HB2.out.trans (hb.mono (by omega)))
  have hsu := hb.size
  have q0 := blk_cell HXU.out 0
  have q1 := blk_cell HXU.out 1
  have q2 := blk_cell HXU.out 2
  have f0 := blk_free HXU.out 0
  have f1 := blk_free HXU.out 1
  have f2 := blk_free HXU.out 2
  have hql := lt_of_block HXU.out
  clear hmade hXu hO hb
  go_wp2_with fail
  obtain ⟨p3, hp3⟩ : ∃ p, p = put3 u3 w1.heap.size (.slice (some ⟨g3, 0, none⟩) A1.length c3) (.int .i64 8) (.int .i64 100) := ⟨_, rfl⟩
  change Calls _ _ _ (put3 u3 w1.heap.size (.slice (some ⟨g3, 0, none⟩) A1.length c3) (.int .i64 8) (.int .i64 100)) _
  rw [← hp3]
  have hsp3 : p3.heap.size = u3.heap.size := by rw [hp3]; exact put3_size _ _ _ _ _
  have HX3 := Lib.hid (show p3.heap[w1.heap.size]? = some (.cells #[.slice (some ⟨g3, 0, none⟩) A1.length c3, .int .i64 8, .int .i64 100] 24 (0, 0)) by rw [hp3]; exact put3_block HXU.out _ _ _)
  have HO3 := Lib.hid (show OwnT p3 _ g3 c3 A1 v3 by rw [hp3]; exact HOU.out.low fun k hk => put3_other (by omega) _ _ _)
  have HB3 := Lib.hid (show Below w.heap.size w p3 by rw [hp3]; exact put3_below HBU.out (by omega) _ _ _)
  clear hp3 HXU HOU HBU q0 q1 q2 f0 f1 f2 hql
  refine (lcreate_any _ _ _ _ _ _ ⟨#[97, 47, 102]⟩ (by decide) A1 F1.out _ _ _ E2.out _ HO3.out.nodesIn).mono ?_
  rintro e u4 hmade
  obtain ⟨g4, c4, v4, rfl, hO, hb⟩ := MadeAns.three hmade
  have hXu := (hb.block w1.heap.size (by omega)).trans HX3.out
  have HXU := Lib.hid hXu
  have HOU := Lib.hid hO
  have HBU := Lib.hid (HB3.out.trans (hb.mono (by omega)))
  have hsu := hb.size
  have q0 := blk_cell HXU.out 0
  have q1 := blk_cell HXU.out 1
  have q2 := blk_cell HXU.out 2
  have f0 := blk_free HXU.out 0
  have f1 := blk_free HXU.out 1
  have f2 := blk_free HXU.out 2
  have hql := lt_of_block HXU.out
  clear hmade hXu hO hb
  go_wp2_with fail
  obtain ⟨p4, hp4⟩ : ∃ p, p = put3 u4 w1.heap.size (.slice (some ⟨g4, 0, none⟩) A2.length c4) (.int .i64 8) (.int .i64 100) := ⟨_, rfl⟩
  change Calls _ _ _ (put3 u4 w1.heap.size (.slice (some ⟨g4, 0, none⟩) A2.length c4) (.int .i64 8) (.int .i64 100)) _
  rw [← hp4]
  have hsp4 : p4.heap.size = u4.heap.size := by rw [hp4]; exact put3_size _ _ _ _ _
  have HX4 := Lib.hid (show p4.heap[w1.heap.size]? = some (.cells #[.slice (some ⟨g4, 0, none⟩) A2.length c4, .int .i64 8, .int .i64 100] 24 (0, 0)) by rw [hp4]; exact put3_block HXU.out _ _ _)
  have HO4 := Lib.hid (show OwnT p4 _ g4 c4 A2 v4 by rw [hp4]; exact HOU.out.low fun k hk => put3_other (by omega) _ _ _)
  have HB4 := Lib.hid (show Below w.heap.size w p4 by rw [hp4]; exact put3_below HBU.out (by omega) _ _ _)
  clear hp4 HXU HOU HBU q0 q1 q2 f0 f1 f2 hql
  refine (llink_any _ _ _ _ _ ⟨#[97, 47, 102]⟩ ⟨#[103]⟩ (by decide) (by decide) A2 F2.out _ _ E3.out _ HO4.out.nodesIn).mono ?_
  rintro e u5 hmade
  obtain ⟨g5, c5, v5, rfl, hO, hb⟩ := MadeAns.two hmade
  have hXu := (hb.block w1.heap.size (by omega)).trans HX4.out
  have HXU := Lib.hid hXu
  have HOU := Lib.hid hO
  have HBU := Lib.hid (HB4.out.trans (hb.mono (by omega)))
  have hsu := hb.size
  have q0 := blk_cell HXU.out 0
  have q1 := blk_cell HXU.out 1
  have q2 := blk_cell HXU.out 2
  have f0 := blk_free HXU.out 0
  have f1 := blk_free HXU.out 1
  have f2 := blk_free HXU.out 2
  have hql := lt_of_block HXU.out
  clear hmade hXu hO hb
  go_wp2_with fail
  obtain ⟨p5, hp5⟩ : ∃ p, p = put3 u5 w1.heap.size (.slice (some ⟨g5, 0, none⟩) A3.length c5) (.int .i64 8) (.int .i64 100) := ⟨_, rfl⟩
  change Calls _ _ _ (put3 u5 w1.heap.size (.slice (some ⟨g5, 0, none⟩) A3.length c5) (.int .i64 8) (.int .i64 100)) _
  rw [← hp5]
  have hsp5 : p5.heap.size = u5.heap.size := by rw [hp5]; exact put3_size _ _ _ _ _
  have HX5 := Lib.hid (show p5.heap[w1.heap.size]? = some (.cells #[.slice (some ⟨g5, 0, none⟩) A3.length c5, .int .i64 8, .int .i64 100] 24 (0, 0)) by rw [hp5]; exact put3_block HXU.out _ _ _)
  have HO5 := Lib.hid (show OwnT p5 _ g5 c5 A3 v5 by rw [hp5]; exact HOU.out.low fun k hk => put3_other (by omega) _ _ _)
  have HB5 := Lib.hid (show Below w.heap.size w p5 by rw [hp5]; exact put3_below HBU.out (by omega) _ _ _)
  clear hp5 HXU HOU HBU q0 q1 q2 f0 f1 f2 hql
  refine (rused_any _ _ _ _ A3 (by have := HL3.out; omega) (by have := hB3.out; omega) _ HO5.out.nodesIn).mono ?_
  rintro e w6 ⟨rfl, hb6⟩
  have hX6 := (hb6.block w1.heap.size (by omega)).trans HX5.out
  have HX6 := Lib.hid hX6
  have HO6 := Lib.hid (HO5.out.below hb6)
  have HB6 := Lib.hid (HB5.out.trans (hb6.mono HB5.out.size))
  have hs6 := hb6.size
  clear hb6 hX6
  have q0 := blk_cell HX6.out 0
  have q1 := blk_cell HX6.out 1
  have q2 := blk_cell HX6.out 2
  have hql := lt_of_block HX6.out
  rw [HU.out]
  go_wp2_with fail
  refine (lmkdir_any _ _ _ _ _ _ ⟨#[97]⟩ (by decide) A3 F3.out _ _ _ E4.out _ HO6.out.nodesIn).mono ?_
  rintro e w7 hmade
  obtain ⟨g7, c7, v7, rfl, hO7, hb7⟩ := MadeAns.three hmade
  have hX7 := (hb7.block w1.heap.size (by omega)).trans HX6.out
  have HO7 := Lib.hid (HO6.out.below hb7)
  have HB7 := Lib.hid (HB6.out.trans (hb7.mono HB6.out.size))
  clear q0 q1 q2 hql hmade hO7 hb7
  have q0 := blk_cell hX7 0
  have hql := lt_of_block hX7
  clear hX7
  have hl3 := HL3.out
  have hlt3 : (2 : Int) < (A3.length : Int) := by omega
  have hn := (HO7.out.nodes.node 2 (by omega) (by rw [HO7.out.nodes.len]; omega)).links
  rw [show A3[2].links = 2 by have := EL.out; rw [show (2 : Int) = ((2 : Nat) : Int) from rfl, node_nat A3 2 (by omega)] at this; exact this] at hn
  have hgl := cell_lt hn
  clear hl3
  go_wp2_with fail
  go_ret
  exact ⟨rfl, HB7.out.alloc HB7.out.size _⟩
end Go.Proofs.YtogheigpcppeiaaGreat

namespace Go.Proofs.YtogheigpcppeiaaGreat
set_option maxRecDepth 100000
open Go Go.RowKit

set_option maxHeartbeats 2000000 in
theorem rown_any (a : Option Addr) (cap : Nat) (m b : Int) (L : List Ino) (hL : 0 < L.length) (hb : L.length ≤ 1000) (w : World) (hN : NodesIn w a cap L) :
    Calls Tryz.prog 35 #[.agg #[.slice a L.length cap, .int .i64 m, .int .i64 b]] w fun e w' => ∃ g cap' vs, e = .returned (.agg #[.slice (some ⟨g, 0, none⟩) L.length cap', .int .i64 m, .int .i64 b]) ∧ NodesOwn w' g cap' L vs ∧ w.heap.size ≤ g ∧ (∀ i (hi : i < L.length) (hv : i < vs.length), KidsIn w vs[i] L[i].kids) ∧ Below w.heap.size w w' := by
  obtain ⟨i0, hi, hz0, hz1, hz2⟩ := info_parts infoIn
  obtain ⟨vs, hl, hone, hk, hcell⟩ := nodes_open hN
  obtain ⟨bb, o, rfl, hx⟩ := hN.2.2 0 hL
  have hbl := cell_lt hx.kind
  obtain ⟨w2, hw2, hb2, hs2, hA, hB⟩ := two_boxes w #[.slice (some ⟨bb, o, none⟩) L.length cap, .int .i64 m, .int .i64 b] #[.slice none 0 0, .int .i64 0, .int .i64 0] 24 24
  have AS : Aside (∀ j u, (nodeC L vs)[j]? = some u → w2.cell? ⟨bb, o + j, none⟩ = some u) := fun j u hj => by
    obtain ⟨b', o', e, hc⟩ := hcell j u hj
    cases e
    exact cell_below hb2 hc
  have HK := Lib.hid hk
  have HL := Lib.hid hl
  have HB2 := Lib.hid hb2
  have HA := Lib.hid hA
  have HR := Lib.hid hB
  have a0 := blk_cell hA 0
  have hal := lt_of_block hA
  clear hcell hk hN hl hx hbl hb2 hA hB
  go_enter Tryz.func35, Tryz.ntmps35
  go_wp2_with (at_builtin; refine wpList_append_own _ rfl _ _ 22 rfl (w.heap.size + 2) 49 i0 _ 6 72 Tryz.underlying22 hi hz0 hz1 hz2 rfl (by decide) (.slice none 0 0) 0 [] rfl (World.ownsRow_nil _ _ _ _) ⟨bb, o, none⟩ L.length cap (nodeC L vs) rfl (nodeC_len L vs HL.out) (fun j u hj => by rw [Addr.add_lit, ← hw2]; exact AS.out j u hj) (nodeC_one hone) (by unfold maxLen; omega) (by omega) (by rw [← hw2]; omega) ?_)
  intro v' w3 hown hgrow hnil
  rw [← hw2] at hgrow
  have hb3 : Below w2.heap.size w2 w3 := (Below.refl _ _).grown hgrow (Nat.le_refl _) (fun k hk => by cases hk)
  rcases hown.2 with ⟨rfl, h0⟩ | ⟨g, cap', cur, rfl, hgb, -⟩
  · omega
  have hown2 : w3.ownsRow (w.heap.size + 2) 49 6 (.slice (some ⟨g, 0, none⟩) L.length cap') L.length (nodeC L vs) := by simpa using hown
  have hN3 := (nodes_of_row HL.out hown2).1
  have hA3 := (hb3.block w.heap.size (by omega)).trans HA.out
  have hR3 := (hb3.block (w.heap.size + 1) (by omega)).trans HR.out
  have q0 := blk_cell hA3 0
  have q1 := blk_cell hA3 1
  have q2 := blk_cell hA3 2
  have f0 := blk_free hA3 0
  have r0 := blk_cell hR3 0
  have r1 := blk_cell hR3 1
  have r2 := blk_cell hR3 2
  have s0 := blk_free hR3 0
  have s1 := blk_free hR3 1
  have s2 := blk_free hR3 2
  have hrl := lt_of_block hR3
  have hq := lt_of_block hA3
  obtain ⟨w4, hw4⟩ : ∃ w4, w4 = w3.setCell ⟨w.heap.size, 0, none⟩ (.slice (some ⟨g, 0, none⟩) L.length cap') := ⟨_, rfl⟩
  have hA4 : w4.heap[w.heap.size]? = some (.cells #[.slice (some ⟨g, 0, none⟩) L.length cap', .int .i64 m, .int .i64 b] 24 (0, 0)) := by rw [hw4]; exact blk_set hA3 0 _
  have hst : ∀ k, k ≠ w.heap.size → w4.heap[k]? = w3.heap[k]? := fun k hk => by rw [hw4]; exact Below.heap_setCell _ _ _ _ hk
  have hR4 := (hst (w.heap.size + 1) (by omega)).trans hR3
  have hN4 : NodesOwn w4 g cap' L vs := hN3.same (hst g (by omega))
  have hb4 : Below w.heap.size w w4 := by rw [hw4]; exact (HB2.out.trans (hb3.mono (by omega))).setCell (show w.heap.size ≤ w.heap.size from Nat.le_refl _) _
  have HW4 := Lib.hid hw4
  have HN4 := Lib.hid hN4
  have HB4 := Lib.hid hb4
  have HR4 := Lib.hid hR4
  have HA4 := Lib.hid hA4
  clear hw4 hN4 hb4 hR4 hA4 hst hN3 hown hown2 hgrow hnil hb3 hA3 hR3 a0 hal hw2
  go_wp2_with fail
  change bodyPost _ _ _ _ _ (put3 (w3.setCell ⟨w.heap.size, 0, none⟩ (.slice (some ⟨g, 0, none⟩) L.length cap')) (w.heap.size + 1) (.slice (some ⟨g, 0, none⟩) L.length cap') (.int .i64 m) (.int .i64 b))
  rw [← HW4.out]
  obtain ⟨c0, c1, c2⟩ := put3_cells HR4.out (.slice (some ⟨g, 0, none⟩) L.length cap') (.int .i64 m) (.int .i64 b)
  have HNF := Lib.hid (HN4.out.same (W' := put3 w4 (w.heap.size + 1) (.slice (some ⟨g, 0, none⟩) L.length cap') (.int .i64 m) (.int .i64 b)) (put3_other (by omega) _ _ _))
  have HBF := Lib.hid (put3_below HB4.out (show w.heap.size ≤ w.heap.size + 1 by omega) (.slice (some ⟨g, 0, none⟩) L.length cap') (.int .i64 m) (.int .i64 b))
  generalize put3 w4 (w.heap.size + 1) (.slice (some ⟨g, 0, none⟩) L.length cap') (.int .i64 m) (.int .i64 b) = wF at *
  exact bodyPost_ret (v := .agg #[.slice (some ⟨g, 0, none⟩) L.length cap', .int .i64 m, .int .i64 b]) (by simp [results, Tryz.results35, go_sem, c0, c1, c2]) rfl ⟨g, cap', vs, rfl, HNF.out, by omega, HK.out, HBF.out⟩
end Go.Proofs.YtogheigpcppeiaaGreat
