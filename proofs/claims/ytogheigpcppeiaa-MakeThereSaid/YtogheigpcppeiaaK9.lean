/-
  make's Link of the landed code: it answers what chapter 5 says.
  What is made, in plain words: the trees stay fit.
  awake: chapter 5's example; good: which trees and texts the laws speak of.
  good: which trees and texts the laws of layer 5 speak of.
  The reference's Own: a copy of the slice of inodes, whose names' slices are shared.
  The reference's Same: two trees are one, field by field.
  The reference's Parent, walked.
  The law MakeModes, walked.
  The law MakeLinks, walked.
-/
import Derived.Test.YtogheigpcppeiaaK8
import Derived.Test.YtogheigpcppeiaaK3
import Derived.Test.YtogheigpcppeiaaK2
import Derived.Test.YtogheigpcppeiaaK1
import Derived.Test.YtogheigpcppeiaaK7
import Derived.Laws.AppendOwnNone
import Derived.BigRegion
import Derived.Deep.QuietTactic
import Derived.BigQuiet
import Derived.Deep.Draws
import Derived.Test.YtogheigpcppeiaaK6
namespace Go.Proofs.Ytogheigpcppeiaa
set_option maxRecDepth 100000
open Go Go.RowKit

theorem few_names {L : List Ino} {m b : Int} (hF : FitP L m b) (c : Int) : namesOf (kidsOf L) c ≤ 262144 := by
  have h1 : ∀ (M : List (List UInt8 × Int)), namesOf M c ≤ M.length := fun M => by
    induction M with
    | nil => exact Nat.le_refl _
    | cons e r ih => rw [names_cons, List.length_cons]; split <;> omega
  have h2 : ∀ (l : List Ino), (∀ x ∈ l, x.kids.length ≤ 1024) → (kidsOf l).length ≤ 1024 * l.length := fun l => by
    induction l with
    | nil => exact fun _ => Nat.le_refl _
    | cons x r ih =>
      intro h
      have e1 := ih (fun y hy => h y (List.mem_cons_of_mem _ hy))
      have e2 := h x List.mem_cons_self
      show (x.kids ++ kidsOf r).length ≤ 1024 * (r.length + 1)
      rw [List.length_append]
      omega
  have h3 := h1 (kidsOf L)
  have h4 := h2 L (fun x hx => by obtain ⟨j, hj, rfl⟩ := List.getElem_of_mem hx; exact (hF.ins j hj).2.1)
  obtain ⟨l1, l2, l3, l4, l5⟩ := hF.limits
  omega
/-- A tree in which an inode has one more name. -/
theorem link_both {L : List Ino} {d k : Nat} (hd : d < L.length) (hk : k < L.length) (hdk : d ≠ k) (s : List UInt8) :
    ((L.set d (withKids L[d] (namedL L[d].kids s k))).set k { L[k] with links := L[k].links + 1 }) = addL L d k s { nodeAt L (k : Int) with links := (nodeAt L (k : Int)).links + 1 } := by
  unfold addL
  rw [node_nat L d hd, node_nat L k hk, List.set_comm _ _ hdk]
/-- What Link tells, in the order in which the code asks. -/
theorem link_words {L : List Ino} {m b : Int} (hF : FitP L m b) (cwd : Int) (old p : List UInt8) (k : Nat) (hk : k < L.length) (hw : walkW L cwd old false = ((k : Int), 0)) (h2 : L[k].kind ≠ 2) :
    linkW L cwd old p = if (spotW L cwd p).2.2.2 ≠ 0 then (L, (spotW L cwd p).2.2.2) else if refuseW L (spotW L cwd p).1 (spotW L cwd p).2.2.1 L[k].kind ≠ 0 then (L, refuseW L (spotW L cwd p).1 (spotW L cwd p).2.2.1 L[k].kind) else
      (addL L (spotW L cwd p).1.toNat k (spotW L cwd p).2.1 { nodeAt L (k : Int) with links := (nodeAt L (k : Int)).links + 1 }, 0) := by
  unfold linkW
  rw [hw]
  simp only [ne_eq, not_true_eq_false, if_false]
  rw [if_neg (by rw [node_nat L k hk]; exact h2)]
  unfold spotW
  by_cases h0 : (freshW L cwd p true).2.2 = 0
  · obtain ⟨d, s, hdl, hp, hf, -⟩ := fresh_ok hF h0
    rw [spot_fresh, hf]
    simp only [ne_eq, not_true_eq_false, if_false]
    cases he : endL p with
    | true =>
      have hr : refuseW L (d : Int) true L[k].kind = 20 := by
        unfold refuseW
        rw [if_pos ⟨rfl, h2⟩]
      rw [hr]
      rfl
    | false =>
      have hr : refuseW L (d : Int) false L[k].kind = if 1024 ≤ (nodeAt L (d : Int)).kids.length then 28 else 0 := by
        unfold refuseW
        rw [if_neg (by simp)]
      rw [hr]
      by_cases h1 : 1024 ≤ (nodeAt L (d : Int)).kids.length
      · simp [h1]
      · simp [h1]
  · rw [spot_fresh]
    simp [h0]

set_option maxHeartbeats 8000000 in
theorem llink_any (a : Option Addr) (cap : Nat) (m b cwd : Int) (ob pb : ByteArray) (ho : ob.size ≤ 1073741824) (hp : pb.size ≤ 1073741824) (L : List Ino) (hF : FitP L m b) (L' : List Ino) (ez : Int) (hz : linkW L cwd ob.data.toList pb.data.toList = (L', ez)) (w : World) (hN : NodesIn w a cap L) :
    Calls Try.prog 19 #[.agg #[.slice a L.length cap, .int .i64 m, .int .i64 b], .int .i64 cwd, .string ob, .string pb] w (MadeAns w.heap.size w m b L' [.int .i64 ez]) := by
  obtain ⟨⟨wz, we⟩, hwk⟩ : ∃ r, walkW L cwd ob.data.toList false = r := ⟨_, rfl⟩
  obtain ⟨⟨d, nm, sl, pe⟩, hsp⟩ : ∃ r, spotW L cwd pb.data.toList = r := ⟨_, rfl⟩
  have HWK := Lib.hid hwk
  have HSP := Lib.hid hsp
  clear hwk hsp
  obtain ⟨w2, hw2, hb2, hs2, hA, hB⟩ := two_boxes w #[.slice a L.length cap, .int .i64 m, .int .i64 b] #[.slice none 0 0, .int .i64 0, .int .i64 0] 24 24
  obtain ⟨l1, l2, l3, l4, l5⟩ := hF.limits
  have hL0 : 0 < L.length := by omega
  have hL1 : L.length ≤ 256 := by omega
  have HF := Lib.hid hF
  have HN2 := Lib.hid (hN.below hb2)
  have HZ := Lib.hid hz
  have HB2 := Lib.hid hb2
  have HK := Lib.hid (show ∀ x ∈ L, x.kids.length ≤ 4096 from fun x hx => by obtain ⟨j, hj, rfl⟩ := List.getElem_of_mem hx; have := (hF.ins j hj).2.1; omega)
  have HR := Lib.hid (show ∀ W, Below w2.heap.size w2 W → W.heap[w.heap.size + 1]? = some (.cells #[.slice none 0 0, .int .i64 0, .int .i64 0] 24 (0, 0)) from fun W hW => (hW.block _ (by omega)).trans hB)
  have HAll := Lib.hid (show ∀ W, Below w2.heap.size w2 W → W.cell? ⟨w.heap.size, 0, none⟩ = some (.slice a L.length cap) ∧ W.cell? ⟨w.heap.size, 1, none⟩ = some (.int .i64 m) ∧ W.cell? ⟨w.heap.size, 2, none⟩ = some (.int .i64 b) from fun W hW => by
    have h := (hW.block w.heap.size (by omega)).trans hA
    exact ⟨blk_cell h 0, blk_cell h 1, blk_cell h 2⟩)
  clear hF hN hz hb2 hA hB
  go_enter Try.func19, Try.ntmps19
  go_wp2_with fail
  rw [← hw2]
  clear hw2
  refine (lcopied_any a cap m b L hL0 (by omega) HK.out _ HN2.out).mono ?_
  rintro e w3 ⟨g, cap', vs, rfl, hO3, hb3⟩
  have HO3 := Lib.hid hO3
  have HB3 := Lib.hid hb3
  have hs3 := hb3.size
  obtain ⟨q0, q1, q2⟩ := HAll.out _ hb3
  have hq := cell_lt q0
  clear hO3 hb3
  go_wp2_with fail
  obtain ⟨w4, hw4⟩ : ∃ w4, w4 = w3.alloc (.cells #[.slice (some ⟨g, 0, none⟩) L.length cap', .int .i64 m, .int .i64 b] 24) := ⟨_, rfl⟩
  have hb4 : Below w3.heap.size w3 w4 := by rw [hw4]; exact below_box w3 _
  have hM4 : w4.heap[w3.heap.size]? = some (.cells #[.slice (some ⟨g, 0, none⟩) L.length cap', .int .i64 m, .int .i64 b] 24 (0, 0)) := by rw [hw4]; exact new_block w3 _
  have hs4 : w4.heap.size = w3.heap.size + 1 := by rw [hw4]; simp
  rw [← hw4]
  clear hw4 q0 q1 q2 hq
  have HB34 := Lib.hid hb4
  have HB24 := Lib.hid (HB3.out.trans (hb4.mono hs3))
  have HR4 := Lib.hid (show ∀ W, Below w4.heap.size w4 W → W.heap[w.heap.size + 1]? = some (.cells #[.slice none 0 0, .int .i64 0, .int .i64 0] 24 (0, 0)) from fun W hW => HR.out W (HB24.out.trans (hW.mono (by omega))))
  have HA4 := Lib.hid (show ∀ W, Below w4.heap.size w4 W → W.cell? ⟨w.heap.size, 0, none⟩ = some (.slice a L.length cap) ∧ W.cell? ⟨w.heap.size, 1, none⟩ = some (.int .i64 m) ∧ W.cell? ⟨w.heap.size, 2, none⟩ = some (.int .i64 b) from fun W hW => HAll.out W (HB24.out.trans (hW.mono (by omega))))
  have HM4 := Lib.hid (show ∀ W, Below w4.heap.size w4 W → W.cell? ⟨w3.heap.size, 0, none⟩ = some (.slice (some ⟨g, 0, none⟩) L.length cap') ∧ W.cell? ⟨w3.heap.size, 1, none⟩ = some (.int .i64 m) ∧ W.cell? ⟨w3.heap.size, 2, none⟩ = some (.int .i64 b) from fun W hW => by
    have h := (hW.block w3.heap.size (by omega)).trans hM4
    exact ⟨blk_cell h 0, blk_cell h 1, blk_cell h 2⟩)
  have HN4 := Lib.hid (show ∀ W, Below w4.heap.size w4 W → NodesIn W a cap L from fun W hW => HN2.out.below (HB24.out.trans (hW.mono (by omega))))
  have HO4 := Lib.hid (show ∀ W, Below w4.heap.size w4 W → OwnT W (w.heap.size + 2) g cap' L vs from fun W hW => by
    have := HO3.out.below (HB34.out.trans (hW.mono (by omega)))
    rw [hs2] at this
    exact this)
  have HBW := Lib.hid (show ∀ W, Below w4.heap.size w4 W → Below w.heap.size w W from fun W hW => HB2.out.trans ((HB24.out.trans (hW.mono (by omega))).mono (by omega)))
  clear hb4 hM4 HAll HR
  refine (lwalk_kn _ _ _ _ _ _ ho _ L HF.out _ _ HWK.out _ (HN4.out w4 (Below.refl _ _))).mono ?_
  rintro e w5 ⟨rfl, hb5⟩
  have HB45 := Lib.hid hb5
  have hs5 := hb5.size
  clear hb5
  by_cases h1 : we = 0
  · subst h1
    have hlive := walk_live HF.out (cwd := cwd) (p := ob.data.toList) (f := false) (by rw [HWK.out])
    rw [HWK.out] at hlive
    obtain ⟨k, hk, hwz, hk0⟩ := live_ino hlive
    have hwz' : wz = (k : Int) := hwz
    subst hwz'
    obtain ⟨kk, hkk⟩ : ∃ v, L[k].kind = v := ⟨_, rfl⟩
    have HKK := Lib.hid hkk
    have hkl' : (k : Int) < (L.length : Int) := by omega
    have hk0' : (0 : Int) ≤ (k : Int) := by omega
    obtain ⟨bb, o, hab, hx⟩ := (HN4.out w5 HB45.out).2.2 k hk
    subst hab
    have x0 := hx.kind
    rw [hkk] at x0
    obtain ⟨q0, q1, q2⟩ := HA4.out w5 HB45.out
    have hq := cell_lt q0
    clear hx hkk hlive hwz
    by_cases h2 : kk = 2
    · subst h2
      have hz2 := HZ.out
      unfold linkW at hz2
      rw [HWK.out] at hz2
      simp only [ne_eq, not_true_eq_false, if_false] at hz2
      rw [if_pos (by rw [node_nat L k hk]; exact HKK.out)] at hz2
      simp only [Prod.mk.injEq] at hz2
      obtain ⟨rfl, rfl⟩ := hz2
      have HRX := Lib.hid (HR4.out w5 HB45.out)
      have r0 := blk_cell HRX.out 0
      have r1 := blk_cell HRX.out 1
      have r2 := blk_cell HRX.out 2
      have s0 := blk_free HRX.out 0
      have s1 := blk_free HRX.out 1
      have s2 := blk_free HRX.out 2
      have hrl := lt_of_block HRX.out
      obtain ⟨m0, m1, m2⟩ := HM4.out w5 HB45.out
      have hml := cell_lt m0
      go_wp2_with fail
      change bodyPost _ _ _ _ _ (put3 w5 (w.heap.size + 1) (.slice (some ⟨g, 0, none⟩) L.length cap') (.int .i64 m) (.int .i64 b))
      obtain ⟨c0, c1, c2⟩ := put3_cells HRX.out (.slice (some ⟨g, 0, none⟩) L.length cap') (.int .i64 m) (.int .i64 b)
      obtain ⟨hOF, hBF⟩ := end_made3 (c := w.heap.size + 1) (HO4.out w5 HB45.out) (HBW.out w5 HB45.out) (by omega) (by omega) (.slice (some ⟨g, 0, none⟩) L.length cap') (.int .i64 m) (.int .i64 b)
      have HOG := Lib.hid hOF
      have HBG := Lib.hid hBF
      clear hOF hBF
      generalize put3 w5 (w.heap.size + 1) (.slice (some ⟨g, 0, none⟩) L.length cap') (.int .i64 m) (.int .i64 b) = wF at *
      exact bodyPost_ret (v := .tuple #[.agg #[.slice (some ⟨g, 0, none⟩) L.length cap', .int .i64 m, .int .i64 b], .int .i64 1]) (by simp [results, Try.results19, go_sem, c0, c1, c2]) rfl ⟨⟨g, cap', vs, rfl, HOG.out⟩, HBG.out⟩
    · have h2b : (kk == 2) = false := by simpa using h2
      have hz2 := HZ.out
      rw [link_words HF.out cwd ob.data.toList pb.data.toList k hk HWK.out (by rw [HKK.out]; exact h2), HSP.out] at hz2
      simp only [HKK.out] at hz2
      go_wp2_with fail
      refine (lnew_any _ _ _ _ _ _ hp L HF.out _ _ _ _ HSP.out _ (HN4.out w5 HB45.out)).mono ?_
      rintro e w6 ⟨rfl, hb6⟩
      have HB46 := Lib.hid (HB45.out.trans (hb6.mono (by omega)))
      have hs6 := hb6.size
      clear hb6 q0 q1 q2 hq x0
      obtain ⟨q0, q1, q2⟩ := HA4.out w6 HB46.out
      have hq := cell_lt q0
      by_cases h3 : pe = 0
      · subst h3
        simp only [ne_eq, not_true_eq_false, if_false] at hz2
        have hsp0 := HSP.out
        obtain ⟨dn, s', hdn, hpw, hfw, hkd, hnk, hnew, hmay⟩ := fresh_ok HF.out (cwd := cwd) (p := pb.data.toList) (dirs := true) (by
          unfold spotW at hsp0
          split at hsp0
          · rename_i h0
            exfalso
            exact h0 (by simpa using (Prod.mk.inj (Prod.mk.inj (Prod.mk.inj hsp0).2).2).2)
          · rename_i h0
            simpa using h0)
        have hdd : d = (dn : Int) ∧ nm = s' := by
          unfold spotW at hsp0
          rw [hfw] at hsp0
          simp at hsp0
          exact ⟨hsp0.1.symm, hsp0.2.1.symm⟩
        obtain ⟨rfl, rfl⟩ := hdd
        have HNEW := Lib.hid (show L[dn].kind = 2 ∧ nameOkL nm = true ∧ ∀ e ∈ L[dn].kids, e.1 ≠ nm from ⟨hkd, hnk, hnew⟩)
        clear hsp0 hpw hfw hkd hnk hnew hmay
        obtain ⟨rf, hrf⟩ : ∃ v, refuseW L (dn : Int) sl kk = v := ⟨_, rfl⟩
        have HRF := Lib.hid hrf
        simp only [hrf] at hz2
        clear hrf
        go_wp2_with fail
        obtain ⟨w7, hw7⟩ : ∃ w7, w7 = w6.alloc (.cells #[.int .i64 dn, .string ⟨nm.toArray⟩, .bool sl] 74) := ⟨_, rfl⟩
        have hb67 : Below w6.heap.size w6 w7 := by rw [hw7]; exact below_box w6 _
        have hS7 : w7.heap[w6.heap.size]? = some (.cells #[.int .i64 dn, .string ⟨nm.toArray⟩, .bool sl] 74 (0, 0)) := by rw [hw7]; exact new_block w6 _
        have hs7 : w7.heap.size = w6.heap.size + 1 := by rw [hw7]; simp
        rw [← hw7]
        clear hw7 q0 q1 q2 hq
        have HB47 := Lib.hid (HB46.out.trans (hb67.mono (by omega)))
        have HS7 := Lib.hid (show ∀ W, Below w7.heap.size w7 W → W.cell? ⟨w6.heap.size, 0, none⟩ = some (.int .i64 dn) ∧ W.cell? ⟨w6.heap.size, 1, none⟩ = some (.string ⟨nm.toArray⟩) ∧ W.cell? ⟨w6.heap.size, 2, none⟩ = some (.bool sl) from fun W hW => by
          have h := (hW.block w6.heap.size (by omega)).trans hS7
          exact ⟨blk_cell h 0, blk_cell h 1, blk_cell h 2⟩)
        clear hb67 hS7
        have hrefu := lrefuse_any (some ⟨bb, o, none⟩) cap m b dn ⟨nm.toArray⟩ sl kk L (by omega) hdn _ (HN4.out w7 HB47.out)
        rw [HRF.out] at hrefu
        have HREFU := Lib.hid hrefu
        clear hrefu
        refine HREFU.out.mono ?_
        rintro e w8 ⟨rfl, hb8⟩
        have HB48 := Lib.hid (HB47.out.trans (hb8.mono (by omega)))
        have HB78 := Lib.hid hb8
        have hs8 := hb8.size
        clear hb8
        by_cases h5 : rf = 0
        · subst h5
          simp only [not_true_eq_false, if_false, Prod.mk.injEq] at hz2
          obtain ⟨hL', rfl⟩ := hz2
          have hdk : dn ≠ k := fun e => by
            have h1 := HNEW.out.1
            subst e
            exact h2 (HKK.out.symm.trans h1)
          have HL' := Lib.hid (show L' = ((L.set dn (withKids L[dn] (namedL L[dn].kids nm k))).set k { L[k] with links := L[k].links + 1 }) by rw [← hL', Int.toNat_natCast, link_both hdn hk hdk])
          have hlk : 0 ≤ L[k].links ∧ L[k].links ≤ 4611686018427387904 := by
            have h1 := (HF.out.names.2 k hk).1
            rw [countL_get L (kids_pos (kids_there HF.out.ins)) k hk] at h1
            have h2 := few_names HF.out k
            omega
          have hgive := lgive_any (w.heap.size + 2) g cap' dn k m b nm sl L vs hdn hk hdk (kids_rise HF.out.ins dn hdn).2 (HF.out.ins dn hdn).2.1 HNEW.out.2.2 hlk.1 hlk.2 w8 (by have := (HBW.out w8 HB48.out).size; omega) (HO4.out w8 HB48.out)
          have HGIVE := Lib.hid hgive
          obtain ⟨u0, u1, u2⟩ := HS7.out w8 HB78.out
          have hul := cell_lt u0
          have hg3 : g < w3.heap.size := HO3.out.nodes.lt
          clear hgive hL' hlk
          obtain ⟨m0, m1, m2⟩ := HM4.out w8 HB48.out
          have hml := cell_lt m0
          go_wp2_with fail
          refine HGIVE.out.mono ?_
          rintro e w9 ⟨rfl, ⟨vs', hO9⟩, hb9, hkeep⟩
          have hM9 : w9.heap[w3.heap.size]? = w8.heap[w3.heap.size]? := hkeep _ HO3.out.under _ (Nat.le_refl _) (cell_lt m0)
          clear m0 m1 m2 u0 u1 u2 hml hul
          have m0 := (World.cell?_of_block (a := ⟨w3.heap.size, 0, none⟩) hM9).trans (HM4.out w8 HB48.out).1
          have m1 := (World.cell?_of_block (a := ⟨w3.heap.size, 1, none⟩) hM9).trans (HM4.out w8 HB48.out).2.1
          have m2 := (World.cell?_of_block (a := ⟨w3.heap.size, 2, none⟩) hM9).trans (HM4.out w8 HB48.out).2.2
          have hml := cell_lt m0
          have HRX := Lib.hid (show w9.heap[w.heap.size + 1]? = some (.cells #[.slice none 0 0, .int .i64 0, .int .i64 0] 24 (0, 0)) from (hb9.block _ (by omega)).trans (HR4.out w8 HB48.out))
          have r0 := blk_cell HRX.out 0
          have r1 := blk_cell HRX.out 1
          have r2 := blk_cell HRX.out 2
          have s0 := blk_free HRX.out 0
          have s1 := blk_free HRX.out 1
          have s2 := blk_free HRX.out 2
          have hrl := lt_of_block HRX.out
          rw [← HL'.out] at hO9
          have HO9 := Lib.hid hO9
          have HB9 := Lib.hid ((HBW.out w8 HB48.out).trans (hb9.mono (show w.heap.size ≤ w.heap.size + 2 by omega)))
          have hL9 : L'.length = L.length := by rw [HL'.out, List.length_set, List.length_set]
          clear hO9 hb9 hkeep hM9
          go_wp2_with fail
          change bodyPost _ _ _ _ _ (put3 w9 (w.heap.size + 1) (.slice (some ⟨g, 0, none⟩) L.length cap') (.int .i64 m) (.int .i64 b))
          obtain ⟨c0, c1, c2⟩ := put3_cells HRX.out (.slice (some ⟨g, 0, none⟩) L.length cap') (.int .i64 m) (.int .i64 b)
          obtain ⟨hOF, hBF⟩ := end_made3 (c := w.heap.size + 1) HO9.out HB9.out (by omega) (by omega) (.slice (some ⟨g, 0, none⟩) L.length cap') (.int .i64 m) (.int .i64 b)
          have HOG := Lib.hid hOF
          have HBG := Lib.hid hBF
          clear hOF hBF
          generalize put3 w9 (w.heap.size + 1) (.slice (some ⟨g, 0, none⟩) L.length cap') (.int .i64 m) (.int .i64 b) = wF at *
          exact bodyPost_ret (v := .tuple #[.agg #[.slice (some ⟨g, 0, none⟩) L.length cap', .int .i64 m, .int .i64 b], .int .i64 0]) (by simp [results, Try.results19, go_sem, c0, c1, c2]) rfl ⟨⟨g, cap', vs', by rw [hL9]; rfl, HOG.out⟩, HBG.out⟩
        · rw [if_pos h5] at hz2
          simp only [Prod.mk.injEq] at hz2
          obtain ⟨rfl, rfl⟩ := hz2
          have hb5 : (rf != 0) = true := by simpa using h5
          have HRX := Lib.hid (HR4.out w8 HB48.out)
          have r0 := blk_cell HRX.out 0
          have r1 := blk_cell HRX.out 1
          have r2 := blk_cell HRX.out 2
          have s0 := blk_free HRX.out 0
          have s1 := blk_free HRX.out 1
          have s2 := blk_free HRX.out 2
          have hrl := lt_of_block HRX.out
          obtain ⟨m0, m1, m2⟩ := HM4.out w8 HB48.out
          have hml := cell_lt m0
          go_wp2_with fail
          change bodyPost _ _ _ _ _ (put3 w8 (w.heap.size + 1) (.slice (some ⟨g, 0, none⟩) L.length cap') (.int .i64 m) (.int .i64 b))
          obtain ⟨c0, c1, c2⟩ := put3_cells HRX.out (.slice (some ⟨g, 0, none⟩) L.length cap') (.int .i64 m) (.int .i64 b)
          obtain ⟨hOF, hBF⟩ := end_made3 (c := w.heap.size + 1) (HO4.out w8 HB48.out) (HBW.out w8 HB48.out) (by omega) (by omega) (.slice (some ⟨g, 0, none⟩) L.length cap') (.int .i64 m) (.int .i64 b)
          have HOG := Lib.hid hOF
          have HBG := Lib.hid hBF
          clear hOF hBF
          generalize put3 w8 (w.heap.size + 1) (.slice (some ⟨g, 0, none⟩) L.length cap') (.int .i64 m) (.int .i64 b) = wF at *
          exact bodyPost_ret (v := .tuple #[.agg #[.slice (some ⟨g, 0, none⟩) L.length cap', .int .i64 m, .int .i64 b], .int .i64 rf]) (by simp [results, Try.results19, go_sem, c0, c1, c2]) rfl ⟨⟨g, cap', vs, rfl, HOG.out⟩, HBG.out⟩
      · rw [if_pos h3] at hz2
        simp only [Prod.mk.injEq] at hz2
        obtain ⟨rfl, rfl⟩ := hz2
        have hb3 : (pe != 0) = true := by simpa using h3
        have hb3' : (pe == 0) = false := by simpa using h3
        clear q0 q1 q2 hq
        have HRX := Lib.hid (HR4.out w6 HB46.out)
        have r0 := blk_cell HRX.out 0
        have r1 := blk_cell HRX.out 1
        have r2 := blk_cell HRX.out 2
        have s0 := blk_free HRX.out 0
        have s1 := blk_free HRX.out 1
        have s2 := blk_free HRX.out 2
        have hrl := lt_of_block HRX.out
        obtain ⟨m0, m1, m2⟩ := HM4.out w6 HB46.out
        have hml := cell_lt m0
        go_wp2_with fail
        change bodyPost _ _ _ _ _ ((put3 w6 (w.heap.size + 1) (.slice (some ⟨g, 0, none⟩) L.length cap') (.int .i64 m) (.int .i64 b)).alloc (.cells #[.int .i64 d, .string ⟨nm.toArray⟩, .bool sl] 74))
        obtain ⟨c0, c1, c2⟩ := put3_cells HRX.out (.slice (some ⟨g, 0, none⟩) L.length cap') (.int .i64 m) (.int .i64 b)
        obtain ⟨hOF, hBF⟩ := end_made (HO4.out w6 HB46.out) (HBW.out w6 HB46.out) (.slice (some ⟨g, 0, none⟩) L.length cap') (.int .i64 m) (.int .i64 b)
        have hbx := below_box (put3 w6 (w.heap.size + 1) (.slice (some ⟨g, 0, none⟩) L.length cap') (.int .i64 m) (.int .i64 b)) (.cells #[.int .i64 d, .string ⟨nm.toArray⟩, .bool sl] 74)
        have d0 := cell_below hbx c0
        have d1 := cell_below hbx c1
        have d2 := cell_below hbx c2
        have HOG := Lib.hid (hOF.below hbx)
        have HBG := Lib.hid (hBF.trans (hbx.mono hBF.size))
        clear c0 c1 c2 hOF hBF hbx
        generalize (put3 w6 (w.heap.size + 1) (.slice (some ⟨g, 0, none⟩) L.length cap') (.int .i64 m) (.int .i64 b)).alloc (.cells #[.int .i64 d, .string ⟨nm.toArray⟩, .bool sl] 74) = wF at *
        exact bodyPost_ret (v := .tuple #[.agg #[.slice (some ⟨g, 0, none⟩) L.length cap', .int .i64 m, .int .i64 b], .int .i64 pe]) (by simp [results, Try.results19, go_sem, d0, d1, d2]) rfl ⟨⟨g, cap', vs, rfl, HOG.out⟩, HBG.out⟩
  · have hz2 := HZ.out
    unfold linkW at hz2
    rw [HWK.out] at hz2
    rw [if_pos h1] at hz2
    simp only [Prod.mk.injEq] at hz2
    obtain ⟨rfl, rfl⟩ := hz2
    have hb1 : (we != 0) = true := by simpa using h1
    have HRX := Lib.hid (HR4.out w5 HB45.out)
    have r0 := blk_cell HRX.out 0
    have r1 := blk_cell HRX.out 1
    have r2 := blk_cell HRX.out 2
    have s0 := blk_free HRX.out 0
    have s1 := blk_free HRX.out 1
    have s2 := blk_free HRX.out 2
    have hrl := lt_of_block HRX.out
    obtain ⟨m0, m1, m2⟩ := HM4.out w5 HB45.out
    have hml := cell_lt m0
    go_wp2_with fail
    change bodyPost _ _ _ _ _ (put3 w5 (w.heap.size + 1) (.slice (some ⟨g, 0, none⟩) L.length cap') (.int .i64 m) (.int .i64 b))
    obtain ⟨c0, c1, c2⟩ := put3_cells HRX.out (.slice (some ⟨g, 0, none⟩) L.length cap') (.int .i64 m) (.int .i64 b)
    obtain ⟨hOF, hBF⟩ := end_made3 (c := w.heap.size + 1) (HO4.out w5 HB45.out) (HBW.out w5 HB45.out) (by omega) (by omega) (.slice (some ⟨g, 0, none⟩) L.length cap') (.int .i64 m) (.int .i64 b)
    have HOG := Lib.hid hOF
    have HBG := Lib.hid hBF
    clear hOF hBF
    generalize put3 w5 (w.heap.size + 1) (.slice (some ⟨g, 0, none⟩) L.length cap') (.int .i64 m) (.int .i64 b) = wF at *
    exact bodyPost_ret (v := .tuple #[.agg #[.slice (some ⟨g, 0, none⟩) L.length cap', .int .i64 m, .int .i64 b], .int .i64 we]) (by simp [results, Try.results19, go_sem, c0, c1, c2]) rfl ⟨⟨g, cap', vs, rfl, HOG.out⟩, HBG.out⟩
end Go.Proofs.Ytogheigpcppeiaa

namespace Go.Proofs.Ytogheigpcppeiaa
set_option maxRecDepth 100000
open Go Go.RowKit

/-- What a new name of a new inode is. -/
structure MadeOk (L : List Ino) (m b : Int) (cwd : Int) (p : List UInt8) (x : Ino) (L' : List Ino) (k : Int) : Prop where
  made : ∃ (d : Nat) (s : List UInt8) (j : Nat), k = (j : Int) ∧ parentW L cwd p = ((d : Int), s, 0) ∧ L' = addL L d j s { x with links := 1 } ∧ (∃ h : j < L.length, L[j].kind = 0) ∧ Adds L m b d j s { x with links := 1 } ∧ j ≠ 0
theorem used_one : ∀ (L : List Ino) (k : Nat) (h : k < L.length), L[k].data.length ≤ usedB L
  | x :: r, 0, _ => by show x.data.length ≤ x.data.length + usedB r; omega
  | x :: r, k + 1, h => by
    have := used_one r k (Nat.lt_of_succ_lt_succ h)
    show (r[k]'(Nat.lt_of_succ_lt_succ h)).data.length ≤ x.data.length + usedB r
    omega
/-- A fit tree's texts are short. -/
theorem sized_fit {L : List Ino} {m b : Int} (hF : FitP L m b) : Sized L := fun k hk => by
  obtain ⟨l1, l2, l3, l4, l5⟩ := hF.limits
  have h1 := used_one L k hk
  refine ⟨by omega, fun e he => ?_⟩
  have := (name_parts (name_of hF.ins hk he).1).2.2.2.1
  omega
theorem root_used {L : List Ino} {m b : Int} (hF : FitP L m b) (h : 0 < L.length) : L[0].kind = 2 := (dir_nat (n := 0) h).1 hF.root
theorem added_ok {L : List Ino} {m b : Int} (hF : FitP L m b) {cwd : Int} {p : List UInt8} {dirs : Bool} (h : (freshW L cwd p dirs).2.2 = 0) {x : Ino} (ha : aloneB { x with links := 1 } = true) (h0 : x.kind ≠ 0) (hkids : x.kids = []) (hup : x.kind = 2 → x.up = (freshW L cwd p dirs).1) (hub : (usedB L : Int) + x.data.length ≤ b)
    {L' : List Ino} {k e : Int} (hz : addedW L (freshW L cwd p dirs).1 (freshW L cwd p dirs).2.1 x = (L', k, e)) : (e = 0 → MadeOk L m b cwd p x L' k) ∧ (e ≠ 0 → L' = L ∧ k = 0) := by
  obtain ⟨d, s, hd, hp, hf, hdir, hs, hn, -⟩ := fresh_ok hF h
  rw [hf] at hz hup
  unfold addedW at hz
  split at hz
  · cases hz
    exact ⟨(fun h => by cases h), fun _ => ⟨rfl, rfl⟩⟩
  · rename_i hroom
    have hroom' : L[d].kids.length < 1024 := by
      have h1 : ¬ 1024 ≤ (nodeAt L (d : Int)).kids.length := hroom
      rw [node_nat L d hd] at h1
      omega
    split at hz
    · cases hz
      exact ⟨(fun h => by cases h), fun _ => ⟨rfl, rfl⟩⟩
    · rename_i j hj
      obtain ⟨hjl, hj0, hA⟩ := added_adds hF hd hdir hs hn hj hroom' ha h0 hkids hup hub
      cases hz
      refine ⟨fun _ => ⟨d, s, j, rfl, hp, by rw [Int.toNat_natCast], ⟨hjl, hj0⟩, hA, fun e => ?_⟩, fun h => absurd rfl h⟩
      subst e
      rw [root_used hF hjl] at hj0
      cases hj0
theorem fresh_or {L : List Ino} {cwd : Int} {p : List UInt8} {dirs : Bool} {A B : List Ino × Int × Int} {z : List Ino × Int × Int} (h : (if (freshW L cwd p dirs).2.2 ≠ 0 then A else B) = z) : ((freshW L cwd p dirs).2.2 ≠ 0 ∧ A = z) ∨ ((freshW L cwd p dirs).2.2 = 0 ∧ B = z) := by
  by_cases h0 : (freshW L cwd p dirs).2.2 = 0
  · rw [if_neg (by simp [h0])] at h
    exact Or.inr ⟨h0, h⟩
  · rw [if_pos h0] at h
    exact Or.inl ⟨h0, h⟩
theorem mkdir_made {L : List Ino} {m b : Int} (hF : FitP L m b) {cwd : Int} {p : List UInt8} {q : Int} {L' : List Ino} {k e : Int} (hz : mkdirW L cwd p q = (L', k, e)) : (e = 0 → modeB q = true ∧ ∃ u, MadeOk L m b cwd p (newIno 2 q [] u) L' k) ∧ (e ≠ 0 → L' = L ∧ k = 0) := by
  obtain ⟨-, -, -, l4, -⟩ := hF.limits
  unfold mkdirW at hz
  split at hz
  · cases hz
    exact ⟨(fun h => by cases h), fun _ => ⟨rfl, rfl⟩⟩
  · rename_i hq
    have hq' : modeB q = true := by simpa using hq
    rcases fresh_or hz with ⟨h1, h2⟩ | ⟨h1, h2⟩
    · cases h2
      exact ⟨fun h => absurd h h1, fun _ => ⟨rfl, rfl⟩⟩
    · have := added_ok hF h1 (x := newIno 2 q [] (freshW L cwd p true).1) (alone_dir q _ hq') (by show (2 : Int) ≠ 0; decide) rfl (fun _ => rfl) (by show (usedB L : Int) + (0 : Nat) ≤ b; omega) h2
      exact ⟨fun h => ⟨hq', _, this.1 h⟩, this.2⟩
theorem create_made {L : List Ino} {m b : Int} (hF : FitP L m b) {cwd : Int} {p : List UInt8} {q : Int} {L' : List Ino} {k e : Int} (hz : createW L cwd p q = (L', k, e)) : (e = 0 → modeB q = true ∧ MadeOk L m b cwd p (newIno 1 q [] 0) L' k) ∧ (e ≠ 0 → L' = L ∧ k = 0) := by
  obtain ⟨-, -, -, l4, -⟩ := hF.limits
  unfold createW at hz
  split at hz
  · cases hz
    exact ⟨(fun h => by cases h), fun _ => ⟨rfl, rfl⟩⟩
  · rename_i hq
    have hq' : modeB q = true := by simpa using hq
    rcases fresh_or hz with ⟨h1, h2⟩ | ⟨h1, h2⟩
    · cases h2
      exact ⟨fun h => absurd h h1, fun _ => ⟨rfl, rfl⟩⟩
    · have := added_ok hF h1 (x := newIno 1 q [] 0) (alone_file q hq') (by show (1 : Int) ≠ 0; decide) rfl (fun h => by cases h) (by show (usedB L : Int) + (0 : Nat) ≤ b; omega) h2
      exact ⟨fun h => ⟨hq', this.1 h⟩, this.2⟩
theorem symlink_made {L : List Ino} {m b : Int} (hF : FitP L m b) {cwd : Int} {to p : List UInt8} {L' : List Ino} {k e : Int} (hz : symlinkW L b cwd to p = (L', k, e)) : (e = 0 → MadeOk L m b cwd p (newIno 3 7 to 0) L' k) ∧ (e ≠ 0 → L' = L ∧ k = 0) := by
  unfold symlinkW at hz
  split at hz
  · cases hz
    exact ⟨(fun h => by cases h), fun _ => ⟨rfl, rfl⟩⟩
  · rename_i h1
    split at hz
    · cases hz
      exact ⟨(fun h => by cases h), fun _ => ⟨rfl, rfl⟩⟩
    · rename_i h2
      rcases fresh_or hz with ⟨h3, h4⟩ | ⟨h3, h4⟩
      · cases h4
        exact ⟨fun h => absurd h h3, fun _ => ⟨rfl, rfl⟩⟩
      · split at h4
        · cases h4
          exact ⟨(fun h => by cases h), fun _ => ⟨rfl, rfl⟩⟩
        · rename_i h5
          exact added_ok hF h3 (x := newIno 3 7 to 0) (alone_link to (fun e => h1 (Or.inl e)) (by cases h : to.any (fun c => c == 0) with | false => rfl | true => exact absurd (Or.inr h) h1) (by omega)) (by show (3 : Int) ≠ 0; decide) rfl (fun h => by cases h) (by show (usedB L : Int) + to.length ≤ b; omega) h4
theorem MadeOk.fits {L : List Ino} {m b : Int} {cwd : Int} {p : List UInt8} {x : Ino} {L' : List Ino} {k : Int} (h : MadeOk L m b cwd p x L' k) : FitP L' m b := by
  obtain ⟨d, s, j, -, -, rfl, -, hA, -⟩ := h.made
  exact hA.fits
theorem link_made {L : List Ino} {m b : Int} (hF : FitP L m b) {cwd : Int} {old p : List UInt8} {L' : List Ino} {e : Int} (hz : linkW L cwd old p = (L', e)) :
    (e = 0 → ∃ (d : Nat) (s : List UInt8) (k : Nat) (hk : k < L.length), walkW L cwd old false = ((k : Int), 0) ∧ parentW L cwd p = ((d : Int), s, 0) ∧ L' = addL L d k s { L[k] with links := L[k].links + 1 } ∧ Adds L m b d k s { L[k] with links := L[k].links + 1 }) ∧ (e ≠ 0 → L' = L) := by
  unfold linkW at hz
  split at hz
  · rename_i h1
    cases hz
    exact ⟨fun h => absurd h h1, fun _ => rfl⟩
  · rename_i h1
    have h1' : (walkW L cwd old false).2 = 0 := by simpa using h1
    obtain ⟨k, hk, hwk, hk0⟩ := live_ino (walk_live hF h1')
    split at hz
    · cases hz
      exact ⟨(fun h => by cases h), fun _ => rfl⟩
    · rename_i h2
      rw [hwk, node_nat L k hk] at h2
      split at hz
      · rename_i h3
        cases hz
        exact ⟨fun h => absurd h h3, fun _ => rfl⟩
      · rename_i h3
        have h3' : (freshW L cwd p false).2.2 = 0 := by simpa using h3
        obtain ⟨d, s, hd, hp, hf, hdir, hs, hn, -⟩ := fresh_ok hF h3'
        rw [hf, hwk, node_nat L k hk] at hz
        split at hz
        · cases hz
          exact ⟨(fun h => by cases h), fun _ => rfl⟩
        · rename_i h4
          have hroom : L[d].kids.length < 1024 := by
            have h5 : ¬ 1024 ≤ (nodeAt L (d : Int)).kids.length := h4
            rw [node_nat L d hd] at h5
            omega
          cases hz
          refine ⟨fun _ => ⟨d, s, k, hk, Prod.ext hwk h1', hp, by rw [Int.toNat_natCast, Int.toNat_natCast], link_adds hF hd hdir hs hn hroom hk hk0 h2⟩, fun h => absurd rfl h⟩
theorem chmod_made {L : List Ino} {m b : Int} (hF : FitP L m b) {cwd : Int} {p : List UInt8} {q : Int} {L' : List Ino} {e : Int} (hz : chmodW L cwd p q = (L', e)) :
    (e = 0 → ∃ (k : Nat) (hk : k < L.length), walkW L cwd p true = ((k : Int), 0) ∧ L' = L.set k { L[k] with mode := q } ∧ Puts L m b k { L[k] with mode := q }) ∧ (e ≠ 0 → L' = L) := by
  unfold chmodW at hz
  split at hz
  · cases hz
    exact ⟨(fun h => by cases h), fun _ => rfl⟩
  · rename_i hq
    have hq' : modeB q = true := by simpa using hq
    split at hz
    · rename_i h1
      cases hz
      exact ⟨fun h => absurd h h1, fun _ => rfl⟩
    · rename_i h1
      have h1' : (walkW L cwd p true).2 = 0 := by simpa using h1
      obtain ⟨k, hk, hwk, hk0⟩ := live_ino (walk_live hF h1')
      rw [hwk, node_nat L k hk] at hz
      cases hz
      refine ⟨fun _ => ⟨k, hk, Prod.ext hwk h1', by rw [Int.toNat_natCast], mode_puts hF hk hk0 hq'⟩, fun h => absurd rfl h⟩
end Go.Proofs.Ytogheigpcppeiaa

namespace Go.Proofs.Ytogheigpcppeiaa
set_option maxRecDepth 100000
open Go Go.RowKit

def aw0 : List Ino := (newT 8 100).nodes
def aw1 : List Ino := (mkdirW aw0 0 [97] 7).1
def aw2 : List Ino := (createW aw1 0 [97, 47, 102] 6).1
def aw3 : List Ino := (linkW aw2 0 [97, 47, 102] [103]).1
theorem aw_mk : mkdirW aw0 0 [97] 7 = (aw1, 1, 0) := Prod.ext rfl (by decide +kernel)
theorem aw_cr : createW aw1 0 [97, 47, 102] 6 = (aw2, 2, 0) := Prod.ext rfl (by decide +kernel)
theorem aw_ln : linkW aw2 0 [97, 47, 102] [103] = (aw3, 0) := Prod.ext rfl (by decide +kernel)
theorem aw_fit0 : FitP aw0 8 100 := new_fit (n := 8) (b := 100) (by decide) (by decide) (by decide) (by decide)
theorem aw_fit1 : FitP aw1 8 100 := by
  obtain ⟨-, u, h⟩ := (mkdir_made aw_fit0 aw_mk).1 rfl
  exact h.fits
theorem aw_fit2 : FitP aw2 8 100 := ((create_made aw_fit1 aw_cr).1 rfl).2.fits
theorem aw_fit3 : FitP aw3 8 100 := by
  obtain ⟨d, s, k, hk, -, -, h, hA⟩ := (link_made aw_fit2 aw_ln).1 rfl
  rw [h]
  exact hA.fits
theorem aw_len : aw0.length = 8 ∧ aw1.length = 8 ∧ aw2.length = 8 ∧ aw3.length = 8 := by decide +kernel
theorem aw_used : usedN aw3 = 3 := by decide +kernel
theorem aw_links : (nodeAt aw3 2).links = 2 := by decide +kernel
theorem aw_again : (mkdirW aw3 0 [97] 7).2 = (0, 17) := by decide +kernel

theorem MadeAns.three {base : Nat} {w w' : World} {m b k z : Int} {L' : List Ino} {e : Ending} (h : MadeAns base w m b L' [.int .i64 k, .int .i64 z] e w') :
    ∃ g cap vs, e = .returned (.tuple #[.agg #[.slice (some ⟨g, 0, none⟩) L'.length cap, .int .i64 m, .int .i64 b], .int .i64 k, .int .i64 z]) ∧ OwnT w' base g cap L' vs ∧ Below w.heap.size w w' := by
  obtain ⟨⟨g, cap, vs, he, hO⟩, hb⟩ := h
  exact ⟨g, cap, vs, he, hO, hb⟩
theorem MadeAns.two {base : Nat} {w w' : World} {m b z : Int} {L' : List Ino} {e : Ending} (h : MadeAns base w m b L' [.int .i64 z] e w') :
    ∃ g cap vs, e = .returned (.tuple #[.agg #[.slice (some ⟨g, 0, none⟩) L'.length cap, .int .i64 m, .int .i64 b], .int .i64 z]) ∧ OwnT w' base g cap L' vs ∧ Below w.heap.size w w' := by
  obtain ⟨⟨g, cap, vs, he, hO⟩, hb⟩ := h
  exact ⟨g, cap, vs, he, hO, hb⟩

set_option maxHeartbeats 8000000 in
theorem awake5 (w : World) : Calls Try.prog 7 #[] w fun e w' => e = .returned (.bool true) ∧ Below w.heap.size w w' := by
  have hnew : ∀ w, Calls Try.prog 23 #[.int .i64 8, .int .i64 100] w fun e w' => (∃ a cap, e = .returned (.tuple #[.agg #[.slice a aw0.length cap, .int .i64 8, .int .i64 100], .int .i64 0]) ∧ NodesIn w' a cap aw0) ∧ Below w.heap.size w w' :=
    fun w => (rnew_yes 8 100 (by decide) (by decide) (by decide) (by decide) w).mono fun e w' h => by
      obtain ⟨⟨v, rfl, a, cap, rfl, hN⟩, hb⟩ := h
      exact ⟨⟨a, cap, rfl, hN⟩, hb⟩
  obtain ⟨l0, l1, l2, l3⟩ := aw_len
  have F0 := Lib.hid aw_fit0
  have F1 := Lib.hid aw_fit1
  have F2 := Lib.hid aw_fit2
  have F3 := Lib.hid aw_fit3
  have E1 := Lib.hid aw_mk
  have E2 := Lib.hid aw_cr
  have E3 := Lib.hid aw_ln
  have hU : usedN aw3 = 3 := aw_used
  have EL := Lib.hid aw_links
  obtain ⟨A4, hA4⟩ : ∃ A4, mkdirW aw3 0 [97] 7 = (A4, 0, 17) := ⟨(mkdirW aw3 0 [97] 7).1, Prod.ext rfl aw_again⟩
  have E4 := Lib.hid hA4
  clear hA4
  obtain ⟨A0, h0⟩ : ∃ L, L = aw0 := ⟨_, rfl⟩
  obtain ⟨A1, h1⟩ : ∃ L, L = aw1 := ⟨_, rfl⟩
  obtain ⟨A2, h2⟩ : ∃ L, L = aw2 := ⟨_, rfl⟩
  obtain ⟨A3, h3⟩ : ∃ L, L = aw3 := ⟨_, rfl⟩
  rw [← h0] at hnew F0 E1 l0
  rw [← h1] at F1 E1 E2 l1
  rw [← h2] at F2 E2 E3 l2
  rw [← h3] at F3 E3 E4 EL hU l3
  have HNEW := Lib.hid hnew
  have HU := Lib.hid hU
  have hB3 := Lib.hid (show usedB A3 ≤ 1048576 from by have := F3.out.limits; obtain ⟨_, _, _, l4, l5⟩ := this; omega)
  have HL3 := Lib.hid l3
  have HL2 := Lib.hid l2
  have HL1 := Lib.hid l1
  clear hnew h0 h1 h2 h3 hU l0 l1 l2 l3
  go_enter Try.func7, Try.ntmps7
  go_wp2_with fail
  refine (HNEW.out _).mono ?_
  rintro e w1 ⟨⟨a, cap, rfl, hN⟩, hb1⟩
  have HN := Lib.hid hN
  have HB1 := Lib.hid hb1
  have hs1 := hb1.size
  clear hN hb1
  go_wp2_with fail
  obtain ⟨w2, hw2⟩ : ∃ w2, w2 = w1.alloc (.cells #[.slice a A0.length cap, .int .i64 8, .int .i64 100] 24) := ⟨_, rfl⟩
  have hb2 : Below w1.heap.size w1 w2 := by rw [hw2]; exact below_box w1 _
  have hX2 : w2.heap[w1.heap.size]? = some (.cells #[.slice a A0.length cap, .int .i64 8, .int .i64 100] 24 (0, 0)) := by rw [hw2]; exact new_block w1 _
  have hs2 : w2.heap.size = w1.heap.size + 1 := by rw [hw2]; simp
  rw [← hw2]
  have HB2 := Lib.hid (HB1.out.trans (hb2.mono hs1))
  have HN2 := Lib.hid (HN.out.below hb2)
  have HX2 := Lib.hid hX2
  clear hw2 hb2 hX2
  have q0 := blk_cell HX2.out 0
  have q1 := blk_cell HX2.out 1
  have q2 := blk_cell HX2.out 2
  clear q0 q1 q2
  refine (lmkdir_any _ _ _ _ _ _ ⟨#[97]⟩ (by decide) A0 F0.out _ _ _ E1.out _ HN2.out).mono ?_
  rintro e u3 hmade
  obtain ⟨g3, c3, v3, rfl, hO, hb⟩ := MadeAns.three hmade
  have hXu := (hb.block w1.heap.size (by omega)).trans HX2.out
  have HXU := Lib.hid hXu
  have HOU := Lib.hid hO
  have HBU := Lib.hid (HB2.out.trans (hb.mono (by omega)))
  have hsu := hb.size
  have q0 := blk_cell HXU.out 0
  have q1 := blk_cell HXU.out 1
  have q2 := blk_cell HXU.out 2
  have f0 := blk_free HXU.out 0
  have f1 := blk_free HXU.out 1
  have f2 := blk_free HXU.out 2
  have hql := lt_of_block HXU.out
  clear hmade hXu hO hb
  go_wp2_with fail
  obtain ⟨p3, hp3⟩ : ∃ p, p = put3 u3 w1.heap.size (.slice (some ⟨g3, 0, none⟩) A1.length c3) (.int .i64 8) (.int .i64 100) := ⟨_, rfl⟩
  change Calls _ _ _ (put3 u3 w1.heap.size (.slice (some ⟨g3, 0, none⟩) A1.length c3) (.int .i64 8) (.int .i64 100)) _
  rw [← hp3]
  have hsp3 : p3.heap.size = u3.heap.size := by rw [hp3]; exact put3_size _ _ _ _ _
  have HX3 := Lib.hid (show p3.heap[w1.heap.size]? = some (.cells #[.slice (some ⟨g3, 0, none⟩) A1.length c3, .int .i64 8, .int .i64 100] 24 (0, 0)) by rw [hp3]; exact put3_block HXU.out _ _ _)
  have HO3 := Lib.hid (show OwnT p3 _ g3 c3 A1 v3 by rw [hp3]; exact HOU.out.low fun k hk => put3_other (by omega) _ _ _)
  have HB3 := Lib.hid (show Below w.heap.size w p3 by rw [hp3]; exact put3_below HBU.out (by omega) _ _ _)
  clear hp3 HXU HOU HBU q0 q1 q2 f0 f1 f2 hql
  refine (lcreate_any _ _ _ _ _ _ ⟨#[97, 47, 102]⟩ (by decide) A1 F1.out _ _ _ E2.out _ HO3.out.nodesIn).mono ?_
  rintro e u4 hmade
  obtain ⟨g4, c4, v4, rfl, hO, hb⟩ := MadeAns.three hmade
  have hXu := (hb.block w1.heap.size (by omega)).trans HX3.out
  have HXU := Lib.hid hXu
  have HOU := Lib.hid hO
  have HBU := Lib.hid (HB3.out.trans (hb.mono (by omega)))
  have hsu := hb.size
  have q0 := blk_cell HXU.out 0
  have q1 := blk_cell HXU.out 1
  have q2 := blk_cell HXU.out 2
  have f0 := blk_free HXU.out 0
  have f1 := blk_free HXU.out 1
  have f2 := blk_free HXU.out 2
  have hql := lt_of_block HXU.out
  clear hmade hXu hO hb
  go_wp2_with fail
  obtain ⟨p4, hp4⟩ : ∃ p, p = put3 u4 w1.heap.size (.slice (some ⟨g4, 0, none⟩) A2.length c4) (.int .i64 8) (.int .i64 100) := ⟨_, rfl⟩
  change Calls _ _ _ (put3 u4 w1.heap.size (.slice (some ⟨g4, 0, none⟩) A2.length c4) (.int .i64 8) (.int .i64 100)) _
  rw [← hp4]
  have hsp4 : p4.heap.size = u4.heap.size := by rw [hp4]; exact put3_size _ _ _ _ _
  have HX4 := Lib.hid (show p4.heap[w1.heap.size]? = some (.cells #[.slice (some ⟨g4, 0, none⟩) A2.length c4, .int .i64 8, .int .i64 100] 24 (0, 0)) by rw [hp4]; exact put3_block HXU.out _ _ _)
  have HO4 := Lib.hid (show OwnT p4 _ g4 c4 A2 v4 by rw [hp4]; exact HOU.out.low fun k hk => put3_other (by omega) _ _ _)
  have HB4 := Lib.hid (show Below w.heap.size w p4 by rw [hp4]; exact put3_below HBU.out (by omega) _ _ _)
  clear hp4 HXU HOU HBU q0 q1 q2 f0 f1 f2 hql
  refine (llink_any _ _ _ _ _ ⟨#[97, 47, 102]⟩ ⟨#[103]⟩ (by decide) (by decide) A2 F2.out _ _ E3.out _ HO4.out.nodesIn).mono ?_
  rintro e u5 hmade
  obtain ⟨g5, c5, v5, rfl, hO, hb⟩ := MadeAns.two hmade
  have hXu := (hb.block w1.heap.size (by omega)).trans HX4.out
  have HXU := Lib.hid hXu
  have HOU := Lib.hid hO
  have HBU := Lib.hid (HB4.out.trans (hb.mono (by omega)))
  have hsu := hb.size
  have q0 := blk_cell HXU.out 0
  have q1 := blk_cell HXU.out 1
  have q2 := blk_cell HXU.out 2
  have f0 := blk_free HXU.out 0
  have f1 := blk_free HXU.out 1
  have f2 := blk_free HXU.out 2
  have hql := lt_of_block HXU.out
  clear hmade hXu hO hb
  go_wp2_with fail
  obtain ⟨p5, hp5⟩ : ∃ p, p = put3 u5 w1.heap.size (.slice (some ⟨g5, 0, none⟩) A3.length c5) (.int .i64 8) (.int .i64 100) := ⟨_, rfl⟩
  change Calls _ _ _ (put3 u5 w1.heap.size (.slice (some ⟨g5, 0, none⟩) A3.length c5) (.int .i64 8) (.int .i64 100)) _
  rw [← hp5]
  have hsp5 : p5.heap.size = u5.heap.size := by rw [hp5]; exact put3_size _ _ _ _ _
  have HX5 := Lib.hid (show p5.heap[w1.heap.size]? = some (.cells #[.slice (some ⟨g5, 0, none⟩) A3.length c5, .int .i64 8, .int .i64 100] 24 (0, 0)) by rw [hp5]; exact put3_block HXU.out _ _ _)
  have HO5 := Lib.hid (show OwnT p5 _ g5 c5 A3 v5 by rw [hp5]; exact HOU.out.low fun k hk => put3_other (by omega) _ _ _)
  have HB5 := Lib.hid (show Below w.heap.size w p5 by rw [hp5]; exact put3_below HBU.out (by omega) _ _ _)
  clear hp5 HXU HOU HBU q0 q1 q2 f0 f1 f2 hql
  refine (rused_any _ _ _ _ A3 (by have := HL3.out; omega) (by have := hB3.out; omega) _ HO5.out.nodesIn).mono ?_
  rintro e w6 ⟨rfl, hb6⟩
  have hX6 := (hb6.block w1.heap.size (by omega)).trans HX5.out
  have HX6 := Lib.hid hX6
  have HO6 := Lib.hid (HO5.out.below hb6)
  have HB6 := Lib.hid (HB5.out.trans (hb6.mono HB5.out.size))
  have hs6 := hb6.size
  clear hb6 hX6
  have q0 := blk_cell HX6.out 0
  have q1 := blk_cell HX6.out 1
  have q2 := blk_cell HX6.out 2
  have hql := lt_of_block HX6.out
  rw [HU.out]
  go_wp2_with fail
  refine (lmkdir_any _ _ _ _ _ _ ⟨#[97]⟩ (by decide) A3 F3.out _ _ _ E4.out _ HO6.out.nodesIn).mono ?_
  rintro e w7 hmade
  obtain ⟨g7, c7, v7, rfl, hO7, hb7⟩ := MadeAns.three hmade
  have hX7 := (hb7.block w1.heap.size (by omega)).trans HX6.out
  have HO7 := Lib.hid (HO6.out.below hb7)
  have HB7 := Lib.hid (HB6.out.trans (hb7.mono HB6.out.size))
  clear q0 q1 q2 hql hmade hO7 hb7
  have q0 := blk_cell hX7 0
  have hql := lt_of_block hX7
  clear hX7
  have hl3 := HL3.out
  have hlt3 : (2 : Int) < (A3.length : Int) := by omega
  have hn := (HO7.out.nodes.node 2 (by omega) (by rw [HO7.out.nodes.len]; omega)).links
  rw [show A3[2].links = 2 by have := EL.out; rw [show (2 : Int) = ((2 : Nat) : Int) from rfl, node_nat A3 2 (by omega)] at this; exact this] at hn
  have hgl := cell_lt hn
  clear hl3
  go_wp2_with fail
  go_ret
  exact ⟨rfl, HB7.out.alloc HB7.out.size _⟩
end Go.Proofs.Ytogheigpcppeiaa

namespace Go.Proofs.Ytogheigpcppeiaa
set_option maxRecDepth 100000
open Go Go.RowKit

/-- What good answers. -/
def GoodAns (L : List Ino) (m b : Int) (Ts : List ByteArray) (e : Ending) : Prop := ∃ v : Bool, e = .returned (.bool v) ∧ (v = true → L.length ≤ 300 ∧ FitP L m b ∧ ∀ s ∈ Ts, s.size ≤ 3000)

set_option maxHeartbeats 4000000 in
theorem good5_any (a : Option Addr) (cap : Nat) (m b : Int) (L : List Ino) (hS : Sized L) (Ts : List ByteArray) (hTs : ∀ s ∈ Ts, s.size ≤ 281474976710656) (hTl : Ts.length ≤ 4) (q tc : Nat) (w : World) (hN : NodesIn w a cap L) (hT : ∀ i (hi : i < Ts.length), w.cell? ⟨q, i, none⟩ = some (.string Ts[i])) :
    Calls Try.prog 6 #[.agg #[.slice a L.length cap, .int .i64 m, .int .i64 b], .slice (some ⟨q, 0, none⟩) Ts.length tc] w fun e w' => GoodAns L m b Ts e ∧ Below w.heap.size w w' := by
  obtain ⟨w1, hw1⟩ : ∃ w1, w1 = w.alloc (.cells #[.slice a L.length cap, .int .i64 m, .int .i64 b] 24) := ⟨_, rfl⟩
  have hb1 : Below w.heap.size w w1 := by rw [hw1]; exact below_box w _
  have hX : w1.heap[w.heap.size]? = some (.cells #[.slice a L.length cap, .int .i64 m, .int .i64 b] 24 (0, 0)) := by rw [hw1]; exact new_block w _
  have hs1 : w1.heap.size = w.heap.size + 1 := by rw [hw1]; simp
  have HM := Lib.hid (hN.below hb1)
  have HB1 := Lib.hid hb1
  have HS := Lib.hid hS
  have HT := Lib.hid (show ∀ W, Below w1.heap.size w1 W → ∀ i (hi : i < Ts.length), W.cell? ⟨q, i, none⟩ = some (.string Ts[i]) from fun W hW i hi => cell_below (hb1.trans (hW.mono (by omega))) (hT i hi))
  have HX := Lib.hid (show ∀ W, Below w1.heap.size w1 W → W.cell? ⟨w.heap.size, 0, none⟩ = some (.slice a L.length cap) ∧ W.cell? ⟨w.heap.size, 1, none⟩ = some (.int .i64 m) ∧ W.cell? ⟨w.heap.size, 2, none⟩ = some (.int .i64 b) from fun W hW => by
    have h := (hW.block w.heap.size (by omega)).trans hX
    exact ⟨blk_cell h 0, blk_cell h 1, blk_cell h 2⟩)
  have HTS := Lib.hid hTs
  clear hN hT hS hb1 hX hTs
  go_enter Try.func6, Try.ntmps6
  go_wp2_with fail
  rw [← hw1]
  clear hw1
  go_loopw [6, 9] (fun _ iv wr => ∃ K : Nat, K ≤ Ts.length ∧ iv = .int .i64 K ∧ Hid (∀ i (hi : i < Ts.length), i < K → Ts[i].size ≤ 3000) ∧ Hid (Below w1.heap.size w1 wr)) (fun _ iv _ => Ts.length - (intOf iv).toNat)
  case atStart => exact ⟨0, Nat.zero_le _, rfl, fun _ _ h => absurd h (Nat.not_lt_zero _), Below.refl _ _⟩
  case round =>
    obtain ⟨K, hK, rfl, HOK, HBR⟩ := hrel
    by_cases hlt : K < Ts.length
    · have t0 := HT.out _ HBR.out K hlt
      have hq := cell_lt t0
      obtain ⟨s, hs⟩ : ∃ s, s = Ts[K] := ⟨_, rfl⟩
      rw [← hs] at t0
      have hss : s.size ≤ 281474976710656 := by rw [hs]; exact HTS.out _ (List.getElem_mem _)
      have HSK := Lib.hid hs
      have hlt' : (K : Int) < (Ts.length : Int) := by omega
      have hk0 : (0 : Int) ≤ (K : Int) := by omega
      clear hs
      by_cases h3 : s.size ≤ 3000
      · have h3' : ¬ ((3000 : Int) < (s.size : Int)) := by omega
        have hnext := Lib.hid (show ∀ i (hi : i < Ts.length), i < K + 1 → Ts[i].size ≤ 3000 from fun i hi hiK => by
          by_cases e : i = K
          · subst e
            rw [← HSK.out]
            exact h3
          · exact HOK.out i hi (by omega))
        go_wp2_with fail
        go_roundw
        case rel => exact ⟨K + 1, by omega, by go_num, hnext, HBR⟩
        case measure => simp [intOf] <;> omega
      · have h3' : (3000 : Int) < (s.size : Int) := by omega
        go_wp2_with fail
        go_ret
        exact ⟨⟨false, rfl, fun e => by cases e⟩, HB1.out.trans (HBR.out.mono (by omega))⟩
    · have hall := Lib.hid (show ∀ s ∈ Ts, s.size ≤ 3000 from fun s hs => by
        obtain ⟨i, hi, rfl⟩ := List.getElem_of_mem hs
        exact HOK.out i hi (by omega))
      obtain ⟨q0, q1, q2⟩ := HX.out _ HBR.out
      have hql := cell_lt q0
      by_cases hl : L.length ≤ 300
      · have hl2 : decide ((L.length : Int) ≤ 300) = true := decide_eq_true (by omega)
        go_wp2_with fail
        refine (rfit_any _ _ _ _ L hl HS.out _ (HM.out.below HBR.out)).mono ?_
        rintro e w2 ⟨⟨v, rfl, hv⟩, hb2⟩
        have HV := Lib.hid hv
        have HB2 := Lib.hid (HB1.out.trans ((HBR.out.trans (hb2.mono HBR.out.size)).mono (by omega)))
        clear hv hb2
        go_wp2_with fail
        go_ret
        exact ⟨⟨v, rfl, fun e => ⟨hl, ref_iff.1 (by subst e; exact HV.out.1 rfl), hall.out⟩⟩, HB2.out⟩
      · have hl2 : decide ((L.length : Int) ≤ 300) = false := decide_eq_false (by omega)
        go_wp2_with fail
        go_ret
        exact ⟨⟨false, rfl, fun e => by cases e⟩, HB1.out.trans (HBR.out.mono (by omega))⟩
end Go.Proofs.Ytogheigpcppeiaa

namespace Go.Proofs.Ytogheigpcppeiaa
set_option maxRecDepth 100000
open Go Go.RowKit

set_option maxHeartbeats 2000000 in
theorem rown_any (a : Option Addr) (cap : Nat) (m b : Int) (L : List Ino) (hL : 0 < L.length) (hb : L.length ≤ 1000) (w : World) (hN : NodesIn w a cap L) :
    Calls Try.prog 22 #[.agg #[.slice a L.length cap, .int .i64 m, .int .i64 b]] w fun e w' => ∃ g cap' vs, e = .returned (.agg #[.slice (some ⟨g, 0, none⟩) L.length cap', .int .i64 m, .int .i64 b]) ∧ NodesOwn w' g cap' L vs ∧ w.heap.size ≤ g ∧ (∀ i (hi : i < L.length) (hv : i < vs.length), KidsIn w vs[i] L[i].kids) ∧ Below w.heap.size w w' := by
  obtain ⟨i0, hi, hz0, hz1, hz2⟩ := info_parts infoIn
  obtain ⟨vs, hl, hone, hk, hcell⟩ := nodes_open hN
  obtain ⟨bb, o, rfl, hx⟩ := hN.2.2 0 hL
  have hbl := cell_lt hx.kind
  obtain ⟨w2, hw2, hb2, hs2, hA, hB⟩ := two_boxes w #[.slice (some ⟨bb, o, none⟩) L.length cap, .int .i64 m, .int .i64 b] #[.slice none 0 0, .int .i64 0, .int .i64 0] 24 24
  have AS : Aside (∀ j u, (nodeC L vs)[j]? = some u → w2.cell? ⟨bb, o + j, none⟩ = some u) := fun j u hj => by
    obtain ⟨b', o', e, hc⟩ := hcell j u hj
    cases e
    exact cell_below hb2 hc
  have HK := Lib.hid hk
  have HL := Lib.hid hl
  have HB2 := Lib.hid hb2
  have HA := Lib.hid hA
  have HR := Lib.hid hB
  have a0 := blk_cell hA 0
  have hal := lt_of_block hA
  clear hcell hk hN hl hx hbl hb2 hA hB
  go_enter Try.func22, Try.ntmps22
  go_wp2_with (at_builtin; refine wpList_append_own _ rfl _ _ 22 rfl (w.heap.size + 2) 29 i0 _ 6 72 Try.underlying22 hi hz0 hz1 hz2 rfl (by decide) (.slice none 0 0) 0 [] rfl (World.ownsRow_nil _ _ _ _) ⟨bb, o, none⟩ L.length cap (nodeC L vs) rfl (nodeC_len L vs HL.out) (fun j u hj => by rw [Addr.add_lit, ← hw2]; exact AS.out j u hj) (nodeC_one hone) (by unfold maxLen; omega) (by omega) (by rw [← hw2]; omega) ?_)
  intro v' w3 hown hgrow hnil
  rw [← hw2] at hgrow
  have hb3 : Below w2.heap.size w2 w3 := (Below.refl _ _).grown hgrow (Nat.le_refl _) (fun k hk => by cases hk)
  rcases hown.2 with ⟨rfl, h0⟩ | ⟨g, cap', cur, rfl, hgb, -⟩
  · omega
  have hown2 : w3.ownsRow (w.heap.size + 2) 29 6 (.slice (some ⟨g, 0, none⟩) L.length cap') L.length (nodeC L vs) := by simpa using hown
  have hN3 := (nodes_of_row HL.out hown2).1
  have hA3 := (hb3.block w.heap.size (by omega)).trans HA.out
  have hR3 := (hb3.block (w.heap.size + 1) (by omega)).trans HR.out
  have q0 := blk_cell hA3 0
  have q1 := blk_cell hA3 1
  have q2 := blk_cell hA3 2
  have f0 := blk_free hA3 0
  have r0 := blk_cell hR3 0
  have r1 := blk_cell hR3 1
  have r2 := blk_cell hR3 2
  have s0 := blk_free hR3 0
  have s1 := blk_free hR3 1
  have s2 := blk_free hR3 2
  have hrl := lt_of_block hR3
  have hq := lt_of_block hA3
  obtain ⟨w4, hw4⟩ : ∃ w4, w4 = w3.setCell ⟨w.heap.size, 0, none⟩ (.slice (some ⟨g, 0, none⟩) L.length cap') := ⟨_, rfl⟩
  have hA4 : w4.heap[w.heap.size]? = some (.cells #[.slice (some ⟨g, 0, none⟩) L.length cap', .int .i64 m, .int .i64 b] 24 (0, 0)) := by rw [hw4]; exact blk_set hA3 0 _
  have hst : ∀ k, k ≠ w.heap.size → w4.heap[k]? = w3.heap[k]? := fun k hk => by rw [hw4]; exact Below.heap_setCell _ _ _ _ hk
  have hR4 := (hst (w.heap.size + 1) (by omega)).trans hR3
  have hN4 : NodesOwn w4 g cap' L vs := hN3.same (hst g (by omega))
  have hb4 : Below w.heap.size w w4 := by rw [hw4]; exact (HB2.out.trans (hb3.mono (by omega))).setCell (show w.heap.size ≤ w.heap.size from Nat.le_refl _) _
  have HW4 := Lib.hid hw4
  have HN4 := Lib.hid hN4
  have HB4 := Lib.hid hb4
  have HR4 := Lib.hid hR4
  have HA4 := Lib.hid hA4
  clear hw4 hN4 hb4 hR4 hA4 hst hN3 hown hown2 hgrow hnil hb3 hA3 hR3 a0 hal hw2
  go_wp2_with fail
  change bodyPost _ _ _ _ _ (put3 (w3.setCell ⟨w.heap.size, 0, none⟩ (.slice (some ⟨g, 0, none⟩) L.length cap')) (w.heap.size + 1) (.slice (some ⟨g, 0, none⟩) L.length cap') (.int .i64 m) (.int .i64 b))
  rw [← HW4.out]
  obtain ⟨c0, c1, c2⟩ := put3_cells HR4.out (.slice (some ⟨g, 0, none⟩) L.length cap') (.int .i64 m) (.int .i64 b)
  have HNF := Lib.hid (HN4.out.same (W' := put3 w4 (w.heap.size + 1) (.slice (some ⟨g, 0, none⟩) L.length cap') (.int .i64 m) (.int .i64 b)) (put3_other (by omega) _ _ _))
  have HBF := Lib.hid (put3_below HB4.out (show w.heap.size ≤ w.heap.size + 1 by omega) (.slice (some ⟨g, 0, none⟩) L.length cap') (.int .i64 m) (.int .i64 b))
  generalize put3 w4 (w.heap.size + 1) (.slice (some ⟨g, 0, none⟩) L.length cap') (.int .i64 m) (.int .i64 b) = wF at *
  exact bodyPost_ret (v := .agg #[.slice (some ⟨g, 0, none⟩) L.length cap', .int .i64 m, .int .i64 b]) (by simp [results, Try.results22, go_sem, c0, c1, c2]) rfl ⟨g, cap', vs, rfl, HNF.out, by omega, HK.out, HBF.out⟩
end Go.Proofs.Ytogheigpcppeiaa

namespace Go.Proofs.Ytogheigpcppeiaa
set_option maxRecDepth 100000
open Go Go.RowKit

theorem nodes_ne {L M : List Ino} {m b m' b' : Int} (k : Nat) (h1 : k < L.length) (h2 : k < M.length) (h : L[k] ≠ M[k]) : ¬ (⟨L, m, b⟩ : Tre) = ⟨M, m', b'⟩ := by
  intro e
  simp only [Tre.mk.injEq] at e
  obtain ⟨rfl, -, -⟩ := e
  exact h rfl

/-- A call that tells whether two trees are one. -/
def TellsSame (T U : Tre) (w : World) (e : Ending) (w' : World) : Prop := (∃ v, e = .returned (.bool v) ∧ (v = true ↔ T = U)) ∧ Below w.heap.size w w'
theorem TellsSame.no {T U : Tre} {w w' : World} {e : Ending} (he : e = .returned (.bool false)) (h : ¬ T = U) (hb : Below w.heap.size w w') : TellsSame T U w e w' := ⟨⟨false, he, by simpa using h⟩, hb⟩
theorem TellsSame.yes {T U : Tre} {w w' : World} {e : Ending} (he : e = .returned (.bool true)) (h : T = U) (hb : Below w.heap.size w w') : TellsSame T U w e w' := ⟨⟨true, he, by simpa using h⟩, hb⟩

def SameRel (L M : List Ino) (w1 : World) (iv : Value) (wr : World) : Prop :=
  ∃ k : Nat, k ≤ L.length ∧ iv = .int .i64 k ∧ Hid (∀ j (h1 : j < L.length) (h2 : j < M.length), j < k → L[j] = M[j]) ∧ Below w1.heap.size w1 wr

set_option maxRecDepth 100000 in
set_option maxHeartbeats 4000000 in
theorem rsame3_any (a a' : Option Addr) (cap cap' : Nat) (m b m' b' : Int) (L M : List Ino) (hL : L.length ≤ 1000) (w : World) (hN : NodesIn w a cap L) (hN' : NodesIn w a' cap' M) :
    Calls Try.prog 11 #[.agg #[.slice a L.length cap, .int .i64 m, .int .i64 b], .agg #[.slice a' M.length cap', .int .i64 m', .int .i64 b']] w (TellsSame ⟨L, m, b⟩ ⟨M, m', b'⟩ w) := by
  have hb1 := ((below_box w (.cells #[.slice a L.length cap, .int .i64 m, .int .i64 b] 24)).alloc (by simp) (.cells #[.slice a' M.length cap', .int .i64 m', .int .i64 b'] 24))
  obtain ⟨w0, hw0⟩ : ∃ w0, w0 = w.alloc (.cells #[.slice a L.length cap, .int .i64 m, .int .i64 b] 24) := ⟨_, rfl⟩
  obtain ⟨w1, hw1⟩ : ∃ w1, w1 = w0.alloc (.cells #[.slice a' M.length cap', .int .i64 m', .int .i64 b'] 24) := ⟨_, rfl⟩
  by_cases hm : m = m' ∧ b = b' ∧ L.length = M.length
  · obtain ⟨rfl, rfl, hlen⟩ := hm
    have hX : ∀ W', Below w1.heap.size w1 W' → NodesIn W' a cap L ∧ NodesIn W' a' cap' M ∧ W'.cell? ⟨w.heap.size, 0, none⟩ = some (.slice a L.length cap) ∧ W'.cell? ⟨w.heap.size + 1, 0, none⟩ = some (.slice a' M.length cap') := by
      intro W' h
      have g1 : Below w0.heap.size w0 w1 := by rw [hw1]; exact below_box _ _
      have g2 : Below w0.heap.size w0 W' := g1.trans (h.mono g1.size)
      have g0 : Below w.heap.size w w0 := by rw [hw0]; exact below_box _ _
      have g3 : Below w.heap.size w W' := g0.trans (g2.mono g0.size)
      have e1 := (box3 (W' := W') (by rw [← hw0]; exact g2)).1
      have e2 := (box3 (W' := W') (by rw [← hw1]; exact h)).1
      have e3 : w0.heap.size = w.heap.size + 1 := by rw [hw0]; simp
      rw [e3] at e2
      exact ⟨hN.below g3, hN'.below g3, e1, e2⟩
    have HX := Lib.hid hX
    have hb2 : Below w.heap.size w w1 := by rw [hw1, hw0]; exact hb1
    have HB := Lib.hid hb2
    have hww : w1 = (w.alloc (.cells #[.slice a L.length cap, .int .i64 m, .int .i64 b] 24)).alloc (.cells #[.slice a' M.length cap', .int .i64 m, .int .i64 b] 24) := by rw [hw1, hw0]
    clear hX hb1 hb2 hw1 hw0 hN hN'
    have hlc : ((L.length : Int) != (M.length : Int)) = false := by simp [hlen]
    have HLEN := Lib.hid hlen
    clear hlen
    have hsz1 : w.heap.size + 2 ≤ w1.heap.size := by rw [hww]; simp
    go_enter Try.func11, Try.ntmps11
    go_wp2_with fail
    rw [← hww]
    clear hww
    go_loopw [5] (fun k wr => SameRel L M w1 k wr) (fun k _ => L.length - (intOf k).toNat)
    case atStart => exact ⟨0, by omega, rfl, fun _ _ _ h => absurd h (Nat.not_lt_zero _), Below.refl _ _⟩
    case round =>
      obtain ⟨k, hk, rfl, hsame, hbr⟩ := hrel
      have HBR := Lib.hid hbr
      obtain ⟨hn1, hn2, q1, q2⟩ := HX.out _ hbr
      have HN1 := Lib.hid hn1
      have HN2 := Lib.hid hn2
      clear hbr hn1 hn2
      by_cases hlt : k < L.length
      · have hlt' : k < M.length := by have := HLEN.out; omega
        obtain ⟨b1, o1, rfl, hx⟩ := HN1.out.2.2 k hlt
        obtain ⟨b2, o2, rfl, hy⟩ := HN2.out.2.2 k hlt'
        obtain ⟨v1, x4, hkx0⟩ := hx.kids
        obtain ⟨v2, y4, hky0⟩ := hy.kids
        obtain ⟨P, hP⟩ : ∃ P, P = L[k].kids := ⟨_, rfl⟩
        obtain ⟨R, hR⟩ : ∃ R, R = M[k].kids := ⟨_, rfl⟩
        rw [← hP] at hkx0
        rw [← hR] at hky0
        obtain ⟨ka, kc, rfl, hc1, hc2, hkx⟩ := hkx0
        obtain ⟨ja, jc, rfl, hd1, hd2, hky⟩ := hky0
        unfold maxLen at hc2 hd2
        have x0 := hx.kind
        have x1 := hx.mode
        have x2 := hx.links
        have x3 := hx.data
        have x5 := hx.up
        have y0 := hy.kind
        have y1 := hy.mode
        have y2 := hy.links
        have y3 := hy.data
        have y5 := hy.up
        have hsz2 := HBR.out.size
        have g0 : w.heap.size + 1 < wr.heap.size := by omega
        have g3 : w.heap.size < wr.heap.size := by omega
        have g1 : b1 < wr.heap.size := cell_lt x0
        have g2 : b2 < wr.heap.size := cell_lt y0
        have HKX := Lib.hid hkx
        have HKY := Lib.hid hky
        have HP := Lib.hid hP
        have HR := Lib.hid hR
        have HBB := Lib.hid (show ∀ o o', Below w.heap.size w ((wr.alloc o).alloc o') from fun o o' => ((HB.out.trans (HBR.out.mono HB.out.size)).alloc (by omega) o).alloc (by simp; omega) o')
        clear hx hy hkx hky hP hR
        go_wp2_with fail
        all_goals try (go_ret; exact TellsSame.no rfl (nodes_ne k hlt hlt' (by intro e; rename_i h; first | exact h (by rw [e]) | (rw [HP.out, HR.out, e] at h; simp at h))) (HBB.out _ _))
        rename_i e1 e2 e3 e4 e5 e6
        have hPR : P.length = R.length := by have h6 : ((P.length : Int) != (R.length : Int)) = false := e6; rw [bne_eq_false_iff_eq] at h6; omega
        have HE := Lib.hid (show P = R → L[k] = M[k] from fun h => by
          have h' : L[k].kids = M[k].kids := by rw [← HP.out, ← HR.out, h]
          revert e1 e2 e3 e4 e5 h'
          generalize L[k] = X
          generalize M[k] = Y
          intro e1 e2 e3 e4 e5 h'
          cases X
          cases Y
          simp_all)
        have HPR := Lib.hid hPR
        clear e1 e2 e3 e4 e5 e6 hPR x0 x1 x2 x3 x4 x5 y0 y1 y2 y3 y4 y5 q1 q2
        have kx : ((wr.alloc (.cells #[.int .i64 M[k].kind, .int .i64 M[k].mode, .int .i64 M[k].links, .string ⟨M[k].data.toArray⟩, .slice ka P.length kc, .int .i64 M[k].up] 29)).alloc (.cells #[.int .i64 M[k].kind, .int .i64 M[k].mode, .int .i64 M[k].links, .string ⟨M[k].data.toArray⟩, .slice ja R.length jc, .int .i64 M[k].up] 29)).cell? ⟨wr.heap.size, 4, none⟩ = some (.slice ka P.length kc) := (box6 (below_box _ _)).2.2.2.2.1
        have ky : ((wr.alloc (.cells #[.int .i64 M[k].kind, .int .i64 M[k].mode, .int .i64 M[k].links, .string ⟨M[k].data.toArray⟩, .slice ka P.length kc, .int .i64 M[k].up] 29)).alloc (.cells #[.int .i64 M[k].kind, .int .i64 M[k].mode, .int .i64 M[k].links, .string ⟨M[k].data.toArray⟩, .slice ja R.length jc, .int .i64 M[k].up] 29)).cell? ⟨wr.heap.size + 1, 4, none⟩ = some (.slice ja R.length jc) := by
          have h := (box6 (w := wr.alloc (.cells #[.int .i64 M[k].kind, .int .i64 M[k].mode, .int .i64 M[k].links, .string ⟨M[k].data.toArray⟩, .slice ka P.length kc, .int .i64 M[k].up] 29)) (x0 := .int .i64 M[k].kind) (x1 := .int .i64 M[k].mode) (x2 := .int .i64 M[k].links) (x3 := .string ⟨M[k].data.toArray⟩) (x4 := .slice ja R.length jc) (x5 := .int .i64 M[k].up) (t := 29) (Below.refl _ _)).2.2.2.2.1
          rw [World.size_alloc] at h
          exact h
        have HBW := Lib.hid (HBB.out (.cells #[.int .i64 M[k].kind, .int .i64 M[k].mode, .int .i64 M[k].links, .string ⟨M[k].data.toArray⟩, .slice ka P.length kc, .int .i64 M[k].up] 29) (.cells #[.int .i64 M[k].kind, .int .i64 M[k].mode, .int .i64 M[k].links, .string ⟨M[k].data.toArray⟩, .slice ja R.length jc, .int .i64 M[k].up] 29))
        have HKX2 := Lib.hid (show KidsIn ((wr.alloc (.cells #[.int .i64 M[k].kind, .int .i64 M[k].mode, .int .i64 M[k].links, .string ⟨M[k].data.toArray⟩, .slice ka P.length kc, .int .i64 M[k].up] 29)).alloc (.cells #[.int .i64 M[k].kind, .int .i64 M[k].mode, .int .i64 M[k].links, .string ⟨M[k].data.toArray⟩, .slice ja R.length jc, .int .i64 M[k].up] 29)) (.slice ka P.length kc) P from KidsIn.below ⟨ka, kc, rfl, hc1, by unfold maxLen; exact hc2, HKX.out⟩ ((below_box wr _).alloc (by simp) _))
        have HKY2 := Lib.hid (show KidsIn ((wr.alloc (.cells #[.int .i64 M[k].kind, .int .i64 M[k].mode, .int .i64 M[k].links, .string ⟨M[k].data.toArray⟩, .slice ka P.length kc, .int .i64 M[k].up] 29)).alloc (.cells #[.int .i64 M[k].kind, .int .i64 M[k].mode, .int .i64 M[k].links, .string ⟨M[k].data.toArray⟩, .slice ja R.length jc, .int .i64 M[k].up] 29)) (.slice ja R.length jc) R from KidsIn.below ⟨ja, jc, rfl, hd1, by unfold maxLen; exact hd2, HKY.out⟩ ((below_box wr _).alloc (by simp) _))
        clear HBB HKX HKY
        have HW1 := Lib.hid (show Below w1.heap.size w1 ((wr.alloc (.cells #[.int .i64 M[k].kind, .int .i64 M[k].mode, .int .i64 M[k].links, .string ⟨M[k].data.toArray⟩, .slice ka P.length kc, .int .i64 M[k].up] 29)).alloc (.cells #[.int .i64 M[k].kind, .int .i64 M[k].mode, .int .i64 M[k].links, .string ⟨M[k].data.toArray⟩, .slice ja R.length jc, .int .i64 M[k].up] 29)) from (HBR.out.alloc hsz2 _).alloc (by simp; omega) _)
        generalize ((wr.alloc (.cells #[.int .i64 M[k].kind, .int .i64 M[k].mode, .int .i64 M[k].links, .string ⟨M[k].data.toArray⟩, .slice ka P.length kc, .int .i64 M[k].up] 29)).alloc (.cells #[.int .i64 M[k].kind, .int .i64 M[k].mode, .int .i64 M[k].links, .string ⟨M[k].data.toArray⟩, .slice ja R.length jc, .int .i64 M[k].up] 29)) = W2 at kx ky HBW HKX2 HKY2 HW1 ⊢
        go_loopw [8] (fun i w' => ∃ j n : Nat, j ≤ P.length ∧ i = .int .i64 j ∧ Hid (∀ t (h1 : t < P.length) (h2 : t < R.length), t < j → P[t] = R[t]) ∧ w' = W2.drewN n) (fun i _ => P.length - (intOf i).toNat)
        case atStart => exact ⟨0, 0, by omega, rfl, fun _ _ _ h => absurd h (Nat.not_lt_zero _), rfl⟩
        case round =>
          obtain ⟨j, n, hj, rfl, hpre, rfl⟩ := hrel
          by_cases hjl : j < P.length
          · have hjr : j < R.length := by have := HPR.out; omega
            obtain ⟨a1, g1', e1, -, -, hzx⟩ := HKX2.out
            obtain ⟨a2, g2', e2, -, -, hzy⟩ := HKY2.out
            simp only [Value.slice.injEq] at e1 e2
            obtain ⟨rfl, -, rfl⟩ := e1
            obtain ⟨rfl, -, rfl⟩ := e2
            obtain ⟨c1, p1, rfl, z0, z1⟩ := hzx j hjl
            obtain ⟨c2, p2, rfl, z2, z3⟩ := hzy j hjr
            clear hzx hzy
            have HBN := Lib.hid (show ∀ n, Below w.heap.size w (W2.drewN n) from fun n => ⟨HBW.out.os, HBW.out.tape, HBW.out.output, HBW.out.size, HBW.out.block⟩)
            by_cases t1 : P[j].fst = R[j].fst
            · by_cases t2 : P[j].snd = R[j].snd
              · have hp' := Lib.hid (show ∀ t (h1 : t < P.length) (h2 : t < R.length), t < j + 1 → P[t] = R[t] from fun t h1 h2 ht => by
                  by_cases e : t = j
                  · subst e
                    exact Prod.ext t1 t2
                  · exact hpre.out t h1 h2 (by omega))
                go_wp2_with fail
                go_region
                all_goals
                  go_wp2_with fail
                  go_roundw
                  case rel => exact ⟨j + 1, _, by omega, by go_num, hp', rfl⟩
                  case measure => simp [intOf] <;> omega
              · have hno := Lib.hid (show L[k] ≠ M[k] from fun e => t2 (by
                  have : P = R := by rw [HP.out, HR.out, e]
                  subst this
                  rfl))
                go_wp2_with fail
                go_region
                all_goals
                  go_wp2_with fail
                  go_ret
                  exact TellsSame.no rfl (nodes_ne k hlt hlt' hno.out) (HBN.out _)
            · have hno := Lib.hid (show L[k] ≠ M[k] from fun e => t1 (by
                have : P = R := by rw [HP.out, HR.out, e]
                subst this
                rfl))
              go_wp2_with fail
              go_region
              all_goals
                go_wp2_with fail
                go_ret
                exact TellsSame.no rfl (nodes_ne k hlt hlt' hno.out) (HBN.out _)
          · have hall := Lib.hid (HE.out (List.ext_getElem HPR.out (fun t h1 h2 => hpre.out t h1 h2 (by omega))))
            have hs' := Lib.hid (show ∀ t (h1 : t < L.length) (h2 : t < M.length), t < k + 1 → L[t] = M[t] from fun t h1 h2 ht => by
              by_cases e : t = k
              · subst e
                exact hall.out
              · exact hsame.out t h1 h2 (by omega))
            have HWN := Lib.hid (show Below w1.heap.size w1 (W2.drewN n) from ⟨HW1.out.os, HW1.out.tape, HW1.out.output, HW1.out.size, HW1.out.block⟩)
            go_wp2_with fail
            go_roundw
            case rel => exact ⟨k + 1, by omega, by go_num, hs', HWN.out⟩
            case measure => simp [intOf] <;> omega
      · have hall := Lib.hid (List.ext_getElem HLEN.out (fun t h1 h2 => hsame.out t h1 h2 (by omega)))
        go_wp2_with fail
        go_ret
        exact TellsSame.yes rfl (by rw [hall.out]) (HB.out.trans (HBR.out.mono HB.out.size))
  · have hne : ¬ (⟨L, m, b⟩ : Tre) = ⟨M, m', b'⟩ := by
      intro e
      simp only [Tre.mk.injEq] at e
      exact hm ⟨e.2.1, e.2.2, by rw [e.1]⟩
    have HNE := Lib.hid hne
    go_enter Try.func11, Try.ntmps11
    clear hne
    by_cases c1 : m = m'
    · by_cases c2 : b = b'
      · have c3 : ((L.length : Int) != (M.length : Int)) = true := by
          rw [bne_iff_ne]
          intro e
          exact hm ⟨c1, c2, by omega⟩
        subst c1 c2
        go_wp2_with fail
        go_ret
        exact TellsSame.no rfl HNE.out hb1
      · have c2' : (b != b') = true := by simpa using c2
        subst c1
        go_wp2_with fail
        go_ret
        exact TellsSame.no rfl HNE.out hb1
    · have c1' : (m != m') = true := by simpa using c1
      go_wp2_with fail
      go_ret
      exact TellsSame.no rfl HNE.out hb1
end Go.Proofs.Ytogheigpcppeiaa

namespace Go.Proofs.Ytogheigpcppeiaa
set_option maxRecDepth 100000
open Go Go.RowKit

theorem rparts_view (pb : ByteArray) (hp : pb.size ≤ 1073741824) (N : List (List UInt8)) (hN : partsL pb.data.toList = N) (w : World) :
    Calls Try.prog 33 #[.string pb] w fun e w' => ∃ v, e = .returned v ∧ View w' v N ∧ Below w.heap.size w w' := by
  subst hN
  exact (rparts_any pb hp w).mono fun e w' ⟨v, h1, h2, h3⟩ => ⟨v, h1, h2.view, h3⟩

set_option maxRecDepth 100000 in
set_option maxHeartbeats 8000000 in
theorem parent4_any (a : Option Addr) (cap : Nat) (m b cwd : Int) (pb : ByteArray) (hp : pb.size ≤ 1073741824) (L : List Ino) (hF : FitP L m b) (w : World) (hN : NodesIn w a cap L) :
    Calls Try.prog 12 #[.agg #[.slice a L.length cap, .int .i64 m, .int .i64 b], .int .i64 cwd, .string pb] w fun e w' => e = .returned (.tuple #[.int .i64 (parentW L cwd pb.data.toList).1, .string ⟨(parentW L cwd pb.data.toList).2.1.toArray⟩, .int .i64 (parentW L cwd pb.data.toList).2.2]) ∧ Below w.heap.size w w' := by
  obtain ⟨w1, hw1⟩ : ∃ w1, w1 = w.alloc (.cells #[.slice a L.length cap, .int .i64 m, .int .i64 b] 24) := ⟨_, rfl⟩
  have hb1 := below_box w (.cells #[.slice a L.length cap, .int .i64 m, .int .i64 b] 24)
  have hM := hN.below hb1
  have hsz : w1.heap.size = w.heap.size + 1 := by rw [hw1]; simp
  have hbox : ∀ W', Below w1.heap.size w1 W' → W'.cell? ⟨w.heap.size, 0, none⟩ = some (.slice a L.length cap) ∧ W'.cell? ⟨w.heap.size, 1, none⟩ = some (.int .i64 m) ∧ W'.cell? ⟨w.heap.size, 2, none⟩ = some (.int .i64 b) := fun W' h => box3 (by rw [← hw1]; exact h)
  rw [← hw1] at hM hb1
  have HM := Lib.hid hM
  have HB := Lib.hid hb1
  have HX := Lib.hid hbox
  have HEND := Lib.hid (show ∀ W', Below w1.heap.size w1 W' → Below w.heap.size w W' from fun W' h => HB.out.trans (h.mono (by rw [hsz]; omega)))
  have HF := Lib.hid hF
  obtain ⟨R, hR⟩ : ∃ R, R = parentW L cwd pb.data.toList := ⟨_, rfl⟩
  rw [← hR]
  have HR := Lib.hid hR
  obtain ⟨z, hz⟩ : ∃ z, badW L cwd pb.data.toList = z := ⟨_, rfl⟩
  have HZ := Lib.hid hz
  clear hM hN hb1 hbox hsz hF hR
  by_cases hbad : z ≠ 0
  · have hzb : (z != 0) = true := by simpa using hbad
    have HW := Lib.hid (show R = (0, [], z) by rw [HR.out]; unfold parentW; rw [hz, if_pos hbad])
    clear hbad hz
    go_enter Try.func12, Try.ntmps12
    go_wp2_with fail
    rw [← hw1]
    refine (bad4_known _ _ _ _ _ _ hp L z HZ.out _ HM.out).mono ?_
    rintro e w2 ⟨rfl, hb2⟩
    go_wp2_with fail
    go_ret3
    exact ⟨by rw [HW.out]; rfl, HEND.out _ hb2⟩
  · obtain rfl : z = 0 := by simpa using hbad
    obtain ⟨st, hst⟩ : ∃ st, beginW cwd pb.data.toList = st := ⟨_, rfl⟩
    have HST := Lib.hid hst
    obtain ⟨N, hNe⟩ : ∃ N, partsL pb.data.toList = N := ⟨_, rfl⟩
    have HNE := Lib.hid hNe
    have hlong : pb.size ≤ 1024 := by
      unfold badW at hz
      by_cases h2 : pb.data.toList = [] ∨ dirB L cwd = false
      · rw [if_pos h2] at hz; cases hz
      · rw [if_neg h2] at hz
        by_cases hl : longB pb.data.toList = true
        · rw [if_pos hl] at hz; cases hz
        · unfold longB at hl
          rw [Bool.or_eq_true, decide_eq_true_eq, size_list] at hl
          omega
    have hNL : N.length ≤ 1025 := by rw [← hNe]; have := count_parts pb.data.toList; rw [size_list] at this; omega
    have HW := Lib.hid (show R = if N = [] then (0, [], 17) else if (wayW L true 8 N.dropLast st).2 ≠ 0 then (0, [], (wayW L true 8 N.dropLast st).2) else if dirB L (wayW L true 8 N.dropLast st).1 = false then (0, [], 20) else ((wayW L true 8 N.dropLast st).1, N.getLastD [], 0) by
      rw [HR.out]
      unfold parentW
      rw [hz, if_neg (by simp), hst, hNe])
    clear hz hst hNe hbad HR
    rcases List.eq_nil_or_concat N with hn | ⟨M, y, hn⟩
    · subst hn
      have HW2 := Lib.hid (show R = (0, [], 17) by rw [HW.out, if_pos rfl])
      go_enter Try.func12, Try.ntmps12
      go_wp2_with fail
      rw [← hw1]
      refine (bad4_known _ _ _ _ _ _ hp L 0 HZ.out _ HM.out).mono ?_
      rintro e w2 ⟨rfl, hb2⟩
      have HB2 := Lib.hid hb2
      clear hb2
      go_wp2_with fail
      refine (rparts_view _ hp _ HNE.out _).mono ?_
      rintro e w3 ⟨v, rfl, ⟨na, nc, rfl, -, -, -⟩, hb3⟩
      have HB3 := Lib.hid (HB2.out.trans (hb3.mono HB2.out.size))
      clear hb3
      go_wp2_with fail
      go_ret3
      exact ⟨by rw [HW2.out]; rfl, HEND.out _ HB3.out⟩
    · rw [List.concat_eq_append] at hn
      have hlen : N.length = M.length + 1 := by rw [hn]; simp
      obtain ⟨kz, hkz⟩ : ∃ kz, kz = (wayW L true 8 M st).1 := ⟨_, rfl⟩
      obtain ⟨ez, hez⟩ : ∃ ez, ez = (wayW L true 8 M st).2 := ⟨_, rfl⟩
      have HWAY := Lib.hid (show ∀ W v, Below w1.heap.size w1 W → View W v M → Calls Try.prog 34 #[.agg #[.slice a L.length cap, .int .i64 m, .int .i64 b], .int .i64 st, v, .bool true] W fun e w' => e = .returned (.tuple #[.int .i64 kz, .int .i64 ez]) ∧ Below W.heap.size W w' from fun W v hW hv => by
        rw [hkz, hez]
        exact way4_any a cap m b st true M (by omega) v L HF.out W (HM.out.below hW) hv)
      obtain ⟨dz, hdz⟩ : ∃ dz, dirB L kz = dz := ⟨_, rfl⟩
      have HDZ := Lib.hid hdz
      have HW2 := Lib.hid (show R = if ez ≠ 0 then (0, [], ez) else if dz = false then (0, [], 20) else (kz, y, 0) by
        rw [HW.out, if_neg (by rw [hn]; simp), hn, List.dropLast_concat, ← hkz, ← hez, hdz]
        congr 3
        simp)
      have HN := Lib.hid hn
      clear hkz hez hdz hn HW
      go_enter Try.func12, Try.ntmps12
      go_wp2_with fail
      rw [← hw1]
      refine (bad4_known _ _ _ _ _ _ hp L 0 HZ.out _ HM.out).mono ?_
      rintro e w2 ⟨rfl, hb2⟩
      have HB2 := Lib.hid hb2
      obtain ⟨q0, q1, q2⟩ := HX.out _ HB2.out
      clear hb2
      go_wp2_with fail
      refine (rparts_view _ hp _ HNE.out _).mono ?_
      rintro e w3 ⟨v, rfl, hv, hb3⟩
      have HB3 := Lib.hid (HB2.out.trans (hb3.mono HB2.out.size))
      rw [HN.out] at hv
      obtain ⟨na, nc, rfl, hc1, hc2, hcell⟩ := hv
      obtain ⟨nb, no, rfl, hy⟩ := hcell M.length (by simp)
      have hy0 : (M ++ [y])[M.length]'(by simp) = y := by simp
      rw [hy0] at hy
      have hlen2 : (M ++ [y]).length = M.length + 1 := by simp
      rw [hlen2] at hc1
      have HV := Lib.hid (show View w3 (.slice (some ⟨nb, no, none⟩) M.length nc) M from View.init (x := y) (by
        refine ⟨_, nc, by rw [hlen2], by rw [hlen2]; exact hc1, hc2, hcell⟩))
      unfold maxLen at hc2
      unfold strv at hy
      have HBB := Lib.hid HB3.out
      clear hb3 hcell q0 q1 q2 hy0
      obtain ⟨q0, q1, q2⟩ := HX.out _ HBB.out
      have H1 := Lib.hid (grown_call (wb := w3) (fun W hW => (begin4_known cwd pb st HST.out W).mono fun e w' h => (⟨h.1, by rw [← h.2]; exact Below.refl _ _⟩ : _ ∧ Below W.heap.size W w')))
      have H2 := Lib.hid (grown_call (wb := w3) (fun W hW => HWAY.out W _ (HBB.out.trans (hW.mono HBB.out.size)) (HV.out.below hW)))
      have f0 := grown_cell q0
      have f1 := grown_cell q1
      have f2 := grown_cell q2
      have hi1 : (0 : Int) ≤ (M.length : Int) := by omega
      have hi2 : (M.length : Int) ≤ (nc : Int) := by omega
      have hi3 : ((M.length : Int) + 1) ≤ (nc : Int) := by omega
      go_wp2_with fail
      refine wp_region_grown (by kernel_rfl) (by kernel_rfl) ?_
      repeat (first | go_big_quiet_skip | (go_big_quiet_want; go_big_quiet_op; (first | go_big_quiet_on | (refine ⟨_, H1.out, ?_⟩; go_big_quiet_on) | (refine ⟨_, H2.out, ?_⟩; go_big_quiet_on))))
      refine wpQuiet_nil ?_
      intro w8 hw8
      have hbg : Below w3.heap.size w3 w8 := by obtain ⟨x, rfl⟩ := hw8; exact x.below
      have HB8 := Lib.hid (HBB.out.trans (hbg.mono HBB.out.size))
      obtain ⟨q0, q1, q2⟩ := HX.out _ HB8.out
      have hy8 := cell_below hbg hy
      clear hw8 hbg f0 f1 f2 H1 H2
      cases he : (ez != 0) with
      | true =>
        have HW3 := Lib.hid (show R = (0, [], ez) by rw [HW2.out, if_pos (by simpa using he)])
        go_wp2_with fail
        go_ret3
        exact ⟨by rw [HW3.out]; rfl, HEND.out _ HB8.out⟩
      | false =>
        have hz0 : ez = 0 := by simpa using he
        subst hz0
        cases dz with
        | false =>
          have HW3 := Lib.hid (show R = (0, [], 20) by rw [HW2.out, if_neg (by simp), if_pos rfl])
          go_wp2_with (first | (go_at_call 36; refine (dir4_known _ _ _ _ _ L _ HDZ.out _ (HM.out.below HB8.out)).mono ?_; rintro e w9 ⟨rfl, hb9⟩; have HB9 := Lib.hid (HB8.out.trans (hb9.mono HB8.out.size))) | fail)
          go_ret3
          exact ⟨by rw [HW3.out]; rfl, HEND.out _ HB9.out⟩
        | true =>
          have HW3 := Lib.hid (show R = (kz, y, 0) by rw [HW2.out, if_neg (by simp), if_neg (by simp)])
          go_wp2_with fail
          refine (dir4_known _ _ _ _ _ L _ HDZ.out _ (HM.out.below HB8.out)).mono ?_
          rintro e w9 ⟨rfl, hb9⟩
          have HB9 := Lib.hid (HB8.out.trans (hb9.mono HB8.out.size))
          have f0 := grown_cell (cell_below hb9 hy8)
          clear hb9 q0 q1 q2 hy8
          have hj1 : (M.length : Int) < ((M.length : Int) + 1) := by omega
          go_wp2_with fail
          refine wp_region_grown (by kernel_rfl) (by kernel_rfl) ?_
          repeat (first | go_big_quiet_skip | (go_big_quiet_want; go_big_quiet_op; go_big_quiet_on))
          refine wpQuiet_nil ?_
          intro w10 hw10
          have hbg : Below w9.heap.size w9 w10 := by obtain ⟨x, rfl⟩ := hw10; exact x.below
          have HB10 := Lib.hid (HB9.out.trans (hbg.mono HB9.out.size))
          clear hw10 hbg f0
          go_wp2_with fail
          go_ret3
          exact ⟨by rw [HW3.out]; rfl, HEND.out _ HB10.out⟩
end Go.Proofs.Ytogheigpcppeiaa

namespace Go.Proofs.Ytogheigpcppeiaa
set_option maxRecDepth 100000
open Go Go.RowKit

theorem walk5_known (a : Option Addr) (cap : Nat) (m b cwd : Int) (pb : ByteArray) (hp : pb.size ≤ 1073741824) (follow : Bool) (L : List Ino) (hF : FitP L m b) (z e : Int) (h : walkW L cwd pb.data.toList follow = (z, e)) (w : World) (hN : NodesIn w a cap L) :
    Calls Try.prog 20 #[.agg #[.slice a L.length cap, .int .i64 m, .int .i64 b], .int .i64 cwd, .string pb, .bool follow] w fun r w' => r = .returned (.tuple #[.int .i64 z, .int .i64 e]) ∧ Below w.heap.size w w' := by
  have := walk4_any a cap m b cwd pb hp follow L hF w hN
  rw [h] at this
  exact this
theorem rsame3_yes (a a' : Option Addr) (cap cap' : Nat) (m b : Int) (L : List Ino) (hL : L.length ≤ 1000) (w : World) (hN : NodesIn w a cap L) (hN' : NodesIn w a' cap' L) :
    Calls Try.prog 11 #[.agg #[.slice a L.length cap, .int .i64 m, .int .i64 b], .agg #[.slice a' L.length cap', .int .i64 m, .int .i64 b]] w fun e w' => e = .returned (.bool true) ∧ Below w.heap.size w w' :=
  (rsame3_any a a' cap cap' m b m b L L hL w hN hN').mono fun e w' h => by
    obtain ⟨⟨v, he, hv⟩, hb⟩ := h
    exact ⟨by rw [he, hv.2 rfl], hb⟩
theorem rfit_yes (a : Option Addr) (cap : Nat) (m b : Int) (L : List Ino) (hL : L.length ≤ 300) (hS : Sized L) (hF : FitP L m b) (w : World) (hN : NodesIn w a cap L) :
    Calls Try.prog 13 #[.agg #[.slice a L.length cap, .int .i64 m, .int .i64 b]] w fun e w' => e = .returned (.bool true) ∧ Below w.heap.size w w' :=
  (rfit_any a cap m b L hL hS w hN).mono fun e w' h => by
    obtain ⟨⟨v, he, hv⟩, hb⟩ := h
    exact ⟨by rw [he, hv.2 (ref_iff.2 hF)], hb⟩

set_option maxHeartbeats 8000000 in
theorem lmodes_walk (a : Option Addr) (cap : Nat) (m b cwd q : Int) (pb : ByteArray) (hpb : pb.size ≤ 281474976710656) (L : List Ino) (hS : Sized L) (w : World) (hN : NodesIn w a cap L) :
    Calls Try.prog 5 #[.agg #[.slice a L.length cap, .int .i64 m, .int .i64 b], .int .i64 cwd, .string pb, .int .i64 q] w fun e w' => e = .returned (.bool true) ∧ Below w.heap.size w w' := by
  obtain ⟨w1, hw1⟩ : ∃ w1, w1 = w.alloc (.cells #[.slice a L.length cap, .int .i64 m, .int .i64 b] 24) := ⟨_, rfl⟩
  have hb1 : Below w.heap.size w w1 := by rw [hw1]; exact below_box w _
  have hX : w1.heap[w.heap.size]? = some (.cells #[.slice a L.length cap, .int .i64 m, .int .i64 b] 24 (0, 0)) := by rw [hw1]; exact new_block w _
  have hs1 : w1.heap.size = w.heap.size + 1 := by rw [hw1]; simp
  have HB := Lib.hid hb1
  obtain ⟨w2, hw2⟩ : ∃ w2, w2 = w1.alloc (.cells #[.string pb] 9) := ⟨_, rfl⟩
  have hb2 : Below w1.heap.size w1 w2 := by rw [hw2]; exact below_box w1 _
  have hs2 : w2.heap.size = w.heap.size + 2 := by rw [hw2, World.size_alloc, hs1]
  have hT2 : w2.heap[w.heap.size + 1]? = some (.cells #[.string pb] 9 (0, 0)) := by rw [hw2, ← hs1]; exact new_block w1 _
  have HX := Lib.hid (show ∀ W, Below w2.heap.size w2 W → W.cell? ⟨w.heap.size, 0, none⟩ = some (.slice a L.length cap) ∧ W.cell? ⟨w.heap.size, 1, none⟩ = some (.int .i64 m) ∧ W.cell? ⟨w.heap.size, 2, none⟩ = some (.int .i64 b) from fun W hW => by
    have h := (hW.block w.heap.size (by omega)).trans ((hb2.block w.heap.size (by omega)).trans hX)
    exact ⟨blk_cell h 0, blk_cell h 1, blk_cell h 2⟩)
  have HEND := Lib.hid (show ∀ W', Below w2.heap.size w2 W' → Below w.heap.size w W' from fun W' h => HB.out.trans ((hb2.trans (h.mono (by omega))).mono (by omega)))
  have HM := Lib.hid (show ∀ W', Below w2.heap.size w2 W' → NodesIn W' a cap L from fun W' h => hN.below (HB.out.trans ((hb2.trans (h.mono (by omega))).mono (by omega))))
  have HS := Lib.hid hS
  have hgood := good5_any a cap m b L hS [pb] (fun s hs => by
      simp only [List.mem_cons, List.not_mem_nil, or_false] at hs
      rw [hs]
      exact hpb) (by simp) (w.heap.size + 1) 1 w2 (HM.out w2 (Below.refl _ _)) (fun i hi => by
      match i, hi with
      | 0, _ => exact blk_cell hT2 0)
  have HGOOD := Lib.hid hgood
  clear hN hb1 hX hS hb2 hT2 hgood
  go_enter Try.func5, Try.ntmps5
  go_wp2_with fail
  rw [← hw1, ← hw2]
  clear hw1 hw2
  refine HGOOD.out.mono ?_
  rintro e w3 ⟨⟨v, rfl, hv⟩, hb3⟩
  have HV := Lib.hid hv
  have HB3 := Lib.hid hb3
  have hs3 := hb3.size
  obtain ⟨q0, q1, q2⟩ := HX.out _ hb3
  have hq := cell_lt q0
  clear hv hb3 HGOOD
  cases v with
  | false =>
    clear q0 q1 q2 hq
    go_wp2_with fail
    refine (awake5 _).mono ?_
    rintro e w4 ⟨rfl, hb4⟩
    have HB4 := Lib.hid (HB3.out.trans (hb4.mono hs3))
    clear hb4
    go_wp2_with fail
    go_ret
    exact ⟨rfl, HEND.out _ HB4.out⟩
  | true =>
    obtain ⟨hl, hF, hsz⟩ := HV.out rfl
    have HF := Lib.hid hF
    have hL0 : 0 < L.length := by have := hF.limits; obtain ⟨_, _, _, _, _⟩ := this; omega
    have hp3 : pb.size ≤ 1073741824 := by have := hsz pb (by simp); omega
    obtain ⟨⟨L', er⟩, hz⟩ : ∃ r, chmodW L cwd pb.data.toList q = r := ⟨_, rfl⟩
    have HZ := Lib.hid hz
    have HMADE := Lib.hid (chmod_made hF hz)
    clear hz hF hsz
    go_wp2_with fail
    refine (lchmod_any a cap m b cwd q pb hp3 L HF.out L' er HZ.out _ (HM.out _ HB3.out)).mono ?_
    rintro e w4 hmade
    obtain ⟨g, c, vs, rfl, hO4, hb4⟩ := MadeAns.two hmade
    have HB4 := Lib.hid (HB3.out.trans (hb4.mono hs3))
    have hs4 := hb4.size
    have HO4 := Lib.hid hO4
    clear hmade hO4 hb4 q0 q1 q2 hq
    by_cases h1 : er = 0
    · subst h1
      obtain ⟨k, hk, hwk, hLe, hP⟩ := HMADE.out.1 rfl
      have HWK := Lib.hid hwk
      have HLE := Lib.hid hLe
      have HP := Lib.hid hP
      have hL' : L'.length = L.length := by rw [hLe, List.length_set]
      have HLL := Lib.hid hL'
      have HF' := Lib.hid (show FitP L' m b by rw [hLe]; exact hP.fits)
      have HS' := Lib.hid (sized_fit HF'.out)
      have hkl' : (k : Int) < (L.length : Int) := by omega
      have hkl2 : (k : Int) < (L'.length : Int) := by omega
      have hk0' : (0 : Int) ≤ (k : Int) := by omega
      clear hwk hLe hP hL'
      obtain ⟨q0, q1, q2⟩ := HX.out _ HB4.out
      have hq := cell_lt q0
      go_wp2_with fail
      obtain ⟨w5, hw5⟩ : ∃ p, p = w4.alloc (.cells #[.slice (some ⟨g, 0, none⟩) L'.length c, .int .i64 m, .int .i64 b] 24) := ⟨_, rfl⟩
      have hb5 : Below w4.heap.size w4 w5 := by rw [hw5]; exact below_box w4 _
      have hU : w5.heap[w4.heap.size]? = some (.cells #[.slice (some ⟨g, 0, none⟩) L'.length c, .int .i64 m, .int .i64 b] 24 (0, 0)) := by rw [hw5]; exact new_block w4 _
      have hs5 : w5.heap.size = w4.heap.size + 1 := by rw [hw5]; simp
      rw [← hw5]
      have HB5 := Lib.hid (HB4.out.trans (hb5.mono (by omega)))
      have HU5 := Lib.hid (show ∀ W, Below w5.heap.size w5 W → W.cell? ⟨w4.heap.size, 0, none⟩ = some (.slice (some ⟨g, 0, none⟩) L'.length c) ∧ W.cell? ⟨w4.heap.size, 1, none⟩ = some (.int .i64 m) ∧ W.cell? ⟨w4.heap.size, 2, none⟩ = some (.int .i64 b) from fun W hW => by
        have h := (hW.block w4.heap.size (by omega)).trans hU
        exact ⟨blk_cell h 0, blk_cell h 1, blk_cell h 2⟩)
      have HO5 := Lib.hid (HO4.out.below hb5)
      clear hw5 hb5 hU q0 q1 q2 hq
      refine (walk5_known _ _ _ _ _ _ hp3 _ L HF.out _ _ HWK.out _ (HM.out _ HB5.out)).mono ?_
      rintro e w6 ⟨rfl, hb6⟩
      have HB6 := Lib.hid (HB5.out.trans (hb6.mono (by omega)))
      have HB56 := Lib.hid hb6
      have hs6 := hb6.size
      have HO6 := Lib.hid (HO5.out.below hb6)
      clear hb6
      obtain ⟨u0, u1, u2⟩ := HU5.out _ HB56.out
      have hul := cell_lt u0
      have hkv : k < vs.length := by rw [HO6.out.nodes.len]; omega
      have hkL' : k < L'.length := by omega
      have hn := (HO6.out.nodes.node k hkL' hkv).mode
      have hLk : L'[k] = { L[k] with mode := q } := by
        have := HLE.out
        subst this
        exact List.getElem_set_self ..
      rw [hLk] at hn
      have HLK := Lib.hid hLk
      have hgl := cell_lt hn
      clear hLk
      go_wp2_with fail
      refine (rown_any _ _ _ _ L' (by rw [HLL.out]; exact hL0) (by rw [HLL.out]; omega) _ HO6.out.nodesIn).mono ?_
      rintro e w7 ⟨g7, c7, vs7, rfl, hN7, hg7, hk7, hb7⟩
      have HB7 := Lib.hid (HB6.out.trans (hb7.mono (by omega)))
      have HB67 := Lib.hid hb7
      have hs7 := hb7.size
      have HN7 := Lib.hid hN7
      have HK7 := Lib.hid hk7
      clear hN7 hk7 hb7 u0 u1 u2 hul hn hgl
      go_wp2_with fail
      obtain ⟨w8, hw8⟩ : ∃ p, p = w7.alloc (.cells #[.slice (some ⟨g7, 0, none⟩) L'.length c7, .int .i64 m, .int .i64 b] 24) := ⟨_, rfl⟩
      have hb8 : Below w7.heap.size w7 w8 := by rw [hw8]; exact below_box w7 _
      have hU : w8.heap[w7.heap.size]? = some (.cells #[.slice (some ⟨g7, 0, none⟩) L'.length c7, .int .i64 m, .int .i64 b] 24 (0, 0)) := by rw [hw8]; exact new_block w7 _
      have hs8 : w8.heap.size = w7.heap.size + 1 := by rw [hw8]; simp
      rw [← hw8]
      have HB8 := Lib.hid (HB7.out.trans (hb8.mono (by omega)))
      have HB78 := Lib.hid hb8
      have HU8 := Lib.hid (hU)
      clear hw8 hb8 hU
      have hkv7 : k < vs7.length := by rw [HN7.out.len]; omega
      have hN8 := HN7.out.below HB78.out
      have hn8 := (hN8.node k hkL' hkv7).mode
      have hf8 := hN8.free (k * 6 + 1)
      have hg8 := hN8.lt
      obtain ⟨bb, o, hab, hx⟩ := (HM.out _ HB8.out).2.2 k hk
      subst hab
      have hx1 := hx.mode
      obtain ⟨q0, q1, q2⟩ := HX.out _ HB8.out
      have hq := cell_lt q0
      have hbl := cell_lt hx1
      have v0 := blk_cell HU8.out 0
      have hvl := cell_lt v0
      obtain ⟨md, hmd⟩ : ∃ v, v = L[k].mode := ⟨_, rfl⟩
      rw [← hmd] at hx1
      have HMD := Lib.hid hmd
      rw [HLK.out] at hn8
      clear hx hmd hN8
      go_wp2_with fail
      go_region
      obtain ⟨w9, hw9⟩ : ∃ w9, w9 = (w8.setCell ⟨g7, k * 6 + 1, none⟩ (.int .i64 md)).drew := ⟨_, rfl⟩
      rw [← hw9]
      have hst9 : ∀ j, j ≠ g7 → w9.heap[j]? = w8.heap[j]? := fun j hj => by rw [hw9]; exact Below.heap_setCell _ _ _ _ hj
      have hs9 : w9.heap.size = w8.heap.size := by rw [hw9]; exact size_set _ _
      have hg78 : g7 < w7.heap.size := HN7.out.lt
      have hb9 : ∀ n, n ≤ w6.heap.size → Below n w8 w9 := fun n hn => by rw [hw9]; exact ((Below.refl n w8).setCell (show n ≤ g7 by omega) _).drew
      have HB9 := Lib.hid (HB8.out.trans (hb9 w2.heap.size (by have := HB6.out.size; omega)))
      have HB69 := Lib.hid ((HB67.out.trans (HB78.out.mono hs7)).trans (hb9 w6.heap.size (Nat.le_refl _)))
      have hset : L'.set k { L'[k] with mode := md } = L := by
        have e := HLE.out
        rw [HLK.out, HMD.out, e, List.set_set]
        exact List.set_getElem_self ..
      have hN9 : NodesOwn w9 g7 c7 L vs7 := by
        have h1 := (HN7.out.below HB78.out).setMode hkL' hkv7 md
        rw [set_self, hset] at h1
        rw [hw9]
        exact h1.same (W' := (w8.setCell ⟨g7, k * 6 + 1, none⟩ (.int .i64 md)).drew) rfl
      have hkids : ∀ i (hi : i < L.length) (hi' : i < L'.length), L'[i].kids = L[i].kids := fun i hi hi' => by
        have e := HLE.out
        subst e
        rw [List.getElem_set]
        split
        · rename_i e; subst e; rfl
        · rfl
      have hV9 : NodesIn w9 (some ⟨g7, 0, none⟩) c7 L := hN9.nodesIn fun i hi hv => by
        have hi' : i < L'.length := by rw [HLL.out]; exact hi
        have := (HK7.out i hi' hv).below HB69.out
        rw [hkids i hi hi'] at this
        exact this
      have HV9 := Lib.hid hV9
      have HO9 := Lib.hid (HO6.out.below HB69.out)
      have hU9 := HU5.out _ (HB56.out.trans (HB69.out.mono hs6))
      have v9 := (World.cell?_of_block (a := ⟨w7.heap.size, 0, none⟩) (hst9 w7.heap.size (by omega))).trans (blk_cell HU8.out 0)
      have v91 := (World.cell?_of_block (a := ⟨w7.heap.size, 1, none⟩) (hst9 w7.heap.size (by omega))).trans (blk_cell HU8.out 1)
      have v92 := (World.cell?_of_block (a := ⟨w7.heap.size, 2, none⟩) (hst9 w7.heap.size (by omega))).trans (blk_cell HU8.out 2)
      have hv9l := cell_lt v9
      clear q0 q1 q2 hq hbl v0 hvl hx1 hn8 hf8 hg8 hw9 hst9 hb9 hset hN9 hkids hV9
      obtain ⟨q0, q1, q2⟩ := HX.out _ HB9.out
      obtain ⟨u0, u1, u2⟩ := hU9
      have hq := cell_lt q0
      have hul := cell_lt u0
      go_wp2_with fail
      rw [HLL.out]
      refine (rsame3_yes _ _ _ _ _ _ L (by omega) _ (HM.out _ HB9.out) HV9.out).mono ?_
      rintro e w10 ⟨rfl, hb10⟩
      have HB10 := Lib.hid (HB9.out.trans (hb10.mono HB9.out.size))
      have HO10 := Lib.hid (HO9.out.below hb10)
      have hs10 := hb10.size
      have u0' := cell_below hb10 u0
      have u1' := cell_below hb10 u1
      have u2' := cell_below hb10 u2
      have hul' := cell_lt u0'
      clear hb10 q0 q1 q2 u0 u1 u2 hq hul v9 v91 v92 hv9l
      rw [HLL.out] at u0'
      go_wp2_with fail
      have hfit := rfit_yes (some ⟨g, 0, none⟩) c m b L' (by rw [HLL.out]; exact hl) HS'.out HF'.out w10 HO10.out.nodesIn
      rw [HLL.out] at hfit
      refine hfit.mono ?_
      rintro e w11 ⟨rfl, hb11⟩
      have HB11 := Lib.hid (HB10.out.trans (hb11.mono HB10.out.size))
      clear hb11 hfit u0' u1' u2' hul'
      go_wp2_with fail
      refine (awake5 _).mono ?_
      rintro e w12 ⟨rfl, hb12⟩
      have HB12 := Lib.hid (HB11.out.trans (hb12.mono HB11.out.size))
      clear hb12
      go_wp2_with fail
      go_ret
      exact ⟨rfl, HEND.out _ HB12.out⟩


    · have hLL := HMADE.out.2 h1
      subst hLL
      have hb1 : (er != 0) = true := by simpa using h1
      obtain ⟨q0, q1, q2⟩ := HX.out _ HB4.out
      have hq := cell_lt q0
      go_wp2_with fail
      obtain ⟨w5, hw5⟩ : ∃ p, p = w4.alloc (.cells #[.slice (some ⟨g, 0, none⟩) L'.length c, .int .i64 m, .int .i64 b] 24) := ⟨_, rfl⟩
      have hb5 : Below w4.heap.size w4 w5 := by rw [hw5]; exact below_box w4 _
      have hU : w5.heap[w4.heap.size]? = some (.cells #[.slice (some ⟨g, 0, none⟩) L'.length c, .int .i64 m, .int .i64 b] 24 (0, 0)) := by rw [hw5]; exact new_block w4 _
      have hs5 : w5.heap.size = w4.heap.size + 1 := by rw [hw5]; simp
      rw [← hw5]
      have HB5 := Lib.hid (HB4.out.trans (hb5.mono (by omega)))
      have HU5 := Lib.hid hU
      have HO5 := Lib.hid (HO4.out.below hb5)
      clear hw5 hb5 hU q0 q1 q2 hq
      refine (rsame3_yes _ _ _ _ _ _ L' (by omega) _ (HM.out _ HB5.out) HO5.out.nodesIn).mono ?_
      rintro e w6 ⟨rfl, hb6⟩
      have HB6 := Lib.hid (HB5.out.trans (hb6.mono (by omega)))
      have hs6 := hb6.size
      clear hb6
      go_wp2_with fail
      refine (awake5 _).mono ?_
      rintro e w7 ⟨rfl, hb7⟩
      have HB7 := Lib.hid (HB6.out.trans (hb7.mono (by omega)))
      clear hb7
      go_wp2_with fail
      go_ret
      exact ⟨rfl, HEND.out _ HB7.out⟩
end Go.Proofs.Ytogheigpcppeiaa

namespace Go.Proofs.Ytogheigpcppeiaa
set_option maxRecDepth 100000
open Go Go.RowKit

theorem Adds.kid {L : List Ino} {m b : Int} {d k : Nat} {s : List UInt8} {x : Ino} (h : Adds L m b d k s x) : kidL (addL L d k s x) (d : Int) s = (k : Int) := by
  have hd : d < (addL L d k s x).length := by rw [add_len]; exact h.dlt
  have hg : (addL L d k s x)[d] = withKids (L[d]'h.dlt) (namedL (L[d]'h.dlt).kids s k) := by
    have := add_get (k := k) h.dlt s x d h.dlt
    rw [if_pos rfl] at this
    exact this
  have hm : (s, (k : Int)) ∈ (addL L d k s x)[d].kids := by
    rw [hg]
    show _ ∈ namedL _ _ _
    rw [named_mem (k : Int) h.new]
    exact Or.inl rfl
  obtain ⟨i, hi, he⟩ := List.getElem_of_mem hm
  have := kid_of h.fits d hd i hi
  rw [he] at this
  exact this
theorem parent5_known (a : Option Addr) (cap : Nat) (m b cwd : Int) (pb : ByteArray) (hp : pb.size ≤ 1073741824) (L : List Ino) (hF : FitP L m b) (z : Int) (s : List UInt8) (e : Int) (h : parentW L cwd pb.data.toList = (z, s, e)) (w : World) (hN : NodesIn w a cap L) :
    Calls Try.prog 12 #[.agg #[.slice a L.length cap, .int .i64 m, .int .i64 b], .int .i64 cwd, .string pb] w fun r w' => r = .returned (.tuple #[.int .i64 z, .string ⟨s.toArray⟩, .int .i64 e]) ∧ Below w.heap.size w w' := by
  have := parent4_any a cap m b cwd pb hp L hF w hN
  rw [h] at this
  exact this

set_option maxHeartbeats 8000000 in
theorem llinks_walk (a : Option Addr) (cap : Nat) (m b cwd : Int) (ob pb : ByteArray) (hob : ob.size ≤ 281474976710656) (hpb : pb.size ≤ 281474976710656) (L : List Ino) (hS : Sized L) (w : World) (hN : NodesIn w a cap L) :
    Calls Try.prog 4 #[.agg #[.slice a L.length cap, .int .i64 m, .int .i64 b], .int .i64 cwd, .string ob, .string pb] w fun e w' => e = .returned (.bool true) ∧ Below w.heap.size w w' := by
  obtain ⟨w1, hw1⟩ : ∃ w1, w1 = w.alloc (.cells #[.slice a L.length cap, .int .i64 m, .int .i64 b] 24) := ⟨_, rfl⟩
  have hb1 : Below w.heap.size w w1 := by rw [hw1]; exact below_box w _
  have hX : w1.heap[w.heap.size]? = some (.cells #[.slice a L.length cap, .int .i64 m, .int .i64 b] 24 (0, 0)) := by rw [hw1]; exact new_block w _
  have hs1 : w1.heap.size = w.heap.size + 1 := by rw [hw1]; simp
  have HB := Lib.hid hb1
  obtain ⟨w2, hw2⟩ : ∃ w2, w2 = w1.alloc (.cells #[.string ob, .string pb] 9) := ⟨_, rfl⟩
  have hb2 : Below w1.heap.size w1 w2 := by rw [hw2]; exact below_box w1 _
  have hs2 : w2.heap.size = w.heap.size + 2 := by rw [hw2, World.size_alloc, hs1]
  have hT2 : w2.heap[w.heap.size + 1]? = some (.cells #[.string ob, .string pb] 9 (0, 0)) := by rw [hw2, ← hs1]; exact new_block w1 _
  have HX := Lib.hid (show ∀ W, Below w2.heap.size w2 W → W.cell? ⟨w.heap.size, 0, none⟩ = some (.slice a L.length cap) ∧ W.cell? ⟨w.heap.size, 1, none⟩ = some (.int .i64 m) ∧ W.cell? ⟨w.heap.size, 2, none⟩ = some (.int .i64 b) from fun W hW => by
    have h := (hW.block w.heap.size (by omega)).trans ((hb2.block w.heap.size (by omega)).trans hX)
    exact ⟨blk_cell h 0, blk_cell h 1, blk_cell h 2⟩)
  have HEND := Lib.hid (show ∀ W', Below w2.heap.size w2 W' → Below w.heap.size w W' from fun W' h => HB.out.trans ((hb2.trans (h.mono (by omega))).mono (by omega)))
  have HM := Lib.hid (show ∀ W', Below w2.heap.size w2 W' → NodesIn W' a cap L from fun W' h => hN.below (HB.out.trans ((hb2.trans (h.mono (by omega))).mono (by omega))))
  have HS := Lib.hid hS
  have hgood := good5_any a cap m b L hS [ob, pb] (fun s hs => by
      simp only [List.mem_cons, List.not_mem_nil, or_false] at hs
      rcases hs with rfl | rfl
      · exact hob
      · exact hpb) (by simp) (w.heap.size + 1) 2 w2 (HM.out w2 (Below.refl _ _)) (fun i hi => by
      match i, hi with
      | 0, _ => exact blk_cell hT2 0
      | 1, _ => exact blk_cell hT2 1)
  have HGOOD := Lib.hid hgood
  clear hN hb1 hX hS hb2 hT2 hgood
  go_enter Try.func4, Try.ntmps4
  go_wp2_with fail
  rw [← hw1, ← hw2]
  clear hw1 hw2
  refine HGOOD.out.mono ?_
  rintro e w3 ⟨⟨v, rfl, hv⟩, hb3⟩
  have HV := Lib.hid hv
  have HB3 := Lib.hid hb3
  have hs3 := hb3.size
  obtain ⟨q0, q1, q2⟩ := HX.out _ hb3
  have hq := cell_lt q0
  clear hv hb3 HGOOD
  cases v with
  | false =>
    clear q0 q1 q2 hq
    go_wp2_with fail
    refine (awake5 _).mono ?_
    rintro e w4 ⟨rfl, hb4⟩
    have HB4 := Lib.hid (HB3.out.trans (hb4.mono hs3))
    clear hb4
    go_wp2_with fail
    go_ret
    exact ⟨rfl, HEND.out _ HB4.out⟩
  | true =>
    obtain ⟨hl, hF, hsz⟩ := HV.out rfl
    have HF := Lib.hid hF
    have hL0 : 0 < L.length := by have := hF.limits; obtain ⟨_, _, _, _, _⟩ := this; omega
    have hp3 : pb.size ≤ 1073741824 := by have := hsz pb (by simp); omega
    have ho3 : ob.size ≤ 1073741824 := by have := hsz ob (by simp); omega
    obtain ⟨⟨L', er⟩, hz⟩ : ∃ r, linkW L cwd ob.data.toList pb.data.toList = r := ⟨_, rfl⟩
    have HZ := Lib.hid hz
    have HMADE := Lib.hid (link_made hF hz)
    clear hz hF hsz
    go_wp2_with fail
    refine (llink_any a cap m b cwd ob pb ho3 hp3 L HF.out L' er HZ.out _ (HM.out _ HB3.out)).mono ?_
    rintro e w4 hmade
    obtain ⟨g, c, vs, rfl, hO4, hb4⟩ := MadeAns.two hmade
    have HB4 := Lib.hid (HB3.out.trans (hb4.mono hs3))
    have hs4 := hb4.size
    have HO4 := Lib.hid hO4
    clear hmade hO4 hb4 q0 q1 q2 hq
    by_cases h1 : er = 0
    · subst h1
      obtain ⟨d, nm, k, hk, hwk, hpw, hLe, hA⟩ := HMADE.out.1 rfl
      have HWK := Lib.hid hwk
      have HPW := Lib.hid hpw
      have HLE := Lib.hid hLe
      have HA := Lib.hid hA
      have hL' : L'.length = L.length := by rw [hLe, add_len]
      have HLL := Lib.hid hL'
      have HF' := Lib.hid (show FitP L' m b by rw [hLe]; exact hA.fits)
      have HS' := Lib.hid (sized_fit HF'.out)
      have hkl' : (k : Int) < (L.length : Int) := by omega
      have hkl2 : (k : Int) < (L'.length : Int) := by omega
      have hk0' : (0 : Int) ≤ (k : Int) := by omega
      have HKD := Lib.hid (show kidL L' (d : Int) nm = (k : Int) by rw [hLe]; exact hA.kid)
      have hkL' : k < L'.length := by omega
      obtain ⟨lk, hlk⟩ : ∃ v, v = L[k].links := ⟨_, rfl⟩
      obtain ⟨xd, hxd⟩ : ∃ v, v = L[k].data := ⟨_, rfl⟩
      have hlb : 0 ≤ lk ∧ lk ≤ 262144 := by
        have h1 := (HF.out.names.2 k hk).1
        rw [countL_get L (kids_pos (kids_there HF.out.ins)) k hk] at h1
        have h2 := few_names HF.out k
        omega
      have hwr : IntKind.i64.wrap (lk + 1) = lk + 1 := by rw [IntKind.wrap_i64]; omega
      have HLK := Lib.hid (show L'[k].links = lk + 1 ∧ L'[k].data = xd by
        have h1 := hA.nodeK
        rw [← hLe, node_nat L' k hkL'] at h1
        rw [h1]
        exact ⟨by rw [hlk], by rw [hxd]⟩)
      have HLK0 := Lib.hid (show L[k].links = lk ∧ L[k].data = xd from ⟨hlk.symm, hxd.symm⟩)
      clear hwk hpw hLe hA hL' hlk hxd
      obtain ⟨q0, q1, q2⟩ := HX.out _ HB4.out
      have hq := cell_lt q0
      go_wp2_with fail
      obtain ⟨w5, hw5⟩ : ∃ p, p = w4.alloc (.cells #[.slice (some ⟨g, 0, none⟩) L'.length c, .int .i64 m, .int .i64 b] 24) := ⟨_, rfl⟩
      have hb5 : Below w4.heap.size w4 w5 := by rw [hw5]; exact below_box w4 _
      have hU : w5.heap[w4.heap.size]? = some (.cells #[.slice (some ⟨g, 0, none⟩) L'.length c, .int .i64 m, .int .i64 b] 24 (0, 0)) := by rw [hw5]; exact new_block w4 _
      have hs5 : w5.heap.size = w4.heap.size + 1 := by rw [hw5]; simp
      rw [← hw5]
      have HB5 := Lib.hid (HB4.out.trans (hb5.mono (by omega)))
      have HU5 := Lib.hid (show ∀ W, Below w5.heap.size w5 W → W.cell? ⟨w4.heap.size, 0, none⟩ = some (.slice (some ⟨g, 0, none⟩) L'.length c) ∧ W.cell? ⟨w4.heap.size, 1, none⟩ = some (.int .i64 m) ∧ W.cell? ⟨w4.heap.size, 2, none⟩ = some (.int .i64 b) from fun W hW => by
        have h := (hW.block w4.heap.size (by omega)).trans hU
        exact ⟨blk_cell h 0, blk_cell h 1, blk_cell h 2⟩)
      have HO5 := Lib.hid (HO4.out.below hb5)
      clear hw5 hb5 hU q0 q1 q2 hq
      refine (walk5_known _ _ _ _ _ _ ho3 _ L HF.out _ _ HWK.out _ (HM.out _ HB5.out)).mono ?_
      rintro e w6 ⟨rfl, hb6⟩
      have HB6 := Lib.hid (HB5.out.trans (hb6.mono (by omega)))
      have HB56 := Lib.hid hb6
      have hs6 := hb6.size
      clear hb6
      obtain ⟨q0, q1, q2⟩ := HX.out _ HB6.out
      have hq := cell_lt q0
      go_wp2_with fail
      refine (parent5_known _ _ _ _ _ _ hp3 L HF.out _ _ _ HPW.out _ (HM.out _ HB6.out)).mono ?_
      rintro e w7 ⟨rfl, hb7⟩
      have HB7 := Lib.hid (HB6.out.trans (hb7.mono HB6.out.size))
      have HB57 := Lib.hid (HB56.out.trans (hb7.mono hs6))
      have hs7 := hb7.size
      have HO7 := Lib.hid (HO5.out.below HB57.out)
      clear hb7 q0 q1 q2 hq
      obtain ⟨q0, q1, q2⟩ := HX.out _ HB7.out
      obtain ⟨u0, u1, u2⟩ := HU5.out _ HB57.out
      have hkv : k < vs.length := by rw [HO7.out.nodes.len]; omega
      have hn := HO7.out.nodes.node k hkL' hkv
      have n2 := hn.links
      have n3 := hn.data
      rw [HLK.out.1] at n2
      rw [HLK.out.2] at n3
      obtain ⟨bb, o, hab, hx⟩ := (HM.out _ HB7.out).2.2 k hk
      subst hab
      have x2 := hx.links
      have x3 := hx.data
      rw [HLK0.out.1] at x2
      rw [HLK0.out.2] at x3
      have f0 := grown_cell q0
      have f1 := grown_cell q1
      have f2 := grown_cell q2
      have e0 := grown_cell u0
      have e1 := grown_cell u1
      have e2 := grown_cell u2
      have gn2 := grown_cell n2
      have gn3 := grown_cell n3
      have gx2 := grown_cell x2
      have gx3 := grown_cell x3
      have HN7 := Lib.hid (show ∀ W, Below w7.heap.size w7 W → NodesIn W (some ⟨g, 0, none⟩) c L' from fun W hW => (HO7.out.below hW).nodesIn)
      have h1 : ∀ W, Below w7.heap.size w7 W → Calls Try.prog 13 #[.agg #[.slice (some ⟨g, 0, none⟩) L'.length c, .int .i64 m, .int .i64 b]] W fun e w' => e = .returned (.bool true) ∧ Below W.heap.size W w' := fun W hW => rfit_yes _ c m b L' (by rw [HLL.out]; exact hl) HS'.out HF'.out W (HN7.out W hW)
      have h2 : ∀ W, Below w7.heap.size w7 W → Calls Try.prog 14 #[.agg #[.slice (some ⟨g, 0, none⟩) L'.length c, .int .i64 m, .int .i64 b], .int .i64 d, .string ⟨nm.toArray⟩] W fun e w' => e = .returned (.int .i64 k) ∧ Below W.heap.size W w' := fun W hW => rkid_known _ c m b d nm L' k HKD.out W (HN7.out W hW)
      have G1 := Lib.hid (grown_call (wb := w7) h1)
      have G2 := Lib.hid (grown_call (wb := w7) h2)
      have G3 := Lib.hid (grown_call (wb := w7) (fun W _ => awake5 W))
      clear q0 q1 q2 u0 u1 u2 n2 n3 x2 x3 hn hx h1 h2
      go_wp2_with fail
      refine wp_region_grown (by kernel_rfl) (by kernel_rfl) ?_
      repeat (first | go_big_quiet_skip | (go_big_quiet_want; go_big_quiet_op; (first | go_big_quiet_on | (refine ⟨_, G1.out, ?_⟩; go_big_quiet_on) | (refine ⟨_, G2.out, ?_⟩; go_big_quiet_on) | (refine ⟨_, G3.out, ?_⟩; go_big_quiet_on))))
      refine wpQuiet_nil ?_
      intro w8 hw8
      have hbg : Below w7.heap.size w7 w8 := by obtain ⟨x, rfl⟩ := hw8; exact x.below
      have HB8 := Lib.hid (HB7.out.trans (hbg.mono HB7.out.size))
      clear hw8 hbg
      go_wp2_with fail
      go_ret
      exact ⟨rfl, HEND.out _ HB8.out⟩
    · have hLL := HMADE.out.2 h1
      subst hLL
      have hb1 : (er != 0) = true := by simpa using h1
      obtain ⟨q0, q1, q2⟩ := HX.out _ HB4.out
      have hq := cell_lt q0
      go_wp2_with fail
      obtain ⟨w5, hw5⟩ : ∃ p, p = w4.alloc (.cells #[.slice (some ⟨g, 0, none⟩) L'.length c, .int .i64 m, .int .i64 b] 24) := ⟨_, rfl⟩
      have hb5 : Below w4.heap.size w4 w5 := by rw [hw5]; exact below_box w4 _
      have hU : w5.heap[w4.heap.size]? = some (.cells #[.slice (some ⟨g, 0, none⟩) L'.length c, .int .i64 m, .int .i64 b] 24 (0, 0)) := by rw [hw5]; exact new_block w4 _
      have hs5 : w5.heap.size = w4.heap.size + 1 := by rw [hw5]; simp
      rw [← hw5]
      have HB5 := Lib.hid (HB4.out.trans (hb5.mono (by omega)))
      have HO5 := Lib.hid (HO4.out.below hb5)
      clear hw5 hb5 hU q0 q1 q2 hq
      refine (rsame3_yes _ _ _ _ _ _ L' (by omega) _ (HM.out _ HB5.out) HO5.out.nodesIn).mono ?_
      rintro e w6 ⟨rfl, hb6⟩
      have HB6 := Lib.hid (HB5.out.trans (hb6.mono (by omega)))
      have hs6 := hb6.size
      clear hb6
      go_wp2_with fail
      refine (awake5 _).mono ?_
      rintro e w7 ⟨rfl, hb7⟩
      have HB7 := Lib.hid (HB6.out.trans (hb7.mono (by omega)))
      clear hb7
      go_wp2_with fail
      go_ret
      exact ⟨rfl, HEND.out _ HB7.out⟩
end Go.Proofs.Ytogheigpcppeiaa
