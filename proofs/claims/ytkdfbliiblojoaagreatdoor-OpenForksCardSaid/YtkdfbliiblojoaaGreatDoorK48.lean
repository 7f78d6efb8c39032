import Derived.Test.YtkdfbliiblojoaaGreatDoorK47
import Derived.Test.YtkdfbliiblojoaaGreatDoorK46
set_option linter.all false
set_option maxRecDepth 100000
set_option maxHeartbeats 64000000
namespace Go.Proofs.YtkdfbliiblojoaaGreatDoor
open Go Go.RowKit
theorem Awt {K : Krn} {f : List Int} (hF : FitK K f) (hr : ∀ o ∈ K.opens,o.refs ≤ 900) : FitK (Alw K f) f := by
 have h : ∀ n,n ≤ 10 → FitK (Acj (f.take n) K) f := by
  intro n
  induction n with
  | zero => exact fun _ => by simpa [Acj] using hF
  | succ n ih =>
   intro hn
   have h1 := ih (by omega)
   rw [Alx f hF.len n (by omega)]
   split
   ·exact h1
   ·rename_i h0
    obtain ⟨hl,hlen,hrf⟩ := Ao7 hF hr n (by omega)
    obtain ⟨j,hj,e1,e2,-⟩ := hl.resolve_left h0
    rw [e1,show ((j : Int) + 1 - 1).toNat = j by omega]
    exact Ao4 h1 hj e2 (by have := hrf j (by rw [← hlen]; exact hj) hj; omega)
 have h10 := h 10 (Nat.le_refl _)
 rw [List.take_of_length_le (by rw [hF.len]; omega)] at h10
 exact h10
theorem Anj (A : KAd) (K : Krn) (f : List Int) (fd : Int) (hf : f.length = 10) (hS : Alm K.tree) (hl1 : K.tree.length ≤ 4611686018427387904) (hl2 : K.pipes.length ≤ 4611686018427387904) (hl3 : K.opens.length ≤ 4611686018427387904) (w : World) (hA : KernIn w A K) (hW : Ways w) :
  Calls Tryz.prog 7 #[.agg #[.slice A.ta K.tree.length A.tc,.int .i64 K.m,.int .i64 K.b,.slice A.pa K.pipes.length A.pc,.slice A.oa K.opens.length A.oc,.string ⟨K.out0.toArray⟩,.string ⟨K.out1.toArray⟩],.agg #[.int .i64 (fdA f 0),.int .i64 (fdA f 1),.int .i64 (fdA f 2),.int .i64 (fdA f 3),.int .i64 (fdA f 4),.int .i64 (fdA f 5),.int .i64 (fdA f 6),.int .i64 (fdA f 7),.int .i64 (fdA f 8),.int .i64 (fdA f 9)],.int .i64 fd] w fun e w' => e = .returned (.bool true) ∧ Below w.heap.size w w' := by
 obtain ⟨w2,hw2,hb2,hs2,hX,hY⟩ := Aam w #[.slice A.ta K.tree.length A.tc,.int .i64 K.m,.int .i64 K.b,.slice A.pa K.pipes.length A.pc,.slice A.oa K.opens.length A.oc,.string ⟨K.out0.toArray⟩,.string ⟨K.out1.toArray⟩] #[.int .i64 (fdA f 0),.int .i64 (fdA f 1),.int .i64 (fdA f 2),.int .i64 (fdA f 3),.int .i64 (fdA f 4),.int .i64 (fdA f 5),.int .i64 (fdA f 6),.int .i64 (fdA f 7),.int .i64 (fdA f 8),.int .i64 (fdA f 9)] 29 31
 have HX := Hd hX
 have HY := Hd hY
 have HK2 := Hd (hA.below hb2)
 have HB2 := Hd hb2
 have HS2 := Hd hs2
 have HW2 := Hd hw2
 have HY0 := Hd (hW.below hb2 (Nat.le_refl _))
 have HGD := Hd (Auk A K f hf hS hl1 hl2 hl3 w2 HK2.out)
 have HEND := Hd (show ∀ W,Below w2.heap.size w2 W → Below w.heap.size w W from fun W h => HB2.out.trans (h.mono HB2.out.size))
 have HAW := Hd (fun W (h : Below w2.heap.size w2 W) => Azv W (HY0.out.below h (Nat.le_refl _)))
 have HSS := Hd (show ∀ W : World,Below w2.heap.size w2 W → (W.cell? ⟨w.heap.size,0,none⟩ = some (.slice A.ta K.tree.length A.tc) ∧ W.cell? ⟨w.heap.size,1,none⟩ = some (.int .i64 K.m) ∧ W.cell? ⟨w.heap.size,2,none⟩ = some (.int .i64 K.b) ∧ W.cell? ⟨w.heap.size,3,none⟩ = some (.slice A.pa K.pipes.length A.pc) ∧ W.cell? ⟨w.heap.size,4,none⟩ = some (.slice A.oa K.opens.length A.oc) ∧ W.cell? ⟨w.heap.size,5,none⟩ = some (.string ⟨K.out0.toArray⟩) ∧ W.cell? ⟨w.heap.size,6,none⟩ = some (.string ⟨K.out1.toArray⟩)) ∧ W.rangeAt (w.heap.size + 1) 0 [.int .i64 (fdA f 0),.int .i64 (fdA f 1),.int .i64 (fdA f 2),.int .i64 (fdA f 3),.int .i64 (fdA f 4),.int .i64 (fdA f 5),.int .i64 (fdA f 6),.int .i64 (fdA f 7),.int .i64 (fdA f 8),.int .i64 (fdA f 9)] from fun W h => by
  have a := (h.block w.heap.size (by have := HS2.out; omega)).trans HX.out
  have b := (h.block (w.heap.size + 1) (by have := HS2.out; omega)).trans HY.out
  exact ⟨⟨bC a 0,bC a 1,bC a 2,bC a 3,bC a 4,bC a 5,bC a 6⟩,fun j v hj => by rw [Nat.zero_add]; exact (bC b j).trans (by simpa using hj)⟩)
 have q0 := bC hX 0
 have q1 := bC hX 1
 have q2 := bC hX 2
 have q3 := bC hX 3
 have q4 := bC hX 4
 have q5 := bC hX 5
 have q6 := bC hX 6
 have c0 := bC hY 0
 have c1 := bC hY 1
 have c2 := bC hY 2
 have c3 := bC hY 3
 have c4 := bC hY 4
 have c5 := bC hY 5
 have c6 := bC hY 6
 have c7 := bC hY 7
 have c8 := bC hY 8
 have c9 := bC hY 9
 have hfu : Tryz.prog.underlying 31 = some (.array 10 3) := by kernel_rfl
 have hfi : (Tryz.prog.info? 31).map (·.size) = some 10 := by kernel_rfl
 clear hX hY hb2 hs2 hw2 hA hS hW
 go_enter Tryz.func7,Tryz.ntmps7
 go_upto_region 1 with fail
 have h0 := HW2.out
 rw [← h0]
 clear h0
 go_wp2_with fail
 refine HGD.out.mono ?_
 rintro e w3 ⟨⟨vg,rfl,hg⟩,hb3⟩
 have HG0 := Hd hg
 have HB3 := Hd hb3
 clear hg hb3 q0 q1 q2 q3 q4 q5 q6 c0 c1 c2 c3 c4 c5 c6 c7 c8 c9
 cases vg with
 | false =>
  go_wp2_with fail
  refine (HAW.out _ HB3.out).mono ?_
  rintro e w4 ⟨rfl,hb4⟩
  have HB4 := Hd (HB3.out.trans (hb4.mono HB3.out.size))
  clear hb4
  go_wp2_with fail
  go_ret
  exact ⟨rfl,HEND.out _ HB4.out⟩
 | true =>
  have HG := Hd (HG0.out rfl)
  have HFF := Hd (Awt HG.out.fit HG.out.refs)
  have HXF := Hd (Avb HG.out.fit)
  have HBB : Hid (Below w2.heap.size w2 w3) := HB3
  obtain ⟨⟨q0,q1,q2,q3,q4,q5,q6⟩,rg⟩ := HSS.out w3 HB3.out
  have HK3 := Hd (show ∀ W,Below w2.heap.size w2 W → KernIn W A K from fun W h => HK2.out.below h)
  clear HG0
  go_upto_region 3 with fail
  go_cut [7] from 25 (fun c wx => ∃ nb A1,c = .pointer (some ⟨nb,0,none⟩) ∧ wx.heap[nb]? = some (.cells #[.slice A1.ta K.tree.length A1.tc,.int .i64 K.m,.int .i64 K.b,.slice A1.pa K.pipes.length A1.pc,.slice A1.oa K.opens.length A1.oc,.string ⟨K.out0.toArray⟩,.string ⟨K.out1.toArray⟩] 29 (0,0)) ∧ KernIn wx A1 K ∧ Below w2.heap.size w2 wx)
  case first =>
   refine wp_region_noPanic ?_
   refine wp_region_held_drew (S := fun W => (W.cell? ⟨w.heap.size,0,none⟩ = some (.slice A.ta K.tree.length A.tc) ∧ W.cell? ⟨w.heap.size,1,none⟩ = some (.int .i64 K.m) ∧ W.cell? ⟨w.heap.size,2,none⟩ = some (.int .i64 K.b) ∧ W.cell? ⟨w.heap.size,3,none⟩ = some (.slice A.pa K.pipes.length A.pc) ∧ W.cell? ⟨w.heap.size,4,none⟩ = some (.slice A.oa K.opens.length A.oc) ∧ W.cell? ⟨w.heap.size,5,none⟩ = some (.string ⟨K.out0.toArray⟩) ∧ W.cell? ⟨w.heap.size,6,none⟩ = some (.string ⟨K.out1.toArray⟩)) ∧ W.rangeAt (w.heap.size + 1) 0 [.int .i64 (fdA f 0),.int .i64 (fdA f 1),.int .i64 (fdA f 2),.int .i64 (fdA f 3),.int .i64 (fdA f 4),.int .i64 (fdA f 5),.int .i64 (fdA f 6),.int .i64 (fdA f 7),.int .i64 (fdA f 8),.int .i64 (fdA f 9)]) (by kernel_rfl) ?_ (fun hHeld => ?_)
   ·exact ⟨⟨q0,q1,q2,q3,q4,q5,q6⟩,rg⟩
   have HBB : Hid (Below w2.heap.size w2 w3.drew) := Hd (Aac HBB.out)
   refine wpAnyH_take (i := 0) (v := ?_) rfl (by kernel_rfl) (by kernel_rfl) (by kernel_rfl) (fun _ _ _ h => h) (Or.inl ⟨by rfl,?hy0⟩) hHeld ?rest0
   case hy0 => intro W' hSw; (try dsimp only at hSw); obtain ⟨⟨q0,q1,q2,q3,q4,q5,q6⟩,rg⟩ := hSw; go_simp <;> with_reducible rfl
   try simp only [Act.put,List.setIfInBounds_toArray]
   refine' wpAnyH_take (i := 1) (v := _) rfl (by kernel_rfl) (by kernel_rfl) (by kernel_rfl) (fun _ _ _ h => h) (yieldsIf_load_mid (by rfl) _ _ rfl _ _ rfl _ _ ?hS1 ?hu1 ?hd1 ?hi1) hHeld ?rest1
   case hS1 => intro w' hSw; (try dsimp only at hSw); exact hSw.2
   case hu1 => exact hfu
   case hd1 => rfl
   case hi1 => exact hfi
   try simp only [Act.put]
   refine' wpAnyH_take (i := 3) (v := _) rfl (by kernel_rfl) (by kernel_rfl) (by kernel_rfl) (fun _ _ _ h => h) (yieldsIf_load_mid (by rfl) _ _ rfl _ _ rfl _ _ ?hS3 ?hu3 ?hd3 ?hi3) hHeld ?rest3
   case hS3 => intro w' hSw; (try dsimp only at hSw); exact hSw.2
   case hu3 => exact hfu
   case hd3 => rfl
   case hi3 => exact hfi
   try simp only [Act.put]
   refine wpAnyH_ready (rs := [2,5]) (by kernel_rfl) (by simp) ?_
   refine AllReadyH.cons rfl (fun K' hK => ?_) (AllReadyH.cons rfl (fun K' hK => ?_) AllReadyH.nil)
   ·go_simp
    refine (Am0 A K f HG.out.fit HG.out.refs _ (HK3.out _ (by first | exact HBB.out | exact Aac HBB.out))).mono ?_
    rintro e wn ⟨⟨A1,rfl,hk1,-⟩,hbn⟩
    have HBB : Hid (Below w2.heap.size w2 wn) := Hd (Aak HBB.out hbn HBB.out.size ⟨rfl,rfl,rfl,rfl⟩)
    have HK4 := Hd hk1
    refine hK.out _ _ (HSS.out _ HBB.out) (fun hHeld => ?_)
    clear hK K' hk1 hbn
    try simp only [Act.put,List.setIfInBounds_toArray,List.set_cons_zero,List.set_cons_succ]
    refine wpAnyH_ready (rs := [4,5]) (by kernel_rfl) (by simp) ?_
    refine AllReadyH.cons rfl (fun K' hK => ?_) (AllReadyH.cons rfl (fun K' hK => ?_) AllReadyH.nil)
    ·go_simp
     refine (Ajf A1 (Alw K f) f HFF.out _ HK4.out).mono ?_
     rintro e wm ⟨⟨A2,rfl,hk2,hfr⟩,hbn⟩
     rw [HXF.out] at hk2 ⊢
     have HBB : Hid (Below w2.heap.size w2 wm) := Hd (Aak HBB.out hbn HBB.out.size ⟨rfl,rfl,rfl,rfl⟩)
     have HK5 := Hd hk2
     have HFR := Hd hfr
     refine hK.out _ _ (HSS.out _ HBB.out) (fun hHeld => ?_)
     clear hK K' hk2 hfr hbn
     try simp only [Act.put,List.setIfInBounds_toArray,List.set_cons_zero,List.set_cons_succ]
     refine wpAnyH_ready (rs := [5]) (by kernel_rfl) (by simp) ?_
     refine AllReadyH.cons rfl (fun K' hK => ?_) AllReadyH.nil
     go_simp
     obtain ⟨wk,hw⟩ : ∃ z,z = wm.alloc (.cells #[.slice none 0 0,.int .i64 0,.int .i64 0,.slice none 0 0,.slice none 0 0,.string ⟨#[]⟩,.string ⟨#[]⟩] 29) := ⟨_,rfl⟩
     have hbn : Below wm.heap.size wm wk := by rw [hw]; exact Aab wm _
     have HUZ := Hd (show w2.heap.size ≤ wm.heap.size from HBB.out.size)
     have HBK := Hd hbn
     have HBB : Hid (Below w2.heap.size w2 wk) := Hd (Aak HBB.out hbn HBB.out.size ⟨rfl,rfl,rfl,rfl⟩)
     have HU := Hd (show wk.heap[wm.heap.size]? = some (.cells #[.slice none 0 0,.int .i64 0,.int .i64 0,.slice none 0 0,.slice none 0 0,.string ⟨#[]⟩,.string ⟨#[]⟩] 29 (0,0)) by rw [hw]; exact Aae wm _)
     first | rw [← hw] | skip
     refine hK.out _ _ (HSS.out _ (by first | exact HBB.out | exact Aac HBB.out)) (fun hHeld => ?_)
     clear hK K' hbn hw
     try simp only [Act.put,List.setIfInBounds_toArray,List.set_cons_zero,List.set_cons_succ]
     obtain ⟨u0,u1,u2,u3,u4,u5,u6⟩ := Aar HU.out
     have v0 := bF HU.out 0
     have v1 := bF HU.out 1
     have v2 := bF HU.out 2
     have v3 := bF HU.out 3
     have v4 := bF HU.out 4
     have v5 := bF HU.out 5
     have v6 := bF HU.out 6
     have ul := lt_of_block HU.out
     have hz3 := Aib wk wm.heap.size (.slice A2.ta K.tree.length A2.tc) (.int .i64 K.m) (.int .i64 K.b) (.slice A2.pa K.pipes.length A2.pc) (.slice A2.oa K.opens.length A2.oc) (.string ⟨K.out0.toArray⟩) (.string ⟨K.out1.toArray⟩)
     have HZ := Hd (And.intro (Afh HU.out (.slice A2.ta K.tree.length A2.tc) (.int .i64 K.m) (.int .i64 K.b) (.slice A2.pa K.pipes.length A2.pc) (.slice A2.oa K.opens.length A2.oc) (.string ⟨K.out0.toArray⟩) (.string ⟨K.out1.toArray⟩)) (And.intro (HK5.out.below (But.below HBK.out hz3 (Nat.le_refl _))) (But.below HBB.out hz3 HUZ.out)))
     have hSZ := HSS.out _ HZ.out.2.2
     clear hz3
     refine wpAnyH_ready (rs := [6]) (by kernel_rfl) (by simp) ?_
     refine AllReadyH.cons rfl (fun K' hK => ?_) AllReadyH.nil
     go_simp
     refine hK.out _ _ hSZ (fun hHeld => ?_)
     clear hK K' hSZ
     try simp only [Act.put,List.setIfInBounds_toArray,List.set_cons_zero,List.set_cons_succ]
     refine wpAnyH_done (by kernel_rfl) ?_ _
     refine NoPanic.normal ?_
     go_wp2_with fail
     go_meet
     exact ⟨_,A2,rfl,HZ.out⟩
    ·go_simp
     obtain ⟨wk,hw⟩ : ∃ z,z = wn.alloc (.cells #[.slice none 0 0,.int .i64 0,.int .i64 0,.slice none 0 0,.slice none 0 0,.string ⟨#[]⟩,.string ⟨#[]⟩] 29) := ⟨_,rfl⟩
     have hbn : Below wn.heap.size wn wk := by rw [hw]; exact Aab wn _
     have HUZ := Hd (show w2.heap.size ≤ wn.heap.size from HBB.out.size)
     have HBK := Hd hbn
     have HBB : Hid (Below w2.heap.size w2 wk) := Hd (Aak HBB.out hbn HBB.out.size ⟨rfl,rfl,rfl,rfl⟩)
     have HU := Hd (show wk.heap[wn.heap.size]? = some (.cells #[.slice none 0 0,.int .i64 0,.int .i64 0,.slice none 0 0,.slice none 0 0,.string ⟨#[]⟩,.string ⟨#[]⟩] 29 (0,0)) by rw [hw]; exact Aae wn _)
     have HK4 := Hd (HK4.out.below hbn)
     first | rw [← hw] | skip
     refine hK.out _ _ (HSS.out _ (by first | exact HBB.out | exact Aac HBB.out)) (fun hHeld => ?_)
     clear hK K' hbn hw
     try simp only [Act.put,List.setIfInBounds_toArray,List.set_cons_zero,List.set_cons_succ]
     refine wpAnyH_ready (rs := [4]) (by kernel_rfl) (by simp) ?_
     refine AllReadyH.cons rfl (fun K' hK => ?_) AllReadyH.nil
     go_simp
     refine (Ajf A1 (Alw K f) f HFF.out _ HK4.out).mono ?_
     rintro e wm ⟨⟨A2,rfl,hk2,hfr⟩,hbn⟩
     rw [HXF.out] at hk2 ⊢
     have HLT := Hd (lt_of_block HU.out)
     have HU := Hd ((hbn.block _ (lt_of_block HU.out)).trans HU.out)
     have HBB : Hid (Below w2.heap.size w2 wm) := Hd (Aak HBB.out hbn HBB.out.size ⟨rfl,rfl,rfl,rfl⟩)
     have HK5 := Hd hk2
     have HFR := Hd hfr
     refine hK.out _ _ (HSS.out _ HBB.out) (fun hHeld => ?_)
     clear hK K' hk2 hfr hbn
     try simp only [Act.put,List.setIfInBounds_toArray,List.set_cons_zero,List.set_cons_succ]
     obtain ⟨u0,u1,u2,u3,u4,u5,u6⟩ := Aar HU.out
     have v0 := bF HU.out 0
     have v1 := bF HU.out 1
     have v2 := bF HU.out 2
     have v3 := bF HU.out 3
     have v4 := bF HU.out 4
     have v5 := bF HU.out 5
     have v6 := bF HU.out 6
     have ul := lt_of_block HU.out
     obtain ⟨wz,rfl,hz1,hz2,hz3⟩ := Afk (u := wn.heap.size) (A := ⟨none,0,none,0,none,0⟩) (K := ⟨[],0,0,[],[],[],[]⟩) (A2 := A2) (Kz := K) HU.out HK5.out (fun x hx => by have := HFR.out.1 x hx; have := HLT.out; omega) (fun x hx => by have := HFR.out.2 x hx; have := HLT.out; omega)
     have HZ := Hd (And.intro hz1 (And.intro hz2 (But.below HBB.out hz3 HUZ.out)))
     have hSZ := HSS.out _ HZ.out.2.2
     clear hz1 hz2 hz3
     refine wpAnyH_ready (rs := [6]) (by kernel_rfl) (by simp) ?_
     refine AllReadyH.cons rfl (fun K' hK => ?_) AllReadyH.nil
     go_simp
     refine hK.out _ _ hSZ (fun hHeld => ?_)
     clear hK K' hSZ
     try simp only [Act.put,List.setIfInBounds_toArray,List.set_cons_zero,List.set_cons_succ]
     refine wpAnyH_done (by kernel_rfl) ?_ _
     refine NoPanic.normal ?_
     go_wp2_with fail
     go_meet
     exact ⟨_,A2,rfl,HZ.out⟩
   ·go_simp
    obtain ⟨wk,hw⟩ : ∃ z,z = w3.alloc (.cells #[.slice none 0 0,.int .i64 0,.int .i64 0,.slice none 0 0,.slice none 0 0,.string ⟨#[]⟩,.string ⟨#[]⟩] 29) := ⟨_,rfl⟩
    have hbn : Below w3.heap.size w3 wk := by rw [hw]; exact Aab w3 _
    have HUZ := Hd (show w2.heap.size ≤ w3.heap.size from HBB.out.size)
    have HBK := Hd hbn
    have HBB : Hid (Below w2.heap.size w2 wk) := Hd (Aak HBB.out hbn HBB.out.size ⟨rfl,rfl,rfl,rfl⟩)
    have HU := Hd (show wk.heap[w3.heap.size]? = some (.cells #[.slice none 0 0,.int .i64 0,.int .i64 0,.slice none 0 0,.slice none 0 0,.string ⟨#[]⟩,.string ⟨#[]⟩] 29 (0,0)) by rw [hw]; exact Aae w3 _)
    first | rw [← hw] | skip
    refine hK.out _ _ (HSS.out _ (by first | exact HBB.out | exact Aac HBB.out)) (fun hHeld => ?_)
    clear hK K' hbn hw
    try simp only [Act.put,List.setIfInBounds_toArray,List.set_cons_zero,List.set_cons_succ]
    refine wpAnyH_ready (rs := [2]) (by kernel_rfl) (by simp) ?_
    refine AllReadyH.cons rfl (fun K' hK => ?_) AllReadyH.nil
    go_simp
    refine (Am0 A K f HG.out.fit HG.out.refs _ (HK3.out _ (by first | exact HBB.out | exact Aac HBB.out))).mono ?_
    rintro e wn ⟨⟨A1,rfl,hk1,-⟩,hbn⟩
    have HBB : Hid (Below w2.heap.size w2 wn) := Hd (Aak HBB.out hbn HBB.out.size ⟨rfl,rfl,rfl,rfl⟩)
    have HK4 := Hd hk1
    have HU := Hd ((hbn.block _ (lt_of_block HU.out)).trans HU.out)
    refine hK.out _ _ (HSS.out _ HBB.out) (fun hHeld => ?_)
    clear hK K' hk1 hbn
    try simp only [Act.put,List.setIfInBounds_toArray,List.set_cons_zero,List.set_cons_succ]
    refine wpAnyH_ready (rs := [4]) (by kernel_rfl) (by simp) ?_
    refine AllReadyH.cons rfl (fun K' hK => ?_) AllReadyH.nil
    go_simp
    refine (Ajf A1 (Alw K f) f HFF.out _ HK4.out).mono ?_
    rintro e wm ⟨⟨A2,rfl,hk2,hfr⟩,hbn⟩
    rw [HXF.out] at hk2 ⊢
    have HLT := Hd (lt_of_block HU.out)
    have HU := Hd ((hbn.block _ (lt_of_block HU.out)).trans HU.out)
    have HBB : Hid (Below w2.heap.size w2 wm) := Hd (Aak HBB.out hbn HBB.out.size ⟨rfl,rfl,rfl,rfl⟩)
    have HK5 := Hd hk2
    have HFR := Hd hfr
    refine hK.out _ _ (HSS.out _ HBB.out) (fun hHeld => ?_)
    clear hK K' hk2 hfr hbn
    try simp only [Act.put,List.setIfInBounds_toArray,List.set_cons_zero,List.set_cons_succ]
    obtain ⟨u0,u1,u2,u3,u4,u5,u6⟩ := Aar HU.out
    have v0 := bF HU.out 0
    have v1 := bF HU.out 1
    have v2 := bF HU.out 2
    have v3 := bF HU.out 3
    have v4 := bF HU.out 4
    have v5 := bF HU.out 5
    have v6 := bF HU.out 6
    have ul := lt_of_block HU.out
    obtain ⟨wz,rfl,hz1,hz2,hz3⟩ := Afk (u := w3.heap.size) (A := ⟨none,0,none,0,none,0⟩) (K := ⟨[],0,0,[],[],[],[]⟩) (A2 := A2) (Kz := K) HU.out HK5.out (fun x hx => by have := HFR.out.1 x hx; have := HLT.out; omega) (fun x hx => by have := HFR.out.2 x hx; have := HLT.out; omega)
    have HZ := Hd (And.intro hz1 (And.intro hz2 (But.below HBB.out hz3 HUZ.out)))
    have hSZ := HSS.out _ HZ.out.2.2
    clear hz1 hz2 hz3
    refine wpAnyH_ready (rs := [6]) (by kernel_rfl) (by simp) ?_
    refine AllReadyH.cons rfl (fun K' hK => ?_) AllReadyH.nil
    go_simp
    refine hK.out _ _ hSZ (fun hHeld => ?_)
    clear hK K' hSZ
    try simp only [Act.put,List.setIfInBounds_toArray,List.set_cons_zero,List.set_cons_succ]
    refine wpAnyH_done (by kernel_rfl) ?_ _
    refine NoPanic.normal ?_
    go_wp2_with fail
    go_meet
    exact ⟨_,A2,rfl,HZ.out⟩
  case rest =>
   obtain ⟨nb,A1,rfl,hub,hk,hbc⟩ := hcut
   obtain ⟨w4,hw4⟩ : ∃ X,X = wc := ⟨_,rfl⟩
   rw [← hw4] at hub hk hbc ⊢
   have HBB := Hd hbc
   have HU4 := Hd hub
   have HK4 := Hd hk
   clear hw4 hub hk hbc
   obtain ⟨⟨q0,q1,q2,q3,q4,q5,q6⟩,-⟩ := HSS.out _ HBB.out
   have HFK := Hd (show K.tree.length ≤ 1000 by have := HG.out.tree; omega)
   have u0 := bC HU4.out 0
   have u1 := bC HU4.out 1
   have u2 := bC HU4.out 2
   have u3 := bC HU4.out 3
   have u4 := bC HU4.out 4
   have u5 := bC HU4.out 5
   have u6 := bC HU4.out 6
   have ul := lt_of_block HU4.out
   go_wp2_with fail
   refine (Baf A1 A K K HFK.out true ⟨fun _ => rfl,fun _ => rfl⟩ w4 HK4.out (HK3.out _ HBB.out)).mono ?_
   rintro e w5 ⟨rfl,hb5⟩
   have HBB := Hd (HBB.out.trans (hb5.mono HBB.out.size))
   clear hb5 q0 q1 q2 q3 q4 q5 q6 u0 u1 u2 u3 u4 u5 u6 ul HU4 HK4
   obtain ⟨⟨q0,q1,q2,q3,q4,q5,q6⟩,-⟩ := HSS.out _ HBB.out
   have ql := Aaj q0
   obtain ⟨⟨x,g,er⟩,hz⟩ : ∃ Z,Ai8 K Al4 3 4 5 = Z := ⟨_,rfl⟩
   obtain ⟨hok1,hok2⟩ := Av5 HG.out.fit hz
   have hpp := Auo A K Al4 3 4 5 (Aqe HG.out.fit) w5 (HK3.out _ HBB.out)
   rw [hz] at hpp
   have HPP : Hid (Calls Tryz.prog 24 #[.agg #[.slice A.ta K.tree.length A.tc,.int .i64 K.m,.int .i64 K.b,.slice A.pa K.pipes.length A.pc,.slice A.oa K.opens.length A.oc,.string ⟨K.out0.toArray⟩,.string ⟨K.out1.toArray⟩],.agg #[.int .i64 0,.int .i64 0,.int .i64 0,.int .i64 0,.int .i64 0,.int .i64 0,.int .i64 0,.int .i64 0,.int .i64 0,.int .i64 0],.int .i64 3,.int .i64 4,.int .i64 5] w5 (KAns (x,g,er) w5)) := Hd hpp
   have HO1 := Hd hok1
   have HO2 := Hd hok2
   clear hpp hok1 hok2 hz
   go_wp2_with fail
   refine HPP.out.mono ?_
   rintro e w6 ⟨⟨A6,rfl,hk,hfr⟩,hb⟩
   clear HPP q0 q1 q2 q3 q4 q5 q6 ql
   obtain ⟨w7,hw,hb2,hs,hX,hY⟩ := Aam w6 #[.slice A6.ta x.tree.length A6.tc,.int .i64 x.m,.int .i64 x.b,.slice A6.pa x.pipes.length A6.pc,.slice A6.oa x.opens.length A6.oc,.string ⟨x.out0.toArray⟩,.string ⟨x.out1.toArray⟩] #[.int .i64 (fdA g 0),.int .i64 (fdA g 1),.int .i64 (fdA g 2),.int .i64 (fdA g 3),.int .i64 (fdA g 4),.int .i64 (fdA g 5),.int .i64 (fdA g 6),.int .i64 (fdA g 7),.int .i64 (fdA g 8),.int .i64 (fdA g 9)] 29 31
   have HXw7 := Hd hX
   have HYw7 := Hd hY
   have HKw7 := Hd (hk.below hb2)
   have HBP := HBB
   have HBB := Hd ((HBP.out.trans (hb.mono HBP.out.size)).trans (hb2.mono (Nat.le_trans HBP.out.size hb.size)))
   have HSw7 := Hd (show w6.heap.size + 2 ≤ w7.heap.size by omega)
   have HW := Hd hw
   clear hw hb2 hs hX hY hk hb HBP hfr
   go_upto_region 7 with fail
   have hh := HW.out
   rw [← hh]
   clear hh HW
   have q0 := bC HXw7.out 0
   have q1 := bC HXw7.out 1
   have q2 := bC HXw7.out 2
   have q3 := bC HXw7.out 3
   have q4 := bC HXw7.out 4
   have q5 := bC HXw7.out 5
   have q6 := bC HXw7.out 6
   have c0 := bC HYw7.out 0
   have c1 := bC HYw7.out 1
   have c2 := bC HYw7.out 2
   have c3 := bC HYw7.out 3
   have c4 := bC HYw7.out 4
   have c5 := bC HYw7.out 5
   have c6 := bC HYw7.out 6
   have c7 := bC HYw7.out 7
   have c8 := bC HYw7.out 8
   have c9 := bC HYw7.out 9
   have ql := lt_of_block HXw7.out
   have cl := lt_of_block HYw7.out
   by_cases h0 : er ≠ 0
   ·obtain rfl := HO1.out h0
    clear h0
    go_wp2_with fail
    refine (HAW.out _ HBB.out).mono ?_
    rintro e w8 ⟨rfl,hb8⟩
    have HB8 := Hd (HBB.out.trans (hb8.mono HBB.out.size))
    clear hb8
    go_wp2_with fail
    go_ret
    exact ⟨rfl,HEND.out _ HB8.out⟩
   obtain rfl : er = 0 := Decidable.of_not_not h0
   clear h0
   obtain ⟨hfx,hr1,y,h2,hcl,hfy,hr2⟩ := HO2.out rfl
   have HFX := Hd hfx
   have HFY := Hd hfy
   have HR1 := Hd hr1
   have HR2 := Hd hr2
   have HCL := Hd hcl
   clear hfx hfy hr1 hr2 hcl HO1 HO2
   have HLX := Hd (show x.tree.length ≤ 300 ∧ x.pipes.length ≤ 1000 ∧ x.opens.length ≤ 1000 by
    obtain ⟨l1,l2,l3,l4,l5⟩ := HFX.out.tree.limits
    have := HFX.out.np
    have := HFX.out.no
    omega)
   go_wp2_with fail
   refine (Ayp A6 x g HFX.out.len HLX.out.1 (Alv HFX.out.tree) HLX.out.2.1 HLX.out.2.2 true ⟨fun _ => HFX.out,fun _ => rfl⟩ w7 HKw7.out).mono ?_
   rintro e w8 ⟨rfl,hb⟩
   have HBB := Hd (HBB.out.trans (hb.mono HBB.out.size))
   have HX := Hd ((hb.block _ ql).trans HXw7.out)
   have HY := Hd ((hb.block _ cl).trans HYw7.out)
   have HK := Hd (HKw7.out.below hb)
   clear hb q0 q1 q2 q3 q4 q5 q6 c0 c1 c2 c3 c4 c5 c6 c7 c8 c9 ql cl HXw7 HYw7 HKw7 HSw7
   have q0 := bC HX.out 0
   have q1 := bC HX.out 1
   have q2 := bC HX.out 2
   have q3 := bC HX.out 3
   have q4 := bC HX.out 4
   have q5 := bC HX.out 5
   have q6 := bC HX.out 6
   have c0 := bC HY.out 0
   have c1 := bC HY.out 1
   have c2 := bC HY.out 2
   have c3 := bC HY.out 3
   have c4 := bC HY.out 4
   have c5 := bC HY.out 5
   have c6 := bC HY.out 6
   have c7 := bC HY.out 7
   have c8 := bC HY.out 8
   have c9 := bC HY.out 9
   have ql := lt_of_block HX.out
   have cl := lt_of_block HY.out
   have hrd := Ag4 A6 x g 3 1 HFX.out w8 HK.out
   rw [HR1.out] at hrd
   have HRD : Hid (Calls Tryz.prog 26 #[.agg #[.slice A6.ta x.tree.length A6.tc,.int .i64 x.m,.int .i64 x.b,.slice A6.pa x.pipes.length A6.pc,.slice A6.oa x.opens.length A6.oc,.string ⟨x.out0.toArray⟩,.string ⟨x.out1.toArray⟩],.agg #[.int .i64 (fdA g 0),.int .i64 (fdA g 1),.int .i64 (fdA g 2),.int .i64 (fdA g 3),.int .i64 (fdA g 4),.int .i64 (fdA g 5),.int .i64 (fdA g 6),.int .i64 (fdA g 7),.int .i64 (fdA g 8),.int .i64 (fdA g 9)],.int .i64 3,.int .i64 1] w8 (TAns x (.string ⟨#[]⟩) 11 w8)) := Hd hrd
   clear hrd
   go_wp2_with fail
   refine HRD.out.mono ?_
   rintro e w9 ⟨⟨A9,rfl,-,-⟩,hb⟩
   obtain ⟨w10,hw⟩ : ∃ z,z = w9.alloc (.cells #[.slice A9.ta x.tree.length A9.tc,.int .i64 x.m,.int .i64 x.b,.slice A9.pa x.pipes.length A9.pc,.slice A9.oa x.opens.length A9.oc,.string ⟨x.out0.toArray⟩,.string ⟨x.out1.toArray⟩] 29) := ⟨_,rfl⟩
   have hb2 : Below w8.heap.size w8 w10 := by rw [hw]; exact hb.trans ((Aab w9 _).mono hb.size)
   have HW := Hd hw
   have HBB := Hd (HBB.out.trans (hb2.mono HBB.out.size))
   have HX := Hd ((hb2.block _ ql).trans HX.out)
   have HY := Hd ((hb2.block _ cl).trans HY.out)
   have HK := Hd (HK.out.below hb2)
   clear hb hw hb2 q0 q1 q2 q3 q4 q5 q6 c0 c1 c2 c3 c4 c5 c6 c7 c8 c9 ql cl HRD
   go_upto_region 12 with fail
   have hh := HW.out
   rw [← hh]
   clear hh HW
   have q0 := bC HX.out 0
   have q1 := bC HX.out 1
   have q2 := bC HX.out 2
   have q3 := bC HX.out 3
   have q4 := bC HX.out 4
   have q5 := bC HX.out 5
   have q6 := bC HX.out 6
   have c0 := bC HY.out 0
   have c1 := bC HY.out 1
   have c2 := bC HY.out 2
   have c3 := bC HY.out 3
   have c4 := bC HY.out 4
   have c5 := bC HY.out 5
   have c6 := bC HY.out 6
   have c7 := bC HY.out 7
   have c8 := bC HY.out 8
   have c9 := bC HY.out 9
   have ql := lt_of_block HX.out
   have cl := lt_of_block HY.out
   have hcl := Art A6 x g 4 HFX.out w10 HK.out
   rw [HCL.out] at hcl
   go_wp2_with fail
   refine hcl.mono ?_
   rintro e w11 ⟨⟨A11,rfl,hk,hfr⟩,hb⟩
   clear hcl q0 q1 q2 q3 q4 q5 q6 c0 c1 c2 c3 c4 c5 c6 c7 c8 c9 ql cl HX HY HK
   obtain ⟨w12,hw,hb2,hs,hX,hY⟩ := Aam w11 #[.slice A11.ta y.tree.length A11.tc,.int .i64 y.m,.int .i64 y.b,.slice A11.pa y.pipes.length A11.pc,.slice A11.oa y.opens.length A11.oc,.string ⟨y.out0.toArray⟩,.string ⟨y.out1.toArray⟩] #[.int .i64 (fdA h2 0),.int .i64 (fdA h2 1),.int .i64 (fdA h2 2),.int .i64 (fdA h2 3),.int .i64 (fdA h2 4),.int .i64 (fdA h2 5),.int .i64 (fdA h2 6),.int .i64 (fdA h2 7),.int .i64 (fdA h2 8),.int .i64 (fdA h2 9)] 29 31
   have HXw12 := Hd hX
   have HYw12 := Hd hY
   have HKw12 := Hd (hk.below hb2)
   have HBP := HBB
   have HBB := Hd ((HBP.out.trans (hb.mono HBP.out.size)).trans (hb2.mono (Nat.le_trans HBP.out.size hb.size)))
   have HSw12 := Hd (show w11.heap.size + 2 ≤ w12.heap.size by omega)
   have HW := Hd hw
   clear hw hb2 hs hX hY hk hb HBP hfr
   go_upto_region 13 with fail
   have hh := HW.out
   rw [← hh]
   clear hh HW
   have q0 := bC HXw12.out 0
   have q1 := bC HXw12.out 1
   have q2 := bC HXw12.out 2
   have q3 := bC HXw12.out 3
   have q4 := bC HXw12.out 4
   have q5 := bC HXw12.out 5
   have q6 := bC HXw12.out 6
   have c0 := bC HYw12.out 0
   have c1 := bC HYw12.out 1
   have c2 := bC HYw12.out 2
   have c3 := bC HYw12.out 3
   have c4 := bC HYw12.out 4
   have c5 := bC HYw12.out 5
   have c6 := bC HYw12.out 6
   have c7 := bC HYw12.out 7
   have c8 := bC HYw12.out 8
   have c9 := bC HYw12.out 9
   have ql := lt_of_block HXw12.out
   have cl := lt_of_block HYw12.out
   have hrd := Ag4 A11 y h2 3 1 HFY.out w12 HKw12.out
   rw [HR2.out] at hrd
   have HRD : Hid (Calls Tryz.prog 26 #[.agg #[.slice A11.ta y.tree.length A11.tc,.int .i64 y.m,.int .i64 y.b,.slice A11.pa y.pipes.length A11.pc,.slice A11.oa y.opens.length A11.oc,.string ⟨y.out0.toArray⟩,.string ⟨y.out1.toArray⟩],.agg #[.int .i64 (fdA h2 0),.int .i64 (fdA h2 1),.int .i64 (fdA h2 2),.int .i64 (fdA h2 3),.int .i64 (fdA h2 4),.int .i64 (fdA h2 5),.int .i64 (fdA h2 6),.int .i64 (fdA h2 7),.int .i64 (fdA h2 8),.int .i64 (fdA h2 9)],.int .i64 3,.int .i64 1] w12 (TAns y (.string ⟨#[]⟩) 0 w12)) := Hd hrd
   clear hrd
   go_wp2_with fail
   refine HRD.out.mono ?_
   rintro e w13 ⟨⟨A13,rfl,-,-⟩,hb⟩
   obtain ⟨w14,hw⟩ : ∃ z,z = w13.alloc (.cells #[.slice A13.ta y.tree.length A13.tc,.int .i64 y.m,.int .i64 y.b,.slice A13.pa y.pipes.length A13.pc,.slice A13.oa y.opens.length A13.oc,.string ⟨y.out0.toArray⟩,.string ⟨y.out1.toArray⟩] 29) := ⟨_,rfl⟩
   have hb2 : Below w12.heap.size w12 w14 := by rw [hw]; exact hb.trans ((Aab w13 _).mono hb.size)
   have HW := Hd hw
   have HBB := Hd (HBB.out.trans (hb2.mono HBB.out.size))
   clear hb hw hb2 q0 q1 q2 q3 q4 q5 q6 c0 c1 c2 c3 c4 c5 c6 c7 c8 c9 ql cl HRD HXw12 HYw12 HKw12
   go_upto_region 14 with fail
   have hh := HW.out
   rw [← hh]
   clear hh HW
   go_wp2_with fail
   refine (HAW.out _ HBB.out).mono ?_
   rintro e w15 ⟨rfl,hb8⟩
   have HB8 := Hd (HBB.out.trans (hb8.mono HBB.out.size))
   clear hb8
   go_wp2_with fail
   go_ret
   exact ⟨rfl,HEND.out _ HB8.out⟩
end Go.Proofs.YtkdfbliiblojoaaGreatDoor
