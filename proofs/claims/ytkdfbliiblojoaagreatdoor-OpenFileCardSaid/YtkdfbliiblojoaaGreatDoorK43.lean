import Derived.Test.YtkdfbliiblojoaaGreatDoorK41
set_option linter.all false
set_option maxRecDepth 100000
set_option maxHeartbeats 64000000
namespace Go.Proofs.YtkdfbliiblojoaaGreatDoor
open Go Go.RowKit
theorem Ways.at_ {W : World} (h : Ways W) (n : Nat) (hn : n < 5) : W.cell? ⟨0,n * 3,none⟩ = some (.int .i64 (Aa3 n).1) ∧ W.cell? ⟨0,n * 3 + 1,none⟩ = some (.int .i64 (Aa3 n).2) ∧ W.cell? ⟨0,n * 3 + 2,none⟩ = some (.bool (Aj4 n)) := by
 match n,hn with
 | 0,_ => exact ⟨h.cells 0 _ rfl,h.cells 1 _ rfl,h.cells 2 _ rfl⟩
 | 1,_ => exact ⟨h.cells 3 _ rfl,h.cells 4 _ rfl,h.cells 5 _ rfl⟩
 | 2,_ => exact ⟨h.cells 6 _ rfl,h.cells 7 _ rfl,h.cells 8 _ rfl⟩
 | 3,_ => exact ⟨h.cells 9 _ rfl,h.cells 10 _ rfl,h.cells 11 _ rfl⟩
 | 4,_ => exact ⟨h.cells 12 _ rfl,h.cells 13 _ rfl,h.cells 14 _ rfl⟩
section
variable {B g : Nat} {A : KAd} {K : Krn} {f : List Int}
theorem Asg (how z : Nat) (hh : how < 5) (hz : z < K.tree.length) (w : World) (hW : Wk w B g A K f) (hI : Aea K.tree) (hY : Ways w) :
  Calls Tryz.prog 123 #[.pointer (some ⟨g,0,none⟩),.int .i64 (z : Int),.int .i64 (how : Int)] w fun e w' => e = .returned (.int .i64 (Ab7 K.tree (z : Int) (how : Int))) ∧ Below w.heap.size w w' := by
 obtain ⟨bt,ot,hta,hx⟩ := hW.nodes.2.2 z hz
 have xk := hx.kind
 have xl := Aaj xk
 obtain ⟨kd,hkd⟩ : ∃ kd,K.tree[z].kind = kd := ⟨_,rfl⟩
 have HKD := Hd (show (Aaf K.tree (z : Int)).kind = kd by rw [Aad _ z hz]; exact hkd)
 rw [hkd] at xk
 have HTA := Hd hta
 have HW := Hd hW
 have HI := Hd hI
 have HSS := Hd (show ∀ W,Below w.heap.size w W → W.cell? ⟨g,0,none⟩ = some (.slice (some ⟨bt,ot,none⟩) K.tree.length A.tc) ∧ W.cell? ⟨g,1,none⟩ = some (.int .i64 K.m) ∧ W.cell? ⟨g,2,none⟩ = some (.int .i64 K.b) ∧ W.cell? ⟨0,how * 3,none⟩ = some (.int .i64 (Aa3 how).1) from fun W hb => by
  obtain ⟨q0,q1,q2,-⟩ := (HW.out.below hb).kcells
  rw [HTA.out] at q0
  exact ⟨q0,q1,q2,((hY.below hb (Nat.le_refl _)).at_ how hh).1⟩)
 obtain ⟨q0,q1,q2,y0⟩ := HSS.out _ (Below.refl _ _)
 have gl := hW.lt
 have yl := Aaj y0
 have b0 : (0 : Int) ≤ (z : Int) := by omega
 have b1 : (z : Int) < (K.tree.length : Int) := by omega
 have c0 : (0 : Int) ≤ (how : Int) := by omega
 have c1 : (how : Int) < 5 := by omega
 clear hW hI hY hta hx hkd
 by_cases hk : kd = 2
 ·by_cases hw : (how : Int) = 0
  ·have h4 : ((how : Int) == 4) = false := by rw [beq_eq_false_iff_ne]; omega
   have h0 : ((how : Int) != 0) = false := by rw [bne_eq_false_iff_eq]; omega
   have k2 : (kd == 2) = true := by rw [beq_iff_eq]; omega
   obtain ⟨v,hv⟩ : ∃ v,mayL K.tree (z : Int) (Aa3 how).1 = v := ⟨_,rfl⟩
   have HV := Hd hv
   have HBB := Hd (Below.refl w.heap.size w)
   have HMY := Hd (fun W (hb : Below w.heap.size w W) => Adz A.ta A.tc K.m K.b (z : Int) (Aa3 how).1 K.tree HI.out v hv W (HW.out.below hb).nodes)
   clear hv
   rw [show Ab7 K.tree (z : Int) how = (if v = true then 21 else 13) by unfold Ab7; rw [HKD.out,HV.out]; rw [if_neg (by omega),if_neg (by omega)]; cases v <;> simp [hk]]
   go_enter Tryz.func123,Tryz.ntmps123
   clear hw hk
   go_upto_region 6 with fail
   go_region_held3 (fun W => W.cell? ⟨g,0,none⟩ = some (.slice (some ⟨bt,ot,none⟩) K.tree.length A.tc) ∧ W.cell? ⟨g,1,none⟩ = some (.int .i64 K.m) ∧ W.cell? ⟨g,2,none⟩ = some (.int .i64 K.b) ∧ W.cell? ⟨0,how * 3,none⟩ = some (.int .i64 (Aa3 how).1))
    (first | exact ⟨q0,q1,q2,y0⟩ | exact HSS.out _ HBB.out | exact HSS.out _ (Aac HBB.out))
    (first
     | (go_at_call 159; rw [← HTA.out]; refine (HMY.out _ (by first | exact Below.refl _ _ | exact Aac (Below.refl _ _) | exact HBB.out | exact Aac HBB.out)).mono ?_; rintro e wn ⟨rfl,hbn⟩; have HBB : Hid (Below w.heap.size w wn) := Hd (Aak HBB.out hbn HBB.out.size ⟨rfl,rfl,rfl,rfl⟩); obtain ⟨q0,q1,q2,y0⟩ := HSS.out _ HBB.out))
   all_goals
    cases v
    ·go_wp2_with fail
     go_ret
     exact ⟨rfl,HBB.out⟩
    ·go_wp2_with fail
     go_ret
     exact ⟨rfl,HBB.out⟩
  ·by_cases hw4 : (how : Int) = 4
   ·have h4 : ((how : Int) == 4) = true := by rw [beq_iff_eq]; omega
    have h0 : ((how : Int) != 0) = true := by rw [bne_iff_ne]; omega
    have k2 : (kd == 2) = true := by rw [beq_iff_eq]; omega
    rw [show Ab7 K.tree (z : Int) how = 21 by unfold Ab7; rw [HKD.out]; rw [if_neg (by omega),if_pos (by omega)]]
    clear HSS
    go_enter Tryz.func123,Tryz.ntmps123
    go_wp2_with fail
    go_ret
    exact ⟨rfl,Below.refl _ _⟩
   ·have h4 : ((how : Int) == 4) = false := by rw [beq_eq_false_iff_ne]; omega
    have h0 : ((how : Int) != 0) = true := by rw [bne_iff_ne]; omega
    have k2 : (kd == 2) = true := by rw [beq_iff_eq]; omega
    rw [show Ab7 K.tree (z : Int) how = 21 by unfold Ab7; rw [HKD.out]; rw [if_neg (by omega),if_pos (by omega)]]
    clear HSS
    go_enter Tryz.func123,Tryz.ntmps123
    go_wp2_with fail
    go_ret
    exact ⟨rfl,Below.refl _ _⟩
 ·by_cases hw4 : (how : Int) = 4
  ·have h4 : ((how : Int) == 4) = true := by rw [beq_iff_eq]; omega
   have k2 : (kd == 2) = false := by rw [beq_eq_false_iff_ne]; omega
   rw [show Ab7 K.tree (z : Int) how = 17 by unfold Ab7; rw [HKD.out]; rw [if_pos (by omega)]]
   clear HSS
   go_enter Tryz.func123,Tryz.ntmps123
   go_wp2_with fail
   go_ret
   exact ⟨rfl,Below.refl _ _⟩
  ·by_cases hw : (how : Int) = 0
   ·have h4 : ((how : Int) == 4) = false := by rw [beq_eq_false_iff_ne]; omega
    have h0 : ((how : Int) != 0) = false := by rw [bne_eq_false_iff_eq]; omega
    have k2 : (kd == 2) = false := by rw [beq_eq_false_iff_ne]; omega
    obtain ⟨v,hv⟩ : ∃ v,mayL K.tree (z : Int) (Aa3 how).1 = v := ⟨_,rfl⟩
    have HV := Hd hv
    have HBB := Hd (Below.refl w.heap.size w)
    have HMY := Hd (fun W (hb : Below w.heap.size w W) => Adz A.ta A.tc K.m K.b (z : Int) (Aa3 how).1 K.tree HI.out v hv W (HW.out.below hb).nodes)
    clear hv
    rw [show Ab7 K.tree (z : Int) how = (if v = true then 0 else 13) by unfold Ab7; rw [HKD.out,HV.out]; rw [if_neg (by omega),if_neg (by omega)]; cases v <;> simp [hk]]
    go_enter Tryz.func123,Tryz.ntmps123
    clear hw hk hw4
    go_upto_region 6 with fail
    go_region_held3 (fun W => W.cell? ⟨g,0,none⟩ = some (.slice (some ⟨bt,ot,none⟩) K.tree.length A.tc) ∧ W.cell? ⟨g,1,none⟩ = some (.int .i64 K.m) ∧ W.cell? ⟨g,2,none⟩ = some (.int .i64 K.b) ∧ W.cell? ⟨0,how * 3,none⟩ = some (.int .i64 (Aa3 how).1))
     (first | exact ⟨q0,q1,q2,y0⟩ | exact HSS.out _ HBB.out | exact HSS.out _ (Aac HBB.out))
     (first
      | (go_at_call 159; rw [← HTA.out]; refine (HMY.out _ (by first | exact Below.refl _ _ | exact Aac (Below.refl _ _) | exact HBB.out | exact Aac HBB.out)).mono ?_; rintro e wn ⟨rfl,hbn⟩; have HBB : Hid (Below w.heap.size w wn) := Hd (Aak HBB.out hbn HBB.out.size ⟨rfl,rfl,rfl,rfl⟩); obtain ⟨q0,q1,q2,y0⟩ := HSS.out _ HBB.out))
    all_goals
     cases v
     ·go_wp2_with fail
      go_ret
      exact ⟨rfl,HBB.out⟩
     ·go_wp2_with fail
      go_ret
      exact ⟨rfl,HBB.out⟩
   ·have h4 : ((how : Int) == 4) = false := by rw [beq_eq_false_iff_ne]; omega
    have h0 : ((how : Int) != 0) = true := by rw [bne_iff_ne]; omega
    have k2 : (kd == 2) = false := by rw [beq_eq_false_iff_ne]; omega
    obtain ⟨v,hv⟩ : ∃ v,mayL K.tree (z : Int) (Aa3 how).1 = v := ⟨_,rfl⟩
    have HV := Hd hv
    have HBB := Hd (Below.refl w.heap.size w)
    have HMY := Hd (fun W (hb : Below w.heap.size w W) => Adz A.ta A.tc K.m K.b (z : Int) (Aa3 how).1 K.tree HI.out v hv W (HW.out.below hb).nodes)
    clear hv
    rw [show Ab7 K.tree (z : Int) how = (if v = true then 0 else 13) by unfold Ab7; rw [HKD.out,HV.out]; rw [if_neg (by omega),if_neg (by omega)]; cases v <;> simp [hk]]
    go_enter Tryz.func123,Tryz.ntmps123
    clear hw hk hw4
    go_upto_region 6 with fail
    go_region_held3 (fun W => W.cell? ⟨g,0,none⟩ = some (.slice (some ⟨bt,ot,none⟩) K.tree.length A.tc) ∧ W.cell? ⟨g,1,none⟩ = some (.int .i64 K.m) ∧ W.cell? ⟨g,2,none⟩ = some (.int .i64 K.b) ∧ W.cell? ⟨0,how * 3,none⟩ = some (.int .i64 (Aa3 how).1))
     (first | exact ⟨q0,q1,q2,y0⟩ | exact HSS.out _ HBB.out | exact HSS.out _ (Aac HBB.out))
     (first
      | (go_at_call 159; rw [← HTA.out]; refine (HMY.out _ (by first | exact Below.refl _ _ | exact Aac (Below.refl _ _) | exact HBB.out | exact Aac HBB.out)).mono ?_; rintro e wn ⟨rfl,hbn⟩; have HBB : Hid (Below w.heap.size w wn) := Hd (Aak HBB.out hbn HBB.out.size ⟨rfl,rfl,rfl,rfl⟩); obtain ⟨q0,q1,q2,y0⟩ := HSS.out _ HBB.out))
    all_goals
     cases v
     ·go_wp2_with fail
      go_ret
      exact ⟨rfl,HBB.out⟩
     ·go_wp2_with fail
      go_ret
      exact ⟨rfl,HBB.out⟩
def Ay9 (B g : Nat) (K : Krn) (f : List Int) (Z : List Ino × Int × Int) (w : World) (e : Ending) (w' : World) : Prop :=
 ∃ ino : Int,e = .returned (.tuple #[.int .i64 ino,.int .i64 Z.2.2]) ∧ Below B w w' ∧ (Z.2.2 = 0 → ino = Z.2.1 ∧ ∃ A',Wk w' B g A' { K with tree := Z.1 } f)
theorem Ways.low {W W' : World} {n : Nat} (h : Ways W) (hb : Below n W W') (hn : 0 < n) : Ways W' := ⟨fun i v hv => (World.cell?_of_block (a := ⟨0,i,none⟩) (hb.block _ hn)).trans (h.cells i v hv)⟩
theorem Bad (how : Nat) (hh : how < 5) (cwd : Int) (pb : ByteArray) (hp : pb.size ≤ 1073741824) (w : World) (hW : Wk w B g A K f) (hF : FitK K f) (hBw : B ≤ w.heap.size) (hY : Ways w) (hgB : 0 < B) :
  Calls Tryz.prog 82 #[.pointer (some ⟨g,0,none⟩),.int .i64 cwd,.string pb,.int .i64 (how : Int)] w (Ay9 B g K f (Aaz K.tree K.b cwd pb.data.toList (how : Int)) w) := by
 obtain ⟨z,e0,hwz⟩ : ∃ z e0,Acv K.tree cwd pb.data.toList true = (z,e0) := ⟨_,_,rfl⟩
 have HWK := Hd (fun W (hb : Below w.heap.size w W) => Am5 A.ta A.tc K.m K.b cwd pb hp true K.tree hF.tree z e0 hwz W (hW.below hb).nodes)
 have HW := Hd hW
 have HF := Hd hF
 have HBw := Hd hBw
 have HY := Hd hY
 have HGB := Hd hgB
 have HWZ := Hd hwz
 have HSS := Hd (show ∀ W A' K',Wk W B g A' K' f → W.cell? ⟨g,0,none⟩ = some (.slice A'.ta K'.tree.length A'.tc) ∧ W.cell? ⟨g,1,none⟩ = some (.int .i64 K'.m) ∧ W.cell? ⟨g,2,none⟩ = some (.int .i64 K'.b) ∧ g < W.heap.size from fun W A' K' hk => by
  obtain ⟨q0,q1,q2,-⟩ := hk.kcells
  exact ⟨q0,q1,q2,hk.lt⟩)
 have HYW := Hd (show ∀ W,Below B w W → W.cell? ⟨0,how * 3 + 2,none⟩ = some (.bool (Aj4 how)) ∧ 0 < W.heap.size from fun W hb => by
  have h := ((hY.low hb hgB).at_ how hh).2.2
  exact ⟨h,Aaj h⟩)
 obtain ⟨q0,q1,q2,gl⟩ := HSS.out _ _ _ hW
 have c0 : (0 : Int) ≤ (how : Int) := by omega
 have c1 : (how : Int) < 5 := by omega
 clear hW hF hBw hY hgB hwz
 by_cases hA : e0 = 2 ∧ (how : Int) ≠ 0
 ·-- a new one
  obtain ⟨rfl,hh0⟩ := hA
  obtain ⟨L1,k,e1,hcr⟩ : ∃ L1 k e1,Ae3 K.tree cwd pb.data.toList 6 = (L1,k,e1) := ⟨_,_,_,rfl⟩
  have HT := Hd (show Aaz K.tree K.b cwd pb.data.toList (how : Int) = (L1,k,e1) by rw [Aom HWZ.out hh0,hcr])
  rw [HT.out]
  have HCR := Hd hcr
  have h0 : ((how : Int) != 0) = true := by rw [bne_iff_ne]; exact hh0
  clear hcr hh0
  go_enter Tryz.func82,Tryz.ntmps82
  go_wp2_with fail
  refine (HWK.out _ (Below.refl _ _)).mono ?_
  rintro e w2 ⟨rfl,hb2⟩
  have HW2 := Hd (HW.out.below hb2)
  have HB2 := Hd (hb2.mono HBw.out)
  clear q0 q1 q2 gl hb2
  obtain ⟨q0,q1,q2,gl⟩ := HSS.out _ _ _ HW2.out
  go_wp2_with fail
  refine (Aoj A.ta A.tc K.m K.b cwd 6 pb hp K.tree HF.out.tree L1 k e1 HCR.out _ HW2.out.nodes).mono ?_
  rintro e w3 ⟨⟨gt,cap,vs,rfl,hot⟩,hb3⟩
  have hwk := HW2.out.newTree hb3 hot
  have HW3 := Hd (HW2.out.below hb3)
  obtain ⟨w4,hw4⟩ : ∃ z,z = put3 w3 g (.slice (some ⟨gt,0,none⟩) L1.length cap) (.int .i64 K.m) (.int .i64 K.b) := ⟨_,rfl⟩
  rw [← hw4] at hwk
  have HWK4 := Hd hwk.1
  have HB4 := Hd (show Below B w w4 from HB2.out.trans (HW2.out.low hwk.2 (Nat.le_trans HBw.out HB2.out.size)))
  clear q0 q1 q2 gl hot hb3 hwk
  obtain ⟨k0,k1,k2,-⟩ := HW3.out.kcells
  have f0 := HW3.out.free 0
  have f1 := HW3.out.free 1
  have f2 := HW3.out.free 2
  have gl := HW3.out.lt
  by_cases he1 : e1 = 0
  ·subst he1
   obtain ⟨hfit,hcut⟩ := Avs HF.out.tree HCR.out
   have HFT := Hd hfit
   have HCUT := Hd hcut
   obtain ⟨v,hv⟩ : ∃ v,Aj4 (how : Int) = v := ⟨_,rfl⟩
   have HV := Hd hv
   clear hfit hcut hv
   go_upto_region 6 with fail
   have hw4' : w4 = ((w3.setCell ⟨g,0,none⟩ (.slice (some ⟨gt,0,none⟩) L1.length cap)).setCell ⟨g,1,none⟩ (.int .i64 K.m)).setCell ⟨g,2,none⟩ (.int .i64 K.b) := hw4
   rw [← hw4']
   clear hw4'
   clear hw4 k0 k1 k2 f0 f1 f2 gl
   obtain ⟨A2,hA2⟩ : ∃ A2 : KAd,A2 = { A with ta := some ⟨gt,0,none⟩,tc := cap } := ⟨_,rfl⟩
   obtain ⟨K2,hK2⟩ : ∃ K2 : Krn,K2 = { K with tree := L1 } := ⟨_,rfl⟩
   have HWX := Hd (show Wk w4 B g A2 K2 f by rw [hA2,hK2]; exact HWK4.out)
   have HFX := Hd (show FitP K2.tree K2.m K2.b by rw [hK2]; exact HFT.out)
   have HCX := Hd (show cutW K2.tree K2.b k 0 = (K2.tree,0) by rw [hK2]; exact HCUT.out)
   have HKX := Hd hK2
   clear hA2 hK2 HWK4 HFT HCUT
   obtain ⟨q0,q1,q2,gl⟩ := HSS.out _ _ _ HWX.out
   obtain ⟨y2,yl⟩ := HYW.out _ HB4.out
   rw [HV.out] at y2
   cases v
   ·go_wp2_with fail
    go_ret2
    exact ⟨k,rfl,HB4.out,fun _ => ⟨rfl,A2,by have h := HWX.out; rw [HKX.out] at h; exact h⟩⟩
   ·go_wp2_with fail
    refine (Ama A2.ta A2.tc K2.m K2.b k 0 K2.tree HFX.out K2.tree 0 HCX.out _ HWX.out.nodes).mono ?_
    rintro e w8 ⟨⟨gt8,cap8,vs8,rfl,hot8⟩,hb8⟩
    have hwk8 := HWX.out.newTree hb8 hot8
    have HWK8 := Hd hwk8.1
    have HST8 := Hd hwk8.2
    have HW8B := Hd (HWX.out.below hb8)
    clear q0 q1 q2 gl y2 yl
    obtain ⟨k0,k1,k2,-⟩ := HW8B.out.kcells
    have f0 := HW8B.out.free 0
    have f1 := HW8B.out.free 1
    have f2 := HW8B.out.free 2
    have gl := HW8B.out.lt
    clear hot8 hb8 hwk8
    go_wp2_with fail
    go_ret2
    exact ⟨k,rfl,HB4.out.trans (HWX.out.low HST8.out (Nat.le_trans HBw.out HB4.out.size)),fun _ => ⟨rfl,_,by have e9 : ({ K with tree := L1 } : Krn) = K2 := HKX.out.symm; rw [e9]; exact HWK8.out⟩⟩
  ·have hb1 : (e1 == 0) = false := by rw [beq_eq_false_iff_ne]; exact he1
   have HE1 := Hd he1
   clear he1
   go_upto_region 6 with fail
   have hw4' : w4 = ((w3.setCell ⟨g,0,none⟩ (.slice (some ⟨gt,0,none⟩) L1.length cap)).setCell ⟨g,1,none⟩ (.int .i64 K.m)).setCell ⟨g,2,none⟩ (.int .i64 K.b) := hw4
   rw [← hw4']
   clear hw4'
   clear hw4 k0 k1 k2 f0 f1 f2 gl
   go_wp2_with fail
   go_ret2
   exact ⟨k,rfl,HB4.out,fun h => absurd h HE1.out⟩
 by_cases hz0 : e0 = 0
 ·-- there
  subst hz0
  obtain ⟨n,hn,rfl,htg⟩ := Al2 (b := K.b) (how := (how : Int)) HF.out.tree HWZ.out
  obtain ⟨er,her⟩ : ∃ er,Ab7 K.tree (n : Int) (how : Int) = er := ⟨_,rfl⟩
  rw [her] at htg
  have HRF := Hd (fun W (hb : Below w.heap.size w W) => Asg how n hh hn W (HW.out.below hb) HF.out.tree.ins (HY.out.below hb (Nat.le_refl _)))
  rw [her] at HRF
  clear hA her
  by_cases he1 : er = 0
  ·subst he1
   rw [if_neg (by omega)] at htg
   obtain ⟨v,hv⟩ : ∃ v,Aj4 (how : Int) = v := ⟨_,rfl⟩
   rw [hv] at htg
   have HV := Hd hv
   cases v
   ·rw [if_neg (by decide)] at htg
    have HT := Hd htg
    rw [HT.out]
    clear htg hv
    go_enter Tryz.func82,Tryz.ntmps82
    go_wp2_with fail
    refine (HWK.out _ (Below.refl _ _)).mono ?_
    rintro e w2 ⟨rfl,hb2⟩
    have HW2 := Hd (HW.out.below hb2)
    have HB2 := Hd hb2
    clear q0 q1 q2 gl hb2
    go_wp2_with fail
    refine (HRF.out _ HB2.out).mono ?_
    rintro e w3 ⟨rfl,hb3⟩
    have HB3 := Hd (HB2.out.trans (hb3.mono HB2.out.size))
    have HW3 := Hd (HW2.out.below hb3)
    clear hb3
    obtain ⟨q0,q1,q2,gl⟩ := HSS.out _ _ _ HW3.out
    obtain ⟨y2,yl⟩ := HYW.out _ (HB3.out.mono HBw.out)
    rw [HV.out] at y2
    go_wp2_with fail
    go_ret2
    exact ⟨_,rfl,HB3.out.mono HBw.out,fun _ => ⟨rfl,_,HW3.out⟩⟩
   ·rw [if_pos rfl] at htg
    obtain ⟨L2,e2,hcut⟩ : ∃ L2 e2,cutW K.tree K.b (n : Int) 0 = (L2,e2) := ⟨_,_,rfl⟩
    rw [hcut] at htg
    have HT := Hd htg
    rw [HT.out]
    have HCUT := Hd hcut
    have HFT := Hd HF.out.tree
    clear htg hcut hv
    go_enter Tryz.func82,Tryz.ntmps82
    go_wp2_with fail
    refine (HWK.out _ (Below.refl _ _)).mono ?_
    rintro e w2 ⟨rfl,hb2⟩
    have HW2 := Hd (HW.out.below hb2)
    have HB2 := Hd hb2
    clear q0 q1 q2 gl hb2
    go_wp2_with fail
    refine (HRF.out _ HB2.out).mono ?_
    rintro e w3 ⟨rfl,hb3⟩
    have HB3 := Hd (HB2.out.trans (hb3.mono HB2.out.size))
    have HW3 := Hd (HW2.out.below hb3)
    clear hb3
    obtain ⟨q0,q1,q2,gl⟩ := HSS.out _ _ _ HW3.out
    obtain ⟨y2,yl⟩ := HYW.out _ (HB3.out.mono HBw.out)
    rw [HV.out] at y2
    go_wp2_with fail
    refine (Ama A.ta A.tc K.m K.b (n : Int) 0 K.tree HFT.out L2 e2 HCUT.out _ HW3.out.nodes).mono ?_
    rintro e w8 ⟨⟨gt8,cap8,vs8,rfl,hot8⟩,hb8⟩
    have hwk8 := HW3.out.newTree hb8 hot8
    have HWK8 := Hd hwk8.1
    have HST8 := Hd hwk8.2
    have HW8B := Hd (HW3.out.below hb8)
    obtain ⟨k0,k1,k2,-⟩ := HW8B.out.kcells
    have f0 := HW8B.out.free 0
    have f1 := HW8B.out.free 1
    have f2 := HW8B.out.free 2
    have gl := HW8B.out.lt
    clear hot8 hb8 hwk8
    go_wp2_with fail
    go_ret2
    exact ⟨_,rfl,(HB3.out.mono HBw.out).trans (HW3.out.low HST8.out (Nat.le_trans HBw.out HB3.out.size)),fun _ => ⟨rfl,_,HWK8.out⟩⟩
  ·rw [if_pos he1] at htg
   have hb1 : (er == 0) = false := by rw [beq_eq_false_iff_ne]; exact he1
   have HT := Hd htg
   rw [HT.out]
   have HE1 := Hd he1
   clear htg he1
   go_enter Tryz.func82,Tryz.ntmps82
   go_wp2_with fail
   refine (HWK.out _ (Below.refl _ _)).mono ?_
   rintro e w2 ⟨rfl,hb2⟩
   have HW2 := Hd (HW.out.below hb2)
   have HB2 := Hd hb2
   clear q0 q1 q2 gl hb2
   go_wp2_with fail
   refine (HRF.out _ HB2.out).mono ?_
   rintro e w3 ⟨rfl,hb3⟩
   have HB3 := Hd (HB2.out.trans (hb3.mono HB2.out.size))
   have HW3 := Hd (HW2.out.below hb3)
   clear hb3
   go_wp2_with fail
   go_ret2
   exact ⟨_,rfl,HB3.out.mono HBw.out,fun h => absurd h HE1.out⟩
 ·-- nothing
  have HT := Hd (Ard (b := K.b) HWZ.out hz0 hA)
  rw [HT.out]
  have hb1 : (e0 == 0) = false := by rw [beq_eq_false_iff_ne]; exact hz0
  have HE0 := Hd hz0
  by_cases h2 : e0 = 2
  ·subst h2
   have h0 : ((how : Int) != 0) = false := by
    rw [bne_eq_false_iff_eq]
    by_cases h : (how : Int) = 0
    ·exact h
    ·exact absurd ⟨rfl,h⟩ hA
   clear hA hz0 hb1
   go_enter Tryz.func82,Tryz.ntmps82
   go_wp2_with fail
   refine (HWK.out _ (Below.refl _ _)).mono ?_
   rintro e w2 ⟨rfl,hb2_⟩
   have HB2 := Hd (hb2_.mono HBw.out)
   clear q0 q1 q2 gl hb2_
   go_wp2_with fail
   go_ret2
   exact ⟨_,rfl,HB2.out,fun h => absurd h HE0.out⟩
  ·have hb2 : (e0 == 2) = false := by rw [beq_eq_false_iff_ne]; exact h2
   clear h2 hA hz0
   go_enter Tryz.func82,Tryz.ntmps82
   go_wp2_with fail
   refine (HWK.out _ (Below.refl _ _)).mono ?_
   rintro e w2 ⟨rfl,hb2_⟩
   have HB2 := Hd (hb2_.mono HBw.out)
   clear q0 q1 q2 gl hb2_
   go_wp2_with fail
   go_ret2
   exact ⟨_,rfl,HB2.out,fun h => absurd h HE0.out⟩
end
section
variable {B g : Nat} {A : KAd} {K : Krn} {f : List Int}
theorem Ayf (b : Nat) (fd : Int) (w : World) (hW : Wk w B g A K f) (hF : FitK K f) (hBw : B ≤ w.heap.size) (hb : w.cell? ⟨b,0,none⟩ = some (.int .i64 fd)) :
  Calls Tryz.prog 59 #[.pointer (some ⟨g,0,none⟩),.pointer (some ⟨b,0,none⟩)] w (Agv B g none (fun _ => True) (Ado K f fd) w) := by
 have hno := hF.no
 have HC := Hd (Ane fd w hW (by omega) (fun h => by
  obtain ⟨n,rfl,hn⟩ := Ach h
  rw [Int.toNat_natCast]
  exact Ad0 hF hn) (Af6 hF))
 have HW := Hd hW
 have bl := Aaj hb
 clear hW hF
 go_enter Tryz.func59,Tryz.ntmps59
 go_wp2_with fail
 refine HC.out.mono ?_
 rintro e w2 ⟨rfl,hw2,hs2⟩
 have HW2 := Hd hw2
 have HS2 := Hd hs2
 clear hw2 hs2
 go_wp2_with fail
 go_ret
 exact ⟨rfl,.of_below (HW.out.low HS2.out hBw),fun _ => ⟨_,HW2.out⟩,trivial⟩
theorem Bay (b c : Nat) (fr to : Int) (w : World) (hW : Wk w B g A K f) (hF : FitK K f) (hBw : B ≤ w.heap.size) (hb : w.cell? ⟨b,0,none⟩ = some (.int .i64 fr)) (hc : w.cell? ⟨c,0,none⟩ = some (.int .i64 to)) :
  Calls Tryz.prog 61 #[.pointer (some ⟨g,0,none⟩),.pointer (some ⟨b,0,none⟩),.pointer (some ⟨c,0,none⟩)] w (Agv B g none (fun _ => True) (dupK K f fr to) w) := by
 have hno := hF.no
 have HC := Hd (Bat fr to w hW (by omega) (fun n hn => Ad0 hF hn) (Af6 hF) (Akp hF))
 rw [Avx hF fr to] at HC
 have HW := Hd hW
 have bl := Aaj hb
 have cl := Aaj hc
 clear hW hF
 go_enter Tryz.func61,Tryz.ntmps61
 go_wp2_with fail
 refine HC.out.mono ?_
 rintro e w2 ⟨rfl,hw2,hs2⟩
 have HW2 := Hd hw2
 have HS2 := Hd hs2
 clear hw2 hs2
 go_wp2_with fail
 go_ret
 exact ⟨rfl,.of_below (HW.out.low HS2.out hBw),fun _ => ⟨_,HW2.out⟩,trivial⟩
theorem Baa (b c d : Nat) (r u size : Int) (w : World) (hW : Wk w B g A K f) (hF : FitK K f) (hBw : B ≤ w.heap.size) (hb : w.cell? ⟨b,0,none⟩ = some (.int .i64 r)) (hc : w.cell? ⟨c,0,none⟩ = some (.int .i64 u)) (hd : w.cell? ⟨d,0,none⟩ = some (.int .i64 size)) :
  Calls Tryz.prog 63 #[.pointer (some ⟨g,0,none⟩),.pointer (some ⟨b,0,none⟩),.pointer (some ⟨c,0,none⟩),.pointer (some ⟨d,0,none⟩)] w (Agv B g none (fun _ => True) (Ai8 K f r u size) w) := by
 have HC := Hd (Az5 r u size w hW hF hBw)
 rw [At3 hF r u size] at HC
 have bl := Aaj hb
 have cl := Aaj hc
 have dl := Aaj hd
 clear hW hF
 go_enter Tryz.func63,Tryz.ntmps63
 go_wp2_with fail
 refine HC.out.mono ?_
 rintro e w2 ⟨rfl,hb2,hw2⟩
 have HB2 := Hd hb2
 have HW2 := Hd hw2
 clear hb2 hw2
 go_wp2_with fail
 go_ret
 exact ⟨rfl,.of_below HB2.out,HW2.out,trivial⟩
end
section
variable {L : List Ino} {m b : Int} {d k : Nat} {s : List UInt8} {x : Ino}
end
end Go.Proofs.YtkdfbliiblojoaaGreatDoor
