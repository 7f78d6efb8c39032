import Derived.Test.YtkdfbliiblojoaaGreatDoorK13
set_option linter.all false
set_option maxRecDepth 100000
set_option maxHeartbeats 64000000
namespace Go.Proofs.YtkdfbliiblojoaaGreatDoor
open Go Go.RowKit
def Agu (K : Krn) : Prop := ∀ i (hi : i < K.pipes.length),Abw K.pipes[i] = true
section
variable {B g : Nat} {A : KAd} {K : Krn} {f : List Int}
theorem Wk.all {W : World} (h : Wk W B g A K f) {j go : Nat} (hj : j < K.opens.length) (ha : A.oa = some ⟨go,0,none⟩) :
  W.cell? ⟨g,4,none⟩ = some (.slice (some ⟨go,0,none⟩) K.opens.length A.oc) ∧ OpnAt W go j K.opens[j] := by
 obtain ⟨go',ha',-,ho⟩ := h.opn hj
 rw [ha] at ha'
 obtain rfl : go = go' := by simpa using ha'
 have q := h.kcells.2.2.2.2.1
 rw [ha] at q
 exact ⟨q,ho⟩
theorem Ane (fd : Int) (w : World) (hW : Wk w B g A K f) (hol : K.opens.length ≤ 1000) (hL : isFd fd = true → Led K f fd.toNat) (hP : Agu K) : Calls Tryz.prog 60 #[.pointer (some ⟨g,0,none⟩),.int .i64 fd] w fun e w' => e = .returned (.int .i64 (Ado K f fd).2.2) ∧ Wk w' B g A (Ado K f fd).1 (Ado K f fd).2.1 ∧ Stepw g A w A w' := by
 by_cases hz : isFd fd = false ∨ f.getD fd.toNat 0 = 0
 ·have HE := Hd (show Ado K f fd = (K,f,9) by unfold Ado; rw [if_pos hz])
  have HPL := Hd (show Acb f fd = (0,false) by
   unfold Acb
   rw [if_neg]
   rintro ⟨h1,h2⟩
   rcases hz with h | h
   ·rw [h1] at h; cases h
   ·exact h2 h)
  have HC := Hd (Aj9 fd w hW hol hL)
  rw [HE.out]
  have HW := Hd hW
  clear hW hz hL hP
  go_enter Tryz.func60,Tryz.ntmps60
  go_wp2_with fail
  refine HC.out.mono ?_
  rintro e w2 ⟨rfl,hb2⟩
  rw [HPL.out]
  have HB2 := Hd hb2
  clear hb2
  go_wp2_with fail
  go_ret
  exact ⟨rfl,HW.out.below HB2.out,.of_below HB2.out⟩
 ·simp only [not_or] at hz
  have hfd : isFd fd = true := by simpa using hz.1
  obtain ⟨n,rfl,hn⟩ := Ach hfd
  have hl := hL hfd
  rw [Int.toNat_natCast] at hl hz
  obtain ⟨j,hj,e1,e2,e3,e4,e5⟩ : ∃ j : Nat,∃ hj : j < K.opens.length,f.getD n 0 = (j : Int) + 1 ∧ K.opens[j].kind ≠ 0 ∧ Ad8 K.tree K.pipes.length K.opens[j] = true ∧ 1 ≤ K.opens[j].refs ∧ K.opens[j].refs ≤ 1000 := hl.resolve_left hz.2
  have HE := Hd (show Ado K f (n : Int) = (Aa5 K j,f.set n 0,0) by
   unfold Ado Aat
   rw [Int.toNat_natCast,if_neg (by rw [not_or]; exact ⟨by rw [hfd]; decide,hz.2⟩),if_neg hz.2,e1,show ((j : Int) + 1 - 1).toNat = j by omega])
  have HPL := Hd (show Acb f (n : Int) = ((j : Int),true) by
   unfold Acb
   rw [if_pos ⟨hfd,by rw [Int.toNat_natCast]; exact hz.2⟩,Int.toNat_natCast,e1,show (j : Int) + 1 - 1 = (j : Int) by omega])
  have HC := Hd (Aj9 (n : Int) w hW hol hL)
  rw [HE.out]
  obtain ⟨go,ha,hgo,-⟩ := hW.opn hj
  have HA := Hd ha
  have HW := Hd hW
  have b0 : (0 : Int) ≤ (n : Int) := by omega
  have b1 : (n : Int) < 10 := by omega
  have b2 : (0 : Int) ≤ (j : Int) := by omega
  have b3 : (j : Int) < (K.opens.length : Int) := by omega
  obtain ⟨r,hr⟩ : ∃ r : Int,K.opens[j].refs = r := ⟨_,rfl⟩
  have HR := Hd hr
  have HK := Hd e3
  have HKN := Hd e2
  have HAF := Hd hP
  rw [hr] at e4 e5
  clear hW hz hL hP hl e1 e2 e3 ha hr hfd
  go_enter Tryz.func60,Tryz.ntmps60
  go_wp2_with fail
  refine HC.out.mono ?_
  rintro e w2 ⟨rfl,hb2⟩
  rw [HPL.out]
  have HW2 := Hd (HW.out.below hb2)
  have HST2 := Hd (Stepw.of_below (g := g) (A := A) hb2)
  clear hb2
  have gl := HW2.out.lt
  have cn := HW2.out.fd n hn
  have fn_ := HW2.out.free (7 + n)
  go_upto_region 5 with fail
  obtain ⟨w3,hw3⟩ : ∃ z,z = w2.setCell ⟨g,7 + n,none⟩ (.int .i64 0) := ⟨_,rfl⟩
  have HW3 := Hd (show Wk w3 B g A K (f.set n 0) by rw [hw3]; exact (HW2.out.setFd hn 0).1)
  have HST3 := Hd (show Stepw g A w A w3 by rw [hw3]; exact HST2.out.trans (HW2.out.setFd hn 0).2)
  rw [← hw3]
  clear gl cn fn_ hw3
  obtain ⟨q4,x0,x1,x2,x3,x4,xl,xf⟩ := HW3.out.all hj HA.out
  have gl := HW3.out.lt
  have xf4 := xf (j * 5 + 4)
  rw [HR.out] at x4
  have hrw : IntKind.i64.wrap (r - 1) = r - 1 := by rw [IntKind.wrap_i64]; omega
  clear xf
  go_upto_region 7 with fail
  obtain ⟨w4,hw4⟩ : ∃ z,z = w3.setCell ⟨go,j * 5 + 4,none⟩ (.int .i64 (r - 1)) := ⟨_,rfl⟩
  have HW4 := Hd (show Wk w4 B g A { K with opens := K.opens.set j { K.opens[j] with refs := r - 1 } } (f.set n 0) by rw [hw4]; exact (HW3.out.storeRefs HA.out hj (r - 1)).1)
  have HST4 := Hd (show Stepw g A w A w4 by rw [hw4]; exact HST3.out.trans (HW3.out.storeRefs HA.out hj (r - 1)).2)
  rw [← hw4]
  clear q4 x0 x1 x2 x3 x4 xl xf4 gl hw4
  have hj4 : j < (K.opens.set j { K.opens[j] with refs := r - 1 }).length := by rw [List.length_set]; exact hj
  have hO4 : (K.opens.set j { K.opens[j] with refs := r - 1 })[j] = { K.opens[j] with refs := r - 1 } := List.getElem_set_self ..
  have HAL := Hd (HW4.out.all hj4 HA.out)
  obtain ⟨q4,x0,x1,x2,x3,x4,xl,xf⟩ := HAL.out
  have HO4 := Hd hO4
  rw [show (({ K with opens := K.opens.set j { K.opens[j] with refs := r - 1 } } : Krn).opens)[j] = { K.opens[j] with refs := r - 1 } from hO4] at x0 x1 x2 x3 x4
  have gl := HW4.out.lt
  have h1w := HW4.out.free 0
  clear hO4 h1w
  by_cases hone : r = 1
  rotate_left
  ·have hd : decide (r - 1 < 1) = false := decide_eq_false (by omega)
   have HLE := Hd (show Aa5 K j = { K with opens := K.opens.set j { K.opens[j] with refs := r - 1 } } by rw [Acm K j hj (by rw [HR.out]; exact hone),HR.out])
   clear xf hrw
   go_wp2_with fail
   go_ret
   rw [HLE.out]
   exact ⟨rfl,HW4.out,HST4.out⟩
  subst hone
  have hLK := Af8 K j hj HR.out
  have HLK := Hd hLK
  clear hLK
  have f0 := xf (j * 5)
  have f1 := xf (j * 5 + 1)
  have f2 := xf (j * 5 + 2)
  have f3 := xf (j * 5 + 3)
  have f4 := xf (j * 5 + 4)
  obtain ⟨o,ho⟩ : ∃ o,o = K.opens[j] := ⟨_,rfl⟩
  have HO := Hd ho
  rw [← ho] at x0 x1 x2 x3 x4
  have HKk : Hid (Ad8 K.tree K.pipes.length o = true) := Hd (by rw [ho]; exact HK.out)
  have HKn : Hid (o.kind ≠ 0) := Hd (by rw [ho]; exact HKN.out)
  clear ho xf hrw
  obtain ⟨kd,at_,off,fl,rf⟩ := o
  have hk4 : kd = 1 ∨ kd = 4 ∨ ((kd = 2 ∨ kd = 3) ∧ ∃ i : Nat,∃ hi : i < K.pipes.length,at_ = (i : Int)) := by
   have hn0 : kd ≠ 0 := HKn.out
   have h := HKk.out
   unfold Ad8 at h
   simp only at h
   rw [if_neg hn0] at h
   split at h
   ·rename_i e; exact .inl e
   split at h
   ·rename_i e
    rw [Bool.and_eq_true,Aq6] at h
    obtain ⟨i,hi,e2⟩ := h.1.1
    exact .inr (.inr ⟨.inl e,i,hi,e2⟩)
   split at h
   ·rename_i e
    rw [Bool.and_eq_true,Aq6] at h
    obtain ⟨i,hi,e2⟩ := h.1.1
    exact .inr (.inr ⟨.inr e,i,hi,e2⟩)
   split at h
   ·rename_i e; exact .inr (.inl e)
   ·cases h
  simp only at x0 x1 x2 x3 x4
  rw [show (1 : Int) - 1 = 0 from rfl] at x4
  rcases hk4 with rfl | rfl | ⟨rfl | rfl,i,hi,rfl⟩
  ·have fx := HW4.out.end_1
   have HSS := Hd (show ∀ W K' ,Wk W B g A K' (f.set n 0) → K'.opens = K.opens.set j { K.opens[j] with refs := 1 - 1 } → W.cell? ⟨go,j * 5,none⟩ = some (.int .i64 1) ∧ W.cell? ⟨go,j * 5 + 1,none⟩ = some (.int .i64 at_) ∧ W.cell? ⟨go,j * 5 + 2,none⟩ = some (.int .i64 off) ∧ W.cell? ⟨go,j * 5 + 3,none⟩ = some (.int .i64 fl) ∧ W.cell? ⟨go,j * 5 + 4,none⟩ = some (.int .i64 0) ∧ W.cell? ⟨g,24,none⟩ = some (.func (.func 96) #[.pointer (some ⟨g,0,none⟩)] #[]) from fun W K' hk ho' => by
    have hjj : j < K'.opens.length := by rw [ho']; exact hj4
    obtain ⟨-,a0,a1,a2,a3,a4,-,-⟩ := hk.all hjj HA.out
    have hoo : K'.opens[j] = ⟨1,at_,off,fl,0⟩ := by
     have h2 := HO4.out
     have h3 : K'.opens[j] = (K.opens.set j { K.opens[j] with refs := 1 - 1 })[j] := by simp only [ho']
     rw [h3,h2,← HO.out]
     rfl
    rw [hoo] at a0 a1 a2 a3 a4
    exact ⟨a0,a1,a2,a3,a4,hk.end_1⟩)
   have HBB := Hd (Below.refl w4.heap.size w4)
   go_upto_region 8 with fail
   go_region_held3 (fun W => W.cell? ⟨go,j * 5,none⟩ = some (.int .i64 1) ∧ W.cell? ⟨go,j * 5 + 1,none⟩ = some (.int .i64 at_) ∧ W.cell? ⟨go,j * 5 + 2,none⟩ = some (.int .i64 off) ∧ W.cell? ⟨go,j * 5 + 3,none⟩ = some (.int .i64 fl) ∧ W.cell? ⟨go,j * 5 + 4,none⟩ = some (.int .i64 0) ∧ W.cell? ⟨g,24,none⟩ = some (.func (.func 96) #[.pointer (some ⟨g,0,none⟩)] #[]))
    (first | exact ⟨x0,x1,x2,x3,x4,fx⟩ | exact HSS.out _ _ (HW4.out.below (Aac HBB.out)) rfl | exact HSS.out _ _ HWN.out rfl | exact HSS.out _ _ (HWN.out.below (Aac (Below.refl _ _))) rfl)
    (first
     | (go_at_call 96; refine (Ax1 _ 1 at_ off fl 0 _).mono ?_; rintro e wn ⟨rfl,hbn⟩; have HBN : Hid (Below w4.heap.size w4 wn) := Hd (Aak HBB.out hbn HBB.out.size ⟨rfl,rfl,rfl,rfl⟩); have HWN := Hd (HW4.out.below HBN.out); have HSTN := Hd (HST4.out.below HBN.out); obtain ⟨x0,x1,x2,x3,x4,fx⟩ := HSS.out _ _ HWN.out rfl))
   all_goals
    clear x0 x1 x2 x3 x4 xl f0 f1 f2 f3 f4 q4 gl fx
    have hjj : j < (K.opens.set j { K.opens[j] with refs := 1 - 1 }).length := hj4
    obtain ⟨q4,x0,x1,x2,x3,x4,xl,xf⟩ := HWN.out.all hjj HA.out
    have f0 := xf (j * 5)
    have f1 := xf (j * 5 + 1)
    have f2 := xf (j * 5 + 2)
    have f3 := xf (j * 5 + 3)
    have f4 := xf (j * 5 + 4)
    clear xf x0 x1 x2 x3 x4
    obtain ⟨a1,a2⟩ := HWN.out.storeOpn HA.out hjj Aap
    have HA1 := Hd a1
    have HA2 := Hd a2
    clear a1 a2
    go_wp2_with fail
    go_ret
    have e9 : Aa5 K j = { ({ K with opens := K.opens.set j { K.opens[j] with refs := 1 - 1 } } : Krn) with opens := (K.opens.set j { K.opens[j] with refs := 1 - 1 }).set j Aap } := by
     rw [HLK.out,← HO.out]
     refine Ac6 rfl rfl rfl (by rw [if_neg (by show ¬ ((1 : Int) = 2 ∨ (1 : Int) = 3); decide)]) ?_ rfl rfl
     show K.opens.set j Aap = (K.opens.set j _).set j Aap
     rw [List.set_set]
    rw [e9]
    exact ⟨rfl,HA1.out,HSTN.out.trans HA2.out⟩
  ·have fx := HW4.out.end_4
   have HSS := Hd (show ∀ W K' ,Wk W B g A K' (f.set n 0) → K'.opens = K.opens.set j { K.opens[j] with refs := 1 - 1 } → W.cell? ⟨go,j * 5,none⟩ = some (.int .i64 4) ∧ W.cell? ⟨go,j * 5 + 1,none⟩ = some (.int .i64 at_) ∧ W.cell? ⟨go,j * 5 + 2,none⟩ = some (.int .i64 off) ∧ W.cell? ⟨go,j * 5 + 3,none⟩ = some (.int .i64 fl) ∧ W.cell? ⟨go,j * 5 + 4,none⟩ = some (.int .i64 0) ∧ W.cell? ⟨g,36,none⟩ = some (.func (.func 96) #[.pointer (some ⟨g,0,none⟩)] #[]) from fun W K' hk ho' => by
    have hjj : j < K'.opens.length := by rw [ho']; exact hj4
    obtain ⟨-,a0,a1,a2,a3,a4,-,-⟩ := hk.all hjj HA.out
    have hoo : K'.opens[j] = ⟨4,at_,off,fl,0⟩ := by
     have h2 := HO4.out
     have h3 : K'.opens[j] = (K.opens.set j { K.opens[j] with refs := 1 - 1 })[j] := by simp only [ho']
     rw [h3,h2,← HO.out]
     rfl
    rw [hoo] at a0 a1 a2 a3 a4
    exact ⟨a0,a1,a2,a3,a4,hk.end_4⟩)
   have HBB := Hd (Below.refl w4.heap.size w4)
   go_upto_region 8 with fail
   go_region_held3 (fun W => W.cell? ⟨go,j * 5,none⟩ = some (.int .i64 4) ∧ W.cell? ⟨go,j * 5 + 1,none⟩ = some (.int .i64 at_) ∧ W.cell? ⟨go,j * 5 + 2,none⟩ = some (.int .i64 off) ∧ W.cell? ⟨go,j * 5 + 3,none⟩ = some (.int .i64 fl) ∧ W.cell? ⟨go,j * 5 + 4,none⟩ = some (.int .i64 0) ∧ W.cell? ⟨g,36,none⟩ = some (.func (.func 96) #[.pointer (some ⟨g,0,none⟩)] #[]))
    (first | exact ⟨x0,x1,x2,x3,x4,fx⟩ | exact HSS.out _ _ (HW4.out.below (Aac HBB.out)) rfl | exact HSS.out _ _ HWN.out rfl | exact HSS.out _ _ (HWN.out.below (Aac (Below.refl _ _))) rfl)
    (first
     | (go_at_call 96; refine (Ax1 _ 4 at_ off fl 0 _).mono ?_; rintro e wn ⟨rfl,hbn⟩; have HBN : Hid (Below w4.heap.size w4 wn) := Hd (Aak HBB.out hbn HBB.out.size ⟨rfl,rfl,rfl,rfl⟩); have HWN := Hd (HW4.out.below HBN.out); have HSTN := Hd (HST4.out.below HBN.out); obtain ⟨x0,x1,x2,x3,x4,fx⟩ := HSS.out _ _ HWN.out rfl))
   all_goals
    clear x0 x1 x2 x3 x4 xl f0 f1 f2 f3 f4 q4 gl fx
    have hjj : j < (K.opens.set j { K.opens[j] with refs := 1 - 1 }).length := hj4
    obtain ⟨q4,x0,x1,x2,x3,x4,xl,xf⟩ := HWN.out.all hjj HA.out
    have f0 := xf (j * 5)
    have f1 := xf (j * 5 + 1)
    have f2 := xf (j * 5 + 2)
    have f3 := xf (j * 5 + 3)
    have f4 := xf (j * 5 + 4)
    clear xf x0 x1 x2 x3 x4
    obtain ⟨a1,a2⟩ := HWN.out.storeOpn HA.out hjj Aap
    have HA1 := Hd a1
    have HA2 := Hd a2
    clear a1 a2
    go_wp2_with fail
    go_ret
    have e9 : Aa5 K j = { ({ K with opens := K.opens.set j { K.opens[j] with refs := 1 - 1 } } : Krn) with opens := (K.opens.set j { K.opens[j] with refs := 1 - 1 }).set j Aap } := by
     rw [HLK.out,← HO.out]
     refine Ac6 rfl rfl rfl (by rw [if_neg (by show ¬ ((4 : Int) = 2 ∨ (4 : Int) = 3); decide)]) ?_ rfl rfl
     show K.opens.set j Aap = (K.opens.set j _).set j Aap
     rw [List.set_set]
    rw [e9]
    exact ⟨rfl,HA1.out,HSTN.out.trans HA2.out⟩
  ·have fx := HW4.out.end_2
   have HSS := Hd (show ∀ W K' ,Wk W B g A K' (f.set n 0) → K'.opens = K.opens.set j { K.opens[j] with refs := 1 - 1 } → W.cell? ⟨go,j * 5,none⟩ = some (.int .i64 2) ∧ W.cell? ⟨go,j * 5 + 1,none⟩ = some (.int .i64 (i : Int)) ∧ W.cell? ⟨go,j * 5 + 2,none⟩ = some (.int .i64 off) ∧ W.cell? ⟨go,j * 5 + 3,none⟩ = some (.int .i64 fl) ∧ W.cell? ⟨go,j * 5 + 4,none⟩ = some (.int .i64 0) ∧ W.cell? ⟨g,28,none⟩ = some (.func (.func 99) #[.pointer (some ⟨g,0,none⟩)] #[]) from fun W K' hk ho' => by
    have hjj : j < K'.opens.length := by rw [ho']; exact hj4
    obtain ⟨-,a0,a1,a2,a3,a4,-,-⟩ := hk.all hjj HA.out
    have hoo : K'.opens[j] = ⟨2,(i : Int),off,fl,0⟩ := by
     have h2 := HO4.out
     have h3 : K'.opens[j] = (K.opens.set j { K.opens[j] with refs := 1 - 1 })[j] := by simp only [ho']
     rw [h3,h2,← HO.out]
     rfl
    rw [hoo] at a0 a1 a2 a3 a4
    exact ⟨a0,a1,a2,a3,a4,hk.end_2⟩)
   have HBB := Hd (Below.refl w4.heap.size w4)
   go_upto_region 8 with fail
   go_region_held3 (fun W => W.cell? ⟨go,j * 5,none⟩ = some (.int .i64 2) ∧ W.cell? ⟨go,j * 5 + 1,none⟩ = some (.int .i64 (i : Int)) ∧ W.cell? ⟨go,j * 5 + 2,none⟩ = some (.int .i64 off) ∧ W.cell? ⟨go,j * 5 + 3,none⟩ = some (.int .i64 fl) ∧ W.cell? ⟨go,j * 5 + 4,none⟩ = some (.int .i64 0) ∧ W.cell? ⟨g,28,none⟩ = some (.func (.func 99) #[.pointer (some ⟨g,0,none⟩)] #[]))
    (first | exact ⟨x0,x1,x2,x3,x4,fx⟩ | exact HSS.out _ _ (HW4.out.below (Aac HBB.out)) rfl | exact HSS.out _ _ HWN.out rfl | exact HSS.out _ _ (HWN.out.below (Aac (Below.refl _ _))) rfl)
    (first
     | (go_at_call 99; refine (Aoa (B := B) (A := A) (K := { K with opens := K.opens.set j { K.opens[j] with refs := 1 - 1 } }) (f := f.set n 0) 2 i off fl 0 _ (by first | exact HW4.out | exact HW4.out.below (Aac (Below.refl _ _))) hi (HAF.out i hi)).mono ?_; rintro e wn ⟨rfl,hwn,hsn⟩; have HWN := Hd hwn; have HSTN := Hd (HST4.out.trans ((Stepw.of_below (g := g) (A := A) (W := w4) (by first | exact Below.refl _ _ | exact Aac (Below.refl _ _))).trans hsn)); clear hwn hsn; obtain ⟨x0,x1,x2,x3,x4,fx⟩ := HSS.out _ _ HWN.out rfl))
   all_goals
    clear x0 x1 x2 x3 x4 xl f0 f1 f2 f3 f4 q4 gl fx
    have hjj : j < (K.opens.set j { K.opens[j] with refs := 1 - 1 }).length := hj4
    obtain ⟨q4,x0,x1,x2,x3,x4,xl,xf⟩ := HWN.out.all hjj HA.out
    have f0 := xf (j * 5)
    have f1 := xf (j * 5 + 1)
    have f2 := xf (j * 5 + 2)
    have f3 := xf (j * 5 + 3)
    have f4 := xf (j * 5 + 4)
    clear xf x0 x1 x2 x3 x4
    obtain ⟨a1,a2⟩ := HWN.out.storeOpn HA.out hjj Aap
    have HA1 := Hd a1
    have HA2 := Hd a2
    clear a1 a2
    go_wp2_with fail
    go_ret
    have e9 : Aa5 K j = { ({ K with opens := K.opens.set j { K.opens[j] with refs := 1 - 1 },pipes := K.pipes.set i (Aa1 K.pipes[i] true) } : Krn) with opens := (K.opens.set j { K.opens[j] with refs := 1 - 1 }).set j Aap } := by
     rw [HLK.out,← HO.out]
     refine Ac6 rfl rfl rfl (by show (if (2 : Int) = 2 ∨ (2 : Int) = 3 then K.pipes.set (Int.toNat (i : Int)) (Aa1 (K.pipes.getD (Int.toNat (i : Int)) Ab9) ((2 : Int) == 2)) else K.pipes) = K.pipes.set i (Aa1 K.pipes[i] true); rw [if_pos (by decide),Int.toNat_natCast,Abd _ i hi]; rfl) ?_ rfl rfl
     show K.opens.set j Aap = (K.opens.set j _).set j Aap
     rw [List.set_set]
    rw [e9]
    exact ⟨rfl,HA1.out,HSTN.out.trans HA2.out⟩
  ·have fx := HW4.out.end_3
   have HSS := Hd (show ∀ W K' ,Wk W B g A K' (f.set n 0) → K'.opens = K.opens.set j { K.opens[j] with refs := 1 - 1 } → W.cell? ⟨go,j * 5,none⟩ = some (.int .i64 3) ∧ W.cell? ⟨go,j * 5 + 1,none⟩ = some (.int .i64 (i : Int)) ∧ W.cell? ⟨go,j * 5 + 2,none⟩ = some (.int .i64 off) ∧ W.cell? ⟨go,j * 5 + 3,none⟩ = some (.int .i64 fl) ∧ W.cell? ⟨go,j * 5 + 4,none⟩ = some (.int .i64 0) ∧ W.cell? ⟨g,32,none⟩ = some (.func (.func 102) #[.pointer (some ⟨g,0,none⟩)] #[]) from fun W K' hk ho' => by
    have hjj : j < K'.opens.length := by rw [ho']; exact hj4
    obtain ⟨-,a0,a1,a2,a3,a4,-,-⟩ := hk.all hjj HA.out
    have hoo : K'.opens[j] = ⟨3,(i : Int),off,fl,0⟩ := by
     have h2 := HO4.out
     have h3 : K'.opens[j] = (K.opens.set j { K.opens[j] with refs := 1 - 1 })[j] := by simp only [ho']
     rw [h3,h2,← HO.out]
     rfl
    rw [hoo] at a0 a1 a2 a3 a4
    exact ⟨a0,a1,a2,a3,a4,hk.end_3⟩)
   have HBB := Hd (Below.refl w4.heap.size w4)
   go_upto_region 8 with fail
   go_region_held3 (fun W => W.cell? ⟨go,j * 5,none⟩ = some (.int .i64 3) ∧ W.cell? ⟨go,j * 5 + 1,none⟩ = some (.int .i64 (i : Int)) ∧ W.cell? ⟨go,j * 5 + 2,none⟩ = some (.int .i64 off) ∧ W.cell? ⟨go,j * 5 + 3,none⟩ = some (.int .i64 fl) ∧ W.cell? ⟨go,j * 5 + 4,none⟩ = some (.int .i64 0) ∧ W.cell? ⟨g,32,none⟩ = some (.func (.func 102) #[.pointer (some ⟨g,0,none⟩)] #[]))
    (first | exact ⟨x0,x1,x2,x3,x4,fx⟩ | exact HSS.out _ _ (HW4.out.below (Aac HBB.out)) rfl | exact HSS.out _ _ HWN.out rfl | exact HSS.out _ _ (HWN.out.below (Aac (Below.refl _ _))) rfl)
    (first
     | (go_at_call 102; refine (Ano (B := B) (A := A) (K := { K with opens := K.opens.set j { K.opens[j] with refs := 1 - 1 } }) (f := f.set n 0) 3 i off fl 0 _ (by first | exact HW4.out | exact HW4.out.below (Aac (Below.refl _ _))) hi (HAF.out i hi)).mono ?_; rintro e wn ⟨rfl,hwn,hsn⟩; have HWN := Hd hwn; have HSTN := Hd (HST4.out.trans ((Stepw.of_below (g := g) (A := A) (W := w4) (by first | exact Below.refl _ _ | exact Aac (Below.refl _ _))).trans hsn)); clear hwn hsn; obtain ⟨x0,x1,x2,x3,x4,fx⟩ := HSS.out _ _ HWN.out rfl))
   all_goals
    clear x0 x1 x2 x3 x4 xl f0 f1 f2 f3 f4 q4 gl fx
    have hjj : j < (K.opens.set j { K.opens[j] with refs := 1 - 1 }).length := hj4
    obtain ⟨q4,x0,x1,x2,x3,x4,xl,xf⟩ := HWN.out.all hjj HA.out
    have f0 := xf (j * 5)
    have f1 := xf (j * 5 + 1)
    have f2 := xf (j * 5 + 2)
    have f3 := xf (j * 5 + 3)
    have f4 := xf (j * 5 + 4)
    clear xf x0 x1 x2 x3 x4
    obtain ⟨a1,a2⟩ := HWN.out.storeOpn HA.out hjj Aap
    have HA1 := Hd a1
    have HA2 := Hd a2
    clear a1 a2
    go_wp2_with fail
    go_ret
    have e9 : Aa5 K j = { ({ K with opens := K.opens.set j { K.opens[j] with refs := 1 - 1 },pipes := K.pipes.set i (Aa1 K.pipes[i] false) } : Krn) with opens := (K.opens.set j { K.opens[j] with refs := 1 - 1 }).set j Aap } := by
     rw [HLK.out,← HO.out]
     refine Ac6 rfl rfl rfl (by show (if (3 : Int) = 2 ∨ (3 : Int) = 3 then K.pipes.set (Int.toNat (i : Int)) (Aa1 (K.pipes.getD (Int.toNat (i : Int)) Ab9) ((3 : Int) == 2)) else K.pipes) = K.pipes.set i (Aa1 K.pipes[i] false); rw [if_pos (by decide),Int.toNat_natCast,Abd _ i hi]; rfl) ?_ rfl rfl
     show K.opens.set j Aap = (K.opens.set j _).set j Aap
     rw [List.set_set]
    rw [e9]
    exact ⟨rfl,HA1.out,HSTN.out.trans HA2.out⟩
end
end Go.Proofs.YtkdfbliiblojoaaGreatDoor
