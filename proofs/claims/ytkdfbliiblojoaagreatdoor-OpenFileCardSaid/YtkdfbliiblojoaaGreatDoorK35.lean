import Derived.Test.YtkdfbliiblojoaaGreatDoorK33
import Derived.Test.YtkdfbliiblojoaaGreatDoorK31
set_option linter.all false
set_option maxRecDepth 100000
set_option maxHeartbeats 64000000
namespace Go.Proofs.YtkdfbliiblojoaaGreatDoor
open Go Go.RowKit
theorem Am4 (a : Option Addr) (cap : Nat) (m b cwd : Int) (pb : ByteArray) (hp : pb.size ≤ 1073741824) (L : List Ino) (hF : FitP L m b) (w : World) (hN : Aah w a cap L) :
  Calls Tryz.prog 194 #[.agg #[.slice a L.length cap,.int .i64 m,.int .i64 b],.int .i64 cwd,.string pb] w fun e w' => e = .returned (.tuple #[.int .i64 (Abk L cwd pb.data.toList).1,.string ⟨(Abk L cwd pb.data.toList).2.1.toArray⟩,.int .i64 (Abk L cwd pb.data.toList).2.2]) ∧ Below w.heap.size w w' := by
 obtain ⟨w1,hw1⟩ : ∃ w1,w1 = w.alloc (.cells #[.slice a L.length cap,.int .i64 m,.int .i64 b] 24) := ⟨_,rfl⟩
 have hb1 := Aab w (.cells #[.slice a L.length cap,.int .i64 m,.int .i64 b] 24)
 have hM := hN.below hb1
 have hsz : w1.heap.size = w.heap.size + 1 := by rw [hw1]; simp
 have hbox : ∀ W',Below w1.heap.size w1 W' → W'.cell? ⟨w.heap.size,0,none⟩ = some (.slice a L.length cap) ∧ W'.cell? ⟨w.heap.size,1,none⟩ = some (.int .i64 m) ∧ W'.cell? ⟨w.heap.size,2,none⟩ = some (.int .i64 b) := fun W' h => box3 (by rw [← hw1]; exact h)
 rw [← hw1] at hM hb1
 have HM := Hd hM
 have HB := Hd hb1
 have HX := Hd hbox
 have HEND := Hd (show ∀ W',Below w1.heap.size w1 W' → Below w.heap.size w W' from fun W' h => HB.out.trans (h.mono (by rw [hsz]; omega)))
 have HF := Hd hF
 obtain ⟨R,hR⟩ : ∃ R,R = Abk L cwd pb.data.toList := ⟨_,rfl⟩
 rw [← hR]
 have HR := Hd hR
 obtain ⟨z,hz⟩ : ∃ z,badW L cwd pb.data.toList = z := ⟨_,rfl⟩
 have HZ := Hd hz
 clear hM hN hb1 hbox hsz hF hR
 by_cases hbad : z ≠ 0
 ·have hzb : (z != 0) = true := by simpa using hbad
  have HW := Hd (show R = (0,[],z) by rw [HR.out]; unfold Abk; rw [hz,if_pos hbad])
  clear hbad hz
  go_enter Tryz.func194,Tryz.ntmps194
  go_wp2_with fail
  rw [← hw1]
  refine (Ac0 _ _ _ _ _ _ hp L z HZ.out _ HM.out).mono ?_
  rintro e w2 ⟨rfl,hb2⟩
  go_wp2_with fail
  go_ret3
  exact ⟨by rw [HW.out]; rfl,HEND.out _ hb2⟩
 ·obtain rfl : z = 0 := by simpa using hbad
  obtain ⟨st,hst⟩ : ∃ st,Adn cwd pb.data.toList = st := ⟨_,rfl⟩
  have HST := Hd hst
  obtain ⟨N,hNe⟩ : ∃ N,N = Aan pb.data.toList := ⟨_,rfl⟩
  have HNE := Hd hNe
  have hlong : pb.size ≤ 1024 := by
   unfold badW at hz
   by_cases h2 : pb.data.toList = [] ∨ dirB L cwd = false
   ·rw [if_pos h2] at hz; cases hz
   ·rw [if_neg h2] at hz
    by_cases hl : Ahl pb.data.toList = true
    ·rw [if_pos hl] at hz; cases hz
    ·unfold Ahl at hl
     rw [Bool.or_eq_true,decide_eq_true_eq,Aas] at hl
     omega
  have hNL : N.length ≤ 1025 := by rw [hNe]; have := Aci pb.data.toList; rw [Aas] at this; omega
  have HW := Hd (show R = if N = [] then (0,[],17) else if (wayW L true 8 N.dropLast st).2 ≠ 0 then (0,[],(wayW L true 8 N.dropLast st).2) else if dirB L (wayW L true 8 N.dropLast st).1 = false then (0,[],20) else ((wayW L true 8 N.dropLast st).1,N.getLastD [],0) by
   rw [HR.out]
   unfold Abk
   rw [hz,if_neg (by simp),hst,← hNe])
  clear hz hst hNe hbad HR
  rcases List.eq_nil_or_concat N with hn | ⟨M,y,hn⟩
  ·have HNN := Hd hn
   have HW2 := Hd (show R = (0,[],17) by rw [HW.out,if_pos hn])
   clear hn
   go_enter Tryz.func194,Tryz.ntmps194
   go_wp2_with fail
   rw [← hw1]
   refine (Ac0 _ _ _ _ _ _ hp L 0 HZ.out _ HM.out).mono ?_
   rintro e w2 ⟨rfl,hb2⟩
   have HB2 := Hd hb2
   obtain ⟨q0,q1,q2⟩ := HX.out _ hb2
   clear hb2
   go_wp2_with (first | (go_at_call 153; refine (Ab0 _ _ _ cwd pb hlong st N HST.out HNE.out w2).mono ?_; rintro e w3 ⟨⟨ue,rfl⟩,hv3,hb3,hs3⟩; rw [HNN.out] at hv3; have HV3 := Hd hv3; have HB3 := Hd (HB2.out.trans (hb3.mono HB2.out.size)); clear hv3 hb3 q0 q1 q2) | (go_at_call 204; refine (Ass _ _ _ _ _ _ HV3.out).mono ?_; rintro e w4 ⟨rfl,rfl⟩) | fail)
   go_ret3
   exact ⟨by rw [HW2.out]; rfl,HEND.out _ HB3.out⟩
  ·rw [List.concat_eq_append] at hn
   have hlen : N.length = M.length + 1 := by rw [hn]; simp
   have HNN := Hd (show N.reverse = y :: M.reverse by rw [hn]; simp)
   obtain ⟨kz,hkz⟩ : ∃ kz,kz = (wayW L true 8 M st).1 := ⟨_,rfl⟩
   obtain ⟨ez,hez⟩ : ∃ ez,ez = (wayW L true 8 M st).2 := ⟨_,rfl⟩
   have HWAY := Hd (show ∀ W n₀ g,w1.heap.size ≤ g → Below w1.heap.size w1 W → n₀ ≤ W.heap.size → Abr n₀ g (.slice a L.length cap,.int .i64 m,.int .i64 b) W st M.reverse 0 → Calls Tryz.prog 154 #[.pointer (some ⟨g,0,none⟩),.bool true] W fun e w' => (∃ z : Int,e = .returned (.tuple #[.int .i64 z,.int .i64 ez]) ∧ (ez = 0 → z = kz)) ∧ Moved g W w' from fun W n₀ g hg hW hn hV =>
    Apb n₀ g a cap m b st M (by omega) true L HF.out w1 HM.out hg W hW hn hV kz ez hkz hez)
   obtain ⟨dz,hdz⟩ : ∃ dz,dirB L kz = dz := ⟨_,rfl⟩
   have HW2 := Hd (show R = if ez ≠ 0 then (0,[],ez) else if dz = false then (0,[],20) else (kz,y,0) by
    rw [HW.out,if_neg (by rw [hn]; simp),hn,List.dropLast_concat,← hkz,← hez,hdz]
    congr 3
    simp)
   obtain ⟨kk,hkk⟩ : ∃ kk,Aet L kz = kk := ⟨_,rfl⟩
   have HKK := Hd hkk
   have hkd := Ar2 hdz
   rw [hkk] at hkd
   clear hkz hez hdz hn HW hkk
   go_enter Tryz.func194,Tryz.ntmps194
   go_wp2_with fail
   rw [← hw1]
   refine (Ac0 _ _ _ _ _ _ hp L 0 HZ.out _ HM.out).mono ?_
   rintro e w2 ⟨rfl,hb2⟩
   have HB2 := Hd hb2
   obtain ⟨q0,q1,q2⟩ := HX.out _ hb2
   clear hb2
   have hs2 := HB2.out.size
   cases he : (ez != 0) with
   | true =>
    have HW3 := Hd (show R = (0,[],ez) by rw [HW2.out,if_pos (by simpa using he)])
    go_wp2_with (first | (go_at_call 153; refine (Ab0 _ _ _ cwd pb hlong st N HST.out HNE.out w2).mono ?_; rintro e w3 ⟨⟨ue,rfl⟩,hv3,hb3,hs3⟩; rw [HNN.out] at hv3; have HV3 := Hd hv3; have HB3 := Hd (HB2.out.trans (hb3.mono HB2.out.size)); clear hv3 hb3 q0 q1 q2) | (go_at_call 204; refine (Ajr _ _ _ _ _ _ _ _ HV3.out).mono ?_; rintro e w4 ⟨rfl,hv4,hm4⟩; have HV4 := Hd hv4; have hs4 := Nat.le_trans hs3 hm4.below.size; have HB4 := Hd (HB3.out.trans (hm4.below.mono hs2)); clear hv4 hm4) | (go_at_call 154; refine (HWAY.out w4 (w2.heap.size + 1) w2.heap.size hs2 HB4.out hs4 HV4.out).mono ?_; rintro e w5 ⟨⟨zz,rfl,hzz⟩,hm5⟩; have HB5 := Hd (HB4.out.trans (hm5.below.mono hs2)); have HZZ := Hd hzz; (obtain ⟨q0,q1,q2⟩ := HX.out _ HB5.out); clear hzz hm5) | (go_at_call 155; refine (Aaw a cap m b _ L kk (by rw [HZZ.out (by trivial)]; exact HKK.out) _ (HM.out.below HB5.out)).mono ?_; rintro e w6 ⟨rfl,hb6⟩; have HB6 := Hd (HB5.out.trans (hb6.mono HB5.out.size))) | fail)
    go_ret3
    exact ⟨by rw [HW3.out]; rfl,HEND.out _ HB5.out⟩
   | false =>
    have hz0 : ez = 0 := by simpa using he
    subst hz0
    cases dz with
    | false =>
     have HW3 := Hd (show R = (0,[],20) by rw [HW2.out,if_neg (by simp),if_pos rfl])
     simp only [Bool.not_false] at hkd
     go_wp2_with (first | (go_at_call 153; refine (Ab0 _ _ _ cwd pb hlong st N HST.out HNE.out w2).mono ?_; rintro e w3 ⟨⟨ue,rfl⟩,hv3,hb3,hs3⟩; rw [HNN.out] at hv3; have HV3 := Hd hv3; have HB3 := Hd (HB2.out.trans (hb3.mono HB2.out.size)); clear hv3 hb3 q0 q1 q2) | (go_at_call 204; refine (Ajr _ _ _ _ _ _ _ _ HV3.out).mono ?_; rintro e w4 ⟨rfl,hv4,hm4⟩; have HV4 := Hd hv4; have hs4 := Nat.le_trans hs3 hm4.below.size; have HB4 := Hd (HB3.out.trans (hm4.below.mono hs2)); clear hv4 hm4) | (go_at_call 154; refine (HWAY.out w4 (w2.heap.size + 1) w2.heap.size hs2 HB4.out hs4 HV4.out).mono ?_; rintro e w5 ⟨⟨zz,rfl,hzz⟩,hm5⟩; have HB5 := Hd (HB4.out.trans (hm5.below.mono hs2)); have HZZ := Hd hzz; (obtain ⟨q0,q1,q2⟩ := HX.out _ HB5.out); clear hzz hm5) | (go_at_call 155; refine (Aaw a cap m b _ L kk (by rw [HZZ.out (by trivial)]; exact HKK.out) _ (HM.out.below HB5.out)).mono ?_; rintro e w6 ⟨rfl,hb6⟩; have HB6 := Hd (HB5.out.trans (hb6.mono HB5.out.size))) | fail)
     go_ret3
     exact ⟨by rw [HW3.out]; rfl,HEND.out _ HB6.out⟩
    | true =>
     have HW3 := Hd (show R = (kz,y,0) by rw [HW2.out,if_neg (by simp),if_neg (by simp)])
     simp only [Bool.not_true] at hkd
     go_wp2_with (first | (go_at_call 153; refine (Ab0 _ _ _ cwd pb hlong st N HST.out HNE.out w2).mono ?_; rintro e w3 ⟨⟨ue,rfl⟩,hv3,hb3,hs3⟩; rw [HNN.out] at hv3; have HV3 := Hd hv3; have HB3 := Hd (HB2.out.trans (hb3.mono HB2.out.size)); clear hv3 hb3 q0 q1 q2) | (go_at_call 204; refine (Ajr _ _ _ _ _ _ _ _ HV3.out).mono ?_; rintro e w4 ⟨rfl,hv4,hm4⟩; have HV4 := Hd hv4; have hs4 := Nat.le_trans hs3 hm4.below.size; have HB4 := Hd (HB3.out.trans (hm4.below.mono hs2)); clear hv4 hm4) | (go_at_call 154; refine (HWAY.out w4 (w2.heap.size + 1) w2.heap.size hs2 HB4.out hs4 HV4.out).mono ?_; rintro e w5 ⟨⟨zz,rfl,hzz⟩,hm5⟩; have HB5 := Hd (HB4.out.trans (hm5.below.mono hs2)); have HZZ := Hd hzz; (obtain ⟨q0,q1,q2⟩ := HX.out _ HB5.out); clear hzz hm5) | (go_at_call 155; refine (Aaw a cap m b _ L kk (by rw [HZZ.out (by trivial)]; exact HKK.out) _ (HM.out.below HB5.out)).mono ?_; rintro e w6 ⟨rfl,hb6⟩; have HB6 := Hd (HB5.out.trans (hb6.mono HB5.out.size))) | fail)
     go_ret3
     exact ⟨by rw [HW3.out,HZZ.out (by trivial)]; rfl,HEND.out _ HB6.out⟩
def Afs (L : List Ino) (cwd : Int) (p : List UInt8) : Int × List UInt8 × Bool × Int :=
 if (Abp L cwd p true).2.2 ≠ 0 then (0,[],false,(Abp L cwd p true).2.2) else ((Abp L cwd p true).1,(Abp L cwd p true).2.1,endL p,0)
theorem Ad1 (a : Option Addr) (cap : Nat) (m b cwd : Int) (pb : ByteArray) (hp : pb.size ≤ 1073741824) (L : List Ino) (hF : FitP L m b) (z : Int) (s : List UInt8) (e : Int) (h : Abk L cwd pb.data.toList = (z,s,e)) (w : World) (hN : Aah w a cap L) :
  Calls Tryz.prog 194 #[.agg #[.slice a L.length cap,.int .i64 m,.int .i64 b],.int .i64 cwd,.string pb] w fun r w' => r = .returned (.tuple #[.int .i64 z,.string ⟨s.toArray⟩,.int .i64 e]) ∧ Below w.heap.size w w' := by
 have := Am4 a cap m b cwd pb hp L hF w hN
 rw [h] at this
 exact this
theorem Awc (a : Option Addr) (cap : Nat) (m b cwd : Int) (pb : ByteArray) (hp : pb.size ≤ 1073741824) (L : List Ino) (hF : FitP L m b) (z : Int) (s : List UInt8) (sl : Bool) (er : Int) (hz : Afs L cwd pb.data.toList = (z,s,sl,er)) (w : World) (hN : Aah w a cap L) :
  Calls Tryz.prog 179 #[.agg #[.slice a L.length cap,.int .i64 m,.int .i64 b],.int .i64 cwd,.string pb] w fun e w' => e = .returned (.tuple #[.agg #[.int .i64 z,.string ⟨s.toArray⟩,.bool sl],.int .i64 er]) ∧ Below w.heap.size w w' := by
 obtain ⟨⟨d,nm,pe⟩,hpar⟩ : ∃ r,Abk L cwd pb.data.toList = r := ⟨_,rfl⟩
 obtain ⟨w2,hw2,hb2,hs2,hA,hB⟩ := Aam w #[.slice a L.length cap,.int .i64 m,.int .i64 b] #[.int .i64 0,.string ⟨#[]⟩,.bool false] 24 203
 have HP := Hd hpar
 have HF := Hd hF
 have HN := Hd (hN.below hb2)
 have HZ := Hd hz
 have HA := Hd (show ∀ W,Below w2.heap.size w2 W → W.cell? ⟨w.heap.size,0,none⟩ = some (.slice a L.length cap) ∧ W.cell? ⟨w.heap.size,1,none⟩ = some (.int .i64 m) ∧ W.cell? ⟨w.heap.size,2,none⟩ = some (.int .i64 b) from fun W hW => by
  have h := (hW.block w.heap.size (by omega)).trans hA
  exact ⟨bC h 0,bC h 1,bC h 2⟩)
 have HB := Hd (show ∀ W,Below w2.heap.size w2 W → W.heap[w.heap.size + 1]? = some (.cells #[.int .i64 0,.string ⟨#[]⟩,.bool false] 203 (0,0)) from fun W hW => (hW.block _ (by omega)).trans hB)
 have HE := Hd (show ∀ W,Below w2.heap.size w2 W → ∀ x y z,Below w.heap.size w (put3 W (w.heap.size + 1) x y z) from fun W hW x y z => Aa8 (hb2.trans (hW.mono (by omega))) (by omega) x y z)
 clear hpar hF hN hz hA hB hb2
 by_cases h1 : pe = 0
 ·subst h1
  obtain ⟨sf,hsf⟩ : ∃ v,endL pb.data.toList = v := ⟨_,rfl⟩
  obtain ⟨kz,hkz⟩ : ∃ v,kidL L d nm = v := ⟨_,rfl⟩
  obtain ⟨mv,hmv⟩ : ∃ v,mayL L d 3 = v := ⟨_,rfl⟩
  obtain ⟨nv,hnv⟩ : ∃ v,Abg nm = v := ⟨_,rfl⟩
  have HSF := Hd hsf
  have HK := Hd hkz
  have HM := Hd hmv
  have HNM := Hd hnv
  have hz2 := HZ.out
  unfold Afs Abp at hz2
  rw [HP.out] at hz2
  simp only [hkz,hmv,hnv,hsf] at hz2
  clear hsf hkz hmv hnv
  by_cases e1 : nm = [46]
  ·subst e1
   simp at hz2
   obtain ⟨rfl,rfl,rfl,rfl⟩ := hz2
   go_enter Tryz.func179,Tryz.ntmps179
   go_wp2_with fail
   rw [← hw2]
   clear hw2
   refine (Ad1 _ _ _ _ _ _ hp L HF.out _ _ _ HP.out _ HN.out).mono ?_
   rintro e w3 ⟨rfl,hb3⟩
   have HB3 := Hd hb3
   clear hb3
   have hBx := HB.out _ HB3.out
   have r0 := bC hBx 0
   have r1 := bC hBx 1
   have r2 := bC hBx 2
   have s0 := bF hBx 0
   have s1 := bF hBx 1
   have s2 := bF hBx 2
   have hlx := lt_of_block hBx
   have HBX := Hd hBx
   clear hBx
   go_wp2_with fail
   change bodyPost _ _ _ _ _ (put3 w3 (w.heap.size + 1) (.int .i64 0) (.string ⟨#[]⟩) (.bool false))
   obtain ⟨c0,c1,c2⟩ := Aau HBX.out (.int .i64 0) (.string ⟨#[]⟩) (.bool false)
   have HBF := Hd (HE.out w3 HB3.out (.int .i64 0) (.string ⟨#[]⟩) (.bool false))
   generalize put3 w3 (w.heap.size + 1) (.int .i64 0) (.string ⟨#[]⟩) (.bool false) = wF at *
   refine bodyPost_ret (v := .tuple #[.agg #[.int .i64 0,.string ⟨#[]⟩,.bool false],.int .i64 17]) (by simp [results,Tryz.results179,go_sem,c0,c1,c2]) rfl ⟨rfl,HBF.out⟩
  have e1b : (nm == [46]) = false := by simpa using e1
  by_cases e2 : nm = [46,46]
  ·subst e2
   simp at hz2
   obtain ⟨rfl,rfl,rfl,rfl⟩ := hz2
   go_enter Tryz.func179,Tryz.ntmps179
   go_wp2_with fail
   rw [← hw2]
   clear hw2
   refine (Ad1 _ _ _ _ _ _ hp L HF.out _ _ _ HP.out _ HN.out).mono ?_
   rintro e w3 ⟨rfl,hb3⟩
   have HB3 := Hd hb3
   clear hb3
   have hBx := HB.out _ HB3.out
   have r0 := bC hBx 0
   have r1 := bC hBx 1
   have r2 := bC hBx 2
   have s0 := bF hBx 0
   have s1 := bF hBx 1
   have s2 := bF hBx 2
   have hlx := lt_of_block hBx
   have HBX := Hd hBx
   clear hBx
   go_wp2_with fail
   change bodyPost _ _ _ _ _ (put3 w3 (w.heap.size + 1) (.int .i64 0) (.string ⟨#[]⟩) (.bool false))
   obtain ⟨c0,c1,c2⟩ := Aau HBX.out (.int .i64 0) (.string ⟨#[]⟩) (.bool false)
   have HBF := Hd (HE.out w3 HB3.out (.int .i64 0) (.string ⟨#[]⟩) (.bool false))
   generalize put3 w3 (w.heap.size + 1) (.int .i64 0) (.string ⟨#[]⟩) (.bool false) = wF at *
   refine bodyPost_ret (v := .tuple #[.agg #[.int .i64 0,.string ⟨#[]⟩,.bool false],.int .i64 17]) (by simp [results,Tryz.results179,go_sem,c0,c1,c2]) rfl ⟨rfl,HBF.out⟩
  have e2b : (nm == [46,46]) = false := by simpa using e2
  by_cases e3 : 0 ≤ kz
  ·simp [e1,e2,e3] at hz2
   obtain ⟨rfl,rfl,rfl,rfl⟩ := hz2
   clear e1 e2
   go_enter Tryz.func179,Tryz.ntmps179
   go_wp2_with fail
   rw [← hw2]
   clear hw2
   refine (Ad1 _ _ _ _ _ _ hp L HF.out _ _ _ HP.out _ HN.out).mono ?_
   rintro e w3 ⟨rfl,hb3⟩
   have HB3 := Hd hb3
   clear hb3
   obtain ⟨q0,q1,q2⟩ := HA.out _ HB3.out
   have hq := Aaj q0
   go_wp2_with fail
   refine (Ae9 _ _ _ _ _ _ L (Adk HF.out.ins) _ HK.out _ (HN.out.below HB3.out)).mono ?_
   rintro e w4 ⟨rfl,hb4⟩
   have HB4 := Hd (HB3.out.trans (hb4.mono HB3.out.size))
   clear hb4 q0 q1 q2 hq
   have hBx := HB.out _ HB4.out
   have r0 := bC hBx 0
   have r1 := bC hBx 1
   have r2 := bC hBx 2
   have s0 := bF hBx 0
   have s1 := bF hBx 1
   have s2 := bF hBx 2
   have hlx := lt_of_block hBx
   have HBX := Hd hBx
   clear hBx
   go_wp2_with fail
   change bodyPost _ _ _ _ _ (put3 w4 (w.heap.size + 1) (.int .i64 0) (.string ⟨#[]⟩) (.bool false))
   obtain ⟨c0,c1,c2⟩ := Aau HBX.out (.int .i64 0) (.string ⟨#[]⟩) (.bool false)
   have HBF := Hd (HE.out w4 HB4.out (.int .i64 0) (.string ⟨#[]⟩) (.bool false))
   generalize put3 w4 (w.heap.size + 1) (.int .i64 0) (.string ⟨#[]⟩) (.bool false) = wF at *
   refine bodyPost_ret (v := .tuple #[.agg #[.int .i64 0,.string ⟨#[]⟩,.bool false],.int .i64 17]) (by simp [results,Tryz.results179,go_sem,c0,c1,c2]) rfl ⟨rfl,HBF.out⟩
  cases nv with
  | false =>
   simp [e1,e2,e3] at hz2
   obtain ⟨rfl,rfl,rfl,rfl⟩ := hz2
   clear e1 e2
   go_enter Tryz.func179,Tryz.ntmps179
   go_wp2_with fail
   rw [← hw2]
   clear hw2
   refine (Ad1 _ _ _ _ _ _ hp L HF.out _ _ _ HP.out _ HN.out).mono ?_
   rintro e w3 ⟨rfl,hb3⟩
   have HB3 := Hd hb3
   clear hb3
   obtain ⟨q0,q1,q2⟩ := HA.out _ HB3.out
   have hq := Aaj q0
   go_wp2_with fail
   refine (Ae9 _ _ _ _ _ _ L (Adk HF.out.ins) _ HK.out _ (HN.out.below HB3.out)).mono ?_
   rintro e w4 ⟨rfl,hb4⟩
   have HB4 := Hd (HB3.out.trans (hb4.mono HB3.out.size))
   clear hb4 q0 q1 q2 hq
   have hBx := HB.out _ HB4.out
   have r0 := bC hBx 0
   have r1 := bC hBx 1
   have r2 := bC hBx 2
   have s0 := bF hBx 0
   have s1 := bF hBx 1
   have s2 := bF hBx 2
   have hlx := lt_of_block hBx
   have HBX := Hd hBx
   clear hBx
   go_wp2_with (first | (go_at_call 187; refine (Agq _ _ HNM.out _).mono ?_; rintro e w' ⟨rfl,rfl⟩) | fail)
   change bodyPost _ _ _ _ _ (put3 w4 (w.heap.size + 1) (.int .i64 0) (.string ⟨#[]⟩) (.bool false))
   obtain ⟨c0,c1,c2⟩ := Aau HBX.out (.int .i64 0) (.string ⟨#[]⟩) (.bool false)
   have HBF := Hd (HE.out w4 HB4.out (.int .i64 0) (.string ⟨#[]⟩) (.bool false))
   generalize put3 w4 (w.heap.size + 1) (.int .i64 0) (.string ⟨#[]⟩) (.bool false) = wF at *
   refine bodyPost_ret (v := .tuple #[.agg #[.int .i64 0,.string ⟨#[]⟩,.bool false],.int .i64 22]) (by simp [results,Tryz.results179,go_sem,c0,c1,c2]) rfl ⟨rfl,HBF.out⟩
  | true =>
   cases mv with
   | false =>
    simp [e1,e2,e3] at hz2
    obtain ⟨rfl,rfl,rfl,rfl⟩ := hz2
    clear e1 e2
    go_enter Tryz.func179,Tryz.ntmps179
    go_wp2_with fail
    rw [← hw2]
    clear hw2
    refine (Ad1 _ _ _ _ _ _ hp L HF.out _ _ _ HP.out _ HN.out).mono ?_
    rintro e w3 ⟨rfl,hb3⟩
    have HB3 := Hd hb3
    clear hb3
    obtain ⟨q0,q1,q2⟩ := HA.out _ HB3.out
    have hq := Aaj q0
    go_wp2_with fail
    refine (Ae9 _ _ _ _ _ _ L (Adk HF.out.ins) _ HK.out _ (HN.out.below HB3.out)).mono ?_
    rintro e w4 ⟨rfl,hb4⟩
    have HB4 := Hd (HB3.out.trans (hb4.mono HB3.out.size))
    clear hb4 q0 q1 q2 hq
    obtain ⟨q0,q1,q2⟩ := HA.out _ HB4.out
    have hq := Aaj q0
    go_wp2_with (first | (go_at_call 187; refine (Agq _ _ HNM.out _).mono ?_; rintro e w' ⟨rfl,rfl⟩) | fail)
    refine (Adz _ _ _ _ _ _ L HF.out.ins _ HM.out _ (HN.out.below HB4.out)).mono ?_
    rintro e w5 ⟨rfl,hb5⟩
    have HB5 := Hd (HB4.out.trans (hb5.mono HB4.out.size))
    clear hb5 q0 q1 q2 hq
    have hBx := HB.out _ HB5.out
    have r0 := bC hBx 0
    have r1 := bC hBx 1
    have r2 := bC hBx 2
    have s0 := bF hBx 0
    have s1 := bF hBx 1
    have s2 := bF hBx 2
    have hlx := lt_of_block hBx
    have HBX := Hd hBx
    clear hBx
    go_wp2_with fail
    change bodyPost _ _ _ _ _ (put3 w5 (w.heap.size + 1) (.int .i64 0) (.string ⟨#[]⟩) (.bool false))
    obtain ⟨c0,c1,c2⟩ := Aau HBX.out (.int .i64 0) (.string ⟨#[]⟩) (.bool false)
    have HBF := Hd (HE.out w5 HB5.out (.int .i64 0) (.string ⟨#[]⟩) (.bool false))
    generalize put3 w5 (w.heap.size + 1) (.int .i64 0) (.string ⟨#[]⟩) (.bool false) = wF at *
    refine bodyPost_ret (v := .tuple #[.agg #[.int .i64 0,.string ⟨#[]⟩,.bool false],.int .i64 13]) (by simp [results,Tryz.results179,go_sem,c0,c1,c2]) rfl ⟨rfl,HBF.out⟩
   | true =>
    simp [e1,e2,e3] at hz2
    obtain ⟨rfl,rfl,rfl,rfl⟩ := hz2
    clear e1 e2
    go_enter Tryz.func179,Tryz.ntmps179
    go_wp2_with fail
    rw [← hw2]
    clear hw2
    refine (Ad1 _ _ _ _ _ _ hp L HF.out _ _ _ HP.out _ HN.out).mono ?_
    rintro e w3 ⟨rfl,hb3⟩
    have HB3 := Hd hb3
    clear hb3
    obtain ⟨q0,q1,q2⟩ := HA.out _ HB3.out
    have hq := Aaj q0
    go_wp2_with fail
    refine (Ae9 _ _ _ _ _ _ L (Adk HF.out.ins) _ HK.out _ (HN.out.below HB3.out)).mono ?_
    rintro e w4 ⟨rfl,hb4⟩
    have HB4 := Hd (HB3.out.trans (hb4.mono HB3.out.size))
    clear hb4 q0 q1 q2 hq
    obtain ⟨q0,q1,q2⟩ := HA.out _ HB4.out
    have hq := Aaj q0
    go_wp2_with (first | (go_at_call 187; refine (Agq _ _ HNM.out _).mono ?_; rintro e w' ⟨rfl,rfl⟩) | fail)
    refine (Adz _ _ _ _ _ _ L HF.out.ins _ HM.out _ (HN.out.below HB4.out)).mono ?_
    rintro e w5 ⟨rfl,hb5⟩
    have HB5 := Hd (HB4.out.trans (hb5.mono HB4.out.size))
    clear hb5 q0 q1 q2 hq
    have hBx := HB.out _ HB5.out
    have r0 := bC hBx 0
    have r1 := bC hBx 1
    have r2 := bC hBx 2
    have s0 := bF hBx 0
    have s1 := bF hBx 1
    have s2 := bF hBx 2
    have hlx := lt_of_block hBx
    have HBX := Hd hBx
    clear hBx
    go_wp2_with (first | (go_at_call 152; refine (Ab4 _ hp _ HSF.out _).mono ?_; rintro e w' ⟨rfl,rfl⟩) | fail)
    change bodyPost _ _ _ _ _ (put3 w5 (w.heap.size + 1) (.int .i64 d) (.string ⟨nm.toArray⟩) (.bool sf))
    obtain ⟨c0,c1,c2⟩ := Aau HBX.out (.int .i64 d) (.string ⟨nm.toArray⟩) (.bool sf)
    have HBF := Hd (HE.out w5 HB5.out (.int .i64 d) (.string ⟨nm.toArray⟩) (.bool sf))
    generalize put3 w5 (w.heap.size + 1) (.int .i64 d) (.string ⟨nm.toArray⟩) (.bool sf) = wF at *
    refine bodyPost_ret (v := .tuple #[.agg #[.int .i64 d,.string ⟨nm.toArray⟩,.bool sf],.int .i64 0]) (by simp [results,Tryz.results179,go_sem,c0,c1,c2]) rfl ⟨rfl,HBF.out⟩
 ·have hz2 := HZ.out
  unfold Afs Abp at hz2
  rw [HP.out] at hz2
  simp only [h1,ne_eq,not_false_eq_true,if_true,Prod.mk.injEq] at hz2
  obtain ⟨rfl,rfl,rfl,rfl⟩ := hz2
  have hb1 : (pe != 0) = true := by simpa using h1
  go_enter Tryz.func179,Tryz.ntmps179
  go_wp2_with fail
  rw [← hw2]
  clear hw2
  refine (Ad1 _ _ _ _ _ _ hp L HF.out _ _ _ HP.out _ HN.out).mono ?_
  rintro e w3 ⟨rfl,hb3⟩
  have HB3 := Hd hb3
  have hB3 := HB.out _ hb3
  have r0 := bC hB3 0
  have r1 := bC hB3 1
  have r2 := bC hB3 2
  have s0 := bF hB3 0
  have s1 := bF hB3 1
  have s2 := bF hB3 2
  have HB3' := Hd hB3
  have hl3 := lt_of_block hB3
  clear hb3 hB3
  go_wp2_with fail
  change bodyPost _ _ _ _ _ (put3 w3 (w.heap.size + 1) (.int .i64 0) (.string ⟨#[]⟩) (.bool false))
  obtain ⟨c0,c1,c2⟩ := Aau HB3'.out (.int .i64 0) (.string ⟨#[]⟩) (.bool false)
  have HBF := Hd (HE.out w3 HB3.out (.int .i64 0) (.string ⟨#[]⟩) (.bool false))
  generalize put3 w3 (w.heap.size + 1) (.int .i64 0) (.string ⟨#[]⟩) (.bool false) = wF at *
  refine bodyPost_ret (v := .tuple #[.agg #[.int .i64 0,.string ⟨#[]⟩,.bool false],.int .i64 pe]) (by simp [results,Tryz.results179,go_sem,c0,c1,c2]) rfl ⟨rfl,HBF.out⟩
def Aj6 (W : World) (c : Nat) : Prop := ∀ j s u,W.cell? ⟨c,j,none⟩ = some (.string s) → W.cell? ⟨c,j + 1,none⟩ = some u → ∃ s',u = .string s'
theorem Alz {W W' : World} {c : Nat} {a : Option Addr} {cap : Nat} {L : List Ino} (h : Aah W a cap L) (hc : Aj6 W c) (hb : ∀ k,k ≠ c → W'.heap[k]? = W.heap[k]?) : Aah W' a cap L := by
 have hsame : ∀ b j,b ≠ c → W'.cell? ⟨b,j,none⟩ = W.cell? ⟨b,j,none⟩ := fun b j hn => World.cell?_of_block (a := ⟨b,j,none⟩) (hb b hn)
 refine ⟨h.1,h.2.1,fun i hi => ?_⟩
 obtain ⟨b,o,e,hn⟩ := h.2.2 i hi
 obtain ⟨v,hv,ka,kc,rfl,h1,h2,h3⟩ := hn.kids
 have hbc : b ≠ c := fun e => by
  subst e
  obtain ⟨s',e'⟩ := hc _ _ _ hn.data hv
  cases e'
 exact ⟨b,o,e,⟨(hsame b _ hbc).trans hn.kind,(hsame b _ hbc).trans hn.mode,(hsame b _ hbc).trans hn.links,(hsame b _ hbc).trans hn.data,⟨_,(hsame b _ hbc).trans hv,ka,kc,rfl,h1,h2,fun j hj => by
  obtain ⟨b',o',e',c0,c1⟩ := h3 j hj
  have hb' : b' ≠ c := fun e => by
   subst e
   obtain ⟨s',e2⟩ := hc _ _ _ c0 c1
   cases e2
  exact ⟨b',o',e',(hsame b' _ hb').trans c0,(hsame b' _ hb').trans c1⟩⟩,(hsame b _ hbc).trans hn.up⟩⟩
theorem Af0 {W : World} {c : Nat} {t : TypeId} {a0 a3 a4 : Option Addr} {n0 c0 n3 c3 n4 c4 : Nat} {i1 i2 : Int} {d0 d1 : ByteArray} (h : W.heap[c]? = some (.cells #[.slice a0 n0 c0,.int .i64 i1,.int .i64 i2,.slice a3 n3 c3,.slice a4 n4 c4,.string d0,.string d1] t (0,0))) : Aj6 W c := by
 intro j s u h1 h2
 rw [bC h] at h1 h2
 match j,h1,h2 with
 | 0,h1,_ => cases h1
 | 1,h1,_ => cases h1
 | 2,h1,_ => cases h1
 | 3,h1,_ => cases h1
 | 4,h1,_ => cases h1
 | 5,_,h2 => exact ⟨_,(Option.some.inj h2).symm⟩
 | 6,_,h2 => simp at h2
 | j + 7,h1,_ => simp at h1
theorem Ahz {W : World} {c : Nat} {t : TypeId} {cs : Array Value} (h : W.heap[c]? = some (.cells cs t (0,0))) (hi : ∀ (j : Nat) (v : Value),cs[j]? = some v → ∃ n : Int,v = .int .i64 n) : Aj6 W c := by
 intro j s u h1 _
 rw [bC h] at h1
 obtain ⟨n,e⟩ := hi j _ h1
 cases e
theorem Agb {W W' : World} {c : Nat} {A : KAd} {K : Krn} (h : KernIn W A K) (hc : Aj6 W c) (hb : ∀ k,k ≠ c → W'.heap[k]? = W.heap[k]?) (hp : ∀ x,A.pa = some x → 0 < K.pipes.length → x.block ≠ c) (ho : ∀ x,A.oa = some x → 0 < K.opens.length → x.block ≠ c) : KernIn W' A K := by
 refine ⟨Alz h.tree hc hb,?_,?_⟩
 ·refine ⟨h.pipes.1,h.pipes.2.1,h.pipes.2.2.1,fun j hj => ?_⟩
  obtain ⟨b,o,e1,e2⟩ := h.pipes.2.2.2 j hj
  have h0 : 0 < K.pipes.length := by
   rcases Nat.eq_zero_or_pos K.pipes.length with e | e
   ·rw [e] at hj; omega
   ·exact e
  exact ⟨b,o,e1,(World.cell?_of_block (a := ⟨b,o + j,none⟩) (hb b (hp _ e1 h0))).trans e2⟩
 ·refine ⟨h.opens.1,h.opens.2.1,h.opens.2.2.1,fun j hj => ?_⟩
  obtain ⟨b,o,e1,e2⟩ := h.opens.2.2.2 j hj
  have h0 : 0 < K.opens.length := by
   rcases Nat.eq_zero_or_pos K.opens.length with e | e
   ·rw [e] at hj; omega
   ·exact e
  exact ⟨b,o,e1,(World.cell?_of_block (a := ⟨b,o + j,none⟩) (hb b (ho _ e1 h0))).trans e2⟩
section
variable {B g : Nat} {A : KAd} {K : Krn} {f : List Int}
theorem Wk.setOut0 {W : World} (h : Wk W B g A K f) (o : List UInt8) : Wk (W.setCell ⟨g,5,none⟩ (.string ⟨o.toArray⟩)) B g A { K with out0 := o } f ∧ Stepw g A W A (W.setCell ⟨g,5,none⟩ (.string ⟨o.toArray⟩)) :=
 ⟨h.setBox (Aa0 h.box 5 _) (But.set ..) rfl rfl rfl h.flen,.of_but (But.set ..) (.inl rfl)⟩
theorem Wk.setOut1 {W : World} (h : Wk W B g A K f) (o : List UInt8) : Wk (W.setCell ⟨g,6,none⟩ (.string ⟨o.toArray⟩)) B g A { K with out1 := o } f ∧ Stepw g A W A (W.setCell ⟨g,6,none⟩ (.string ⟨o.toArray⟩)) :=
 ⟨h.setBox (Aa0 h.box 6 _) (But.set ..) rfl rfl rfl h.flen,.of_but (But.set ..) (.inl rfl)⟩
theorem Arp (go j : Nat) (S : ByteArray) (hS : S.size ≤ 1000000) (w : World) (hW : Wk w B g A K f) (hBw : B ≤ w.heap.size) (hj : j < K.opens.length) (ha : A.oa = some ⟨go,0,none⟩) (hat : K.opens[j].at_ = 0) (hl : K.out0.length ≤ 65536) (m er : Int) (hm : m = if 65536 - (K.out0.length : Int) < (S.size : Int) then 0 else (S.size : Int)) (he : er = if 65536 - (K.out0.length : Int) < (S.size : Int) then 28 else 0) :
  Calls Tryz.prog 104 #[.pointer (some ⟨g,0,none⟩),.pointer (some ⟨go,j * 5,none⟩),.string S] w (Aen B g { K with out0 := K.out0 ++ S.data.toList } f (.int .i64 m) er w) := by
 have HW := Hd hW
 have HBw := Hd hBw
 have q := hW.kcells.2.2.2.2.2.1
 obtain ⟨-,y0,x1,y2,y3,y4,gol,-⟩ := hW.all hj ha
 rw [hat] at x1
 have fq := hW.free 5
 have gl := hW.lt
 obtain ⟨D,hD⟩ : ∃ D : ByteArray,D = ⟨K.out0.toArray⟩ := ⟨_,rfl⟩
 have hDs : D.size = K.out0.length := by rw [hD]; simp [ByteArray.size]
 rw [← hD] at q
 have HDD := Hd (show (⟨(K.out0 ++ S.data.toList).toArray⟩ : ByteArray) = D ++ S by rw [hD]; exact (ByteArray.ext (by simp)))
 obtain ⟨a1,a2⟩ := hW.setOut0 (K.out0 ++ S.data.toList)
 rw [HDD.out] at a1 a2
 have HA1 := Hd a1
 have HA2 := Hd a2
 rw [← hDs] at hm he hl
 have hrw : IntKind.i64.wrap ((D.size : Int) + (S.size : Int)) = (D.size : Int) + (S.size : Int) := by rw [IntKind.wrap_i64]; omega
 have hsm : ¬ 9223372036854775807 < D.size + S.size := by omega
 clear hW hBw hat y0 y2 y3 y4 hD hDs a1 a2 ha
 by_cases hb : 65536 - (D.size : Int) < (S.size : Int)
 ·rw [if_pos hb] at hm he
  subst hm he
  have d1 : decide ((D.size : Int) + (S.size : Int) > 65536) = true := decide_eq_true (by omega)
  have d2 : decide (65536 < (D.size : Int) + (S.size : Int)) = true := decide_eq_true (by omega)
  clear hb
  go_enter Tryz.func104,Tryz.ntmps104
  go_wp2_with fail
  go_quiet (fail)
  go_wp2_with fail
  go_ret2
  exact ⟨rfl,(Aay (Below.refl _ _) _).mono HBw.out,fun h => absurd h (show ¬ (28 : Int) = 0 by decide)⟩
 ·rw [if_neg hb] at hm he
  subst hm he
  have d1 : decide ((D.size : Int) + (S.size : Int) > 65536) = false := decide_eq_false (by omega)
  have d2 : decide (65536 < (D.size : Int) + (S.size : Int)) = false := decide_eq_false (by omega)
  clear hb
  go_enter Tryz.func104,Tryz.ntmps104
  go_wp2_with fail
  go_quiet (fail)
  go_wp2_with fail
  go_region
  all_goals
   go_wp2_with fail
   go_ret2
   exact ⟨rfl,(HW.out.low HA2.out HBw.out).trans ⟨rfl,rfl,rfl,Nat.le_refl _,fun _ _ => rfl⟩,fun _ => ⟨_,HA1.out.below ⟨rfl,rfl,rfl,Nat.le_refl _,fun _ _ => rfl⟩⟩⟩
theorem Arx (go j : Nat) (S : ByteArray) (hS : S.size ≤ 1000000) (w : World) (hW : Wk w B g A K f) (hBw : B ≤ w.heap.size) (hj : j < K.opens.length) (ha : A.oa = some ⟨go,0,none⟩) (hat : K.opens[j].at_ = 1) (hl : K.out1.length ≤ 65536) (m er : Int) (hm : m = if 65536 - (K.out1.length : Int) < (S.size : Int) then 0 else (S.size : Int)) (he : er = if 65536 - (K.out1.length : Int) < (S.size : Int) then 28 else 0) :
  Calls Tryz.prog 104 #[.pointer (some ⟨g,0,none⟩),.pointer (some ⟨go,j * 5,none⟩),.string S] w (Aen B g { K with out1 := K.out1 ++ S.data.toList } f (.int .i64 m) er w) := by
 have HW := Hd hW
 have HBw := Hd hBw
 have q := hW.kcells.2.2.2.2.2.2
 obtain ⟨-,y0,x1,y2,y3,y4,gol,-⟩ := hW.all hj ha
 rw [hat] at x1
 have fq := hW.free 6
 have gl := hW.lt
 obtain ⟨D,hD⟩ : ∃ D : ByteArray,D = ⟨K.out1.toArray⟩ := ⟨_,rfl⟩
 have hDs : D.size = K.out1.length := by rw [hD]; simp [ByteArray.size]
 rw [← hD] at q
 have HDD := Hd (show (⟨(K.out1 ++ S.data.toList).toArray⟩ : ByteArray) = D ++ S by rw [hD]; exact (ByteArray.ext (by simp)))
 obtain ⟨a1,a2⟩ := hW.setOut1 (K.out1 ++ S.data.toList)
 rw [HDD.out] at a1 a2
 have HA1 := Hd a1
 have HA2 := Hd a2
 rw [← hDs] at hm he hl
 have hrw : IntKind.i64.wrap ((D.size : Int) + (S.size : Int)) = (D.size : Int) + (S.size : Int) := by rw [IntKind.wrap_i64]; omega
 have hsm : ¬ 9223372036854775807 < D.size + S.size := by omega
 clear hW hBw hat y0 y2 y3 y4 hD hDs a1 a2 ha
 by_cases hb : 65536 - (D.size : Int) < (S.size : Int)
 ·rw [if_pos hb] at hm he
  subst hm he
  have d1 : decide ((D.size : Int) + (S.size : Int) > 65536) = true := decide_eq_true (by omega)
  have d2 : decide (65536 < (D.size : Int) + (S.size : Int)) = true := decide_eq_true (by omega)
  clear hb
  go_enter Tryz.func104,Tryz.ntmps104
  go_wp2_with fail
  go_quiet (fail)
  go_wp2_with fail
  go_ret2
  exact ⟨rfl,(Aay (Below.refl _ _) _).mono HBw.out,fun h => absurd h (show ¬ (28 : Int) = 0 by decide)⟩
 ·rw [if_neg hb] at hm he
  subst hm he
  have d1 : decide ((D.size : Int) + (S.size : Int) > 65536) = false := decide_eq_false (by omega)
  have d2 : decide (65536 < (D.size : Int) + (S.size : Int)) = false := decide_eq_false (by omega)
  clear hb
  go_enter Tryz.func104,Tryz.ntmps104
  go_wp2_with fail
  go_quiet (fail)
  go_wp2_with fail
  go_region
  all_goals
   go_wp2_with fail
   go_ret2
   exact ⟨rfl,(HW.out.low HA2.out HBw.out).trans ⟨rfl,rfl,rfl,Nat.le_refl _,fun _ _ => rfl⟩,fun _ => ⟨_,HA1.out.below ⟨rfl,rfl,rfl,Nat.le_refl _,fun _ _ => rfl⟩⟩⟩
end
theorem Agy (q : Int) (v : Bool) (h : Ah4 q = v) (w : World) : Calls Tryz.prog 156 #[.int .i64 q] w fun e w' => e = .returned (.bool v) ∧ w = w' := by
 subst h
 unfold Ah4
 by_cases h0 : 0 ≤ q
 ·have hb0 : decide ((0 : Int) ≤ q) = true := decide_eq_true h0
  rw [hb0]
  go_enter Tryz.func156,Tryz.ntmps156
  go_wp2_with fail
  go_ret
  exact ⟨by rfl,rfl⟩
 ·have hb0 : decide ((0 : Int) ≤ q) = false := decide_eq_false h0
  rw [hb0]
  go_enter Tryz.func156,Tryz.ntmps156
  go_wp2_with fail
  go_ret
  exact ⟨by rfl,rfl⟩
theorem Anw (c0 c1 c2 c5 : Int) (c3 : ByteArray) (c4 : Value) (w : World) : Calls Tryz.prog 182 #[.agg #[.int .i64 c0,.int .i64 c1,.int .i64 c2,.string c3,c4,.int .i64 c5]] w fun e w' => e = .returned (.bool (c0 == 0)) ∧ Below w.heap.size w w' := by
 have HB := Hd (Aab w (.cells #[.int .i64 c0,.int .i64 c1,.int .i64 c2,.string c3,c4,.int .i64 c5] 66))
 go_enter Tryz.func182,Tryz.ntmps182
 go_wp2_with fail
 go_ret
 exact ⟨rfl,HB.out⟩
def Ag9 (L : List Ino) : Int := match Ahm L L.length 0 with | none => -1 | some k => k
theorem Ahw : ∀ (n k : Nat) (L : List Ino) (j : Nat),k ≤ j → j ≤ k + n → (∀ t,k ≤ t → t < j → (Aaf L (t : Int)).kind ≠ 0) → Ahm L n k = Ahm L (k + n - j) j
 | 0,k,L,j,h1,h2,_ => by
  have : j = k := by omega
  subst this
  rw [Nat.add_zero,Nat.sub_self]
 | n + 1,k,L,j,h1,h2,h3 => by
  by_cases e : j = k
  ·subst e
   rw [show j + (n + 1) - j = n + 1 by omega]
  ·rw [Ahm,if_neg (h3 k (Nat.le_refl _) (by omega)),Ahw n (k + 1) L j (by omega) (by omega) (fun t h4 h5 => h3 t (by omega) h5),show k + 1 + n - j = k + (n + 1) - j by omega]
theorem Atb (a : Option Addr) (cap : Nat) (L : List Ino) (hL : L.length ≤ 1000) (w : World) (hN : Aah w a cap L) :
  Calls Tryz.prog 181 #[.slice a L.length cap,.func (.func 182) #[] #[]] w fun e w' => e = .returned (.int .i64 (Ag9 L)) ∧ Below w.heap.size w w' := by
 have HN := Hd hN
 clear hN
 go_enter Tryz.func181,Tryz.ntmps181
 go_wp2_with fail
 go_loopw [5,8] (fun _ iv wr => ∃ K : Nat,K ≤ L.length ∧ iv = .int .i64 K ∧ Hid (∀ t,t < K → (Aaf L (t : Int)).kind ≠ 0) ∧ Hid (Below w.heap.size w wr)) (fun _ iv _ => L.length - (intOf iv).toNat)
 case atStart => exact ⟨0,Nat.zero_le _,rfl,fun _ h => absurd h (Nat.not_lt_zero _),Below.refl _ _⟩
 case round =>
  obtain ⟨K,hK,rfl,HFR,HBR⟩ := hrel
  by_cases hlt : K < L.length
  ·obtain ⟨bb,o,rfl,hx⟩ := (HN.out.below HBR.out).2.2 K hlt
   have h0 := hx.kind
   have h1 := hx.mode
   have h2 := hx.links
   have h3 := hx.data
   obtain ⟨kv,h4,hks⟩ := hx.kids
   have h5 := hx.up
   obtain ⟨ka,kcap,rfl,-,-,-⟩ := hks
   have hlt' : (K : Int) < (L.length : Int) := by omega
   have hk0 : (0 : Int) ≤ (K : Int) := by omega
   clear hx
   obtain ⟨kd,hkd⟩ : ∃ kd,kd = L[K].kind := ⟨_,rfl⟩
   have HKD := Hd (show (Aaf L (K : Int)).kind = kd by rw [Aad L K hlt,hkd])
   rw [← hkd] at h0
   clear hkd
   go_wp2_with fail
   refine (Anw _ _ _ _ _ _ _).mono ?_
   rintro e w2 ⟨rfl,hb2⟩
   have HB2 := Hd (HBR.out.trans (hb2.mono HBR.out.size))
   clear hb2 h0 h1 h2 h3 h4 h5
   cases hz : (kd == 0) with
   | true =>
    have hfin := Hd (show Ag9 L = (K : Int) by
     unfold Ag9
     rw [Ahw L.length 0 L K (Nat.zero_le _) (by omega) (fun t _ h => HFR.out t h),show 0 + L.length - K = (L.length - K - 1) + 1 by omega,Ahm,if_pos (by rw [HKD.out]; simpa using hz)])
    go_wp2_with fail
    go_ret
    exact ⟨by rw [hfin.out]; rfl,HB2.out⟩
   | false =>
    have hfr := Hd (show ∀ t,t < K + 1 → (Aaf L (t : Int)).kind ≠ 0 from fun t ht => by
     by_cases e : t = K
     ·subst e
      rw [HKD.out]
      simpa using hz
     ·exact HFR.out t (by omega))
    go_wp2_with fail
    go_roundw
    case rel => exact ⟨K + 1,by omega,by go_num,hfr,HB2⟩
    case measure => simp [intOf] <;> omega
  ·have hfin := Hd (show Ag9 L = -1 by
    unfold Ag9
    rw [Ahw L.length 0 L L.length (Nat.zero_le _) (by omega) (fun t _ h => HFR.out t (by omega)),show 0 + L.length - L.length = 0 by omega]
    rfl)
   go_wp2_with fail
   go_ret
   exact ⟨by rw [hfin.out]; rfl,HBR.out⟩
def Acg (L : List Ino) (d : Int) (sl : Bool) (kind : Int) : Int := if sl = true ∧ kind ≠ 2 then 20 else if 1024 ≤ (Aaf L d).kids.length then 28 else 0
theorem Anr (a : Option Addr) (cap : Nat) (m b : Int) (d : Nat) (s : ByteArray) (sl : Bool) (kind : Int) (L : List Ino) (_hL : L.length ≤ 1000) (hd : d < L.length) (w : World) (hN : Aah w a cap L) :
  Calls Tryz.prog 180 #[.agg #[.int .i64 d,.string s,.bool sl],.agg #[.slice a L.length cap,.int .i64 m,.int .i64 b],.int .i64 kind] w fun e w' => e = .returned (.int .i64 (Acg L d sl kind)) ∧ Below w.heap.size w w' := by
 obtain ⟨w2,hw2,hb2,hs2,hA,hB⟩ := Aam w #[.int .i64 d,.string s,.bool sl] #[.slice a L.length cap,.int .i64 m,.int .i64 b] 203 24
 subst hw2
 have HB2 := Hd hb2
 obtain ⟨bb,o,rfl,hx⟩ := hN.2.2 d hd
 obtain ⟨kv,h4,hks⟩ := hx.kids
 obtain ⟨K,hK⟩ : ∃ K,K = L[d].kids := ⟨_,rfl⟩
 rw [← hK] at hks
 obtain ⟨ka,kcap,rfl,hkc,hkm,-⟩ := hks
 have HKK := Hd (show (Aaf L (d : Int)).kids = K by rw [Aad L d hd,hK])
 have hbl := Aaj h4
 have hlt' : (d : Int) < (L.length : Int) := by omega
 have hk0 : (0 : Int) ≤ (d : Int) := by omega
 unfold maxLen at hkm
 clear hx hA hB hN hb2 hs2 hK
 cases sl with
 | true =>
  by_cases hk : kind = 2
  ·subst hk
   by_cases hl : 1024 ≤ K.length
   ·have hfin := Hd (show Acg L d true 2 = 28 by unfold Acg; rw [if_neg (by simp),if_pos (by rw [HKK.out]; exact hl)])
    have hl' : (1024 : Int) ≤ (K.length : Int) := by omega
    go_enter Tryz.func180,Tryz.ntmps180
    go_wp2_with fail
    go_ret
    exact ⟨by rw [hfin.out]; rfl,HB2.out⟩
   ·have hfin := Hd (show Acg L d true 2 = 0 by unfold Acg; rw [if_neg (by simp),if_neg (by rw [HKK.out]; exact hl)])
    have hl' : ¬ (1024 : Int) ≤ (K.length : Int) := by omega
    go_enter Tryz.func180,Tryz.ntmps180
    go_wp2_with fail
    go_ret
    exact ⟨by rw [hfin.out]; rfl,HB2.out⟩
  ·have hfin := Hd (show Acg L d true kind = 20 by unfold Acg; rw [if_pos ⟨rfl,hk⟩])
   have hkb : (kind != 2) = true := by simpa using hk
   go_enter Tryz.func180,Tryz.ntmps180
   go_wp2_with fail
   go_ret
   exact ⟨by rw [hfin.out]; rfl,HB2.out⟩
 | false =>
  by_cases hl : 1024 ≤ K.length
  ·have hfin := Hd (show Acg L d false kind = 28 by unfold Acg; rw [if_neg (by simp),if_pos (by rw [HKK.out]; exact hl)])
   have hl' : (1024 : Int) ≤ (K.length : Int) := by omega
   go_enter Tryz.func180,Tryz.ntmps180
   go_wp2_with fail
   go_ret
   exact ⟨by rw [hfin.out]; rfl,HB2.out⟩
  ·have hfin := Hd (show Acg L d false kind = 0 by unfold Acg; rw [if_neg (by simp),if_neg (by rw [HKK.out]; exact hl)])
   have hl' : ¬ (1024 : Int) ≤ (K.length : Int) := by omega
   go_enter Tryz.func180,Tryz.ntmps180
   go_wp2_with fail
   go_ret
   exact ⟨by rw [hfin.out]; rfl,HB2.out⟩
def Anh (K : Krn) (i : Nat) : Prop := ∃ hi : i < K.pipes.length,Abw K.pipes[i] = true ∧ K.pipes[i].rd = (Abl K.opens 2 i : Int) ∧ (K.pipes[i].wr = (Abl K.opens 3 i : Int) ∨ (i = 0 ∧ K.pipes[i].wr ≤ (Abl K.opens 3 i : Int)))
def FdOk (K : Krn) (f : List Int) (i : Nat) : Prop := fdA f i = 0 ∨ ∃ j : Nat,∃ hj : j < K.opens.length,fdA f i = (j : Int) + 1 ∧ K.opens[j].kind ≠ 0 ∧ (f.count (fdA f i) : Int) ≤ K.opens[j].refs
theorem Avn {K : Krn} {f : List Int} (hf : f.length = 10) : FitK K f ↔ FitP K.tree K.m K.b ∧ K.pipes.length ≤ 32 ∧ K.opens.length ≤ 64 ∧ K.out0.length ≤ 65536 ∧ K.out1.length ≤ 65536 ∧ (∀ i (hi : i < K.opens.length),Abb K.tree K.pipes.length K.opens[i]) ∧ (∀ i,i < K.pipes.length → Anh K i) ∧ (∀ i,i < 10 → FdOk K f i) := by
 constructor
 ·intro h
  refine ⟨h.tree,h.np,h.no,h.o0,h.o1,h.opens,fun i hi => ?_,fun i hi => ?_⟩
  ·obtain ⟨h1,h2,h3⟩ := h.pipes i hi
   unfold Afz at h2 h3
   exact ⟨hi,h1,by omega,by omega⟩
  ·have hi' : i < f.length := by omega
   have h1 := h.fds i hi'
   have e : fdA f i = f[i] := Abd f i hi' 0
   unfold FdOk
   rw [e]
   exact h1
 ·rintro ⟨h1,h2,h3,h4,h5,h6,h7,h8⟩
  refine ⟨h1,h2,h3,h4,h5,h6,fun i hi => ?_,hf,fun i hi => ?_⟩
  ·obtain ⟨_,k1,k2,k3⟩ := h7 i hi
   unfold Afz
   exact ⟨k1,k2.trans (by omega),k3.imp (fun h => h.trans (by omega)) (fun h => ⟨h.1,Int.le_trans h.2 (by omega)⟩)⟩
  ·have h9 := h8 i (by omega)
   have e : fdA f i = f[i] := Abd f i hi 0
   unfold FdOk at h9
   rw [e] at h9
   exact h9
def cntK (O : List Opn) (kd : Int) (np : Nat) : List Int := (List.range np).map fun i => (Abl O kd i : Int)
theorem Ae2 (O : List Opn) (kd : Int) (np : Nat) : (cntK O kd np).length = np := by simp [cntK]
theorem Auz (kd : Int) (np : Nat) : cntK [] kd np = List.replicate np 0 := by
 apply List.ext_getElem (by simp [cntK])
 intro i h1 h2
 simp [cntK,Abl]
theorem Ahj (O : List Opn) (kd : Int) (np i : Nat) (hi : i < np) : (cntK O kd np)[i]'(by rw [Ae2]; exact hi) = (Abl O kd i : Int) := by simp [cntK]
theorem Ag3 (O : List Opn) (o : Opn) (kd : Int) (np : Nat) (h : o.kind ≠ kd) : cntK (O ++ [o]) kd np = cntK O kd np := by
 unfold cntK
 apply List.map_congr_left
 intro i _
 rw [Aiq,if_neg (by unfold Acd; simp [h])]
 omega
theorem As9 (O : List Opn) (o : Opn) (kd : Int) (np n : Nat) (h : o.kind = kd) (hat : o.at_ = (n : Int)) (hn : n < np) : cntK (O ++ [o]) kd np = (cntK O kd np).set n ((Abl O kd n : Int) + 1) := by
 apply List.ext_getElem (by simp [cntK])
 intro i h1 h2
 have hi : i < np := by rw [Ae2] at h1; exact h1
 rw [Ahj _ _ _ i hi,List.getElem_set,Aiq]
 by_cases e : n = i
 ·subst e
  rw [if_pos (by unfold Acd; simp [h,hat]),if_pos rfl]
 ·rw [if_neg (by unfold Acd; simp [hat]; intro _; omega),if_neg e,Ahj _ _ _ i hi]
  omega
theorem Apl {T : Type} (O : List T) (k : Nat) (h : k < O.length) : O.take (k + 1) = O.take k ++ [O[k]] := List.take_succ_eq_append_getElem h
theorem Avg (O : List Opn) (kd : Int) (i : Nat) : Abl O kd i ≤ O.length := List.countP_le_length
def cntF (f : List Int) (x : Int) (n : Nat) : Nat := (f.take n).count x
theorem Amh (f : List Int) (hf : f.length = 10) (x : Int) (n : Nat) (hn : n < 10) : cntF f x (n + 1) = cntF f x n + (if fdA f n = x then 1 else 0) := by
 unfold cntF
 have e : fdA f n = f[n]'(by omega) := Abd f n (by omega) 0
 rw [Apl f n (by omega),List.count_append,List.count_singleton,e]
 congr 1
 by_cases h : f[n]'(by omega) = x
 ·rw [if_pos h]; simp [h]
 ·rw [if_neg h,if_neg (by simpa using h)]
theorem Aot (f : List Int) (hf : f.length = 10) (x : Int) : cntF f x 10 = f.count x := by
 unfold cntF
 rw [List.take_of_length_le (by omega)]
theorem Aut (f : List Int) (x : Int) (n : Nat) : cntF f x n ≤ n := Nat.le_trans List.count_le_length (by simp; omega)
end Go.Proofs.YtkdfbliiblojoaaGreatDoor
