import Derived.Test.YtkdfbliiblojoaaGreatDoorK15
set_option linter.all false
set_option maxRecDepth 100000
set_option maxHeartbeats 64000000
namespace Go.Proofs.YtkdfbliiblojoaaGreatDoor
open Go Go.RowKit
def Al2 (K:Krn):Prop:=∀ i (hi:i < K.pipes.length),Ace K.pipes[i]=true
section
variable {B g : Nat} {A : KAd} {K : Krn} {f : List Int}
theorem Wk.all {W:World}(h:Wk W B g A K f){j go:Nat}(hj:j < K.opens.length)(ha:A.oa=some ⟨go,0,none⟩) :
  W.cell? ⟨g,4,none⟩=some (.slice (some ⟨go,0,none⟩) K.opens.length A.oc)/\OpnAt W go j K.opens[j]:=by
 obtain⟨go',ha',-,ho⟩:=h.opn hj
 rw[ha]at ha'
 obtain rfl:go=go':=by simpa using ha'
 have q:=h.kcells.2.2.2.2.1
 rw[ha]at q
 exact⟨q,ho⟩
theorem Ati (fd:Int)(w:World)(hW:Wk w B g A K f)(hol:K.opens.length<=1000)(hL:isFd fd=true->Led K f fd.toNat)(hP:Al2 K):Calls Tryz.prog 60 #[.pointer (some ⟨g,0,none⟩),.int .i64 fd] w fun e w'=>e=.returned (.int .i64 (Aeg K f fd).2.2)/\Wk w' B g A (Aeg K f fd).1 (Aeg K f fd).2.1/\Stepw g A w A w':=by
 by_cases hz:isFd fd=false∨f.getD fd.toNat 0=0
 ·have HE:=Hd (show Aeg K f fd=(K,f,9) by unfold Aeg;rw[if_pos hz])
  have HPL:=Hd (show Acv f fd=(0,false) by
   unfold Acv
   rw[if_neg]
   rintro⟨h1,h2⟩
   rcases hz with h|h
   ·rw[h1]at h;cases h
   ·exact h2 h)
  have HC:=Hd (Amz fd w hW hol hL)
  rw[HE.out]
  have HW:=Hd hW
  clear hW hz hL hP
  go_enter Tryz.func60,Tryz.ntmps60
  go_wp2_with fail
  refine HC.out.mono ?_
  rintro e w2 ⟨rfl,hb2⟩
  rw[HPL.out]
  have HB2:=Hd hb2
  clear hb2
  go_wp2_with fail
  go_ret
  exact⟨rfl,HW.out.below HB2.out,.of_below HB2.out⟩
 ·simp only[not_or]at hz
  have hfd:isFd fd=true:=by simpa using hz.1
  obtain⟨n,rfl,hn⟩:=Ac9 hfd
  have hl:=hL hfd
  rw[Int.toNat_natCast]at hl hz
  obtain⟨j,hj,e1,e2,e3,e4,e5⟩:∃ j:Nat,∃ hj:j < K.opens.length,f.getD n 0=(j:Int)+1/\K.opens[j].kind≠0/\Ad7 K.tree K.pipes.length K.opens[j]=true/\1<=K.opens[j].refs/\K.opens[j].refs<=1000:=hl.resolve_left hz.2
  have HE:=Hd (show Aeg K f (n:Int)=(Abg K j,f.set n 0,0) by
   unfold Aeg Abh
   rw[Int.toNat_natCast,if_neg (by rw[not_or];exact⟨by rw[hfd];decide,hz.2⟩),if_neg hz.2,e1,show ((j:Int)+1 - 1).toNat=j by omega])
  have HPL:=Hd (show Acv f (n:Int)=((j:Int),true) by
   unfold Acv
   rw[if_pos ⟨hfd,by rw[Int.toNat_natCast];exact hz.2⟩,Int.toNat_natCast,e1,show (j:Int)+1 - 1=(j:Int) by omega])
  have HC:=Hd (Amz (n:Int) w hW hol hL)
  rw[HE.out]
  obtain⟨go,ha,hgo,-⟩:=hW.opn hj
  have HA:=Hd ha
  have HW:=Hd hW
  have b0:(0:Int)<=(n:Int):=by omega
  have b1:(n:Int) < 10:=by omega
  have b2:(0:Int)<=(j:Int):=by omega
  have b3:(j:Int) < (K.opens.length:Int):=by omega
  obtain⟨r,hr⟩:∃ r:Int,K.opens[j].refs=r:=⟨_,rfl⟩
  have HR:=Hd hr
  have HK:=Hd e3
  have HKN:=Hd e2
  have HAF:=Hd hP
  rw[hr]at e4 e5
  clear hW hz hL hP hl e1 e2 e3 ha hr hfd
  go_enter Tryz.func60,Tryz.ntmps60
  go_wp2_with fail
  refine HC.out.mono ?_
  rintro e w2 ⟨rfl,hb2⟩
  rw[HPL.out]
  have HW2:=Hd (HW.out.below hb2)
  have HST2:=Hd (Stepw.of_below (g:=g) (A:=A) hb2)
  clear hb2
  have gl:=HW2.out.lt
  have cn:=HW2.out.fd n hn
  have fn_:=HW2.out.free (7+n)
  go_upto_region 5 with fail
  obtain⟨w3,hw3⟩:∃ z,z=w2.setCell ⟨g,7+n,none⟩ (.int .i64 0):=⟨_,rfl⟩
  have HW3:=Hd (show Wk w3 B g A K (f.set n 0) by rw[hw3];exact(HW2.out.setFd hn 0).1)
  have HST3:=Hd (show Stepw g A w A w3 by rw[hw3];exact HST2.out.trans (HW2.out.setFd hn 0).2)
  rw[<-hw3]
  clear gl cn fn_ hw3
  obtain⟨q4,x0,x1,x2,x3,x4,xl,xf⟩:=HW3.out.all hj HA.out
  have gl:=HW3.out.lt
  have xf4:=xf (j * 5+4)
  rw[HR.out]at x4
  have hrw:IntKind.i64.wrap (r - 1)=r - 1:=by rw[IntKind.wrap_i64];omega
  clear xf
  go_upto_region 7 with fail
  obtain⟨w4,hw4⟩:∃ z,z=w3.setCell ⟨go,j * 5+4,none⟩ (.int .i64 (r - 1)):=⟨_,rfl⟩
  have HW4:=Hd (show Wk w4 B g A { K with opens:=K.opens.set j { K.opens[j]with refs:=r - 1 } } (f.set n 0) by rw[hw4];exact(HW3.out.storeRefs HA.out hj (r - 1)).1)
  have HST4:=Hd (show Stepw g A w A w4 by rw[hw4];exact HST3.out.trans (HW3.out.storeRefs HA.out hj (r - 1)).2)
  rw[<-hw4]
  clear q4 x0 x1 x2 x3 x4 xl xf4 gl hw4
  have hj4:j < (K.opens.set j { K.opens[j]with refs:=r - 1 }).length:=by rw[List.length_set];exact hj
  have hO4:(K.opens.set j { K.opens[j]with refs:=r - 1 })[j]={ K.opens[j]with refs:=r - 1 }:=List.getElem_set_self ..
  have HAL:=Hd (HW4.out.all hj4 HA.out)
  obtain⟨q4,x0,x1,x2,x3,x4,xl,xf⟩:=HAL.out
  have HO4:=Hd hO4
  rw[show (({ K with opens:=K.opens.set j { K.opens[j]with refs:=r - 1 } }:Krn).opens)[j]={ K.opens[j]with refs:=r - 1 }from hO4]at x0 x1 x2 x3 x4
  have gl:=HW4.out.lt
  have h1w:=HW4.out.free 0
  clear hO4 h1w
  by_cases hone:r=1
  rotate_left
  ·have hd:decide (r - 1 < 1)=false:=decide_eq_false (by omega)
   have HLE:=Hd (show Abg K j={ K with opens:=K.opens.set j { K.opens[j]with refs:=r - 1 } } by rw[Adm K j hj (by rw[HR.out];exact hone),HR.out])
   clear xf hrw
   go_wp2_with fail
   go_ret
   rw[HLE.out]
   exact⟨rfl,HW4.out,HST4.out⟩
  subst hone
  have hLK:=Aiu K j hj HR.out
  have HLK:=Hd hLK
  clear hLK
  have f0:=xf (j * 5)
  have f1:=xf (j * 5+1)
  have f2:=xf (j * 5+2)
  have f3:=xf (j * 5+3)
  have f4:=xf (j * 5+4)
  obtain⟨o,ho⟩:∃ o,o=K.opens[j]:=⟨_,rfl⟩
  have HO:=Hd ho
  rw[<-ho]at x0 x1 x2 x3 x4
  have HKk:Hid (Ad7 K.tree K.pipes.length o=true):=Hd (by rw[ho];exact HK.out)
  have HKn:Hid (o.kind≠0):=Hd (by rw[ho];exact HKN.out)
  clear ho xf hrw
  obtain⟨kd,at_,off,fl,rf⟩:=o
  have hk4:kd=1∨kd=4∨((kd=2∨kd=3)/\∃ i:Nat,∃ hi:i < K.pipes.length,at_=(i:Int)):=by
   have hn0:kd≠0:=HKn.out
   have h:=HKk.out
   unfold Ad7 at h
   simp only at h
   rw[if_neg hn0]at h
   split at h
   ·rename_i e;exact .inl e
   split at h
   ·rename_i e
    rw[Bool.and_eq_true,Amc]at h
    obtain⟨i,hi,e2⟩:=h.1.1
    exact .inr (.inr ⟨.inl e,i,hi,e2⟩)
   split at h
   ·rename_i e
    rw[Bool.and_eq_true,Amc]at h
    obtain⟨i,hi,e2⟩:=h.1.1
    exact .inr (.inr ⟨.inr e,i,hi,e2⟩)
   split at h
   ·rename_i e;exact .inr (.inl e)
   ·cases h
  simp only at x0 x1 x2 x3 x4
  rw[show (1:Int) - 1=0 from rfl]at x4
  rcases hk4 with rfl|rfl|⟨rfl|rfl,i,hi,rfl⟩
  ·have fx:=HW4.out.end_1
   have HSS:=Hd (show ∀ W K' ,Wk W B g A K' (f.set n 0)->K'.opens=K.opens.set j { K.opens[j]with refs:=1 - 1 }->W.cell? ⟨go,j * 5,none⟩=some (.int .i64 1)/\W.cell? ⟨go,j * 5+1,none⟩=some (.int .i64 at_)/\W.cell? ⟨go,j * 5+2,none⟩=some (.int .i64 off)/\W.cell? ⟨go,j * 5+3,none⟩=some (.int .i64 fl)/\W.cell? ⟨go,j * 5+4,none⟩=some (.int .i64 0)/\W.cell? ⟨g,24,none⟩=some (.func (.func 96) #[.pointer (some ⟨g,0,none⟩)] #[])from fun W K' hk ho'=>by
    have hjj:j < K'.opens.length:=by rw[ho'];exact hj4
    obtain⟨-,a0,a1,a2,a3,a4,-,-⟩:=hk.all hjj HA.out
    have hoo:K'.opens[j]=⟨1,at_,off,fl,0⟩:=by
     have h2:=HO4.out
     have h3:K'.opens[j]=(K.opens.set j { K.opens[j]with refs:=1 - 1 })[j]:=by simp only[ho']
     rw[h3,h2,<-HO.out]
     rfl
    rw[hoo]at a0 a1 a2 a3 a4
    exact⟨a0,a1,a2,a3,a4,hk.end_1⟩)
   have HBB:=Hd (Below.refl w4.heap.size w4)
   go_upto_region 8 with fail
   go_region_held3 (fun W=>W.cell? ⟨go,j * 5,none⟩=some (.int .i64 1)/\W.cell? ⟨go,j * 5+1,none⟩=some (.int .i64 at_)/\W.cell? ⟨go,j * 5+2,none⟩=some (.int .i64 off)/\W.cell? ⟨go,j * 5+3,none⟩=some (.int .i64 fl)/\W.cell? ⟨go,j * 5+4,none⟩=some (.int .i64 0)/\W.cell? ⟨g,24,none⟩=some (.func (.func 96) #[.pointer (some ⟨g,0,none⟩)] #[]))
    (first|exact⟨x0,x1,x2,x3,x4,fx⟩|exact HSS.out _ _ (HW4.out.below (Aac HBB.out)) rfl|exact HSS.out _ _ HWN.out rfl|exact HSS.out _ _ (HWN.out.below (Aac (Below.refl _ _))) rfl)
    (first
     | (go_at_call 96;refine(Ayb _ 1 at_ off fl 0 _).mono ?_;rintro e wn ⟨rfl,hbn⟩;have HBN:Hid (Below w4.heap.size w4 wn):=Hd (Aaz HBB.out hbn HBB.out.size ⟨rfl,rfl,rfl,rfl⟩);have HWN:=Hd (HW4.out.below HBN.out);have HSTN:=Hd (HST4.out.below HBN.out);obtain⟨x0,x1,x2,x3,x4,fx⟩:=HSS.out _ _ HWN.out rfl))
   all_goals
    clear x0 x1 x2 x3 x4 xl f0 f1 f2 f3 f4 q4 gl fx
    have hjj:j < (K.opens.set j { K.opens[j]with refs:=1 - 1 }).length:=hj4
    obtain⟨q4,x0,x1,x2,x3,x4,xl,xf⟩:=HWN.out.all hjj HA.out
    have f0:=xf (j * 5)
    have f1:=xf (j * 5+1)
    have f2:=xf (j * 5+2)
    have f3:=xf (j * 5+3)
    have f4:=xf (j * 5+4)
    clear xf x0 x1 x2 x3 x4
    obtain⟨a1,a2⟩:=HWN.out.storeOpn HA.out hjj Aav
    have HA1:=Hd a1
    have HA2:=Hd a2
    clear a1 a2
    go_wp2_with fail
    go_ret
    have e9:Abg K j={ ({ K with opens:=K.opens.set j { K.opens[j]with refs:=1 - 1 } }:Krn)with opens:=(K.opens.set j { K.opens[j]with refs:=1 - 1 }).set j Aav }:=by
     rw[HLK.out,<-HO.out]
     refine Ad8 rfl rfl rfl (by rw[if_neg (by show ¬ ((1:Int)=2∨(1:Int)=3);decide)]) ?_ rfl rfl
     show K.opens.set j Aav=(K.opens.set j _).set j Aav
     rw[List.set_set]
    rw[e9]
    exact⟨rfl,HA1.out,HSTN.out.trans HA2.out⟩
  ·have fx:=HW4.out.end_4
   have HSS:=Hd (show ∀ W K' ,Wk W B g A K' (f.set n 0)->K'.opens=K.opens.set j { K.opens[j]with refs:=1 - 1 }->W.cell? ⟨go,j * 5,none⟩=some (.int .i64 4)/\W.cell? ⟨go,j * 5+1,none⟩=some (.int .i64 at_)/\W.cell? ⟨go,j * 5+2,none⟩=some (.int .i64 off)/\W.cell? ⟨go,j * 5+3,none⟩=some (.int .i64 fl)/\W.cell? ⟨go,j * 5+4,none⟩=some (.int .i64 0)/\W.cell? ⟨g,36,none⟩=some (.func (.func 96) #[.pointer (some ⟨g,0,none⟩)] #[])from fun W K' hk ho'=>by
    have hjj:j < K'.opens.length:=by rw[ho'];exact hj4
    obtain⟨-,a0,a1,a2,a3,a4,-,-⟩:=hk.all hjj HA.out
    have hoo:K'.opens[j]=⟨4,at_,off,fl,0⟩:=by
     have h2:=HO4.out
     have h3:K'.opens[j]=(K.opens.set j { K.opens[j]with refs:=1 - 1 })[j]:=by simp only[ho']
     rw[h3,h2,<-HO.out]
     rfl
    rw[hoo]at a0 a1 a2 a3 a4
    exact⟨a0,a1,a2,a3,a4,hk.end_4⟩)
   have HBB:=Hd (Below.refl w4.heap.size w4)
   go_upto_region 8 with fail
   go_region_held3 (fun W=>W.cell? ⟨go,j * 5,none⟩=some (.int .i64 4)/\W.cell? ⟨go,j * 5+1,none⟩=some (.int .i64 at_)/\W.cell? ⟨go,j * 5+2,none⟩=some (.int .i64 off)/\W.cell? ⟨go,j * 5+3,none⟩=some (.int .i64 fl)/\W.cell? ⟨go,j * 5+4,none⟩=some (.int .i64 0)/\W.cell? ⟨g,36,none⟩=some (.func (.func 96) #[.pointer (some ⟨g,0,none⟩)] #[]))
    (first|exact⟨x0,x1,x2,x3,x4,fx⟩|exact HSS.out _ _ (HW4.out.below (Aac HBB.out)) rfl|exact HSS.out _ _ HWN.out rfl|exact HSS.out _ _ (HWN.out.below (Aac (Below.refl _ _))) rfl)
    (first
     | (go_at_call 96;refine(Ayb _ 4 at_ off fl 0 _).mono ?_;rintro e wn ⟨rfl,hbn⟩;have HBN:Hid (Below w4.heap.size w4 wn):=Hd (Aaz HBB.out hbn HBB.out.size ⟨rfl,rfl,rfl,rfl⟩);have HWN:=Hd (HW4.out.below HBN.out);have HSTN:=Hd (HST4.out.below HBN.out);obtain⟨x0,x1,x2,x3,x4,fx⟩:=HSS.out _ _ HWN.out rfl))
   all_goals
    clear x0 x1 x2 x3 x4 xl f0 f1 f2 f3 f4 q4 gl fx
    have hjj:j < (K.opens.set j { K.opens[j]with refs:=1 - 1 }).length:=hj4
    obtain⟨q4,x0,x1,x2,x3,x4,xl,xf⟩:=HWN.out.all hjj HA.out
    have f0:=xf (j * 5)
    have f1:=xf (j * 5+1)
    have f2:=xf (j * 5+2)
    have f3:=xf (j * 5+3)
    have f4:=xf (j * 5+4)
    clear xf x0 x1 x2 x3 x4
    obtain⟨a1,a2⟩:=HWN.out.storeOpn HA.out hjj Aav
    have HA1:=Hd a1
    have HA2:=Hd a2
    clear a1 a2
    go_wp2_with fail
    go_ret
    have e9:Abg K j={ ({ K with opens:=K.opens.set j { K.opens[j]with refs:=1 - 1 } }:Krn)with opens:=(K.opens.set j { K.opens[j]with refs:=1 - 1 }).set j Aav }:=by
     rw[HLK.out,<-HO.out]
     refine Ad8 rfl rfl rfl (by rw[if_neg (by show ¬ ((4:Int)=2∨(4:Int)=3);decide)]) ?_ rfl rfl
     show K.opens.set j Aav=(K.opens.set j _).set j Aav
     rw[List.set_set]
    rw[e9]
    exact⟨rfl,HA1.out,HSTN.out.trans HA2.out⟩
  ·have fx:=HW4.out.end_2
   have HSS:=Hd (show ∀ W K' ,Wk W B g A K' (f.set n 0)->K'.opens=K.opens.set j { K.opens[j]with refs:=1 - 1 }->W.cell? ⟨go,j * 5,none⟩=some (.int .i64 2)/\W.cell? ⟨go,j * 5+1,none⟩=some (.int .i64 (i:Int))/\W.cell? ⟨go,j * 5+2,none⟩=some (.int .i64 off)/\W.cell? ⟨go,j * 5+3,none⟩=some (.int .i64 fl)/\W.cell? ⟨go,j * 5+4,none⟩=some (.int .i64 0)/\W.cell? ⟨g,28,none⟩=some (.func (.func 99) #[.pointer (some ⟨g,0,none⟩)] #[])from fun W K' hk ho'=>by
    have hjj:j < K'.opens.length:=by rw[ho'];exact hj4
    obtain⟨-,a0,a1,a2,a3,a4,-,-⟩:=hk.all hjj HA.out
    have hoo:K'.opens[j]=⟨2,(i:Int),off,fl,0⟩:=by
     have h2:=HO4.out
     have h3:K'.opens[j]=(K.opens.set j { K.opens[j]with refs:=1 - 1 })[j]:=by simp only[ho']
     rw[h3,h2,<-HO.out]
     rfl
    rw[hoo]at a0 a1 a2 a3 a4
    exact⟨a0,a1,a2,a3,a4,hk.end_2⟩)
   have HBB:=Hd (Below.refl w4.heap.size w4)
   go_upto_region 8 with fail
   go_region_held3 (fun W=>W.cell? ⟨go,j * 5,none⟩=some (.int .i64 2)/\W.cell? ⟨go,j * 5+1,none⟩=some (.int .i64 (i:Int))/\W.cell? ⟨go,j * 5+2,none⟩=some (.int .i64 off)/\W.cell? ⟨go,j * 5+3,none⟩=some (.int .i64 fl)/\W.cell? ⟨go,j * 5+4,none⟩=some (.int .i64 0)/\W.cell? ⟨g,28,none⟩=some (.func (.func 99) #[.pointer (some ⟨g,0,none⟩)] #[]))
    (first|exact⟨x0,x1,x2,x3,x4,fx⟩|exact HSS.out _ _ (HW4.out.below (Aac HBB.out)) rfl|exact HSS.out _ _ HWN.out rfl|exact HSS.out _ _ (HWN.out.below (Aac (Below.refl _ _))) rfl)
    (first
     | (go_at_call 99;refine(An2 (B:=B) (A:=A) (K:={ K with opens:=K.opens.set j { K.opens[j]with refs:=1 - 1 } }) (f:=f.set n 0) 2 i off fl 0 _ (by first|exact HW4.out|exact HW4.out.below (Aac (Below.refl _ _))) hi (HAF.out i hi)).mono ?_;rintro e wn ⟨rfl,hwn,hsn⟩;have HWN:=Hd hwn;have HSTN:=Hd (HST4.out.trans ((Stepw.of_below (g:=g) (A:=A) (W:=w4) (by first|exact Below.refl _ _|exact Aac (Below.refl _ _))).trans hsn));clear hwn hsn;obtain⟨x0,x1,x2,x3,x4,fx⟩:=HSS.out _ _ HWN.out rfl))
   all_goals
    clear x0 x1 x2 x3 x4 xl f0 f1 f2 f3 f4 q4 gl fx
    have hjj:j < (K.opens.set j { K.opens[j]with refs:=1 - 1 }).length:=hj4
    obtain⟨q4,x0,x1,x2,x3,x4,xl,xf⟩:=HWN.out.all hjj HA.out
    have f0:=xf (j * 5)
    have f1:=xf (j * 5+1)
    have f2:=xf (j * 5+2)
    have f3:=xf (j * 5+3)
    have f4:=xf (j * 5+4)
    clear xf x0 x1 x2 x3 x4
    obtain⟨a1,a2⟩:=HWN.out.storeOpn HA.out hjj Aav
    have HA1:=Hd a1
    have HA2:=Hd a2
    clear a1 a2
    go_wp2_with fail
    go_ret
    have e9:Abg K j={ ({ K with opens:=K.opens.set j { K.opens[j]with refs:=1 - 1 },pipes:=K.pipes.set i (Aak K.pipes[i] true) }:Krn)with opens:=(K.opens.set j { K.opens[j]with refs:=1 - 1 }).set j Aav }:=by
     rw[HLK.out,<-HO.out]
     refine Ad8 rfl rfl rfl (by show (if (2:Int)=2∨(2:Int)=3 then K.pipes.set (Int.toNat (i:Int)) (Aak (K.pipes.getD (Int.toNat (i:Int)) Afb) ((2:Int) == 2))else K.pipes)=K.pipes.set i (Aak K.pipes[i] true);rw[if_pos (by decide),Int.toNat_natCast,Abx _ i hi];rfl) ?_ rfl rfl
     show K.opens.set j Aav=(K.opens.set j _).set j Aav
     rw[List.set_set]
    rw[e9]
    exact⟨rfl,HA1.out,HSTN.out.trans HA2.out⟩
  ·have fx:=HW4.out.end_3
   have HSS:=Hd (show ∀ W K' ,Wk W B g A K' (f.set n 0)->K'.opens=K.opens.set j { K.opens[j]with refs:=1 - 1 }->W.cell? ⟨go,j * 5,none⟩=some (.int .i64 3)/\W.cell? ⟨go,j * 5+1,none⟩=some (.int .i64 (i:Int))/\W.cell? ⟨go,j * 5+2,none⟩=some (.int .i64 off)/\W.cell? ⟨go,j * 5+3,none⟩=some (.int .i64 fl)/\W.cell? ⟨go,j * 5+4,none⟩=some (.int .i64 0)/\W.cell? ⟨g,32,none⟩=some (.func (.func 102) #[.pointer (some ⟨g,0,none⟩)] #[])from fun W K' hk ho'=>by
    have hjj:j < K'.opens.length:=by rw[ho'];exact hj4
    obtain⟨-,a0,a1,a2,a3,a4,-,-⟩:=hk.all hjj HA.out
    have hoo:K'.opens[j]=⟨3,(i:Int),off,fl,0⟩:=by
     have h2:=HO4.out
     have h3:K'.opens[j]=(K.opens.set j { K.opens[j]with refs:=1 - 1 })[j]:=by simp only[ho']
     rw[h3,h2,<-HO.out]
     rfl
    rw[hoo]at a0 a1 a2 a3 a4
    exact⟨a0,a1,a2,a3,a4,hk.end_3⟩)
   have HBB:=Hd (Below.refl w4.heap.size w4)
   go_upto_region 8 with fail
   go_region_held3 (fun W=>W.cell? ⟨go,j * 5,none⟩=some (.int .i64 3)/\W.cell? ⟨go,j * 5+1,none⟩=some (.int .i64 (i:Int))/\W.cell? ⟨go,j * 5+2,none⟩=some (.int .i64 off)/\W.cell? ⟨go,j * 5+3,none⟩=some (.int .i64 fl)/\W.cell? ⟨go,j * 5+4,none⟩=some (.int .i64 0)/\W.cell? ⟨g,32,none⟩=some (.func (.func 102) #[.pointer (some ⟨g,0,none⟩)] #[]))
    (first|exact⟨x0,x1,x2,x3,x4,fx⟩|exact HSS.out _ _ (HW4.out.below (Aac HBB.out)) rfl|exact HSS.out _ _ HWN.out rfl|exact HSS.out _ _ (HWN.out.below (Aac (Below.refl _ _))) rfl)
    (first
     | (go_at_call 102;refine(An3 (B:=B) (A:=A) (K:={ K with opens:=K.opens.set j { K.opens[j]with refs:=1 - 1 } }) (f:=f.set n 0) 3 i off fl 0 _ (by first|exact HW4.out|exact HW4.out.below (Aac (Below.refl _ _))) hi (HAF.out i hi)).mono ?_;rintro e wn ⟨rfl,hwn,hsn⟩;have HWN:=Hd hwn;have HSTN:=Hd (HST4.out.trans ((Stepw.of_below (g:=g) (A:=A) (W:=w4) (by first|exact Below.refl _ _|exact Aac (Below.refl _ _))).trans hsn));clear hwn hsn;obtain⟨x0,x1,x2,x3,x4,fx⟩:=HSS.out _ _ HWN.out rfl))
   all_goals
    clear x0 x1 x2 x3 x4 xl f0 f1 f2 f3 f4 q4 gl fx
    have hjj:j < (K.opens.set j { K.opens[j]with refs:=1 - 1 }).length:=hj4
    obtain⟨q4,x0,x1,x2,x3,x4,xl,xf⟩:=HWN.out.all hjj HA.out
    have f0:=xf (j * 5)
    have f1:=xf (j * 5+1)
    have f2:=xf (j * 5+2)
    have f3:=xf (j * 5+3)
    have f4:=xf (j * 5+4)
    clear xf x0 x1 x2 x3 x4
    obtain⟨a1,a2⟩:=HWN.out.storeOpn HA.out hjj Aav
    have HA1:=Hd a1
    have HA2:=Hd a2
    clear a1 a2
    go_wp2_with fail
    go_ret
    have e9:Abg K j={ ({ K with opens:=K.opens.set j { K.opens[j]with refs:=1 - 1 },pipes:=K.pipes.set i (Aak K.pipes[i] false) }:Krn)with opens:=(K.opens.set j { K.opens[j]with refs:=1 - 1 }).set j Aav }:=by
     rw[HLK.out,<-HO.out]
     refine Ad8 rfl rfl rfl (by show (if (3:Int)=2∨(3:Int)=3 then K.pipes.set (Int.toNat (i:Int)) (Aak (K.pipes.getD (Int.toNat (i:Int)) Afb) ((3:Int) == 2))else K.pipes)=K.pipes.set i (Aak K.pipes[i] false);rw[if_pos (by decide),Int.toNat_natCast,Abx _ i hi];rfl) ?_ rfl rfl
     show K.opens.set j Aav=(K.opens.set j _).set j Aav
     rw[List.set_set]
    rw[e9]
    exact⟨rfl,HA1.out,HSTN.out.trans HA2.out⟩
end
def Ag4 (K:Krn):Prop:=∀ i (hi:i < K.opens.length),0<=K.opens[i].refs/\K.opens[i].refs<=1000
theorem Auv {K:Krn}{f:List Int}{n:Nat}(hR:Ag4 K)(hL:Led K f n):Ag4 (Abh K f n).1:=by
 unfold Abh
 rcases hL with h0|⟨j,hj,h1,h2,h3,h4,h5⟩
 ·rw[if_pos h0];exact hR
 ·rw[if_neg (by omega),h1,show ((j:Int)+1 - 1).toNat=j by omega]
  intro i hi
  have hi':i < K.opens.length:=by rw[Ac1]at hi;exact hi
  show 0<=((Abg K j).opens[i]).refs/\((Abg K j).opens[i]).refs<=1000
  by_cases e:j=i
  ·subst e
   by_cases h6:K.opens[j].refs=1
   ·have hO:(Abg K j).opens[j]=Aav:=by simp only[Aiu K j hj h6,List.getElem_set_self]
    rw[hO]
    exact⟨by decide,by decide⟩
   ·have hO:(Abg K j).opens[j]={ K.opens[j]with refs:=K.opens[j].refs - 1 }:=by simp only[Adm K j hj h6,List.getElem_set_self]
    rw[hO]
    exact⟨by show 0<=K.opens[j].refs - 1;omega,by show K.opens[j].refs - 1<=1000;omega⟩
  ·rw[Aen K j i e hi']
   exact hR i hi'
theorem Aqv {K:Krn}{f:List Int}{n:Nat}(hn:n < 10):(Aeg K f (n:Int)).1=(Abh K f n).1/\(Aeg K f (n:Int)).2.1=(Abh K f n).2:=by
 have hfd:isFd (n:Int)=true:=by unfold isFd;simp;omega
 unfold Aeg
 rw[Int.toNat_natCast]
 by_cases h0:f.getD n 0=0
 ·have hs:Abh K f n=(K,f):=if_pos h0
  rw[if_pos (.inr h0),hs]
  exact⟨rfl,rfl⟩
 ·rw[if_neg (by rw[not_or];exact⟨by rw[hfd];decide,h0⟩)]
  exact⟨rfl,rfl⟩
section
variable {B g : Nat} {A : KAd} {K : Krn} {f : List Int}
theorem Aya (n j:Nat)(hn:n < 10)(w:World)(hW:Wk w B g A K f)(hol:K.opens.length<=1000)(hL:Led K f n)(hP:Al2 K)(hR:Ag4 K)(hj:j < K.opens.length):Calls Tryz.prog 84 #[.pointer (some ⟨g,0,none⟩),.int .i64 n,.int .i64 j] w fun e w'=>e=.returned (.tuple #[])/\Wk w' B g A (Agx K f n j).1 (Agx K f n j).2/\Stepw g A w A w':=by
 obtain⟨c1,c2⟩:=Aqv (K:=K) (f:=f) hn
 have HC:=Hd (Ati (n:Int) w hW hol (fun _=>by rw[Int.toNat_natCast];exact hL) hP)
 rw[c1,c2]at HC
 have hRS:=Auv hR hL
 have hjs:j < (Abh K f n).1.opens.length:=by rw[(Ahr _ _ _).1];exact hj
 have hls:(Abh K f n).1.opens.length=K.opens.length:=(Ahr _ _ _).1
 have HE:=Hd (show Agx K f n j=(Ade (Abh K f n).1 j,(Abh K f n).2.set n ((j:Int)+1))from rfl)
 rw[HE.out]
 obtain⟨⟨K2,f2⟩,hs⟩:∃ z,Abh K f n=z:=⟨_,rfl⟩
 rw[hs]at HC hRS hjs hls ⊢
 simp only at HC hRS hjs hls ⊢
 have HS:=Hd hs
 have b0:(0:Int)<=(n:Int):=by omega
 have b1:(n:Int) < 10:=by omega
 have b2:(0:Int)<=(j:Int):=by omega
 have b3:(j:Int) < (K2.opens.length:Int):=by omega
 obtain⟨r,hr⟩:∃ r:Int,K2.opens[j].refs=r:=⟨_,rfl⟩
 have HR:=Hd hr
 have hrr:=hRS j hjs
 rw[hr]at hrr
 have hrw:IntKind.i64.wrap (r+1)=r+1:=by rw[IntKind.wrap_i64];omega
 have hjw:IntKind.i64.wrap ((j:Int)+1)=(j:Int)+1:=by rw[IntKind.wrap_i64];omega
 have b4:(j:Int)<=1000:=by omega
 obtain⟨p1,p2⟩:=hrr
 clear hW hL hP hR c1 c2 hs hRS hr HE
 go_enter Tryz.func84,Tryz.ntmps84
 go_wp2_with fail
 refine HC.out.mono ?_
 rintro e w2 ⟨rfl,hw2,hs2⟩
 have HW2:=Hd hw2
 have HS2:=Hd hs2
 clear hw2 hs2
 obtain⟨go,ha,-,-⟩:=HW2.out.opn hjs
 have HA:=Hd ha
 clear ha
 obtain⟨q4,x0,x1,x2,x3,x4,xl,xf⟩:=HW2.out.all hjs HA.out
 have gl:=HW2.out.lt
 have xf4:=xf (j * 5+4)
 rw[HR.out]at x4
 clear xf
 go_upto_region 2 with fail
 obtain⟨w3,hw3⟩:∃ z,z=w2.setCell ⟨go,j * 5+4,none⟩ (.int .i64 (r+1)):=⟨_,rfl⟩
 have HW3:=Hd (show Wk w3 B g A (Ade K2 j) f2 by
  rw[hw3]
  have h:=(HW2.out.storeRefs HA.out hjs (r+1)).1
  have e:Ade K2 j={ K2 with opens:=K2.opens.set j { K2.opens[j]with refs:=r+1 } }:=by
   unfold Ade
   rw[Abx _ j hjs,HR.out]
  rw[e]
  exact h)
 have HST3:=Hd (show Stepw g A w A w3 by rw[hw3];exact HS2.out.trans (HW2.out.storeRefs HA.out hjs (r+1)).2)
 rw[<-hw3]
 clear q4 x0 x1 x2 x3 x4 xl xf4 gl hw3
 have gl:=HW3.out.lt
 have fn_:=HW3.out.free (7+n)
 have cn:=HW3.out.fd n hn
 obtain⟨a1,a2⟩:=HW3.out.setFd hn ((j:Int)+1)
 have HA1:=Hd a1
 have HA2:=Hd a2
 clear a1 a2
 go_wp2_with fail
 go_end0
 exact⟨rfl,HA1.out,HST3.out.trans HA2.out⟩
end
section
variable {B g : Nat} {A : KAd} {K : Krn} {f : List Int}
theorem Bbt (fr to:Int)(w:World)(hW:Wk w B g A K f)(hol:K.opens.length<=1000)(hL:∀ n,n < 10->Led K f n)(hP:Al2 K)(hR:Ag4 K):Calls Tryz.prog 62 #[.pointer (some ⟨g,0,none⟩),.int .i64 fr,.int .i64 to] w fun e w'=>e=.returned (.int .i64 (dupL K f fr to).2.2)/\Wk w' B g A (dupL K f fr to).1 (dupL K f fr to).2.1/\Stepw g A w A w':=by
 have hLf:∀ x,isFd x=true->Led K f x.toNat:=fun x hx=>by
  obtain⟨n,rfl,hn⟩:=Ac9 hx
  rw[Int.toNat_natCast]
  exact hL n hn
 have HC:=Hd (Amz fr w hW hol (hLf fr))
 have HW:=Hd hW
 by_cases h1:isFd fr=false∨f.getD fr.toNat 0=0
 ·have HE:=Hd (show dupL K f fr to=(K,f,9) by unfold dupL;rw[if_pos (by rcases h1 with h|h;exact .inl h;exact .inr (.inr h))])
  have HPL:=Hd (show Acv f fr=(0,false) by
   unfold Acv
   rw[if_neg]
   rintro⟨h2,h3⟩
   rcases h1 with h|h
   ·rw[h2]at h;cases h
   ·exact h3 h)
  rw[HE.out]
  clear hW hL hLf hP hR h1
  go_enter Tryz.func62,Tryz.ntmps62
  go_wp2_with fail
  refine HC.out.mono ?_
  rintro e w2 ⟨rfl,hb2⟩
  rw[HPL.out]
  have HB2:=Hd hb2
  clear hb2
  go_wp2_with fail
  go_ret
  exact⟨rfl,HW.out.below HB2.out,.of_below HB2.out⟩
 rw[not_or]at h1
 have hfr:isFd fr=true:=by simpa using h1.1
 have HPL:=Hd (show Acv f fr=(f.getD fr.toNat 0 - 1,true) by unfold Acv;rw[if_pos ⟨hfr,h1.2⟩])
 obtain⟨a,rfl,ha⟩:=Ac9 hfr
 rw[Int.toNat_natCast]at HPL h1
 obtain⟨j,hj,e1⟩:∃ j:Nat,∃ hj:j < K.opens.length,f.getD a 0=(j:Int)+1:=by
  rcases hL a ha with h0|⟨j,hj,h2,-⟩
  ·exact absurd h0 h1.2
  ·exact⟨j,hj,h2⟩
 rw[e1,show (j:Int)+1 - 1=(j:Int) by omega]at HPL
 cases hto:isFd to with
 | false=>
  have HE:=Hd (show dupL K f (a:Int) to=(K,f,9) by unfold dupL;rw[if_pos (.inr (.inl hto))])
  rw[HE.out]
  clear hW hL hLf hP hR h1 e1 hfr
  go_enter Tryz.func62,Tryz.ntmps62
  go_wp2_with fail
  refine HC.out.mono ?_
  rintro e w2 ⟨rfl,hb2⟩
  rw[HPL.out]
  have HB2:=Hd hb2
  clear hb2
  go_wp2_with (first|(go_at_call 81;refine(Aii to _).mono ?_;rintro e w3 ⟨rfl,rfl⟩;rw[hto])|fail)
  go_ret
  exact⟨rfl,HW.out.below HB2.out,.of_below HB2.out⟩
 | true=>
  obtain⟨c,rfl,hc⟩:=Ac9 hto
  by_cases he:(a:Int)=(c:Int)
  ·have HE:=Hd (show dupL K f (a:Int) (c:Int)=(K,f,0) by
    unfold dupL
    rw[if_neg (by rw[Int.toNat_natCast];simp only[not_or];exact⟨by rw[hfr];decide,by rw[hto];decide,h1.2⟩),if_pos he])
   rw[HE.out]
   have heb:((a:Int) != (c:Int))=false:=by simpa using he
   clear hW hL hLf hP hR h1 e1 hfr he
   go_enter Tryz.func62,Tryz.ntmps62
   go_wp2_with fail
   refine HC.out.mono ?_
   rintro e w2 ⟨rfl,hb2⟩
   rw[HPL.out]
   have HB2:=Hd hb2
   clear hb2
   go_wp2_with (first|(go_at_call 81;refine(Aii (c:Int) _).mono ?_;rintro e w3 ⟨rfl,rfl⟩;rw[hto])|fail)
   go_ret
   exact⟨rfl,HW.out.below HB2.out,.of_below HB2.out⟩
  ·have HE:=Hd (show dupL K f (a:Int) (c:Int)=((Agx K f c j).1,(Agx K f c j).2,0) by
    unfold dupL
    rw[if_neg (by rw[Int.toNat_natCast];simp only[not_or];exact⟨by rw[hfr];decide,by rw[hto];decide,h1.2⟩),if_neg he,Int.toNat_natCast,Int.toNat_natCast,e1,show ((j:Int)+1 - 1).toNat=j by omega])
   rw[HE.out]
   have heb:((a:Int) != (c:Int))=true:=by simpa using he
   have HLD:=Hd (fun W (hb:Below w.heap.size w W)=>Aya c j hc W (hW.below hb) hol (hL c hc) hP hR hj)
   clear hW hL hLf hP hR h1 e1 hfr he
   go_enter Tryz.func62,Tryz.ntmps62
   go_wp2_with fail
   refine HC.out.mono ?_
   rintro e w2 ⟨rfl,hb2⟩
   rw[HPL.out]
   have HB2:=Hd hb2
   clear hb2
   go_wp2_with (first|(go_at_call 81;refine(Aii (c:Int) _).mono ?_;rintro e w3 ⟨rfl,rfl⟩;rw[hto])|(go_at_call 84;refine(HLD.out _ HB2.out).mono ?_;rintro e w4 ⟨rfl,hw4,hs4⟩)|fail)
   go_ret
   exact⟨rfl,hw4,(Stepw.of_below HB2.out).trans hs4⟩
end
section
variable {B g : Nat} {A : KAd} {K : Krn} {f : List Int}
theorem Bay (b i:Nat)(hi:i < K.opens.length)(w:World)(hW:Wk w B g A K f)(hb:w.cell? ⟨b,0,none⟩=some (.pointer (some ⟨g,0,none⟩))):Calls Tryz.prog 126 #[.int .i64 i,.pointer (some ⟨b,0,none⟩)] w fun e w'=>e=.returned (.bool (K.opens[i].kind == 0))/\w'=w:=by
 obtain⟨go,ha,-,-⟩:=hW.opn hi
 obtain⟨q4,x0,x1,x2,x3,x4,xl,xf⟩:=hW.all hi ha
 have gl:=hW.lt
 have b0:(0:Int)<=(i:Int):=by omega
 have b1:(i:Int) < (K.opens.length:Int):=by omega
 have bl:=Aaf hb
 clear hW xf ha x1 x2 x3 x4
 go_enter Tryz.func126,Tryz.ntmps126
 go_wp2_with fail
 go_ret
 exact⟨rfl,rfl⟩
end
def layL {T:Type}(L:List T)(free:Nat->Bool)(x:T)(most:Nat):List T×Nat×Int:=
 match (List.range L.length).find? free with
 | some i=>(L.set i x,i,0)
 | none=>if most<=L.length then(L,0,24)else(L ++ [x],L.length,0)
theorem Ay7 {free:Nat->Bool}{k n:Nat}(hk:k < n)(h:∀ i,i < k->free i=false)(h1:free k=true):(List.range n).find? free=some k:=by
 rw[List.find?_eq_some_iff_getElem]
 refine⟨h1,k,by simpa using hk,by simp,fun j hj=>?_⟩
 have hjn:j < n:=by omega
 rw[List.getElem_range,h j hj]
 rfl
theorem As1 {free:Nat->Bool}{n:Nat}(h:∀ i,i < n->free i=false):(List.range n).find? free=none:=by
 rw[List.find?_eq_none]
 intro x hx
 rw[h x (List.mem_range.1 hx)]
 decide
theorem Ax9 {T:Type}{L:List T}{free:Nat->Bool}{x:T}{most k:Nat}(hk:k < L.length)(h:∀ i,i < k->free i=false)(h1:free k=true):layL L free x most=(L.set k x,k,0):=by
 unfold layL
 rw[Ay7 hk h h1]
theorem Apt {T:Type}{L:List T}{free:Nat->Bool}{x:T}{most:Nat}(h:∀ i,i < L.length->free i=false)(hm:most<=L.length):layL L free x most=(L,0,24):=by
 unfold layL
 rw[As1 h]
 simp only[if_pos hm]
theorem Atg {T:Type}{L:List T}{free:Nat->Bool}{x:T}{most:Nat}(h:∀ i,i < L.length->free i=false)(hm:¬ most<=L.length):layL L free x most=(L ++ [x],L.length,0):=by
 unfold layL
 rw[As1 h]
 simp only[if_neg hm]
structure RowStep (w:World)(a a':Option Addr)(w':World):Prop where
 os:w'.os=w.os
 tape:w'.tape=w.tape
 output:w'.output=w.output
 size:w.heap.size<=w'.heap.size
 block:∀ k,k < w.heap.size->(∀ x,a=some x->x.block≠k)->w'.heap[k]?=w.heap[k]?
 near:∀ x,a'=some x->(∃ y,a=some y/\y.block=x.block)∨w.heap.size<=x.block
theorem RowStep.of_below {w w':World}{a:Option Addr}(h:Below w.heap.size w w'):RowStep w a a w':=⟨h.os,h.tape,h.output,h.size,fun k hk _=>h.block k hk,fun x hx=>.inl ⟨x,hx,rfl⟩⟩
theorem RowStep.of_but {w w1 w':World}{g:Nat}{x:Addr}(hx:x.block=g)(h:Below w.heap.size w w1)(hb:But g w1 w'):RowStep w (some x) (some x) w':=
 ⟨hb.os.trans h.os,hb.tape.trans h.tape,hb.output.trans h.output,by rw[hb.size];exact h.size,fun k hk hn=>(hb.block k (fun e=>hn x rfl (hx.trans e.symm))).trans (h.block k hk),fun y hy=>.inl ⟨y,hy,rfl⟩⟩
theorem RowStep.of_grown {w w1 w':World}{a a':Option Addr}{n c n' c':Nat}{B:Nat}{e:TypeId}{k:Nat}{xs:List Value}(h:Below w.heap.size w w1)(hg:w1.grownBy w' (Value.slice a n c).ownBlock)(hn:w1.heap.size<=w'.heap.size)(hr:∀ x,a'=some x->(∃ y,a=some y/\y.block=x.block)∨w1.heap.size<=x.block):RowStep w a a' w':=
 ⟨hg.os.trans h.os,hg.tape.trans h.tape,hg.output.trans h.output,Nat.le_trans h.size hn,fun j hj hne=>(hg.block j (Nat.lt_of_lt_of_le hj h.size) (fun e=>by
  cases a with
  | none=>cases e
  | some x=>exact hne x rfl (Option.some.inj e).symm)).trans (h.block j hj),fun x hx=>(hr x hx).imp id fun h2=>Nat.le_trans h.size h2⟩
section
variable {B g : Nat} {A : KAd} {K : Krn} {f : List Int}
theorem Wk.newOpens {W W':World}(h:Wk W B g A K f){a':Option Addr}{c':Nat}{O':List Opn}(hr:W'.ownsRow B 70 5 (.slice a' O'.length c') O'.length (rowC opnF O'))(hs:RowStep W A.oa a' W')(hB:B<=W.heap.size) :
  Wk (W'.setCell ⟨g,4,none⟩ (.slice a' O'.length c')) B g { A with oa:=a',oc:=c' } { K with opens:=O' } f/\Stepw g A W { A with oa:=a',oc:=c' } (W'.setCell ⟨g,4,none⟩ (.slice a' O'.length c')):=by
 have hgk:W'.heap[g]?=W.heap[g]?:=hs.block g h.lt (fun x hx=>h.go x hx)
 have hgb:=hgk.trans h.box
 have hne:∀ x,a'=some x->x.block≠g:=fun x hx=>by
  rcases hs.near x hx with ⟨y,h1,h2⟩|h1
  ·rw[<-h2];exact h.go y h1
  ·have:=h.lt;omega
 have hset:∀ k,k≠g->(W'.setCell ⟨g,4,none⟩ (.slice a' O'.length c')).heap[k]?=W'.heap[k]?:=fun k hk=>Below.heap_setCell _ _ _ _ hk
 have hpa:∀ x,A.pa=some x->(W'.setCell ⟨g,4,none⟩ (.slice a' O'.length c')).heap[x.block]?=W.heap[x.block]?:=fun x hx=>by
  rw[hset _ (h.gp x hx)]
  obtain⟨go,rfl,-,hlt⟩:=Abf h.own.pipes x hx
  exact hs.block go hlt (fun y hy=>(fun e=>h.own.apart _ y hx hy e.symm))
 have hpl:∀ x,A.pa=some x->x.block < W.heap.size:=fun x hx=>by
  obtain⟨go,rfl,-,hlt⟩:=Abf h.own.pipes x hx
  exact hlt
 refine⟨⟨?_,h.base,⟨Ab8 h.own.pipes hpa,Ab8 hr (fun x hx=>hset _ (hne x hx)),?_⟩,h.gp,hne,fun W'' hw=>?_,h.flen⟩,⟨⟨hs.os,hs.tape,hs.output,?_,fun k hk hn=>?_⟩,⟨fun x hx=>.inl ⟨x,hx,rfl⟩,hs.near⟩⟩⟩
 ·have hb:=Aar hgb 4 (.slice a' O'.length c')
  rw[show (wrk g A K f).setIfInBounds 4 (.slice a' O'.length c')=wrk g { A with oa:=a',oc:=c' } { K with opens:=O' } f from rfl]at hb
  exact hb
 ·intro x y hx hy
  rcases hs.near y hy with ⟨z,h1,h2⟩|h1
  ·rw[<-h2];exact h.own.apart x z hx h1
  ·have:=hpl x hx;omega
 ·refine h.tree W'' fun k hk hn=>?_
  have h1:k≠g:=fun e=>hn (.inl e)
  rw[hw k (by rw[show (W'.setCell ⟨g,4,none⟩ (.slice a' O'.length c')).heap.size=W'.heap.size by simp[World.setCell]];exact Nat.lt_of_lt_of_le hk hs.size) ?_,hset k h1]
  ·exact hs.block k hk (fun x hx e=>hn (.inr (.inr ⟨x,hx,e⟩)))
  ·rintro(e|⟨x,hx,e⟩|⟨x,hx,e⟩)
   ·exact h1 e
   ·exact hn (.inr (.inl ⟨x,hx,e⟩))
   ·rcases hs.near x hx with ⟨y,h2,h3⟩|h2
    ·exact hn (.inr (.inr ⟨y,h2,h3.trans e⟩))
    ·omega
 ·show W.heap.size<=(W'.setCell _ _).heap.size
  simpa[World.setCell] using hs.size
 ·rw[hset k (fun e=>hn (.inl e))]
  exact hs.block k hk (fun x hx e=>hn (.inr (.inr ⟨x,hx,e⟩)))
end
end Go.Proofs.YtkdfbliiblojoaaGreatDoor
