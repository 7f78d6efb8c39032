import Derived.Test.YtkdfbliiblojoaaGreatDoorK36
import Derived.Test.YtkdfbliiblojoaaGreatDoorK37
set_option linter.all false
set_option maxRecDepth 100000
set_option maxHeartbeats 64000000
namespace Go.Proofs.YtkdfbliiblojoaaGreatDoor
open Go Go.RowKit
section
variable {B g : Nat} {A : KAd} {K : Krn} {f : List Int}
theorem Azo (fd:Int)(S:ByteArray)(hS:S.size<=1000000)(w:World)(hW:Wk w B g A K f)(hF:FitK K f)(hBw:B<=w.heap.size) :
  Calls Tryz.prog 71 #[.pointer (some ⟨g,0,none⟩),.int .i64 fd,.string S] w (Aes B g (Ab9 K f fd S.data.toList).1 f (.int .i64 (Ab9 K f fd S.data.toList).2.1) (Ab9 K f fd S.data.toList).2.2 w):=by
 have hol:=hF.no
 have HW:=Hd hW
 have HBw:=Hd hBw
 have HC:=Hd (Amz fd w hW (by omega) (fun hfd=>by
  obtain⟨n,rfl,hn⟩:=Ac9 hfd
  rw[Int.toNat_natCast]
  exact Af5 hF hn))
 by_cases hz:isFd fd=false∨f.getD fd.toNat 0=0
 ·have HE:=Hd (show Ab9 K f fd S.data.toList=(K,0,9)from Al1 hz)
  have HPL:=Hd (show Acv f fd=(0,false) by
   unfold Acv
   rw[if_neg]
   rintro⟨h1,h2⟩
   rcases hz with h|h
   ·rw[h1]at h;cases h
   ·exact h2 h)
  rw[HE.out]
  clear hW hz hF hBw
  go_enter Tryz.func71,Tryz.ntmps71
  go_wp2_with fail
  refine HC.out.mono ?_
  rintro e w2 ⟨rfl,hb2⟩
  rw[HPL.out]
  have HB2:=Hd hb2
  clear hb2
  go_wp2_with fail
  go_ret2
  exact⟨rfl,HB2.out.mono HBw.out,fun h=>absurd h (show ¬ (9:Int)=0 by decide)⟩
 rw[not_or]at hz
 have hfd:isFd fd=true:=by simpa using hz.1
 obtain⟨q,rfl,hq⟩:=Ac9 hfd
 have hz2:=hz.2
 rw[Int.toNat_natCast]at hz2
 obtain⟨j,hj,e1,e2,e3,e4,e5⟩:=(Af5 hF hq).resolve_left hz2
 have HPL:=Hd (show Acv f (q:Int)=((j:Int),true) by
  unfold Acv
  rw[if_pos ⟨hfd,by rw[Int.toNat_natCast];exact hz2⟩,Int.toNat_natCast,e1,show (j:Int)+1 - 1=(j:Int) by omega])
 have hE:=Ao4 (s:=S.data.toList) hfd e1 hj
 obtain⟨go,ha,hgo,-⟩:=hW.opn hj
 have HA:=Hd ha
 have b2:(0:Int)<=(j:Int):=by omega
 have b3:(j:Int) < (K.opens.length:Int):=by omega
 have hg:=hF.opens j hj
 obtain⟨o,ho⟩:∃ o,K.opens[j]=o:=⟨_,rfl⟩
 have HO:=Hd ho
 have HE0:=Hd hE
 rw[ho]at hE e2 hg
 have hfl:o.flags=1∨o.flags=2∨o.flags=3∨o.flags=6∨o.flags=7:=by
  rcases hg with hg|⟨-,-,-,-,⟨-,h,-⟩|⟨-,-,-,h⟩|⟨-,-,-,h⟩|⟨-,-,-,h⟩⟩
  ·rw[hg]at e2;exact absurd rfl e2
  ·exact h
  ·exact .inl h
  ·exact .inr (.inl h)
  ·exact .inr (.inl h)
 have hbits:bits .and .i64 o.flags 2=if o.flags / 2 % 2=0 then 0 else 2:=by
  rcases hfl with h|h|h|h|h <;> rw[h] <;> rfl
 have HALL:=Hd (fun W (h:Wk W B g A K f)=>h.all hj HA.out)
 rw[ho]at HALL
 clear hW hz hz2 hBw ha e3 e4 e5 e1 hfd
 by_cases h0:o.flags / 2 % 2=0
 ·rw[if_pos h0]at hbits hE
  rw[hE]
  clear hE hfl h0 hg hF e2
  go_enter Tryz.func71,Tryz.ntmps71
  go_wp2_with fail
  refine HC.out.mono ?_
  rintro e w2 ⟨rfl,hb2⟩
  rw[HPL.out]
  have HB2:=Hd hb2
  have HW2:=Hd (HW.out.below hb2)
  clear hb2
  obtain⟨q4,x0,x1,x2,x3,x4,xl,xf⟩:=HALL.out _ HW2.out
  have gl:=HW2.out.lt
  clear xf
  go_wp2_with fail
  go_ret2
  exact⟨rfl,HB2.out.mono HBw.out,fun h=>absurd h (show ¬ (9:Int)=0 by decide)⟩
 rw[if_neg h0]at hbits hE
 by_cases hk1:o.kind=1
 ·rw[if_pos hk1]at hE
  obtain⟨u,hu,hat,hkf⟩:∃ u:Nat,∃ hu:u < K.tree.length,o.at_=(u:Int)/\K.tree[u].kind=1:=by
   rcases hg with hg|⟨-,-,-,-,⟨-,-,u,hu,b1,b2⟩|⟨b,-⟩|⟨b,-⟩|⟨b,-⟩⟩
   ·rw[hg]at hk1;exact absurd hk1 (by decide)
   ·exact⟨u,hu,b1,b2⟩
   all_goals omega
  rw[hat,Aae K.tree u hu]at hE
  obtain⟨off,hoff⟩:∃ x:Int,x=if 4<=o.flags then(K.tree[u].data.length:Int)else o.off:=⟨_,rfl⟩
  rw[<-hoff]at hE
  have hob:0<=off/\off<=65536:=by
   have hdl:=Ah9 K.tree u hu
   obtain⟨-,-,-,l4,l5⟩:=hF.tree.limits
   rw[hoff]
   rcases hg with hg|⟨-,-,a,b,-⟩
   ·rw[hg]at hk1;exact absurd hk1 (by decide)
   ·split <;> omega
  obtain⟨⟨L',er⟩,hrd⟩:∃ z,Ae1 K.tree K.b (u:Int) off S.data.toList=z:=⟨_,rfl⟩
  rw[hrd]at hE
  simp only at hE
  have hft:=hF.tree
  have hSl:S.data.toList.length=S.size:=Array.length_toList
  have hato:K.opens[j].at_=(u:Int):=by rw[HO.out];exact hat
  have hofo:off=if 4<=K.opens[j].flags then(K.tree[u].data.length:Int)else K.opens[j].off:=by rw[HO.out];exact hoff
  have hflo:K.opens[j].flags=1∨K.opens[j].flags=2∨K.opens[j].flags=3∨K.opens[j].flags=6∨K.opens[j].flags=7:=by rw[HO.out];exact hfl
  have HKD:=Hd hk1
  obtain⟨m,hm⟩:∃ m:Int,m=if er=0 then(S.size:Int)else 0:=⟨_,rfl⟩
  have hZ:∃ K1,Ab9 K f (q:Int) S.data.toList=(K1,m,er)/\(er=0->K1={ K with tree:=L',opens:=K.opens.set j { K.opens[j]with off:=off+(S.size:Int) } }):=by
   by_cases h:er=0
   ·refine⟨_,?_,fun _=>rfl⟩
    rw[hE,if_neg (by simpa using h),h,hm,if_pos h,hSl]
    unfold Afz
    rw[Abx _ j hj]
   ·refine⟨K,?_,fun h2=>absurd h2 h⟩
    rw[hE,if_pos h,hm,if_neg h]
  obtain⟨K1,hZ1,hZ2⟩:=hZ
  rw[hZ1]
  have HFIN:=Hd hZ2
  have HCT:=Hd (show ∀ W,Wk W B g A K f->B<=W.heap.size->Calls Tryz.prog 95 #[.pointer (some ⟨g,0,none⟩),.pointer (some ⟨go,j * 5,none⟩),.string S] W (Aes B g { K with tree:=L',opens:=K.opens.set j { K.opens[j]with off:=off+(S.size:Int) } } f (.int .i64 m) er W)from fun W h hb=>Aq7 go j u S hS W h hb hj HA.out hu hato hflo hft off hofo hob.1 hob.2 L' er m hm hrd)
  clear hZ1 hZ2 hrd hato hofo hflo hob hat hk1 hft hSl hoff hm
  clear hE hfl h0 hg hF e2
  go_enter Tryz.func71,Tryz.ntmps71
  go_wp2_with fail
  refine HC.out.mono ?_
  rintro e w2 ⟨rfl,hb2⟩
  rw[HPL.out]
  have HB2:=Hd hb2
  have HW2:=Hd (HW.out.below hb2)
  have HBS2:=Hd (Nat.le_trans HBw.out hb2.size)
  clear hb2
  obtain⟨q4,x0,x1,x2,x3,x4,xl,xf⟩:=HALL.out _ HW2.out
  rw[HKD.out]at x0
  have gl:=HW2.out.lt
  have fx:=HW2.out.write1
  clear xf
  go_upto_region 5 with fail
  go_region_with (first|(go_at_call 95;refine(HCT.out _ (HW2.out.below (Aac (Below.refl _ _))) HBS2.out).mono ?_;rintro e wn ⟨rfl,hbn,hwn⟩;have HBN:=Hd hbn;have HWN:=Hd hwn;clear hbn hwn))
  all_goals
   go_wp2_with fail
   go_ret2
   exact⟨rfl,(HB2.out.mono HBw.out).trans ((Aac (Below.refl _ _)).trans HBN.out),fun h=>by rw[HFIN.out h];exact HWN.out h⟩
 rw[if_neg hk1]at hE
 by_cases hk4:o.kind=4
 ·rw[if_pos hk4]at hE
  have hat01:o.at_=0∨o.at_=1:=by
   rcases hg with hg|⟨-,-,-,-,⟨b,-⟩|⟨b,-⟩|⟨b,-⟩|⟨-,b,-⟩⟩
   ·rw[hg]at e2;exact absurd rfl e2
   ·omega
   ·omega
   ·omega
   ·exact b
  rcases hat01 with hat|hat
  ·obtain⟨m,hm⟩:∃ m:Int,m=if 65536 - (K.out0.length:Int) < (S.size:Int)then 0 else(S.size:Int):=⟨_,rfl⟩
   obtain⟨er,her⟩:∃ er:Int,er=if 65536 - (K.out0.length:Int) < (S.size:Int)then 28 else 0:=⟨_,rfl⟩
   have hSl:S.data.toList.length=S.size:=Array.length_toList
   have hato:K.opens[j].at_=0:=by rw[HO.out];exact hat
   have hlo:=hF.o0
   rw[if_pos hat]at hE
   rw[hSl]at hE
   have HKD:=Hd hk4
   have hZ:∃ K1,Ab9 K f (q:Int) S.data.toList=(K1,m,er)/\(er=0->K1={ K with out0:=K.out0 ++ S.data.toList }):=by
    by_cases h:65536 - (K.out0.length:Int) < (S.size:Int)
    ·rw[if_pos h]at hE hm her
     refine⟨K,by rw[hE,hm,her],fun h2=>by rw[her]at h2;exact absurd h2 (by decide)⟩
    ·rw[if_neg h]at hE hm her
     exact⟨_,by rw[hE,hm,her],fun _=>rfl⟩
   obtain⟨K1,hZ1,hZ2⟩:=hZ
   rw[hZ1]
   have HFIN:=Hd hZ2
   have HCT:=Hd (show ∀ W,Wk W B g A K f->B<=W.heap.size->Calls Tryz.prog 104 #[.pointer (some ⟨g,0,none⟩),.pointer (some ⟨go,j * 5,none⟩),.string S] W (Aes B g { K with out0:=K.out0 ++ S.data.toList } f (.int .i64 m) er W)from fun W h hb=>Aq8 go j S hS W h hb hj HA.out hato hlo m er hm her)
   clear hZ1 hZ2 hato hlo hat hk1 hk4 hSl hm her
   clear hE hfl h0 hg hF e2
   go_enter Tryz.func71,Tryz.ntmps71
   go_wp2_with fail
   refine HC.out.mono ?_
   rintro e w2 ⟨rfl,hb2⟩
   rw[HPL.out]
   have HB2:=Hd hb2
   have HW2:=Hd (HW.out.below hb2)
   have HBS2:=Hd (Nat.le_trans HBw.out hb2.size)
   clear hb2
   obtain⟨q4,x0,x1,x2,x3,x4,xl,xf⟩:=HALL.out _ HW2.out
   rw[HKD.out]at x0
   have gl:=HW2.out.lt
   have fx:=HW2.out.write4
   clear xf
   go_upto_region 5 with fail
   go_region_with (first|(go_at_call 104;refine(HCT.out _ (HW2.out.below (Aac (Below.refl _ _))) HBS2.out).mono ?_;rintro e wn ⟨rfl,hbn,hwn⟩;have HBN:=Hd hbn;have HWN:=Hd hwn;clear hbn hwn))
   all_goals
    go_wp2_with fail
    go_ret2
    exact⟨rfl,(HB2.out.mono HBw.out).trans ((Aac (Below.refl _ _)).trans HBN.out),fun h=>by rw[HFIN.out h];exact HWN.out h⟩
  ·obtain⟨m,hm⟩:∃ m:Int,m=if 65536 - (K.out1.length:Int) < (S.size:Int)then 0 else(S.size:Int):=⟨_,rfl⟩
   obtain⟨er,her⟩:∃ er:Int,er=if 65536 - (K.out1.length:Int) < (S.size:Int)then 28 else 0:=⟨_,rfl⟩
   have hSl:S.data.toList.length=S.size:=Array.length_toList
   have hato:K.opens[j].at_=1:=by rw[HO.out];exact hat
   have hlo:=hF.o1
   rw[if_neg (by rw[hat];decide)]at hE
   rw[hSl]at hE
   have HKD:=Hd hk4
   have hZ:∃ K1,Ab9 K f (q:Int) S.data.toList=(K1,m,er)/\(er=0->K1={ K with out1:=K.out1 ++ S.data.toList }):=by
    by_cases h:65536 - (K.out1.length:Int) < (S.size:Int)
    ·rw[if_pos h]at hE hm her
     refine⟨K,by rw[hE,hm,her],fun h2=>by rw[her]at h2;exact absurd h2 (by decide)⟩
    ·rw[if_neg h]at hE hm her
     exact⟨_,by rw[hE,hm,her],fun _=>rfl⟩
   obtain⟨K1,hZ1,hZ2⟩:=hZ
   rw[hZ1]
   have HFIN:=Hd hZ2
   have HCT:=Hd (show ∀ W,Wk W B g A K f->B<=W.heap.size->Calls Tryz.prog 104 #[.pointer (some ⟨g,0,none⟩),.pointer (some ⟨go,j * 5,none⟩),.string S] W (Aes B g { K with out1:=K.out1 ++ S.data.toList } f (.int .i64 m) er W)from fun W h hb=>Aq9 go j S hS W h hb hj HA.out hato hlo m er hm her)
   clear hZ1 hZ2 hato hlo hat hk1 hk4 hSl hm her
   clear hE hfl h0 hg hF e2
   go_enter Tryz.func71,Tryz.ntmps71
   go_wp2_with fail
   refine HC.out.mono ?_
   rintro e w2 ⟨rfl,hb2⟩
   rw[HPL.out]
   have HB2:=Hd hb2
   have HW2:=Hd (HW.out.below hb2)
   have HBS2:=Hd (Nat.le_trans HBw.out hb2.size)
   clear hb2
   obtain⟨q4,x0,x1,x2,x3,x4,xl,xf⟩:=HALL.out _ HW2.out
   rw[HKD.out]at x0
   have gl:=HW2.out.lt
   have fx:=HW2.out.write4
   clear xf
   go_upto_region 5 with fail
   go_region_with (first|(go_at_call 104;refine(HCT.out _ (HW2.out.below (Aac (Below.refl _ _))) HBS2.out).mono ?_;rintro e wn ⟨rfl,hbn,hwn⟩;have HBN:=Hd hbn;have HWN:=Hd hwn;clear hbn hwn))
   all_goals
    go_wp2_with fail
    go_ret2
    exact⟨rfl,(HB2.out.mono HBw.out).trans ((Aac (Below.refl _ _)).trans HBN.out),fun h=>by rw[HFIN.out h];exact HWN.out h⟩
 ·rw[if_neg hk4]at hE
  have hk3:o.kind=3/\∃ i:Nat,∃ hi:i < K.pipes.length,o.at_=(i:Int):=by
   rcases hg with hg|⟨-,-,-,-,⟨b,-⟩|⟨-,-,-,b⟩|⟨b,⟨i,hi,h2⟩,-⟩|⟨b,-⟩⟩
   ·rw[hg]at e2;exact absurd rfl e2
   ·exact absurd b hk1
   ·rw[b]at h0;exact absurd rfl h0
   ·exact⟨b,i,hi,h2⟩
   ·exact absurd b hk4
  obtain⟨hk3,i,hi,hat⟩:=hk3
  have hfp:=(hF.pipes i hi).1
  rw[hat,Int.toNat_natCast,Abx _ i hi]at hE
  obtain⟨⟨p',m,er⟩,hrd⟩:∃ z,Abu K.pipes[i] S.data.toList=z:=⟨_,rfl⟩
  rw[hrd]at hE
  simp only at hE
  have hato:K.opens[j].at_=(i:Int):=by rw[HO.out];exact hat
  have HKD:=Hd hk3
  have hZ:∃ K1,Ab9 K f (q:Int) S.data.toList=(K1,m,er)/\(er=0->K1={ K with pipes:=K.pipes.set i p' }):=by
   by_cases h:er=0
   ·refine⟨_,?_,fun _=>rfl⟩
    rw[hE,if_neg (by simpa using h),h]
    rfl
   ·refine⟨K,?_,fun h2=>absurd h2 h⟩
    rw[hE,if_pos h,(Ar2 hrd h).2]
  obtain⟨K1,hZ1,hZ2⟩:=hZ
  rw[hZ1]
  have HFIN:=Hd hZ2
  have HCT:=Hd (show ∀ W,Wk W B g A K f->B<=W.heap.size->Calls Tryz.prog 101 #[.pointer (some ⟨g,0,none⟩),.pointer (some ⟨go,j * 5,none⟩),.string S] W (Aes B g { K with pipes:=K.pipes.set i p' } f (.int .i64 m) er W)from fun W h hb=>(Ara go j i S (by omega) W h hj HA.out hi hato hfp p' m er hrd).mono fun e w' hh=>⟨hh.1,h.low hh.2.2 hb,fun _=>⟨_,hh.2.1⟩⟩)
  clear hZ1 hZ2 hrd hato hfp hat hk1 hk3 hk4
  clear hE hfl h0 hg hF e2
  go_enter Tryz.func71,Tryz.ntmps71
  go_wp2_with fail
  refine HC.out.mono ?_
  rintro e w2 ⟨rfl,hb2⟩
  rw[HPL.out]
  have HB2:=Hd hb2
  have HW2:=Hd (HW.out.below hb2)
  have HBS2:=Hd (Nat.le_trans HBw.out hb2.size)
  clear hb2
  obtain⟨q4,x0,x1,x2,x3,x4,xl,xf⟩:=HALL.out _ HW2.out
  rw[HKD.out]at x0
  have gl:=HW2.out.lt
  have fx:=HW2.out.write3
  clear xf
  go_upto_region 5 with fail
  go_region_with (first|(go_at_call 101;refine(HCT.out _ (HW2.out.below (Aac (Below.refl _ _))) HBS2.out).mono ?_;rintro e wn ⟨rfl,hbn,hwn⟩;have HBN:=Hd hbn;have HWN:=Hd hwn;clear hbn hwn))
  all_goals
   go_wp2_with fail
   go_ret2
   exact⟨rfl,(HB2.out.mono HBw.out).trans ((Aac (Below.refl _ _)).trans HBN.out),fun h=>by rw[HFIN.out h];exact HWN.out h⟩
end
end Go.Proofs.YtkdfbliiblojoaaGreatDoor
