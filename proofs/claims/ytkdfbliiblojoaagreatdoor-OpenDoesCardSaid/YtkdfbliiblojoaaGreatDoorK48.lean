import Derived.Test.YtkdfbliiblojoaaGreatDoorK36
import Derived.Test.YtkdfbliiblojoaaGreatDoorK37
set_option linter.all false
set_option maxRecDepth 100000
set_option maxHeartbeats 64000000
namespace Go.Proofs.YtkdfbliiblojoaaGreatDoor
open Go Go.RowKit
section
variable {B g : Nat} {A : KAd} {K : Krn} {f : List Int}
theorem Ba3 (fd:Int)(n:Int)(w:World)(hW:Wk w B g A K f)(hF:FitK K f)(hBw:B<=w.heap.size) :
  Calls Tryz.prog 67 #[.pointer (some ⟨g,0,none⟩),.int .i64 fd,.int .i64 n] w (Aes B g (Ad1 K f fd n).1 f (.string ⟨(Ad1 K f fd n).2.1.toArray⟩) (Ad1 K f fd n).2.2 w):=by
 have hol:=hF.no
 have HW:=Hd hW
 have HBw:=Hd hBw
 have HC:=Hd (Amz fd w hW (by omega) (fun hfd=>by
  obtain⟨n,rfl,hn⟩:=Ac9 hfd
  rw[Int.toNat_natCast]
  exact Af5 hF hn))
 by_cases hz:isFd fd=false∨f.getD fd.toNat 0=0
 ·have HE:=Hd (show Ad1 K f fd n=(K,[],9)from Am7 hz)
  have HPL:=Hd (show Acv f fd=(0,false) by
   unfold Acv
   rw[if_neg]
   rintro⟨h1,h2⟩
   rcases hz with h|h
   ·rw[h1]at h;cases h
   ·exact h2 h)
  rw[HE.out]
  clear hW hz hF hBw
  go_enter Tryz.func67,Tryz.ntmps67
  go_wp2_with fail
  refine HC.out.mono ?_
  rintro e w2 ⟨rfl,hb2⟩
  rw[HPL.out]
  have HB2:=Hd hb2
  clear hb2
  go_wp2_with fail
  go_ret2
  exact⟨rfl,HB2.out.mono HBw.out,fun h=>absurd h (show ¬ (9:Int)=0 by decide)⟩
 rw[not_or]at hz
 have hfd:isFd fd=true:=by simpa using hz.1
 obtain⟨q,rfl,hq⟩:=Ac9 hfd
 have hz2:=hz.2
 rw[Int.toNat_natCast]at hz2
 obtain⟨j,hj,e1,e2,e3,e4,e5⟩:=(Af5 hF hq).resolve_left hz2
 have HPL:=Hd (show Acv f (q:Int)=((j:Int),true) by
  unfold Acv
  rw[if_pos ⟨hfd,by rw[Int.toNat_natCast];exact hz2⟩,Int.toNat_natCast,e1,show (j:Int)+1 - 1=(j:Int) by omega])
 have hE:=Arn (n:=n) hfd e1 hj
 obtain⟨go,ha,hgo,-⟩:=hW.opn hj
 have HA:=Hd ha
 have b2:(0:Int)<=(j:Int):=by omega
 have b3:(j:Int) < (K.opens.length:Int):=by omega
 have hg:=hF.opens j hj
 obtain⟨o,ho⟩:∃ o,K.opens[j]=o:=⟨_,rfl⟩
 have HO:=Hd ho
 have HE0:=Hd hE
 rw[ho]at hE e2 hg
 have hfl:o.flags=1∨o.flags=2∨o.flags=3∨o.flags=6∨o.flags=7:=by
  rcases hg with hg|⟨-,-,-,-,⟨-,h,-⟩|⟨-,-,-,h⟩|⟨-,-,-,h⟩|⟨-,-,-,h⟩⟩
  ·rw[hg]at e2;exact absurd rfl e2
  ·exact h
  ·exact .inl h
  ·exact .inr (.inl h)
  ·exact .inr (.inl h)
 have hbits:bits .and .i64 o.flags 1=if o.flags % 2=0 then 0 else 1:=by
  rcases hfl with h|h|h|h|h <;> rw[h] <;> rfl
 have HALL:=Hd (fun W (h:Wk W B g A K f)=>h.all hj HA.out)
 rw[ho]at HALL
 clear hW hz hz2 hBw ha e3 e4 e5 e1 hfd
 by_cases h0:o.flags % 2=0
 ·rw[if_pos h0]at hbits hE
  rw[hE]
  clear hE hfl h0 hg hF e2
  go_enter Tryz.func67,Tryz.ntmps67
  go_wp2_with fail
  refine HC.out.mono ?_
  rintro e w2 ⟨rfl,hb2⟩
  rw[HPL.out]
  have HB2:=Hd hb2
  have HW2:=Hd (HW.out.below hb2)
  clear hb2
  obtain⟨q4,x0,x1,x2,x3,x4,xl,xf⟩:=HALL.out _ HW2.out
  have gl:=HW2.out.lt
  clear xf
  go_wp2_with fail
  go_ret2
  exact⟨rfl,HB2.out.mono HBw.out,fun h=>absurd h (show ¬ (9:Int)=0 by decide)⟩
 rw[if_neg h0]at hbits hE
 by_cases hn:n < 1
 ·rw[if_pos hn]at hE
  rw[hE]
  have hnd:decide (n < 1)=true:=decide_eq_true hn
  clear hE hfl h0 hg hF e2 hn
  go_enter Tryz.func67,Tryz.ntmps67
  go_wp2_with fail
  refine HC.out.mono ?_
  rintro e w2 ⟨rfl,hb2⟩
  rw[HPL.out]
  have HB2:=Hd hb2
  have HW2:=Hd (HW.out.below hb2)
  clear hb2
  obtain⟨q4,x0,x1,x2,x3,x4,xl,xf⟩:=HALL.out _ HW2.out
  have gl:=HW2.out.lt
  clear xf
  go_wp2_with fail
  go_ret2
  exact⟨rfl,HB2.out.mono HBw.out,fun h=>absurd h (show ¬ (22:Int)=0 by decide)⟩
 have hnd:decide (n < 1)=false:=decide_eq_false hn
 rw[if_neg hn]at hE
 by_cases hk1:o.kind=1
 ·rw[if_pos hk1]at hE
  obtain⟨u,hu,hat,hkf⟩:∃ u:Nat,∃ hu:u < K.tree.length,o.at_=(u:Int)/\K.tree[u].kind=1:=by
   rcases hg with hg|⟨-,-,-,-,⟨-,-,u,hu,b1,b2⟩|⟨b,-⟩|⟨b,-⟩|⟨b,-⟩⟩
   ·rw[hg]at hk1;exact absurd hk1 (by decide)
   ·exact⟨u,hu,b1,b2⟩
   all_goals omega
  have hob:0<=o.off/\o.off<=65536:=by
   rcases hg with hg|⟨-,-,a,b,-⟩
   ·rw[hg];exact⟨by decide,by decide⟩
   ·exact⟨a,b⟩
  obtain⟨⟨s,er⟩,hrd⟩:∃ z,Aft K.tree o.at_ o.off n=z:=⟨_,rfl⟩
  rw[hrd]at hE
  simp only at hE
  have hrd2:=hrd
  rw[hat]at hrd2
  have hsl:=Auu hF.tree hu hrd2
  have hft:=hF.tree
  have hrdo:Aft K.tree K.opens[j].at_ K.opens[j].off n=(s,er):=by rw[HO.out];exact hrd
  have HKD:=Hd hk1
  have hZ:∃ K1,Ad1 K f (q:Int) n=(K1,s,er)/\(er=0->K1={ K with opens:=K.opens.set j { K.opens[j]with off:=K.opens[j].off+(s.length:Int) } }):=by
   by_cases h:er=0
   ·refine⟨_,?_,fun _=>rfl⟩
    rw[hE,if_neg (by simpa using h),h]
    unfold Afz
    rw[Abx _ j hj,HO.out]
   ·refine⟨K,?_,fun h2=>absurd h2 h⟩
    rw[hE,if_pos h,Aut hrd h]
  obtain⟨K1,hZ1,hZ2⟩:=hZ
  rw[hZ1]
  have HFIN:=Hd hZ2
  have HCT:=Hd (show ∀ W,Wk W B g A K f->B<=W.heap.size->Calls Tryz.prog 94 #[.pointer (some ⟨g,0,none⟩),.pointer (some ⟨go,j * 5,none⟩),.int .i64 n] W (Aes B g { K with opens:=K.opens.set j { K.opens[j]with off:=K.opens[j].off+(s.length:Int) } } f (.string ⟨s.toArray⟩) er W)from fun W h hb=>(Ats go j n W h hj HA.out hft s er hrdo (by rw[HO.out];exact hob.1) (by rw[HO.out];exact hob.2) hsl).mono fun e w' hh=>⟨hh.1,h.low hh.2.2 hb,fun _=>⟨_,hh.2.1⟩⟩)
  clear hZ1 hZ2 hrd hrd2 hrdo hob hsl hat hk1 hft
  clear hE hfl h0 hg hF e2
  go_enter Tryz.func67,Tryz.ntmps67
  go_wp2_with fail
  refine HC.out.mono ?_
  rintro e w2 ⟨rfl,hb2⟩
  rw[HPL.out]
  have HB2:=Hd hb2
  have HW2:=Hd (HW.out.below hb2)
  have HBS2:=Hd (Nat.le_trans HBw.out hb2.size)
  clear hb2
  obtain⟨q4,x0,x1,x2,x3,x4,xl,xf⟩:=HALL.out _ HW2.out
  rw[HKD.out]at x0
  have gl:=HW2.out.lt
  have fx:=HW2.out.read1
  clear xf
  go_upto_region 7 with fail
  go_region_with (first|(go_at_call 94;refine(HCT.out _ (HW2.out.below (Aac (Below.refl _ _))) HBS2.out).mono ?_;rintro e wn ⟨rfl,hbn,hwn⟩;have HBN:=Hd hbn;have HWN:=Hd hwn;clear hbn hwn))
  all_goals
   go_wp2_with fail
   go_ret2
   exact⟨rfl,(HB2.out.mono HBw.out).trans ((Aac (Below.refl _ _)).trans HBN.out),fun h=>by rw[HFIN.out h];exact HWN.out h⟩
 ·rw[if_neg hk1]at hE
  have hk2:o.kind=2/\∃ i:Nat,∃ hi:i < K.pipes.length,o.at_=(i:Int):=by
   rcases hg with hg|⟨-,-,-,-,⟨b,-⟩|⟨b,⟨i,hi,h2⟩,-⟩|⟨-,-,-,b⟩|⟨-,-,-,b⟩⟩
   ·rw[hg]at e2;exact absurd rfl e2
   ·exact absurd b hk1
   ·exact⟨b,i,hi,h2⟩
   ·rw[b]at h0;exact absurd rfl h0
   ·rw[b]at h0;exact absurd rfl h0
  obtain⟨hk2,i,hi,hat⟩:=hk2
  have hfp:=(hF.pipes i hi).1
  have hw0:0<=K.pipes[i].wr:=(Adt.1 hfp).2.2.1
  rw[hat,Int.toNat_natCast,Abx _ i hi]at hE
  obtain⟨⟨p',s,er⟩,hrd⟩:∃ z,Ack K.pipes[i] n=z:=⟨_,rfl⟩
  rw[hrd]at hE
  simp only at hE
  have hato:K.opens[j].at_=(i:Int):=by rw[HO.out];exact hat
  have HKD:=Hd hk2
  have hZ:∃ K1,Ad1 K f (q:Int) n=(K1,s,er)/\(er=0->K1={ K with pipes:=K.pipes.set i p' }):=by
   by_cases h:er=0
   ·refine⟨_,?_,fun _=>rfl⟩
    rw[hE,if_neg (by simpa using h),h]
    rfl
   ·refine⟨K,?_,fun h2=>absurd h2 h⟩
    rw[hE,if_pos h,(Aus hrd h).2]
  obtain⟨K1,hZ1,hZ2⟩:=hZ
  rw[hZ1]
  have HFIN:=Hd hZ2
  have HCT:=Hd (show ∀ W,Wk W B g A K f->B<=W.heap.size->Calls Tryz.prog 98 #[.pointer (some ⟨g,0,none⟩),.pointer (some ⟨go,j * 5,none⟩),.int .i64 n] W (Aes B g { K with pipes:=K.pipes.set i p' } f (.string ⟨s.toArray⟩) er W)from fun W h hb=>(Att go j i n W h hj HA.out hi hato hw0 p' s er hrd).mono fun e w' hh=>⟨hh.1,h.low hh.2.2 hb,fun _=>⟨_,hh.2.1⟩⟩)
  clear hZ1 hZ2 hrd hato hw0 hfp hat hk1 hk2
  clear hE hfl h0 hg hF e2
  go_enter Tryz.func67,Tryz.ntmps67
  go_wp2_with fail
  refine HC.out.mono ?_
  rintro e w2 ⟨rfl,hb2⟩
  rw[HPL.out]
  have HB2:=Hd hb2
  have HW2:=Hd (HW.out.below hb2)
  have HBS2:=Hd (Nat.le_trans HBw.out hb2.size)
  clear hb2
  obtain⟨q4,x0,x1,x2,x3,x4,xl,xf⟩:=HALL.out _ HW2.out
  rw[HKD.out]at x0
  have gl:=HW2.out.lt
  have fx:=HW2.out.read2
  clear xf
  go_upto_region 7 with fail
  go_region_with (first|(go_at_call 98;refine(HCT.out _ (HW2.out.below (Aac (Below.refl _ _))) HBS2.out).mono ?_;rintro e wn ⟨rfl,hbn,hwn⟩;have HBN:=Hd hbn;have HWN:=Hd hwn;clear hbn hwn))
  all_goals
   go_wp2_with fail
   go_ret2
   exact⟨rfl,(HB2.out.mono HBw.out).trans ((Aac (Below.refl _ _)).trans HBN.out),fun h=>by rw[HFIN.out h];exact HWN.out h⟩
end
end Go.Proofs.YtkdfbliiblojoaaGreatDoor
