import Derived.Test.YtkdfbliiblojoaaGreatDoorK27
import Derived.Test.YtkdfbliiblojoaaGreatDoorK25
import Derived.Test.YtkdfbliiblojoaaGreatDoorK28
import Derived.OwnWalk
set_option linter.all false
set_option maxRecDepth 100000
set_option maxHeartbeats 64000000
namespace Go.Proofs.YtkdfbliiblojoaaGreatDoor
open Go Go.RowKit
def newV (x:Ino):Value:=.agg #[.int .i64 x.kind,.int .i64 x.mode,.int .i64 x.links,.string ⟨x.data.toArray⟩,.slice none 0 0,.int .i64 x.up]
theorem Amu (up q:Int)(B:Nat)(w:World)(hc:w.cell? ⟨B,0,none⟩=some (.int .i64 q)):Calls Tryz.prog 158 #[.int .i64 up,.pointer (some ⟨B,0,none⟩)] w fun e w'=>e=.returned (newV (Ad9 1 q [] 0))/\Below w.heap.size w w':=by
 have hl:=Aaf hc
 have HB:=Hd (Aab w (.cells #[.int .i64 1,.int .i64 q,.int .i64 0,.string ⟨#[]⟩,.slice none 0 0,.int .i64 0] 66))
 go_enter Tryz.func158,Tryz.ntmps158
 go_wp2_with fail
 exact bodyPost_ret (v:=newV (Ad9 1 q [] 0)) (by simp[results,Tryz.results158,go_sem,newV,Ad9]) rfl ⟨rfl,HB.out⟩
def addS (L:List Ino)(b:Int)(cwd:Int)(p:List UInt8)(X:Int->Ino):List Ino×Int×Int:=
 if (Afw L cwd p).2.2.2≠0 then(L,0,(Afw L cwd p).2.2.2)else
 if Ach L (Afw L cwd p).1 (Afw L cwd p).2.2.1 (X (Afw L cwd p).1).kind≠0 then(L,0,Ach L (Afw L cwd p).1 (Afw L cwd p).2.2.1 (X (Afw L cwd p).1).kind)else
 if Ahe L < 0∨b < (Aax L:Int)+(X (Afw L cwd p).1).data.length then(L,0,28)else
 (addL L (Afw L cwd p).1.toNat (Ahe L).toNat (Afw L cwd p).2.1 { X (Afw L cwd p).1 with links:=1 },Ahe L,0)
def Ar4 (base:Nat)(w:World)(m b:Int)(L':List Ino)(rest:List Value)(e:Ending)(w':World):Prop:=
 (∃ g cap vs,e=.returned (.tuple (#[.agg #[.slice (some ⟨g,0,none⟩) L'.length cap,.int .i64 m,.int .i64 b]] ++ rest.toArray))/\OwnT w' base g cap L' vs)/\Below w.heap.size w w'
theorem Ahb {w W:World}{g cap:Nat}{L:List Ino}{vs:List Value}(hO:OwnT W (w.heap.size+2) g cap L vs)(hB:Below w.heap.size w W)(x y z:Value) :
  OwnT (put3 W (w.heap.size+1) x y z) w.heap.size g cap L vs/\Below w.heap.size w (put3 W (w.heap.size+1) x y z):=
 ⟨(hO.low fun k hk=>Aa9 (by omega) x y z).lower (by omega),Aao hB (by omega) x y z⟩
theorem Axy {L:List Ino}{d k:Nat}(hd:d < L.length)(hdk:d≠k)(x:Ino)(s:List UInt8)(z:Int) :
  (((L.set k x).set d (Ad3 ((L.set k x)[d]'(by rw[List.length_set];exact hd)) (Aa3 ((L.set k x)[d]'(by rw[List.length_set];exact hd)).kids s k))).set k { x with links:=z })=addL L d k s { x with links:=z }:=by
 have e:(L.set k x)[d]'(by rw[List.length_set];exact hd)=L[d]:=List.getElem_set_ne (fun e=>hdk e.symm) _
 rw[e]
 unfold addL
 rw[Aae L d hd,List.set_comm _ _ hdk,List.set_set]
theorem Awi (a:Option Addr)(cap:Nat)(m b cwd:Int)(pb:ByteArray)(hp:pb.size<=1073741824)(L:List Ino)(hF:FitP L m b)(X:Int->Ino)(hX0:∀ d,(X d).kids=[])(hX1:∀ d,(X d).links=0)(hX2:∀ d,(X d).data.length<=1024)(fid:FuncId)(lb:Array Value)
  (eg:∀ args w,(callFunc fid args).run Tryz.prog w=.ok (.enter fid args) w) (w:World) (hN:Aad w a cap L)
  (hmk:∀ W d,Below w.heap.size w W->Calls Tryz.prog fid (#[.int .i64 d] ++ lb) W fun e w'=>e=.returned (newV (X d))/\Below W.heap.size W w')
  (L':List Ino) (kz ez:Int) (hz:addS L b cwd pb.data.toList X=(L',kz,ez)) :
  Calls Tryz.prog 157 #[.agg #[.slice a L.length cap,.int .i64 m,.int .i64 b],.int .i64 cwd,.string pb,.func (.func fid) #[] lb] w (Ar4 w.heap.size w m b L' [.int .i64 kz,.int .i64 ez]):=by
 obtain⟨⟨d,nm,sl,pe⟩,hsp⟩:∃ r,Afw L cwd pb.data.toList=r:=⟨_,rfl⟩
 obtain⟨w2,hw2,hb2,hs2,hA,hB⟩:=Aan w #[.slice a L.length cap,.int .i64 m,.int .i64 b] #[.slice none 0 0,.int .i64 0,.int .i64 0] 24 24
 obtain⟨l1,l2,l3,l4,l5⟩:=hF.limits
 have hL0:0 < L.length:=by omega
 have hL1:L.length<=256:=by omega
 have hAll:=Hd (show ∀ W,Below w2.heap.size w2 W->W.cell? ⟨w.heap.size,0,none⟩=some (.slice a L.length cap)/\W.cell? ⟨w.heap.size,1,none⟩=some (.int .i64 m)/\W.cell? ⟨w.heap.size,2,none⟩=some (.int .i64 b)from fun W hW=>by
  have h:=(hW.block w.heap.size (by omega)).trans hA
  exact⟨bC h 0,bC h 1,bC h 2⟩)
 have HSP:=Hd hsp
 have HF:=Hd hF
 have HN2:=Hd (hN.below hb2)
 have HZ:=Hd hz
 have HMK:=Hd hmk
 have HB2:=Hd hb2
 have HA:=Hd hA
 have HR:=Hd hB
 clear hsp hF hN hz hmk hb2 hA hB
 go_enter Tryz.func157,Tryz.ntmps157
 go_wp2_with fail
 rw[<-hw2]
 clear hw2
 refine(Adu a cap m b L hL0 (by omega) (fun x hx=>by obtain⟨j,hj,rfl⟩:=List.getElem_of_mem hx;have:=(HF.out.ins j hj).2.1;omega) _ HN2.out).mono ?_
 rintro e w3 ⟨g,cap',vs,rfl,hO3,hb3⟩
 have HO3:=Hd hO3
 have HB3:=Hd hb3
 have hs3:=hb3.size
 obtain⟨q0,q1,q2⟩:=hAll.out _ hb3
 have hq:=Aaf q0
 clear hO3 hb3
 go_wp2_with fail
 obtain⟨w4,hw4⟩:∃ w4,w4=w3.alloc (.cells #[.slice (some ⟨g,0,none⟩) L.length cap',.int .i64 m,.int .i64 b] 24):=⟨_,rfl⟩
 have hb4:Below w3.heap.size w3 w4:=by rw[hw4];exact Aab w3 _
 have hM4:w4.heap[w3.heap.size]?=some (.cells #[.slice (some ⟨g,0,none⟩) L.length cap',.int .i64 m,.int .i64 b] 24 (0,0)):=by rw[hw4];exact Aag w3 _
 have hs4:w4.heap.size=w3.heap.size+1:=by rw[hw4];simp
 rw[<-hw4]
 clear hw4 q0 q1 q2 hq
 have HB4:=Hd (HB3.out.trans (hb4.mono hs3))
 have HB34:=Hd hb4
 have HM4:=Hd hM4
 clear hb4 hM4
 refine(Awr _ _ _ _ _ _ hp L HF.out _ _ _ _ HSP.out _ (HN2.out.below HB4.out)).mono ?_
 rintro e w5 ⟨rfl,hb5⟩
 have HB5:=Hd (HB4.out.trans (hb5.mono (by omega)))
 have HB35:=Hd (HB34.out.trans (hb5.mono (by omega)))
 have hM5:=(hb5.block w3.heap.size (by omega)).trans HM4.out
 have HM5:=Hd hM5
 have hs5:=hb5.size
 have HS5:=Hd hs5
 clear hb5 hM5
 by_cases h1:pe=0
 ·subst h1
  obtain⟨w6,hw6⟩:∃ w6,w6=w5.alloc (.cells #[.int .i64 d,.string ⟨nm.toArray⟩,.bool sl] 203):=⟨_,rfl⟩
  have hb6:Below w5.heap.size w5 w6:=by rw[hw6];exact Aab w5 _
  have hS6:w6.heap[w5.heap.size]?=some (.cells #[.int .i64 d,.string ⟨nm.toArray⟩,.bool sl] 203 (0,0)):=by rw[hw6];exact Aag w5 _
  have hs6:w6.heap.size=w5.heap.size+1:=by rw[hw6];simp
  have HB56:=Hd hb6
  have HS6:=Hd hS6
  have HARM:=Hd (show ∀ W,Below w6.heap.size w6 W->W.cell? ⟨w5.heap.size,0,none⟩=some (.int .i64 d)/\W.cell? ⟨w5.heap.size,1,none⟩=some (.string ⟨nm.toArray⟩)/\W.cell? ⟨w5.heap.size,2,none⟩=some (.bool sl)from fun W hW=>by
   have h:=(hW.block w5.heap.size (by omega)).trans HS6.out
   exact⟨bC h 0,bC h 1,bC h 2⟩)
  have hAll2:=Hd (show ∀ W,Below w6.heap.size w6 W->W.cell? ⟨w.heap.size,0,none⟩=some (.slice a L.length cap)/\W.cell? ⟨w.heap.size,1,none⟩=some (.int .i64 m)/\W.cell? ⟨w.heap.size,2,none⟩=some (.int .i64 b)from fun W hW=>hAll.out W (HB5.out.trans ((HB56.out.mono (by omega)).trans (hW.mono (by omega)))))
  have HW6:=Hd (show Below w.heap.size w w6 from HB2.out.trans (((HB5.out).trans (HB56.out.mono (by omega))).mono (by omega)))
  obtain⟨xk,hxk⟩:∃ v,(X d).kind=v:=⟨_,rfl⟩
  obtain⟨xm,hxm⟩:∃ v,(X d).mode=v:=⟨_,rfl⟩
  obtain⟨xd,hxd⟩:∃ v,(X d).data=v:=⟨_,rfl⟩
  obtain⟨xu,hxu⟩:∃ v,(X d).up=v:=⟨_,rfl⟩
  have hxl:=hX1 d
  have hc6:=HMK.out w6 d HW6.out
  unfold newV at hc6
  rw[hxk,hxm,hxl,hxd,hxu]at hc6
  have HXE:=Hd (show X d=⟨xk,xm,0,xd,[],xu⟩ by have h0:=hX0 d;cases hx:X d;rw[hx]at hxk hxm hxl hxd hxu h0;simp only at hxk hxm hxl hxd hxu h0;subst hxk hxm hxl hxd hxu h0;rfl)
  have HC6:=Hd hc6
  rw[hw6]at HC6
  have hxdl:xd.length<=1024:=by rw[<-hxd];exact hX2 d
  clear hxk hxm hxl hxd hxu hc6 hX0 hX1 hX2 HMK hAll
  clear hb6 hS6
  go_wp2_with fail
  refine HC6.out.mono ?_
  rintro e w7 ⟨rfl,hb7⟩
  have hb7':Below w6.heap.size w6 w7:=by rw[hw6];exact hb7
  obtain⟨q0,q1,q2⟩:=hAll2.out w7 hb7'
  obtain⟨u0,u1,u2⟩:=HARM.out w7 hb7'
  have HB7:=Hd hb7'
  have hs7:=hb7'.size
  have hq:=Aaf q0
  have hu:=Aaf u0
  clear hb7 hb7' hw6 HC6
  go_wp2_with fail
  obtain⟨w8,hw8⟩:∃ w8,w8=w7.alloc (.cells #[.int .i64 xk,.int .i64 xm,.int .i64 0,.string ⟨xd.toArray⟩,.slice none 0 0,.int .i64 xu] 66):=⟨_,rfl⟩
  have hb78:Below w7.heap.size w7 w8:=by rw[hw8];exact Aab w7 _
  have hI8:w8.heap[w7.heap.size]?=some (.cells #[.int .i64 xk,.int .i64 xm,.int .i64 0,.string ⟨xd.toArray⟩,.slice none 0 0,.int .i64 xu] 66 (0,0)):=by rw[hw8];exact Aag w7 _
  have hs8:w8.heap.size=w7.heap.size+1:=by rw[hw8];simp
  rw[<-hw8]
  clear hw8 q0 q1 q2 u0 u1 u2 hq hu
  have HB68:=Hd (HB7.out.trans (hb78.mono hs7))
  have HB58:=Hd (HB56.out.trans (HB68.out.mono (by omega)))
  have HA8:=Hd (show ∀ W,Below w8.heap.size w8 W->W.cell? ⟨w.heap.size,0,none⟩=some (.slice a L.length cap)/\W.cell? ⟨w.heap.size,1,none⟩=some (.int .i64 m)/\W.cell? ⟨w.heap.size,2,none⟩=some (.int .i64 b)from fun W hW=>hAll2.out W (HB68.out.trans (hW.mono (by omega))))
  have HS8:=Hd (show ∀ W,Below w8.heap.size w8 W->W.cell? ⟨w5.heap.size,0,none⟩=some (.int .i64 d)/\W.cell? ⟨w5.heap.size,1,none⟩=some (.string ⟨nm.toArray⟩)/\W.cell? ⟨w5.heap.size,2,none⟩=some (.bool sl)from fun W hW=>HARM.out W (HB68.out.trans (hW.mono (by omega))))
  have HM8:=Hd (show ∀ W,Below w8.heap.size w8 W->W.cell? ⟨w3.heap.size,0,none⟩=some (.slice (some ⟨g,0,none⟩) L.length cap')/\W.cell? ⟨w3.heap.size,1,none⟩=some (.int .i64 m)/\W.cell? ⟨w3.heap.size,2,none⟩=some (.int .i64 b)from fun W hW=>by
   have h:=((HB58.out.trans (hW.mono (by omega))).block w3.heap.size (by omega)).trans HM5.out
   exact⟨bC h 0,bC h 1,bC h 2⟩)
  have HI8:=Hd (show ∀ W,Below w8.heap.size w8 W->W.heap[w7.heap.size]?=some (.cells #[.int .i64 xk,.int .i64 xm,.int .i64 0,.string ⟨xd.toArray⟩,.slice none 0 0,.int .i64 xu] 66 (0,0))from fun W hW=>(hW.block _ (by omega)).trans hI8)
  have HR8:=Hd (show ∀ W,Below w8.heap.size w8 W->W.heap[w.heap.size+1]?=some (.cells #[.slice none 0 0,.int .i64 0,.int .i64 0] 24 (0,0))from fun W hW=>((HB5.out.trans (HB58.out.mono (by omega))).block _ (by omega) |> (hW.block _ (by omega)).trans).trans HR.out)
  have HO8:=Hd (show ∀ W,Below w8.heap.size w8 W->OwnT W (w.heap.size+2) g cap' L vs from fun W hW=>by
   have:=HO3.out.below (HB35.out.trans ((HB58.out.mono (by omega)).trans (hW.mono (by omega))))
   rw[hs2]at this
   exact this)
  have HN8:=Hd (show ∀ W,Below w8.heap.size w8 W->Aad W a cap L from fun W hW=>HN2.out.below (HB5.out.trans ((HB58.out.mono (by omega)).trans (hW.mono (by omega)))))
  have HBW:=Hd (show ∀ W,Below w8.heap.size w8 W->Below w.heap.size w W from fun W hW=>HB2.out.trans ((HB5.out.trans ((HB58.out.mono (by omega)).trans (hW.mono (by omega)))).mono (by omega)))
  have hsp0:=HSP.out
  obtain⟨dn,s',hdn,hpw,hfw,hkd,hnk,hnew,hmay⟩:=Aip HF.out (cwd:=cwd) (p:=pb.data.toList) (dirs:=true) (by
   unfold Afw at hsp0
   split at hsp0
   ·rename_i h0
    exfalso
    exact h0 (by simpa using (Prod.mk.inj (Prod.mk.inj (Prod.mk.inj hsp0).2).2).2)
   ·rename_i h0
    simpa using h0)
  have hdd:d=(dn:Int)/\nm=s':=by
   unfold Afw at hsp0
   rw[hfw]at hsp0
   simp at hsp0
   exact⟨hsp0.1.symm,hsp0.2.1.symm⟩
  obtain⟨rfl,rfl⟩:=hdd
  have HNEW:=Hd (show L[dn].kind=2/\Abd nm=true/\∀ e∈L[dn].kids,e.1≠nm from⟨hkd,hnk,hnew⟩)
  clear hsp0 hpw hfw hkd hnk hnew hmay HARM hAll2 hb78 hI8 HB7 HB56 HS6 HW6
  obtain⟨rf,hrf⟩:∃ v,Ach L (dn:Int) sl xk=v:=⟨_,rfl⟩
  have HRF:=Hd hrf
  refine(Aoe a cap m b dn ⟨nm.toArray⟩ sl xk L (by omega) hdn _ (HN8.out _ (Below.refl _ _))).mono ?_
  rw[hrf]
  rintro e w9 ⟨rfl,hb9⟩
  have HB8w9:=Hd hb9
  have hs9:=hb9.size
  clear hb9 hrf
  have hz2:=HZ.out
  unfold addS at hz2
  rw[HSP.out]at hz2
  simp only[ne_eq,not_true_eq_false,if_false,HXE.out,HRF.out]at hz2
  by_cases h2:rf=0
  ·subst h2
   obtain⟨q0,q1,q2⟩:=HA8.out w9 HB8w9.out
   have hq:=Aaf q0
   go_wp2_with fail
   refine(Atm a cap L (by omega) _ (HN8.out w9 HB8w9.out)).mono ?_
   rintro e w10 ⟨rfl,hb10⟩
   have HB8w10:=Hd (HB8w9.out.trans (hb10.mono hs9))
   have hs10:=hb10.size
   clear hb10 q0 q1 q2 hq
   obtain⟨fz,hfz⟩:∃ v,Ahe L=v:=⟨_,rfl⟩
   rw[hfz]at hz2 ⊢
   have HFZ:=Hd hfz
   clear hfz
   by_cases h3:fz < 0
   ·simp only[h3,true_or,not_true_eq_false,if_false,if_true,Prod.mk.injEq]at hz2
    obtain⟨rfl,rfl,rfl⟩:=hz2
    have HRX:=Hd (HR8.out w10 HB8w10.out)
    have r0:=bC HRX.out 0
    have r1:=bC HRX.out 1
    have r2:=bC HRX.out 2
    have s0:=bF HRX.out 0
    have s1:=bF HRX.out 1
    have s2:=bF HRX.out 2
    have hrl:=lt_of_block HRX.out
    obtain⟨m0,m1,m2⟩:=HM8.out w10 HB8w10.out
    have hml:=Aaf m0
    go_wp2_with fail
    change bodyPost _ _ _ _ _ (put3 w10 (w.heap.size+1) (.slice (some ⟨g,0,none⟩) L.length cap') (.int .i64 m) (.int .i64 b))
    obtain⟨c0,c1,c2⟩:=Aam HRX.out (.slice (some ⟨g,0,none⟩) L.length cap') (.int .i64 m) (.int .i64 b)
    obtain⟨hOF,hBF⟩:=Ahb (HO8.out w10 HB8w10.out) (HBW.out w10 HB8w10.out) (.slice (some ⟨g,0,none⟩) L.length cap') (.int .i64 m) (.int .i64 b)
    have HOG:=Hd hOF
    have HBG:=Hd hBF
    clear hOF hBF
    generalize put3 w10 (w.heap.size+1) (.slice (some ⟨g,0,none⟩) L.length cap') (.int .i64 m) (.int .i64 b)=wF at *
    exact bodyPost_ret (v:=.tuple #[.agg #[.slice (some ⟨g,0,none⟩) L.length cap',.int .i64 m,.int .i64 b],.int .i64 0,.int .i64 28]) (by simp[results,Tryz.results157,go_sem,c0,c1,c2]) rfl ⟨⟨g,cap',vs,rfl,HOG.out⟩,HBG.out⟩
   ·obtain⟨k,hk,hkf⟩:∃ k:Nat,fz=(k:Int)/\Afa L L.length 0=some k:=by
     have h4:=HFZ.out
     unfold Ahe at h4
     cases hw:Afa L L.length 0 with
     | none=>rw[hw]at h4;simp only at h4;omega
     | some k=>rw[hw]at h4;exact⟨k,h4.symm,rfl⟩
    subst hk
    obtain⟨-,hk1,hk2⟩:=Ajc L.length 0 hkf
    have hkl:k < L.length:=by omega
    rw[Aae L k hkl]at hk2
    have HK2:=Hd hk2
    clear hk2 hkf
    obtain⟨q0,q1,q2⟩:=HA8.out w10 HB8w10.out
    have hq:=Aaf q0
    have i3:=bC (HI8.out w10 HB8w10.out) 3
    have hil:=lt_of_block (HI8.out w10 HB8w10.out)
    have hsl:=Acj xd
    go_wp2_with fail
    refine(Ajq a cap m b xd.length (by omega) L (by omega) (by omega) _ (HN8.out w10 HB8w10.out)).mono ?_
    rintro e w11 ⟨rfl,hb11⟩
    have HB8w11:=Hd (HB8w10.out.trans (hb11.mono (by omega)))
    have hs11:=hb11.size
    clear hb11 q0 q1 q2 hq i3 hil
    have h3':¬ ((k:Int) < 0):=by omega
    simp only[h3',false_or,not_true_eq_false,if_false]at hz2
    by_cases h5:(Aax L:Int)+(xd.length:Int)<=b
    ·have h5b:decide ((Aax L:Int)+(xd.length:Int)<=b)=true:=decide_eq_true h5
     rw[if_neg (by omega)]at hz2
     simp only[Prod.mk.injEq]at hz2
     obtain⟨hL',rfl,rfl⟩:=hz2
     have HL':=Hd hL'
     have hO11:=HO8.out w11 HB8w11.out
     have hkv:k < vs.length:=by rw[hO11.nodes.len];exact hkl
     have hnk:=hO11.nodes.node k hkl hkv
     have n0:=hnk.kind
     have n1:=hnk.mode
     have n2:=hnk.links
     have n3:=hnk.data
     have n4:=hnk.kids
     have n5:=hnk.up
     have fr0:=hO11.nodes.free (k * 6)
     have fr1:=hO11.nodes.free (k * 6+1)
     have fr2:=hO11.nodes.free (k * 6+2)
     have fr3:=hO11.nodes.free (k * 6+3)
     have fr4:=hO11.nodes.free (k * 6+4)
     have fr5:=hO11.nodes.free (k * 6+5)
     have hgl:=hO11.nodes.lt
     have hB11:=HI8.out w11 HB8w11.out
     have i0:=bC hB11 0
     have i1:=bC hB11 1
     have i2:=bC hB11 2
     have i3:=bC hB11 3
     have i4:=bC hB11 4
     have i5:=bC hB11 5
     have hil:=lt_of_block hB11
     obtain⟨m0,m1,m2⟩:=HM8.out w11 HB8w11.out
     obtain⟨u0,u1,u2⟩:=HS8.out w11 HB8w11.out
     have hml:=Aaf m0
     have hul:=Aaf u0
     have hg3:g < w3.heap.size:=HO3.out.nodes.lt
     have hne1:¬ (g=w3.heap.size):=by omega
     have hne2:¬ (g=w5.heap.size):=by omega
     have hkl':(k:Int) < (L.length:Int):=by omega
     have hk0:(0:Int)<=(k:Int):=by omega
     obtain⟨kv,hkvv⟩:∃ v,v=vs[k]:=⟨_,rfl⟩
     rw[<-hkvv]at n4
     clear hB11 hnk hkvv hO11
     go_wp2_with fail
     change Calls _ _ _ (w11.setCells g (k * 6) (inoC (⟨xk,xm,0,xd,[],xu⟩:Ino) (.slice none 0 0))) _
     obtain⟨w12,hw12⟩:∃ w12,w12=w11.setCells g (k * 6) (inoC (⟨xk,xm,0,xd,[],xu⟩:Ino) (.slice none 0 0)):=⟨_,rfl⟩
     rw[<-hw12]
     have hO12:OwnT w12 (w.heap.size+2) g cap' (L.set k (⟨xk,xm,0,xd,[],xu⟩:Ino)) (vs.set k (.slice none 0 0)):=by rw[hw12];exact(HO8.out w11 HB8w11.out).setNode hkl (⟨xk,xm,0,xd,[],xu⟩:Ino) rfl
     have hst12:∀ j,j≠g->w12.heap[j]?=w11.heap[j]?:=fun j hj=>by rw[hw12];exact Aeu _ _ _ _ _ hj
     have hs12:w12.heap.size=w11.heap.size:=by rw[hw12];exact Aez _ _ _ _
     have hb12:Below w.heap.size w w12:=by
      have h1:=HBW.out w11 HB8w11.out
      have h2:=HO3.out.hbase
      have hsts:∀ (l:List Value) (b o:Nat) (W:World),(W.setCells b o l).os=W.os/\(W.setCells b o l).tape=W.tape/\(W.setCells b o l).output=W.output:=fun l=>by
       induction l with
       | nil=>exact fun _ _ _=>⟨rfl,rfl,rfl⟩
       | cons v r ih=>exact fun b o W=>ih b (o+1) (W.setCell ⟨b,o,none⟩ v)
      have h3:=hsts (inoC (⟨xk,xm,0,xd,[],xu⟩:Ino) (.slice none 0 0)) g (k * 6) w11
      exact⟨by rw[hw12];exact h3.1.trans h1.os,by rw[hw12];exact h3.2.1.trans h1.tape,by rw[hw12];exact h3.2.2.trans h1.output,by rw[hs12];exact h1.size,fun j hj=>(hst12 j (by omega)).trans (h1.block j hj)⟩
     have HO12:=Hd hO12
     have HST12:=Hd hst12
     have HB12:=Hd hb12
     clear n0 n1 n2 n3 n4 n5 fr0 fr1 fr2 fr3 fr4 fr5 i0 i1 i2 i3 i4 i5 hil m0 m1 m2 u0 u1 u2 hml hul hw12 hO12 hst12 hb12
     have hdk:dn≠k:=fun e=>by
      have h1:=HNEW.out.1
      have h2:=HK2.out
      subst e
      rw[h2]at h1
      exact absurd h1 (by decide)
     have hdl':dn < (L.set k (⟨xk,xm,0,xd,[],xu⟩:Ino)).length:=by rw[List.length_set];exact hdn
     have hkl2:k < (L.set k (⟨xk,xm,0,xd,[],xu⟩:Ino)).length:=by rw[List.length_set];exact hkl
     have ed:(L.set k (⟨xk,xm,0,xd,[],xu⟩:Ino))[dn]=L[dn]:=List.getElem_set_ne (fun e=>hdk e.symm) _
     have ek:(L.set k (⟨xk,xm,0,xd,[],xu⟩:Ino))[k]=(⟨xk,xm,0,xd,[],xu⟩:Ino):=List.getElem_set_self ..
     have hgive:=Atn (w.heap.size+2) g cap' dn k m b nm sl (L.set k (⟨xk,xm,0,xd,[],xu⟩:Ino)) (vs.set k (.slice none 0 0)) hdl' hkl2 hdk (by rw[ed];exact(Adk HF.out.ins dn hdn).2) (by rw[ed];exact(HF.out.ins dn hdn).2.1) (by rw[ed];exact HNEW.out.2.2) (by rw[ek];exact Int.le_refl _) (by rw[ek];show (0:Int)<=4611686018427387904;decide) w12 (by have:=(HBW.out w11 HB8w11.out).size;omega) HO12.out
     rw[ek]at hgive
     simp only[Axy hdn hdk]at hgive
     rw[List.length_set]at hgive
     have HGIVE:=Hd hgive
     have HUN:=Hd (show Under g (vs.set k (.slice none 0 0)) w3.heap.size from⟨HO3.out.nodes.lt,fun j hj r hr=>by
      rw[List.length_set]at hj
      rw[List.getElem_set]at hr
      split at hr
      ·cases hr
      ·exact HO3.out.under.own j hj r hr⟩)
     clear hgive ed ek
     refine HGIVE.out.mono ?_
     rintro e w13 ⟨rfl,⟨vs',hO13⟩,hb13,hkeep⟩
     have hM13:w13.heap[w3.heap.size]?=w11.heap[w3.heap.size]?:=(hkeep _ HUN.out _ (Nat.le_refl _) (by rw[hs12];exact Nat.lt_of_lt_of_le (by omega) HB8w11.out.size)).trans (HST12.out _ (by omega))
     have hc0:=(World.cell?_of_block (a:=⟨w3.heap.size,0,none⟩) hM13).trans (HM8.out w11 HB8w11.out).1
     have hc1:=(World.cell?_of_block (a:=⟨w3.heap.size,1,none⟩) hM13).trans (HM8.out w11 HB8w11.out).2.1
     have hc2:=(World.cell?_of_block (a:=⟨w3.heap.size,2,none⟩) hM13).trans (HM8.out w11 HB8w11.out).2.2
     have hml:=Aaf hc0
     have hR13:w13.heap[w.heap.size+1]?=some (.cells #[.slice none 0 0,.int .i64 0,.int .i64 0] 24 (0,0)):=(hb13.block _ (by omega)).trans ((HST12.out _ (by have:=HO3.out.hbase;omega)).trans (HR8.out w11 HB8w11.out))
     have HRX:=Hd hR13
     have r0:=bC hR13 0
     have r1:=bC hR13 1
     have r2:=bC hR13 2
     have s0:=bF hR13 0
     have s1:=bF hR13 1
     have s2:=bF hR13 2
     have hrl:=lt_of_block hR13
     have HO13:=Hd hO13
     have HB13:=Hd (HB12.out.trans (hb13.mono (show w.heap.size<=w.heap.size+2 by omega)))
     clear hO13 hb13 hkeep hM13 hR13
     go_wp2_with fail
     change bodyPost _ _ _ _ _ (put3 w13 (w.heap.size+1) (.slice (some ⟨g,0,none⟩) L.length cap') (.int .i64 m) (.int .i64 b))
     obtain⟨c0,c1,c2⟩:=Aam HRX.out (.slice (some ⟨g,0,none⟩) L.length cap') (.int .i64 m) (.int .i64 b)
     obtain⟨hOF,hBF⟩:=Ahb HO13.out HB13.out (.slice (some ⟨g,0,none⟩) L.length cap') (.int .i64 m) (.int .i64 b)
     have HOG:=Hd hOF
     have HBG:=Hd hBF
     clear hOF hBF
     generalize put3 w13 (w.heap.size+1) (.slice (some ⟨g,0,none⟩) L.length cap') (.int .i64 m) (.int .i64 b)=wF at *
     have hLl:L'.length=L.length:=by rw[<-HL'.out,Int.toNat_natCast,Int.toNat_natCast];exact Acd ..
     exact bodyPost_ret (v:=.tuple #[.agg #[.slice (some ⟨g,0,none⟩) L.length cap',.int .i64 m,.int .i64 b],.int .i64 k,.int .i64 0]) (by simp[results,Tryz.results157,go_sem,c0,c1,c2]) rfl ⟨⟨g,cap',vs',by rw[hLl];rfl,by rw[<-HL'.out,Int.toNat_natCast,Int.toNat_natCast];exact HOG.out⟩,HBG.out⟩
    ·have h5b:decide ((Aax L:Int)+(xd.length:Int)<=b)=false:=decide_eq_false h5
     rw[if_pos (by omega)]at hz2
     simp only[Prod.mk.injEq]at hz2
     obtain⟨rfl,rfl,rfl⟩:=hz2
     have HRX:=Hd (HR8.out w11 HB8w11.out)
     have r0:=bC HRX.out 0
     have r1:=bC HRX.out 1
     have r2:=bC HRX.out 2
     have s0:=bF HRX.out 0
     have s1:=bF HRX.out 1
     have s2:=bF HRX.out 2
     have hrl:=lt_of_block HRX.out
     obtain⟨m0,m1,m2⟩:=HM8.out w11 HB8w11.out
     have hml:=Aaf m0
     go_wp2_with fail
     change bodyPost _ _ _ _ _ (put3 w11 (w.heap.size+1) (.slice (some ⟨g,0,none⟩) L.length cap') (.int .i64 m) (.int .i64 b))
     obtain⟨c0,c1,c2⟩:=Aam HRX.out (.slice (some ⟨g,0,none⟩) L.length cap') (.int .i64 m) (.int .i64 b)
     obtain⟨hOF,hBF⟩:=Ahb (HO8.out w11 HB8w11.out) (HBW.out w11 HB8w11.out) (.slice (some ⟨g,0,none⟩) L.length cap') (.int .i64 m) (.int .i64 b)
     have HOG:=Hd hOF
     have HBG:=Hd hBF
     clear hOF hBF
     generalize put3 w11 (w.heap.size+1) (.slice (some ⟨g,0,none⟩) L.length cap') (.int .i64 m) (.int .i64 b)=wF at *
     exact bodyPost_ret (v:=.tuple #[.agg #[.slice (some ⟨g,0,none⟩) L.length cap',.int .i64 m,.int .i64 b],.int .i64 0,.int .i64 28]) (by simp[results,Tryz.results157,go_sem,c0,c1,c2]) rfl ⟨⟨g,cap',vs,rfl,HOG.out⟩,HBG.out⟩
  ·simp only[h2,not_false_eq_true,if_true,Prod.mk.injEq]at hz2
   obtain⟨rfl,rfl,rfl⟩:=hz2
   have hb2:(rf != 0)=true:=by simpa using h2
   have HRX:=Hd (HR8.out w9 HB8w9.out)
   have r0:=bC HRX.out 0
   have r1:=bC HRX.out 1
   have r2:=bC HRX.out 2
   have s0:=bF HRX.out 0
   have s1:=bF HRX.out 1
   have s2:=bF HRX.out 2
   have hrl:=lt_of_block HRX.out
   obtain⟨m0,m1,m2⟩:=HM8.out w9 HB8w9.out
   have hml:=Aaf m0
   go_wp2_with fail
   change bodyPost _ _ _ _ _ (put3 w9 (w.heap.size+1) (.slice (some ⟨g,0,none⟩) L.length cap') (.int .i64 m) (.int .i64 b))
   obtain⟨c0,c1,c2⟩:=Aam HRX.out (.slice (some ⟨g,0,none⟩) L.length cap') (.int .i64 m) (.int .i64 b)
   obtain⟨hOF,hBF⟩:=Ahb (HO8.out w9 HB8w9.out) (HBW.out w9 HB8w9.out) (.slice (some ⟨g,0,none⟩) L.length cap') (.int .i64 m) (.int .i64 b)
   have HOG:=Hd hOF
   have HBG:=Hd hBF
   clear hOF hBF
   generalize put3 w9 (w.heap.size+1) (.slice (some ⟨g,0,none⟩) L.length cap') (.int .i64 m) (.int .i64 b)=wF at *
   exact bodyPost_ret (v:=.tuple #[.agg #[.slice (some ⟨g,0,none⟩) L.length cap',.int .i64 m,.int .i64 b],.int .i64 0,.int .i64 rf]) (by simp[results,Tryz.results157,go_sem,c0,c1,c2]) rfl ⟨⟨g,cap',vs,rfl,HOG.out⟩,HBG.out⟩
 ·have hz2:=HZ.out
  unfold addS at hz2
  rw[HSP.out]at hz2
  simp only[h1,ne_eq,not_false_eq_true,if_true,Prod.mk.injEq]at hz2
  obtain⟨rfl,rfl,rfl⟩:=hz2
  have hb1:(pe != 0)=true:=by simpa using h1
  have m0:=bC HM5.out 0
  have m1:=bC HM5.out 1
  have m2:=bC HM5.out 2
  have hml:=lt_of_block HM5.out
  have hR5:w5.heap[w.heap.size+1]?=some (.cells #[.slice none 0 0,.int .i64 0,.int .i64 0] 24 (0,0)):=(HB5.out.block _ (by omega)).trans HR.out
  have r0:=bC hR5 0
  have r1:=bC hR5 1
  have r2:=bC hR5 2
  have s0:=bF hR5 0
  have s1:=bF hR5 1
  have s2:=bF hR5 2
  have hrl:=lt_of_block hR5
  have HRX:=Hd hR5
  clear hAll HMK eg hR5
  go_wp2_with fail
  change bodyPost _ _ _ _ _ ((put3 w5 (w.heap.size+1) (.slice (some ⟨g,0,none⟩) L.length cap') (.int .i64 m) (.int .i64 b)).alloc (.cells #[.int .i64 d,.string ⟨nm.toArray⟩,.bool sl] 203))
  have hO5:OwnT w5 (w.heap.size+2) g cap' L vs:=by
   have:=HO3.out.below HB35.out
   rw[hs2]at this
   exact this
  obtain⟨c0,c1,c2⟩:=Aam HRX.out (.slice (some ⟨g,0,none⟩) L.length cap') (.int .i64 m) (.int .i64 b)
  obtain⟨hOF,hBF⟩:=Ahb hO5 (HB2.out.trans (HB5.out.mono (by omega))) (.slice (some ⟨g,0,none⟩) L.length cap') (.int .i64 m) (.int .i64 b)
  have hbx:=Aab (put3 w5 (w.heap.size+1) (.slice (some ⟨g,0,none⟩) L.length cap') (.int .i64 m) (.int .i64 b)) (.cells #[.int .i64 d,.string ⟨nm.toArray⟩,.bool sl] 203)
  have d0:=Aaa hbx c0
  have d1:=Aaa hbx c1
  have d2:=Aaa hbx c2
  have HOG:=Hd (hOF.below hbx)
  have HBG:=Hd (hBF.trans (hbx.mono hBF.size))
  clear c0 c1 c2 hOF hBF hbx
  generalize (put3 w5 (w.heap.size+1) (.slice (some ⟨g,0,none⟩) L.length cap') (.int .i64 m) (.int .i64 b)).alloc (.cells #[.int .i64 d,.string ⟨nm.toArray⟩,.bool sl] 203)=wF at *
  exact bodyPost_ret (v:=.tuple #[.agg #[.slice (some ⟨g,0,none⟩) L.length cap',.int .i64 m,.int .i64 b],.int .i64 0,.int .i64 pe]) (by simp[results,Tryz.results157,go_sem,d0,d1,d2]) rfl ⟨⟨g,cap',vs,rfl,HOG.out⟩,HBG.out⟩
theorem Aj1 (w:World)(A B C:Array Value)(s t u:TypeId):∃ w2,w2=((w.alloc (.cells A s)).alloc (.cells B t)).alloc (.cells C u)/\Below w.heap.size w w2/\w2.heap.size=w.heap.size+3/\w2.heap[w.heap.size]?=some (.cells A s (0,0))/\w2.heap[w.heap.size+1]?=some (.cells B t (0,0))/\w2.heap[w.heap.size+2]?=some (.cells C u (0,0)):=by
 obtain⟨w1,e1,b1,s1,h1,h2⟩:=Aan w A B s t
 refine⟨w1.alloc (.cells C u),by rw[e1],b1.alloc (by omega) _,by rw[World.size_alloc,s1],?_,?_,?_⟩
 ·rw[Below.heap_alloc _ _ _ (by omega)];exact h1
 ·rw[Below.heap_alloc _ _ _ (by omega)];exact h2
 ·have:=Aag w1 (.cells C u)
  rw[s1]at this
  exact this
theorem Amd {w W:World}{base g cap c:Nat}{L:List Ino}{vs:List Value}(hO:OwnT W base g cap L vs)(hB:Below w.heap.size w W)(hc:c < base)(hc2:w.heap.size<=c)(x y z:Value) :
  OwnT (put3 W c x y z) w.heap.size g cap L vs/\Below w.heap.size w (put3 W c x y z):=
 ⟨(hO.low fun k hk=>Aa9 (by omega) x y z).lower (by omega),Aao hB hc2 x y z⟩
theorem Ak2 (L:List Ino)(cwd:Int)(p:List UInt8):Abc L cwd p false=if (Abc L cwd p true).2.2≠0 then Abc L cwd p true else if endL p=true then(0,[],20)else Abc L cwd p true:=by
 unfold Abc
 split
 ·rename_i h;simp[]
 ·split
  ·simp
  ·split
   ·simp
   ·split
    ·simp
    ·cases endL p <;> simp
theorem Akd {L:List Ino}{m b:Int}(hF:FitP L m b)(cwd:Int)(p:List UInt8)(X:Int->Ino)(dirs:Bool)(hd:∀ d,dirs=true↔(X d).kind=2) :
  addS L b cwd p X=if (Abc L cwd p dirs).2.2≠0 then(L,0,(Abc L cwd p dirs).2.2)else if b < (Aax L:Int)+(X (Abc L cwd p dirs).1).data.length then(L,0,28)else Afy L (Abc L cwd p dirs).1 (Abc L cwd p dirs).2.1 (X (Abc L cwd p dirs).1):=by
 unfold addS Afw
 by_cases h0:(Abc L cwd p true).2.2=0
 ·obtain⟨d,s,hdl,hp,hf,-⟩:=Aip hF h0
  have hdd:=hd (d:Int)
  have key:∀ (f:Int×List UInt8×Int),f=((d:Int),s,0)->(if 1024<=(Aai L (d:Int)).kids.length then(L,(0:Int),(28:Int))else if Ahe L < 0∨b < (Aax L:Int)+(X (d:Int)).data.length then(L,0,28)else(addL L d (Ahe L).toNat s { X (d:Int)with links:=1 },Ahe L,0)) =
    (if b < (Aax L:Int)+(X f.1).data.length then(L,0,28)else Afy L f.1 f.2.1 (X f.1)):=fun f hf=>by
   rw[hf]
   show _=if b < (Aax L:Int)+(X (d:Int)).data.length then(L,0,28)else Afy L (d:Int) s (X (d:Int))
   unfold Afy Ahe
   by_cases h1:1024<=(Aai L (d:Int)).kids.length
   ·rw[if_pos h1,if_pos h1]
    split <;> rfl
   ·rw[if_neg h1,if_neg h1]
    cases Afa L L.length 0 with
    | none=>
     rw[if_pos (Or.inl (by decide))]
     split <;> rfl
    | some k=>
     by_cases h2:b < (Aax L:Int)+(X (d:Int)).data.length
     ·rw[if_pos (Or.inr h2),if_pos h2]
     ·rw[if_neg h2,if_neg (by rintro(h3|h3) <;> first|(simp only at h3;omega)|exact h2 h3)]
      rfl
  rw[hf]
  simp only[ne_eq,not_true_eq_false,if_false]
  cases dirs with
  | true=>
   have hk:(X (d:Int)).kind=2:=hdd.1 rfl
   have hr:Ach L (d:Int) (endL p) (X (d:Int)).kind=if 1024<=(Aai L (d:Int)).kids.length then 28 else 0:=by
    unfold Ach
    rw[if_neg (by simp[hk])]
   have hq:=key ((d:Int),s,0) rfl
   rw[hf,hr]
   by_cases h1:1024<=(Aai L (d:Int)).kids.length
   ·rw[if_pos h1]at hq ⊢
    exact hq
   ·rw[if_neg h1]at hq ⊢
    exact hq
  | false=>
   have hk:(X (d:Int)).kind≠2:=fun e=>by have:=hdd.2 e;cases this
   have hq:=key ((d:Int),s,0) rfl
   rw[Ak2,hf]
   cases he:endL p with
   | true=>
    have hr:Ach L (d:Int) true (X (d:Int)).kind=20:=by
     unfold Ach
     rw[if_pos ⟨rfl,hk⟩]
    rw[hr]
    rfl
   | false=>
    have hr:Ach L (d:Int) false (X (d:Int)).kind=if 1024<=(Aai L (d:Int)).kids.length then 28 else 0:=by
     unfold Ach
     rw[if_neg (by simp)]
    rw[hr]
    by_cases h1:1024<=(Aai L (d:Int)).kids.length
    ·rw[if_pos h1]at hq ⊢
     exact hq
    ·rw[if_neg h1]at hq ⊢
     exact hq
 ·rw[if_pos h0]
  simp only[ne_eq,h0,not_false_eq_true,if_true]
  cases dirs with
  | true=>simp[h0]
  | false=>rw[Ak2];simp[h0]
theorem Azq {L:List Ino}{m b:Int}(hF:FitP L m b)(cwd:Int)(p:List UInt8)(q:Int)(h:Af1 q=true):Ap3 L cwd p q=addS L b cwd p (fun d=>Ad9 2 q [] d):=by
 obtain⟨-,-,-,l4,-⟩:=hF.limits
 rw[Akd hF cwd p _ true (fun d=>by simp[Ad9])]
 unfold Ap3
 rw[if_neg (by simp[h])]
 split
 ·rfl
 ·show _=if b < (Aax L:Int)+(0:Nat)then _ else _
  rw[if_neg (by omega)]
theorem Amb {L:List Ino}{m b:Int}(hF:FitP L m b)(cwd:Int)(p:List UInt8)(q:Int)(h:Af1 q=true):Adr L cwd p q=addS L b cwd p (fun _=>Ad9 1 q [] 0):=by
 obtain⟨-,-,-,l4,-⟩:=hF.limits
 rw[Akd hF cwd p _ false (fun d=>by simp[Ad9])]
 unfold Adr
 rw[if_neg (by simp[h])]
 split
 ·rfl
 ·show _=if b < (Aax L:Int)+(0:Nat)then _ else _
  rw[if_neg (by omega)]
theorem Au6 (bb o cap:Nat)(m b:Int)(L:List Ino)(vs:List Value)(hL:0 < L.length)(hb:L.length<=1000)(_hcap:L.length<=cap)(_hmax:cap<=maxLen)(hl:vs.length=L.length)(hone:∀ v∈vs,v.oneCell'=true)(w:World)(hcell:∀ j u,(Afr L vs)[j]?=some u->w.cell? ⟨bb,o+j,none⟩=some u) :
  Calls Tryz.prog 149 #[.agg #[.slice (some ⟨bb,o,none⟩) L.length cap,.int .i64 m,.int .i64 b]] w fun e w'=>∃ g cap',e=.returned (.agg #[.slice (some ⟨g,0,none⟩) L.length cap',.int .i64 m,.int .i64 b])/\NodesOwn w' g cap' L vs/\w.heap.size<=g/\Below w.heap.size w w':=by
 obtain⟨i0,hi,hz0,hz1,hz2⟩:=info_parts Ax8
 obtain⟨w2,hw2,hb2,hs2,hA,hB⟩:=Aan w #[.slice (some ⟨bb,o,none⟩) L.length cap,.int .i64 m,.int .i64 b] #[.slice none 0 0,.int .i64 0,.int .i64 0] 24 24
 have AS:Aside (∀ j u,(Afr L vs)[j]?=some u->w2.cell? ⟨bb,o+j,none⟩=some u):=fun j u hj=>Aaa hb2 (hcell j u hj)
 have HL:=Hd hl
 have HB2:=Hd hb2
 have HA:=Hd hA
 have HR:=Hd hB
 have a0:=bC hA 0
 have hal:=lt_of_block hA
 clear hcell hl hb2 hA hB
 go_enter Tryz.func149,Tryz.ntmps149
 go_wp2_with (at_builtin;refine wpList_append_own _ rfl _ _ 22 rfl (w.heap.size+2) 66 i0 _ 6 72 Tryz.underlying22 hi hz0 hz1 hz2 rfl (by decide) (.slice none 0 0) 0 [] rfl (World.ownsRow_nil _ _ _ _) ⟨bb,o,none⟩ L.length cap (Afr L vs) rfl (Ahl L vs HL.out) (fun j u hj=>by rw[Addr.add_lit,<-hw2];exact AS.out j u hj) (Am4 hone) (by unfold maxLen;omega) (by omega) (by rw[<-hw2];omega) ?_)
 intro v' w3 hown hgrow hnil
 rw[<-hw2]at hgrow
 have hb3:Below w2.heap.size w2 w3:=(Below.refl _ _).grown hgrow (Nat.le_refl _) (fun k hk=>by cases hk)
 rcases hown.2 with ⟨rfl,h0⟩|⟨g,cap',cur,rfl,hgb,-⟩
 ·omega
 have hown2:w3.ownsRow (w.heap.size+2) 66 6 (.slice (some ⟨g,0,none⟩) L.length cap') L.length (Afr L vs):=by simpa using hown
 have hN3:=(Aie HL.out hown2).1
 have hA3:=(hb3.block w.heap.size (by omega)).trans HA.out
 have hR3:=(hb3.block (w.heap.size+1) (by omega)).trans HR.out
 have q0:=bC hA3 0
 have q1:=bC hA3 1
 have q2:=bC hA3 2
 have f0:=bF hA3 0
 have r0:=bC hR3 0
 have r1:=bC hR3 1
 have r2:=bC hR3 2
 have s0:=bF hR3 0
 have s1:=bF hR3 1
 have s2:=bF hR3 2
 have hrl:=lt_of_block hR3
 have hq:=lt_of_block hA3
 obtain⟨w4,hw4⟩:∃ w4,w4=w3.setCell ⟨w.heap.size,0,none⟩ (.slice (some ⟨g,0,none⟩) L.length cap'):=⟨_,rfl⟩
 have hA4:w4.heap[w.heap.size]?=some (.cells #[.slice (some ⟨g,0,none⟩) L.length cap',.int .i64 m,.int .i64 b] 24 (0,0)):=by rw[hw4];exact Aar hA3 0 _
 have hst:∀ k,k≠w.heap.size->w4.heap[k]?=w3.heap[k]?:=fun k hk=>by rw[hw4];exact Below.heap_setCell _ _ _ _ hk
 have hR4:=(hst (w.heap.size+1) (by omega)).trans hR3
 have hN4:NodesOwn w4 g cap' L vs:=hN3.same (hst g (by omega))
 have hb4:Below w.heap.size w w4:=by rw[hw4];exact(HB2.out.trans (hb3.mono (by omega))).setCell (show w.heap.size<=w.heap.size from Nat.le_refl _) _
 have HW4:=Hd hw4
 have HN4:=Hd hN4
 have HB4:=Hd hb4
 have HR4:=Hd hR4
 have HA4:=Hd hA4
 clear hw4 hN4 hb4 hR4 hA4 hst hN3 hown hown2 hgrow hnil hb3 hA3 hR3 a0 hal hw2
 go_wp2_with fail
 change bodyPost _ _ _ _ _ (put3 (w3.setCell ⟨w.heap.size,0,none⟩ (.slice (some ⟨g,0,none⟩) L.length cap')) (w.heap.size+1) (.slice (some ⟨g,0,none⟩) L.length cap') (.int .i64 m) (.int .i64 b))
 rw[<-HW4.out]
 obtain⟨c0,c1,c2⟩:=Aam HR4.out (.slice (some ⟨g,0,none⟩) L.length cap') (.int .i64 m) (.int .i64 b)
 have HNF:=Hd (HN4.out.same (W':=put3 w4 (w.heap.size+1) (.slice (some ⟨g,0,none⟩) L.length cap') (.int .i64 m) (.int .i64 b)) (Aa9 (by omega) _ _ _))
 have HBF:=Hd (Aao HB4.out (show w.heap.size<=w.heap.size+1 by omega) (.slice (some ⟨g,0,none⟩) L.length cap') (.int .i64 m) (.int .i64 b))
 generalize put3 w4 (w.heap.size+1) (.slice (some ⟨g,0,none⟩) L.length cap') (.int .i64 m) (.int .i64 b)=wF at *
 exact bodyPost_ret (v:=.agg #[.slice (some ⟨g,0,none⟩) L.length cap',.int .i64 m,.int .i64 b]) (by simp[results,Tryz.results149,go_sem,c0,c1,c2]) rfl ⟨g,cap',rfl,HNF.out,by omega,HBF.out⟩
def Ayn (L:List Ino)(w2:World)(iv:Value)(wr:World):Prop:=
 ∃ k:Nat,k<=L.length/\iv=.int .i64 k/\Below w2.heap.size w2 wr/\Afa L L.length 0=Afa L (L.length - k) k
theorem Arl (a:Option Addr)(cap:Nat)(m b:Int)(d:Nat)(s:List UInt8)(xk xm xl:Int)(xd:List UInt8)(xu:Int)(L:List Ino)(hd:d < L.length)(hL1:L.length<=256)(hlen:L[d].kids.length<=1024)(hnew:∀ e∈L[d].kids,e.1≠s)(hdk:L[d].kind≠0)
  (L':List Ino) (kz er:Int) (hz:Afy L (d:Int) s ⟨xk,xm,xl,xd,[],xu⟩=(L',kz,er)) (w:World) (hN:Aad w a cap L) :
  Calls Tryz.prog 129 #[.agg #[.slice a L.length cap,.int .i64 m,.int .i64 b],.int .i64 d,.string ⟨s.toArray⟩,.agg #[.int .i64 xk,.int .i64 xm,.int .i64 xl,.string ⟨xd.toArray⟩,.slice none 0 0,.int .i64 xu]] w (Akc w m b L' [.int .i64 kz,.int .i64 er]):=by
 obtain⟨vs,hvsl,hone,hkk,hcell⟩:=Ah3 hN
 obtain⟨bb,o,rfl,hx0⟩:=hN.2.2 d hd
 have HCELL:=Hd (show ∀ j u,(Afr L vs)[j]?=some u->w.cell? ⟨bb,o+j,none⟩=some u from fun j u hj=>by
  obtain⟨b',o',e,hc⟩:=hcell j u hj
  cases e
  exact hc)
 have HKK:=Hd hkk
 have HCAP:=Hd (show L.length<=cap/\cap<=maxLen from⟨hN.1,hN.2.1⟩)
 clear hcell hkk hx0
 obtain⟨w2,hw2,hb2,hs2,hA,hQ,hB⟩:=Aj1 w #[.slice (some ⟨bb,o,none⟩) L.length cap,.int .i64 m,.int .i64 b] #[.int .i64 xk,.int .i64 xm,.int .i64 xl,.string ⟨xd.toArray⟩,.slice none 0 0,.int .i64 xu] #[.slice none 0 0,.int .i64 0,.int .i64 0] 24 66 24
 have HX:=Hd (show ∀ W,Below w2.heap.size w2 W->W.cell? ⟨w.heap.size,0,none⟩=some (.slice (some ⟨bb,o,none⟩) L.length cap)/\W.cell? ⟨w.heap.size,1,none⟩=some (.int .i64 m)/\W.cell? ⟨w.heap.size,2,none⟩=some (.int .i64 b)from fun W hW=>by
  have h:=(hW.block w.heap.size (by omega)).trans hA
  exact⟨bC h 0,bC h 1,bC h 2⟩)
 have HQ:=Hd (show ∀ W,Below w2.heap.size w2 W->W.heap[w.heap.size+1]?=some (.cells #[.int .i64 xk,.int .i64 xm,.int .i64 xl,.string ⟨xd.toArray⟩,.slice none 0 0,.int .i64 xu] 66 (0,0))from fun W hW=>(hW.block _ (by omega)).trans hQ)
 have HR:=Hd (show ∀ W,Below w2.heap.size w2 W->W.heap[w.heap.size+2]?=some (.cells #[.slice none 0 0,.int .i64 0,.int .i64 0] 24 (0,0))from fun W hW=>(hW.block _ (by omega)).trans hB)
 have HM:=Hd (show ∀ W,Below w2.heap.size w2 W->Aad W (some ⟨bb,o,none⟩) cap L from fun W hW=>hN.below (hb2.trans (hW.mono (by omega))))
 have HB2:=Hd hb2
 have HN:=Hd hN
 have HZ:=Hd hz
 have HNEW:=Hd hnew
 clear hz hN hb2 hA hQ hB hnew
 go_enter Tryz.func129,Tryz.ntmps129
 go_wp2_with fail
 rw[<-hw2]
 clear hw2
 go_loopw [11] (fun iv wr=>Ayn L w2 iv wr) (fun iv _=>L.length - (intOf iv).toNat)
 case atStart=>exact⟨0,by omega,rfl,Below.refl _ _,rfl⟩
 case round=>
  obtain⟨k,hk,rfl,hbr,hfr⟩:=hrel
  have HFR:=Hd hfr
  have HBR:=Hd hbr
  obtain⟨q0,q1,q2⟩:=HX.out _ hbr
  have hq:=Aaf q0
  have hNd:=HM.out _ hbr
  have hszr:=hbr.size
  obtain⟨b1,o1,e0,hx⟩:=hNd.2.2 d hd
  obtain⟨rfl,rfl⟩:bb=b1/\o=o1:=by simpa using e0
  obtain⟨kv,x4,hks⟩:=hx.kids
  obtain⟨ka,kc,rfl,hkc,hkm,hkk⟩:=hks
  have hd0:(0:Int)<=(d:Int):=by omega
  have hd1:(d:Int) < (L.length:Int):=by omega
  have hRx:=HR.out _ hbr
  have HRX:=Hd hRx
  have r0:=bC hRx 0
  have r1:=bC hRx 1
  have r2:=bC hRx 2
  have s0:=bF hRx 0
  have s1:=bF hRx 1
  have s2:=bF hRx 2
  have hrl:=lt_of_block hRx
  unfold maxLen at hkm
  clear hbr hfr hRx hx hkk e0
  by_cases hlt:k < L.length
  ·by_cases hroom:L[d].kids.length < 1024
   ·have hroomi:(L[d].kids.length:Int) < 1024:=by omega
    obtain⟨bb',o',e1,hy⟩:=hNd.2.2 k hlt
    obtain⟨rfl,rfl⟩:bb=bb'/\o=o':=by simpa using e1
    have y0:=hy.kind
    have hk0:(0:Int)<=(k:Int):=by omega
    have hk1:(k:Int) < (L.length:Int):=by omega
    have hbl:=Aaf y0
    clear hy hNd e1
    by_cases hkz:L[k].kind=0
    ·rw[hkz]at y0
     have hfree:Afa L L.length 0=some k:=by
      rw[HFR.out,show L.length - k=(L.length - k - 1)+1 by omega]
      unfold Afa
      rw[Aae L k hlt,if_pos hkz]
     have hz2:=HZ.out
     unfold Afy at hz2
     rw[Aae L d hd,if_neg (by omega),hfree]at hz2
     simp only[Prod.mk.injEq,Int.toNat_natCast]at hz2
     obtain⟨hL2,rfl,rfl⟩:=hz2
     have HL2:=Hd hL2
     clear hL2 hfree
     go_wp2_with fail
     refine(Au6 _ _ cap m b L vs (by omega) (by omega) HCAP.out.1 HCAP.out.2 hvsl hone _ (fun j u hj=>Aaa (HB2.out.trans (HBR.out.mono (by omega))) (HCELL.out j u hj))).mono ?_
     rintro e w3 ⟨g,cap',rfl,hN3,hg3,hb3⟩
     have hs3:=hb3.size
     have hkv:k < vs.length:=by rw[hN3.len];exact hlt
     have hdv:d < vs.length:=by rw[hN3.len];exact hd
     have HN3:=Hd hN3
     have HB3:=Hd hb3
     have HBR3:=Hd (HBR.out.trans (hb3.mono hszr))
     have hQx:=HQ.out _ HBR3.out
     have HQX:=Hd hQx
     have v0:=bC hQx 0
     have v1:=bC hQx 1
     have v2:=bC hQx 2
     have v3:=bC hQx 3
     have v4:=bC hQx 4
     have v5:=bC hQx 5
     have vf2:=bF hQx 2
     have hvl:=lt_of_block hQx
     have hn:=hN3.node k hlt hkv
     have n0:=hn.kind
     have n1:=hn.mode
     have n2:=hn.links
     have n3:=hn.data
     have n4:=hn.kids
     have n5:=hn.up
     have f0:=hN3.free (k * 6)
     have f1:=hN3.free (k * 6+1)
     have f2:=hN3.free (k * 6+2)
     have f3:=hN3.free (k * 6+3)
     have f4:=hN3.free (k * 6+4)
     have f5:=hN3.free (k * 6+5)
     have hgl:=hN3.lt
     clear hN3 hb3 hQx hn q0 q1 q2 hq r0 r1 r2 s0 s1 s2 hrl x4 y0 hbl
     go_wp2_with fail
     obtain⟨wq,hwq⟩:∃ p,p=(((((((w3.setCell ⟨w.heap.size+1,2,none⟩ (.int .i64 1)).setCell ⟨g,k * 6,none⟩ (.int .i64 xk)).setCell ⟨g,k * 6+1,none⟩ (.int .i64 xm)).setCell ⟨g,k * 6+2,none⟩ (.int .i64 1)).setCell ⟨g,k * 6+3,none⟩ (.string ⟨xd.toArray⟩)).setCell ⟨g,k * 6+4,none⟩ (.slice none 0 0)).setCell ⟨g,k * 6+5,none⟩ (.int .i64 xu)):=⟨_,rfl⟩
     rw[<-hwq]
     obtain⟨w4,hw4⟩:∃ p,p=wq.alloc (.cells #[.slice (some ⟨g,0,none⟩) L.length cap',.int .i64 m,.int .i64 b] 24):=⟨_,rfl⟩
     rw[<-hw4]
     have hqx:wq=(w3.setCell ⟨w.heap.size+1,2,none⟩ (.int .i64 1)).setCells g (k * 6) (inoC ⟨xk,xm,1,xd,[],xu⟩ (.slice none 0 0)):=hwq
     have hqs:wq.heap.size=w3.heap.size:=by rw[hqx,Aez];simp[World.setCell]
     have hgw:w.heap.size+3<=g:=by omega
     have hqb:Below w.heap.size w wq:=by
      rw[hwq]
      have h1:Below w.heap.size w w3:=HB2.out.trans (HBR3.out.mono (by omega))
      exact((((((h1.setCell (by show w.heap.size<=w.heap.size+1;omega) _).setCell (by show w.heap.size<=g;omega) _).setCell (by show w.heap.size<=g;omega) _).setCell (by show w.heap.size<=g;omega) _).setCell (by show w.heap.size<=g;omega) _).setCell (by show w.heap.size<=g;omega) _).setCell (by show w.heap.size<=g;omega) _
     have hqo:∀ j,j≠g->j≠w.heap.size+1->wq.heap[j]?=w3.heap[j]?:=fun j h1 h2=>by
      rw[hwq,Below.heap_setCell _ _ _ _ h1,Below.heap_setCell _ _ _ _ h1,Below.heap_setCell _ _ _ _ h1,Below.heap_setCell _ _ _ _ h1,Below.heap_setCell _ _ _ _ h1,Below.heap_setCell _ _ _ _ h1,Below.heap_setCell _ _ _ _ h2]
     have hNq:NodesOwn wq g cap' (L.set k ⟨xk,xm,1,xd,[],xu⟩) (vs.set k (.slice none 0 0)):=by
      rw[hqx]
      exact(HN3.out.same (Below.heap_setCell _ _ _ _ (by show g≠w.heap.size+1;omega))).setNode hlt hkv _ _
     have hb4:Below wq.heap.size wq w4:=by rw[hw4];exact Aab wq _
     have hs4:w4.heap.size=w3.heap.size+1:=by rw[hw4,World.size_alloc,hqs]
     have HN4:=Hd (hNq.below hb4)
     have HB4:=Hd (hqb.trans (hb4.mono (by omega)))
     have HR4:=Hd (show w4.heap[w.heap.size+2]?=some (.cells #[.slice none 0 0,.int .i64 0,.int .i64 0] 24 (0,0))from(hb4.block _ (by omega)).trans ((hqo _ (by omega) (by omega)).trans (HR.out _ HBR3.out)))
     have HU4:=Hd (show w4.heap[w3.heap.size]?=some (.cells #[.slice (some ⟨g,0,none⟩) L.length cap',.int .i64 m,.int .i64 b] 24 (0,0)) by
      have h:=Aag wq (.cells #[.slice (some ⟨g,0,none⟩) L.length cap',.int .i64 m,.int .i64 b] 24)
      rw[hqs,<-hw4]at h
      exact h)
     have hdne:k≠d:=fun e=>by
      subst e
      exact hdk hkz
     obtain⟨ja,jc,hvd⟩:∃ ja jc,vs[d]=.slice ja L[d].kids.length jc:=by
      obtain⟨x1,x2,x3,-⟩:=HKK.out d hd hdv
      exact⟨x1,x2,x3⟩
     have HVD:=Hd hvd
     have HKD:=Hd (show ∀ W,Below w.heap.size w W->Abn W (.slice ja L[d].kids.length jc) L[d].kids from fun W hW=>by
      have h:=(HKK.out d hd hdv).below hW
      rw[hvd]at h
      exact h)
     have hd1':d < (L.set k ⟨xk,xm,1,xd,[],xu⟩:List Ino).length:=by rw[List.length_set];exact hd
     have hv1':d < (vs.set k (.slice none 0 0)).length:=by rw[List.length_set];exact hdv
     have HD4:=Hd (show ∀ W,Below w4.heap.size w4 W->W.cell? ⟨g,d * 6+4,none⟩=some (.slice ja L[d].kids.length jc)/\W.frozen? ⟨g,d * 6+4,none⟩=false from fun W hW=>by
      have h1:=HN4.out.below hW
      have h2:=(h1.node d hd1' hv1').kids
      rw[List.getElem_set_ne hdne,hvd]at h2
      exact⟨h2,h1.free _⟩)
     have HUU:=Hd (show ∀ W,Below w4.heap.size w4 W->W.cell? ⟨w3.heap.size,0,none⟩=some (.slice (some ⟨g,0,none⟩) L.length cap')/\W.cell? ⟨w3.heap.size,1,none⟩=some (.int .i64 m)/\W.cell? ⟨w3.heap.size,2,none⟩=some (.int .i64 b)from fun W hW=>by
      have h:=(hW.block w3.heap.size (by omega)).trans HU4.out
      exact⟨bC h 0,bC h 1,bC h 2⟩)
     have HNAM:=Hd (show ∀ W,Below w4.heap.size w4 W->Calls Tryz.prog 163 #[.slice ja L[d].kids.length jc,.string ⟨s.toArray⟩,.int .i64 k] W fun e w'=>∃ v',e=.returned v'/\Aa4 w' W.heap.size v' (Aa3 L[d].kids s k)/\Below W.heap.size W w' from fun W hW=>Ars _ L[d].kids (by omega) s k HNEW.out W (HKD.out W (HB4.out.trans (hW.mono HB4.out.size))))
     have HQF:=Hd (show ∀ w5,Below w4.heap.size w4 w5->∀ v,Aa4 w5 w4.heap.size v (Aa3 L[d].kids s k)->(w5.setCell ⟨g,d * 6+4,none⟩ v).heap[w3.heap.size]?=some (.cells #[.slice (some ⟨g,0,none⟩) L.length cap',.int .i64 m,.int .i64 b] 24 (0,0))/\(w5.setCell ⟨g,d * 6+4,none⟩ v).heap[w.heap.size+2]?=some (.cells #[.slice none 0 0,.int .i64 0,.int .i64 0] 24 (0,0)) /\
       ∀ x y z,Aad (put3 (w5.setCell ⟨g,d * 6+4,none⟩ v) (w.heap.size+2) x y z) (some ⟨g,0,none⟩) cap' L'/\Below w.heap.size w (put3 (w5.setCell ⟨g,d * 6+4,none⟩ v) (w.heap.size+2) x y z)from fun w5 h5 v hv=>by
      have hBB:Below w.heap.size w (w5.setCell ⟨g,d * 6+4,none⟩ v):=(HB4.out.trans (h5.mono HB4.out.size)).setCell (by show w.heap.size<=g;omega) _
      refine⟨(Below.heap_setCell _ _ _ _ (by show w3.heap.size≠g;omega)).trans ((h5.block _ (by omega)).trans HU4.out),(Below.heap_setCell _ _ _ _ (by show w.heap.size+2≠g;omega)).trans ((h5.block _ (by omega)).trans HR4.out),fun x y z=>⟨?_,Aao hBB (by omega) x y z⟩⟩
      have hN6:=((HN4.out.below h5).setKids hd1' hv1' v (Aa3 L[d].kids s k)).same (W':=put3 (w5.setCell ⟨g,d * 6+4,none⟩ v) (w.heap.size+2) x y z) (Aa9 (by omega) x y z)
      have hLL:(L.set k ⟨xk,xm,1,xd,[],xu⟩:List Ino).set d { (L.set k ⟨xk,xm,1,xd,[],xu⟩:List Ino)[d]with kids:=Aa3 L[d].kids s k }=L':=by
       rw[<-HL2.out,List.getElem_set_ne hdne]
       unfold addL
       rw[Aae L d hd]
       rfl
      rw[hLL]at hN6
      refine hN6.nodesIn fun i hi hv6=>?_
      have hgi:L'[i]=if d=i then Ad3 L[d] (Aa3 L[d].kids s k)else if k=i then⟨xk,xm,1,xd,[],xu⟩else L[i]'(by rw[<-HL2.out,Acd]at hi;exact hi):=by
       have hi2:i < L.length:=by rw[<-HL2.out,Acd]at hi;exact hi
       have h:=Agt (k:=k) hd s ⟨xk,xm,1,xd,[],xu⟩ i hi2
       rw[<-h]
       congr 1
       exact HL2.out.symm
      rw[hgi,List.getElem_set]
      by_cases e1:d=i
      ·rw[if_pos e1,if_pos e1]
       exact(hv.same fun j hj=>by
        have hj2:=(hv.lt j hj).1
        exact(Aa9 (by omega) x y z).trans (Below.heap_setCell _ _ _ _ (by show j≠g;omega))).kidsIn
      ·rw[if_neg e1,if_neg e1,List.getElem_set]
       by_cases e2:k=i
       ·rw[if_pos e2,if_pos e2]
        exact⟨none,0,rfl,Nat.le_refl _,Nat.zero_le _,fun _ hi=>absurd hi (Nat.not_lt_zero _)⟩
       ·rw[if_neg e2,if_neg e2]
        exact(HKK.out i _ _).below (Aao hBB (by omega) x y z))
     obtain⟨u0,u1,u2⟩:=HUU.out _ (Below.refl _ _)
     obtain⟨z4,zf⟩:=HD4.out _ (Below.refl _ _)
     have hul:=Aaf u0
     have hzl:=Aaf z4
     have hLl:L'.length=L.length:=by rw[<-HL2.out,Acd]
     clear hwq hw4 hqx hqs hqb hqo hNq hb4 hvd n0 n1 n2 n3 n4 n5 f0 f1 f2 f3 f4 f5 v0 v1 v2 v3 v4 v5 vf2 hvl
     go_region_with (first|(go_at_call 163;refine(HNAM.out _ ?_).mono ?_;(exact⟨rfl,rfl,rfl,Nat.le_refl _,fun _ _=>rfl⟩);rintro e w5 ⟨v',rfl,hk5,hb5'⟩;have hb5:Below w4.heap.size w4 w5:=⟨hb5'.os,hb5'.tape,hb5'.output,hb5'.size,hb5'.block⟩;obtain⟨va,vc,rfl⟩:=hk5.form;obtain⟨z4',zf'⟩:=HD4.out w5 hb5;obtain⟨u0',u1',u2'⟩:=HUU.out w5 hb5;have hul':=Aaf u0';have hzl':=Aaf z4';have HK5:=Hd hk5;have HB5:=Hd hb5;clear hk5 hb5 hb5'))
     all_goals
      obtain⟨hU6,hR6,hfin⟩:=HQF.out w5 HB5.out _ HK5.out
      have HFIN:=Hd hfin
      have HR6:=Hd hR6
      have t0:=bC hU6 0
      have t1:=bC hU6 1
      have t2:=bC hU6 2
      have r0:=bC hR6 0
      have r1:=bC hR6 1
      have r2:=bC hR6 2
      have s0:=bF hR6 0
      have s1:=bF hR6 1
      have s2:=bF hR6 2
      have htl:=lt_of_block hU6
      have hrl:=lt_of_block hR6
      clear hU6 hR6 hfin u0 u1 u2 z4 zf hul hzl
      try clear u0' u1' u2' z4' zf' hul' hzl'
      generalize w5.setCell ⟨g,d * 6+4,none⟩ (.slice va (Aa3 L[d].kids s k).length vc)=w6 at *
      go_wp2_with fail
      change bodyPost _ _ _ _ _ (put3 w6 (w.heap.size+2) (.slice (some ⟨g,0,none⟩) L.length cap') (.int .i64 m) (.int .i64 b))
      obtain⟨c0,c1,c2⟩:=Aam HR6.out (.slice (some ⟨g,0,none⟩) L.length cap') (.int .i64 m) (.int .i64 b)
      obtain⟨hf1,hf2⟩:=HFIN.out (.slice (some ⟨g,0,none⟩) L.length cap') (.int .i64 m) (.int .i64 b)
      refine bodyPost_ret (v:=.tuple #[.agg #[.slice (some ⟨g,0,none⟩) L'.length cap',.int .i64 m,.int .i64 b],.int .i64 k,.int .i64 0]) (by simp[results,Tryz.results129,go_sem,c0,c1,c2,hLl]) rfl ⟨⟨_,_,rfl,hf1⟩,hf2⟩
    ·have hkb:(L[k].kind == 0)=false:=by simpa using hkz
     have hnext:=Hd (show Afa L L.length 0=Afa L (L.length - (k+1)) (k+1) by
      rw[HFR.out,show L.length - k=(L.length - (k+1))+1 by omega]
      conv=>lhs;unfold Afa
      rw[Aae L k hlt,if_neg hkz])
     clear r0 r1 r2 s0 s1 s2
     go_wp2_with fail
     go_roundw
     case rel=>exact⟨k+1,by omega,by go_num,⟨HBR.out.os,HBR.out.tape,HBR.out.output,HBR.out.size,HBR.out.block⟩,hnext.out⟩
     case measure=>simp[intOf] <;> omega
   ·have hroomi:¬ (L[d].kids.length:Int) < 1024:=by omega
    have hk0:(0:Int)<=(k:Int):=by omega
    have hk1:(k:Int) < (L.length:Int):=by omega
    have hbl:=Aaf x4
    have hz2:=HZ.out
    unfold Afy at hz2
    rw[Aae L d hd,if_pos (by omega)]at hz2
    simp only[Prod.mk.injEq]at hz2
    obtain⟨rfl,rfl,rfl⟩:=hz2
    clear hNd
    go_wp2_with fail
    change bodyPost _ _ _ _ _ (put3 wr (w.heap.size+2) (.slice (some ⟨bb,o,none⟩) L.length cap) (.int .i64 m) (.int .i64 b))
    obtain⟨c0,c1,c2⟩:=Aam HRX.out (.slice (some ⟨bb,o,none⟩) L.length cap) (.int .i64 m) (.int .i64 b)
    have hBF:=Aao (HB2.out.trans (HBR.out.mono (by omega))) (show w.heap.size<=w.heap.size+2 by omega) (.slice (some ⟨bb,o,none⟩) L.length cap) (.int .i64 m) (.int .i64 b)
    refine bodyPost_ret (v:=.tuple #[.agg #[.slice (some ⟨bb,o,none⟩) L.length cap,.int .i64 m,.int .i64 b],.int .i64 0,.int .i64 28]) (by simp[results,Tryz.results129,go_sem,c0,c1,c2]) rfl ⟨⟨_,_,rfl,HN.out.below hBF⟩,hBF⟩
  ·obtain rfl:k=L.length:=by omega
   have hz2:=HZ.out
   have hno:Afa L L.length 0=none:=by
    rw[HFR.out,Nat.sub_self]
    rfl
   unfold Afy at hz2
   have hz3:(L,(0:Int),(28:Int))=(L',kz,er):=by
    rw[hno]at hz2
    split at hz2 <;> exact hz2
   simp only[Prod.mk.injEq]at hz3
   obtain⟨rfl,rfl,rfl⟩:=hz3
   clear hNd hz2 hno
   go_wp2_with fail
   change bodyPost _ _ _ _ _ (put3 wr (w.heap.size+2) (.slice (some ⟨bb,o,none⟩) L.length cap) (.int .i64 m) (.int .i64 b))
   obtain⟨c0,c1,c2⟩:=Aam HRX.out (.slice (some ⟨bb,o,none⟩) L.length cap) (.int .i64 m) (.int .i64 b)
   have hBF:=Aao (HB2.out.trans (HBR.out.mono (by omega))) (show w.heap.size<=w.heap.size+2 by omega) (.slice (some ⟨bb,o,none⟩) L.length cap) (.int .i64 m) (.int .i64 b)
   refine bodyPost_ret (v:=.tuple #[.agg #[.slice (some ⟨bb,o,none⟩) L.length cap,.int .i64 m,.int .i64 b],.int .i64 0,.int .i64 28]) (by simp[results,Tryz.results129,go_sem,c0,c1,c2]) rfl ⟨⟨_,_,rfl,HN.out.below hBF⟩,hBF⟩
end Go.Proofs.YtkdfbliiblojoaaGreatDoor
