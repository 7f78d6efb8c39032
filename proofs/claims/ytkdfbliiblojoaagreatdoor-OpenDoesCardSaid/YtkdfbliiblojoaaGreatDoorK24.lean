import Derived.Test.YtkdfbliiblojoaaGreatDoorK21
set_option linter.all false
set_option maxRecDepth 100000
set_option maxHeartbeats 64000000
namespace Go.Proofs.YtkdfbliiblojoaaGreatDoor
open Go Go.RowKit
def Afw (L:List Ino)(cwd:Int)(p:List UInt8):Int×List UInt8×Bool×Int:=
 if (Abc L cwd p true).2.2≠0 then(0,[],false,(Abc L cwd p true).2.2)else((Abc L cwd p true).1,(Abc L cwd p true).2.1,endL p,0)
theorem Adz (a:Option Addr)(cap:Nat)(m b cwd:Int)(pb:ByteArray)(hp:pb.size<=1073741824)(L:List Ino)(hF:FitP L m b)(z:Int)(s:List UInt8)(e:Int)(h:Aa6 L cwd pb.data.toList=(z,s,e))(w:World)(hN:Aad w a cap L) :
  Calls Tryz.prog 194 #[.agg #[.slice a L.length cap,.int .i64 m,.int .i64 b],.int .i64 cwd,.string pb] w fun r w'=>r=.returned (.tuple #[.int .i64 z,.string ⟨s.toArray⟩,.int .i64 e])/\Below w.heap.size w w':=by
 have:=Aob a cap m b cwd pb hp L hF w hN
 rw[h]at this
 exact this
theorem Awr (a:Option Addr)(cap:Nat)(m b cwd:Int)(pb:ByteArray)(hp:pb.size<=1073741824)(L:List Ino)(hF:FitP L m b)(z:Int)(s:List UInt8)(sl:Bool)(er:Int)(hz:Afw L cwd pb.data.toList=(z,s,sl,er))(w:World)(hN:Aad w a cap L) :
  Calls Tryz.prog 179 #[.agg #[.slice a L.length cap,.int .i64 m,.int .i64 b],.int .i64 cwd,.string pb] w fun e w'=>e=.returned (.tuple #[.agg #[.int .i64 z,.string ⟨s.toArray⟩,.bool sl],.int .i64 er])/\Below w.heap.size w w':=by
 obtain⟨⟨d,nm,pe⟩,hpar⟩:∃ r,Aa6 L cwd pb.data.toList=r:=⟨_,rfl⟩
 obtain⟨w2,hw2,hb2,hs2,hA,hB⟩:=Aan w #[.slice a L.length cap,.int .i64 m,.int .i64 b] #[.int .i64 0,.string ⟨#[]⟩,.bool false] 24 203
 have HP:=Hd hpar
 have HF:=Hd hF
 have HN:=Hd (hN.below hb2)
 have HZ:=Hd hz
 have HA:=Hd (show ∀ W,Below w2.heap.size w2 W->W.cell? ⟨w.heap.size,0,none⟩=some (.slice a L.length cap)/\W.cell? ⟨w.heap.size,1,none⟩=some (.int .i64 m)/\W.cell? ⟨w.heap.size,2,none⟩=some (.int .i64 b)from fun W hW=>by
  have h:=(hW.block w.heap.size (by omega)).trans hA
  exact⟨bC h 0,bC h 1,bC h 2⟩)
 have HB:=Hd (show ∀ W,Below w2.heap.size w2 W->W.heap[w.heap.size+1]?=some (.cells #[.int .i64 0,.string ⟨#[]⟩,.bool false] 203 (0,0))from fun W hW=>(hW.block _ (by omega)).trans hB)
 have HE:=Hd (show ∀ W,Below w2.heap.size w2 W->∀ x y z,Below w.heap.size w (put3 W (w.heap.size+1) x y z)from fun W hW x y z=>Aao (hb2.trans (hW.mono (by omega))) (by omega) x y z)
 clear hpar hF hN hz hA hB hb2
 by_cases h1:pe=0
 ·subst h1
  obtain⟨sf,hsf⟩:∃ v,endL pb.data.toList=v:=⟨_,rfl⟩
  obtain⟨kz,hkz⟩:∃ v,kidL L d nm=v:=⟨_,rfl⟩
  obtain⟨mv,hmv⟩:∃ v,mayL L d 3=v:=⟨_,rfl⟩
  obtain⟨nv,hnv⟩:∃ v,Abd nm=v:=⟨_,rfl⟩
  have HSF:=Hd hsf
  have HK:=Hd hkz
  have HM:=Hd hmv
  have HNM:=Hd hnv
  have hz2:=HZ.out
  unfold Afw Abc at hz2
  rw[HP.out]at hz2
  simp only[hkz,hmv,hnv,hsf]at hz2
  clear hsf hkz hmv hnv
  by_cases e1:nm=[46]
  ·subst e1
   simp at hz2
   obtain⟨rfl,rfl,rfl,rfl⟩:=hz2
   go_enter Tryz.func179,Tryz.ntmps179
   go_wp2_with fail
   rw[<-hw2]
   clear hw2
   refine(Adz _ _ _ _ _ _ hp L HF.out _ _ _ HP.out _ HN.out).mono ?_
   rintro e w3 ⟨rfl,hb3⟩
   have HB3:=Hd hb3
   clear hb3
   have hBx:=HB.out _ HB3.out
   have r0:=bC hBx 0
   have r1:=bC hBx 1
   have r2:=bC hBx 2
   have s0:=bF hBx 0
   have s1:=bF hBx 1
   have s2:=bF hBx 2
   have hlx:=lt_of_block hBx
   have HBX:=Hd hBx
   clear hBx
   go_wp2_with fail
   change bodyPost _ _ _ _ _ (put3 w3 (w.heap.size+1) (.int .i64 0) (.string ⟨#[]⟩) (.bool false))
   obtain⟨c0,c1,c2⟩:=Aam HBX.out (.int .i64 0) (.string ⟨#[]⟩) (.bool false)
   have HBF:=Hd (HE.out w3 HB3.out (.int .i64 0) (.string ⟨#[]⟩) (.bool false))
   generalize put3 w3 (w.heap.size+1) (.int .i64 0) (.string ⟨#[]⟩) (.bool false)=wF at *
   refine bodyPost_ret (v:=.tuple #[.agg #[.int .i64 0,.string ⟨#[]⟩,.bool false],.int .i64 17]) (by simp[results,Tryz.results179,go_sem,c0,c1,c2]) rfl ⟨rfl,HBF.out⟩
  have e1b:(nm == [46])=false:=by simpa using e1
  by_cases e2:nm=[46,46]
  ·subst e2
   simp at hz2
   obtain⟨rfl,rfl,rfl,rfl⟩:=hz2
   go_enter Tryz.func179,Tryz.ntmps179
   go_wp2_with fail
   rw[<-hw2]
   clear hw2
   refine(Adz _ _ _ _ _ _ hp L HF.out _ _ _ HP.out _ HN.out).mono ?_
   rintro e w3 ⟨rfl,hb3⟩
   have HB3:=Hd hb3
   clear hb3
   have hBx:=HB.out _ HB3.out
   have r0:=bC hBx 0
   have r1:=bC hBx 1
   have r2:=bC hBx 2
   have s0:=bF hBx 0
   have s1:=bF hBx 1
   have s2:=bF hBx 2
   have hlx:=lt_of_block hBx
   have HBX:=Hd hBx
   clear hBx
   go_wp2_with fail
   change bodyPost _ _ _ _ _ (put3 w3 (w.heap.size+1) (.int .i64 0) (.string ⟨#[]⟩) (.bool false))
   obtain⟨c0,c1,c2⟩:=Aam HBX.out (.int .i64 0) (.string ⟨#[]⟩) (.bool false)
   have HBF:=Hd (HE.out w3 HB3.out (.int .i64 0) (.string ⟨#[]⟩) (.bool false))
   generalize put3 w3 (w.heap.size+1) (.int .i64 0) (.string ⟨#[]⟩) (.bool false)=wF at *
   refine bodyPost_ret (v:=.tuple #[.agg #[.int .i64 0,.string ⟨#[]⟩,.bool false],.int .i64 17]) (by simp[results,Tryz.results179,go_sem,c0,c1,c2]) rfl ⟨rfl,HBF.out⟩
  have e2b:(nm == [46,46])=false:=by simpa using e2
  by_cases e3:0<=kz
  ·simp[e1,e2,e3]at hz2
   obtain⟨rfl,rfl,rfl,rfl⟩:=hz2
   clear e1 e2
   go_enter Tryz.func179,Tryz.ntmps179
   go_wp2_with fail
   rw[<-hw2]
   clear hw2
   refine(Adz _ _ _ _ _ _ hp L HF.out _ _ _ HP.out _ HN.out).mono ?_
   rintro e w3 ⟨rfl,hb3⟩
   have HB3:=Hd hb3
   clear hb3
   obtain⟨q0,q1,q2⟩:=HA.out _ HB3.out
   have hq:=Aaf q0
   go_wp2_with fail
   refine(Afe _ _ _ _ _ _ L (Adk HF.out.ins) _ HK.out _ (HN.out.below HB3.out)).mono ?_
   rintro e w4 ⟨rfl,hb4⟩
   have HB4:=Hd (HB3.out.trans (hb4.mono HB3.out.size))
   clear hb4 q0 q1 q2 hq
   have hBx:=HB.out _ HB4.out
   have r0:=bC hBx 0
   have r1:=bC hBx 1
   have r2:=bC hBx 2
   have s0:=bF hBx 0
   have s1:=bF hBx 1
   have s2:=bF hBx 2
   have hlx:=lt_of_block hBx
   have HBX:=Hd hBx
   clear hBx
   go_wp2_with fail
   change bodyPost _ _ _ _ _ (put3 w4 (w.heap.size+1) (.int .i64 0) (.string ⟨#[]⟩) (.bool false))
   obtain⟨c0,c1,c2⟩:=Aam HBX.out (.int .i64 0) (.string ⟨#[]⟩) (.bool false)
   have HBF:=Hd (HE.out w4 HB4.out (.int .i64 0) (.string ⟨#[]⟩) (.bool false))
   generalize put3 w4 (w.heap.size+1) (.int .i64 0) (.string ⟨#[]⟩) (.bool false)=wF at *
   refine bodyPost_ret (v:=.tuple #[.agg #[.int .i64 0,.string ⟨#[]⟩,.bool false],.int .i64 17]) (by simp[results,Tryz.results179,go_sem,c0,c1,c2]) rfl ⟨rfl,HBF.out⟩
  cases nv with
  | false=>
   simp[e1,e2,e3]at hz2
   obtain⟨rfl,rfl,rfl,rfl⟩:=hz2
   clear e1 e2
   go_enter Tryz.func179,Tryz.ntmps179
   go_wp2_with fail
   rw[<-hw2]
   clear hw2
   refine(Adz _ _ _ _ _ _ hp L HF.out _ _ _ HP.out _ HN.out).mono ?_
   rintro e w3 ⟨rfl,hb3⟩
   have HB3:=Hd hb3
   clear hb3
   obtain⟨q0,q1,q2⟩:=HA.out _ HB3.out
   have hq:=Aaf q0
   go_wp2_with fail
   refine(Afe _ _ _ _ _ _ L (Adk HF.out.ins) _ HK.out _ (HN.out.below HB3.out)).mono ?_
   rintro e w4 ⟨rfl,hb4⟩
   have HB4:=Hd (HB3.out.trans (hb4.mono HB3.out.size))
   clear hb4 q0 q1 q2 hq
   have hBx:=HB.out _ HB4.out
   have r0:=bC hBx 0
   have r1:=bC hBx 1
   have r2:=bC hBx 2
   have s0:=bF hBx 0
   have s1:=bF hBx 1
   have s2:=bF hBx 2
   have hlx:=lt_of_block hBx
   have HBX:=Hd hBx
   clear hBx
   go_wp2_with (first|(go_at_call 187;refine(Agy _ _ HNM.out _).mono ?_;rintro e w' ⟨rfl,rfl⟩)|fail)
   change bodyPost _ _ _ _ _ (put3 w4 (w.heap.size+1) (.int .i64 0) (.string ⟨#[]⟩) (.bool false))
   obtain⟨c0,c1,c2⟩:=Aam HBX.out (.int .i64 0) (.string ⟨#[]⟩) (.bool false)
   have HBF:=Hd (HE.out w4 HB4.out (.int .i64 0) (.string ⟨#[]⟩) (.bool false))
   generalize put3 w4 (w.heap.size+1) (.int .i64 0) (.string ⟨#[]⟩) (.bool false)=wF at *
   refine bodyPost_ret (v:=.tuple #[.agg #[.int .i64 0,.string ⟨#[]⟩,.bool false],.int .i64 22]) (by simp[results,Tryz.results179,go_sem,c0,c1,c2]) rfl ⟨rfl,HBF.out⟩
  | true=>
   cases mv with
   | false=>
    simp[e1,e2,e3]at hz2
    obtain⟨rfl,rfl,rfl,rfl⟩:=hz2
    clear e1 e2
    go_enter Tryz.func179,Tryz.ntmps179
    go_wp2_with fail
    rw[<-hw2]
    clear hw2
    refine(Adz _ _ _ _ _ _ hp L HF.out _ _ _ HP.out _ HN.out).mono ?_
    rintro e w3 ⟨rfl,hb3⟩
    have HB3:=Hd hb3
    clear hb3
    obtain⟨q0,q1,q2⟩:=HA.out _ HB3.out
    have hq:=Aaf q0
    go_wp2_with fail
    refine(Afe _ _ _ _ _ _ L (Adk HF.out.ins) _ HK.out _ (HN.out.below HB3.out)).mono ?_
    rintro e w4 ⟨rfl,hb4⟩
    have HB4:=Hd (HB3.out.trans (hb4.mono HB3.out.size))
    clear hb4 q0 q1 q2 hq
    obtain⟨q0,q1,q2⟩:=HA.out _ HB4.out
    have hq:=Aaf q0
    go_wp2_with (first|(go_at_call 187;refine(Agy _ _ HNM.out _).mono ?_;rintro e w' ⟨rfl,rfl⟩)|fail)
    refine(Ady _ _ _ _ _ _ L HF.out.ins _ HM.out _ (HN.out.below HB4.out)).mono ?_
    rintro e w5 ⟨rfl,hb5⟩
    have HB5:=Hd (HB4.out.trans (hb5.mono HB4.out.size))
    clear hb5 q0 q1 q2 hq
    have hBx:=HB.out _ HB5.out
    have r0:=bC hBx 0
    have r1:=bC hBx 1
    have r2:=bC hBx 2
    have s0:=bF hBx 0
    have s1:=bF hBx 1
    have s2:=bF hBx 2
    have hlx:=lt_of_block hBx
    have HBX:=Hd hBx
    clear hBx
    go_wp2_with fail
    change bodyPost _ _ _ _ _ (put3 w5 (w.heap.size+1) (.int .i64 0) (.string ⟨#[]⟩) (.bool false))
    obtain⟨c0,c1,c2⟩:=Aam HBX.out (.int .i64 0) (.string ⟨#[]⟩) (.bool false)
    have HBF:=Hd (HE.out w5 HB5.out (.int .i64 0) (.string ⟨#[]⟩) (.bool false))
    generalize put3 w5 (w.heap.size+1) (.int .i64 0) (.string ⟨#[]⟩) (.bool false)=wF at *
    refine bodyPost_ret (v:=.tuple #[.agg #[.int .i64 0,.string ⟨#[]⟩,.bool false],.int .i64 13]) (by simp[results,Tryz.results179,go_sem,c0,c1,c2]) rfl ⟨rfl,HBF.out⟩
   | true=>
    simp[e1,e2,e3]at hz2
    obtain⟨rfl,rfl,rfl,rfl⟩:=hz2
    clear e1 e2
    go_enter Tryz.func179,Tryz.ntmps179
    go_wp2_with fail
    rw[<-hw2]
    clear hw2
    refine(Adz _ _ _ _ _ _ hp L HF.out _ _ _ HP.out _ HN.out).mono ?_
    rintro e w3 ⟨rfl,hb3⟩
    have HB3:=Hd hb3
    clear hb3
    obtain⟨q0,q1,q2⟩:=HA.out _ HB3.out
    have hq:=Aaf q0
    go_wp2_with fail
    refine(Afe _ _ _ _ _ _ L (Adk HF.out.ins) _ HK.out _ (HN.out.below HB3.out)).mono ?_
    rintro e w4 ⟨rfl,hb4⟩
    have HB4:=Hd (HB3.out.trans (hb4.mono HB3.out.size))
    clear hb4 q0 q1 q2 hq
    obtain⟨q0,q1,q2⟩:=HA.out _ HB4.out
    have hq:=Aaf q0
    go_wp2_with (first|(go_at_call 187;refine(Agy _ _ HNM.out _).mono ?_;rintro e w' ⟨rfl,rfl⟩)|fail)
    refine(Ady _ _ _ _ _ _ L HF.out.ins _ HM.out _ (HN.out.below HB4.out)).mono ?_
    rintro e w5 ⟨rfl,hb5⟩
    have HB5:=Hd (HB4.out.trans (hb5.mono HB4.out.size))
    clear hb5 q0 q1 q2 hq
    have hBx:=HB.out _ HB5.out
    have r0:=bC hBx 0
    have r1:=bC hBx 1
    have r2:=bC hBx 2
    have s0:=bF hBx 0
    have s1:=bF hBx 1
    have s2:=bF hBx 2
    have hlx:=lt_of_block hBx
    have HBX:=Hd hBx
    clear hBx
    go_wp2_with (first|(go_at_call 152;refine(Ab6 _ hp _ HSF.out _).mono ?_;rintro e w' ⟨rfl,rfl⟩)|fail)
    change bodyPost _ _ _ _ _ (put3 w5 (w.heap.size+1) (.int .i64 d) (.string ⟨nm.toArray⟩) (.bool sf))
    obtain⟨c0,c1,c2⟩:=Aam HBX.out (.int .i64 d) (.string ⟨nm.toArray⟩) (.bool sf)
    have HBF:=Hd (HE.out w5 HB5.out (.int .i64 d) (.string ⟨nm.toArray⟩) (.bool sf))
    generalize put3 w5 (w.heap.size+1) (.int .i64 d) (.string ⟨nm.toArray⟩) (.bool sf)=wF at *
    refine bodyPost_ret (v:=.tuple #[.agg #[.int .i64 d,.string ⟨nm.toArray⟩,.bool sf],.int .i64 0]) (by simp[results,Tryz.results179,go_sem,c0,c1,c2]) rfl ⟨rfl,HBF.out⟩
 ·have hz2:=HZ.out
  unfold Afw Abc at hz2
  rw[HP.out]at hz2
  simp only[h1,ne_eq,not_false_eq_true,if_true,Prod.mk.injEq]at hz2
  obtain⟨rfl,rfl,rfl,rfl⟩:=hz2
  have hb1:(pe != 0)=true:=by simpa using h1
  go_enter Tryz.func179,Tryz.ntmps179
  go_wp2_with fail
  rw[<-hw2]
  clear hw2
  refine(Adz _ _ _ _ _ _ hp L HF.out _ _ _ HP.out _ HN.out).mono ?_
  rintro e w3 ⟨rfl,hb3⟩
  have HB3:=Hd hb3
  have hB3:=HB.out _ hb3
  have r0:=bC hB3 0
  have r1:=bC hB3 1
  have r2:=bC hB3 2
  have s0:=bF hB3 0
  have s1:=bF hB3 1
  have s2:=bF hB3 2
  have HB3':=Hd hB3
  have hl3:=lt_of_block hB3
  clear hb3 hB3
  go_wp2_with fail
  change bodyPost _ _ _ _ _ (put3 w3 (w.heap.size+1) (.int .i64 0) (.string ⟨#[]⟩) (.bool false))
  obtain⟨c0,c1,c2⟩:=Aam HB3'.out (.int .i64 0) (.string ⟨#[]⟩) (.bool false)
  have HBF:=Hd (HE.out w3 HB3.out (.int .i64 0) (.string ⟨#[]⟩) (.bool false))
  generalize put3 w3 (w.heap.size+1) (.int .i64 0) (.string ⟨#[]⟩) (.bool false)=wF at *
  refine bodyPost_ret (v:=.tuple #[.agg #[.int .i64 0,.string ⟨#[]⟩,.bool false],.int .i64 pe]) (by simp[results,Tryz.results179,go_sem,c0,c1,c2]) rfl ⟨rfl,HBF.out⟩
theorem Aja (W:World)(x y:Value)(t:TypeId):∀ j u,[x,y][j]?=some u->(W.alloc (.cells #[x,y] t)).cell? ((⟨W.heap.size,0,none⟩:Addr).add j)=some u:=fun j u hj=>by
 rw[Abj,bC (Aag W _) j]
 simpa using hj
theorem Akt (e:List UInt8×Int)(r:List (List UInt8×Int))(s:List UInt8)(k:Int):Aa3 (e :: r) s k=if Op.bytesLess e.1 s=true then e :: Aa3 r s k else(s,k) :: (e :: r).filter fun e=>e.1 != s:=rfl
def Bab (M:List (List UInt8×Int))(s:List UInt8)(z:Int)(w:World)(ov pv iv:Value)(wr:World):Prop:=
 ∃ (k:Nat) (out:List (List UInt8×Int)) (put:Bool),k<=M.length/\iv=.int .i64 k/\pv=.bool put/\out.length<=k+put.toNat/\Aa3 M s z=out ++ (if put=true then M.drop k else Aa3 (M.drop k) s z)/\Aa4 wr w.heap.size ov out/\Below w.heap.size w wr
theorem Ars (v:Value)(M:List (List UInt8×Int))(hM:M.length<=4096)(s:List UInt8)(z:Int)(hnew:∀ e∈M,e.1≠s)(w:World)(hK:Abn w v M) :
  Calls Tryz.prog 163 #[v,.string ⟨s.toArray⟩,.int .i64 z] w fun e w'=>∃ v',e=.returned v'/\Aa4 w' w.heap.size v' (Aa3 M s z)/\Below w.heap.size w w':=by
 obtain⟨i0,hi,hz0,hz1,hz2⟩:=info_parts As8
 obtain⟨a,cap,rfl,hc,hm,hk⟩:=hK
 have HK:=Hd hk
 have HNEW:=Hd hnew
 unfold maxLen at hm
 clear hk hnew
 go_enter Tryz.func163,Tryz.ntmps163
 go_wp2_with fail
 go_loopw [7,8,9] (fun ov pv iv wr=>Bab M s z w ov pv iv wr) (fun _ _ iv _=>M.length - (intOf iv).toNat)
 case atStart=>exact⟨0,[],false,by omega,rfl,rfl,by simp,by simp,Aa4.nil _ _,Below.refl _ _⟩
 case round=>
  obtain⟨k,out,put,hk,rfl,rfl,hol,he,ho,hb⟩:=hrel
  have HE0:=Hd he
  have HO:=Hd (show wr.ownsRow w.heap.size 139 2 _ out.length (kidC out)from ho)
  have HB:=Hd hb
  have hsz:=hb.size
  clear he ho hb
  by_cases hlt:k < M.length
  ·have hlz:(k:Int) < (M.length:Int):=by omega
   have hk0:(0:Int)<=(k:Int):=by omega
   obtain⟨c1,p1,rfl,z0,z1⟩:=HK.out k hlt
   have hx:=List.drop_eq_getElem_cons hlt
   have hnew':=HNEW.out M[k] (List.getElem_mem _)
   obtain⟨nm,hnm⟩:∃ x,x=M[k].1:=⟨_,rfl⟩
   obtain⟨zi,hzi⟩:∃ x,x=M[k].2:=⟨_,rfl⟩
   have hpair:M[k]=(nm,zi):=by rw[hnm,hzi]
   rw[<-hnm]at z0 hnew'
   rw[<-hzi]at z1
   rw[hpair]at hx
   have HZ0:=Hd z0
   have HZ1:=Hd z1
   have HXD:=Hd hx
   have hne:(nm == s)=false:=by simpa using hnew'
   have y0:=Aaa HB.out z0
   have y1:=Aaa HB.out z1
   have hyl:=Aaf y0
   clear hnm hzi hpair z0 z1 hx hnew'
   cases put with
   | true=>
    have hol':out.length<=k+1:=hol
    have HE:=Hd (show Aa3 M s z=(out ++ [(nm,zi)]) ++ (if true=true then M.drop (k+1)else Aa3 (M.drop (k+1)) s z) by
     have h:=HE0.out
     rw[if_pos rfl,HXD.out]at h
     rw[if_pos rfl,h]
     simp)
    go_wp2_with (first|(at_builtin;(refine wpList_append_own _ rfl _ _ 64 rfl w.heap.size 139 i0 _ 2 24 Tryz.underlying64 hi hz0 hz1 hz2 rfl (by decide) _ _ _ rfl (HO.out.alloc _) ⟨wr.heap.size,0,none⟩ 1 1 [.string ⟨nm.toArray⟩,.int .i64 zi] rfl rfl (Aja _ _ _ _) (fun x hx=>by simp at hx;rcases hx with rfl|rfl <;> rfl) (by unfold maxLen;omega) (by omega) (by simp;omega) ?_);intro v3 w3 hown3 hgrow3 hnil3)|fail)
    have hb3:Below w.heap.size w w3:=(HB.out.alloc HB.out.size _).grown hgrow3 (by simp;omega) (fun r hr=>(HO.out.lt r hr).1)
    have HO3:=Hd (show w3.ownsRow w.heap.size 139 2 _ (out ++ [(nm,zi)]).length (kidC (out ++ [(nm,zi)])) by rw[List.length_append,Afp];exact hown3)
    have HB3:=Hd hb3
    have hs3:=hb3.size
    clear hb3 hown3 hgrow3 hnil3
    go_wp2_with fail
    go_roundw
    case rel=>exact⟨k+1,out ++ [(nm,zi)],true,by omega,by go_num,rfl,by show _<=k+1+1;simp only[List.length_append,List.length_cons,List.length_nil];omega,HE.out,HO3.out,HB3.out⟩
    case measure=>simp[intOf] <;> omega
   | false=>
    have hol':out.length<=k:=hol
    cases hls:Op.bytesLess nm s with
    | true=>
     have HE:=Hd (show Aa3 M s z=(out ++ [(nm,zi)]) ++ (if false=true then M.drop (k+1)else Aa3 (M.drop (k+1)) s z) by
      have h:=HE0.out
      rw[if_neg (by decide),HXD.out]at h
      rw[Akt]at h
      rw[if_pos hls]at h
      rw[if_neg (by decide),List.append_assoc]
      exact h)
     go_wp2_with (first|(at_builtin;(refine wpList_append_own _ rfl _ _ 64 rfl w.heap.size 139 i0 _ 2 24 Tryz.underlying64 hi hz0 hz1 hz2 rfl (by decide) _ _ _ rfl (HO.out.alloc _) ⟨wr.heap.size,0,none⟩ 1 1 [.string ⟨nm.toArray⟩,.int .i64 zi] rfl rfl (Aja _ _ _ _) (fun x hx=>by simp at hx;rcases hx with rfl|rfl <;> rfl) (by unfold maxLen;omega) (by omega) (by simp;omega) ?_);intro v3 w3 hown3 hgrow3 hnil3)|fail)
     have hb3:Below w.heap.size w w3:=(HB.out.alloc HB.out.size _).grown hgrow3 (by simp;omega) (fun r hr=>(HO.out.lt r hr).1)
     have HO3:=Hd (show w3.ownsRow w.heap.size 139 2 _ (out ++ [(nm,zi)]).length (kidC (out ++ [(nm,zi)])) by rw[List.length_append,Afp];exact hown3)
     have HB3:=Hd hb3
     have hs3:=hb3.size
     clear hb3 hown3 hgrow3 hnil3
     go_wp2_with fail
     go_roundw
     case rel=>exact⟨k+1,out ++ [(nm,zi)],false,by omega,by go_num,rfl,by show _<=k+1+0;simp only[List.length_append,List.length_cons,List.length_nil];omega,HE.out,HO3.out,HB3.out⟩
     case measure=>simp[intOf] <;> omega
    | false=>
     have HE:=Hd (show Aa3 M s z=((out ++ [(s,z)]) ++ [(nm,zi)]) ++ (if true=true then M.drop (k+1)else Aa3 (M.drop (k+1)) s z) by
      have h:=HE0.out
      rw[if_neg (by decide),HXD.out]at h
      rw[Akt]at h
      rw[if_neg (by rw[hls];decide),List.filter_eq_self.2 (fun e he=>by
       have h1:=HNEW.out e (List.mem_of_mem_drop (i:=k) (by rw[HXD.out];exact he))
       simpa using h1)]at h
      rw[if_pos rfl,h]
      simp)
     go_wp2_with (first|(at_builtin;(refine wpList_append_own _ rfl _ _ 64 rfl w.heap.size 139 i0 _ 2 24 Tryz.underlying64 hi hz0 hz1 hz2 rfl (by decide) _ _ _ rfl (HO.out.alloc _) ⟨wr.heap.size,0,none⟩ 1 1 [.string ⟨s.toArray⟩,.int .i64 z] rfl rfl (Aja _ _ _ _) (fun x hx=>by simp at hx;rcases hx with rfl|rfl <;> rfl) (by unfold maxLen;omega) (by omega) (by simp;omega) ?_);intro v3 w3 hown3 hgrow3 hnil3;have hb3:Below w.heap.size w w3:=(HB.out.alloc HB.out.size _).grown hgrow3 (by simp;omega) (fun r hr=>(HO.out.lt r hr).1);have y0':=Aaa hb3 HZ0.out;have y1':=Aaa hb3 HZ1.out;have hyl':=Aaf y0';have HB3:=Hd hb3;have hs3:=hb3.size;have ho1:(out ++ [(s,z)]).length=out.length+1:=(by simp);have HO3:=Hd (show w3.ownsRow w.heap.size 139 2 v3 (out ++ [(s,z)]).length (kidC (out ++ [(s,z)])) by rw[List.length_append,Afp];exact hown3))|(at_builtin;(refine wpList_append_own _ rfl _ _ 64 rfl w.heap.size 139 i0 _ 2 24 Tryz.underlying64 hi hz0 hz1 hz2 rfl (by decide) _ _ _ rfl (HO3.out.alloc _) ⟨w3.heap.size,0,none⟩ 1 1 [.string ⟨nm.toArray⟩,.int .i64 zi] rfl rfl (Aja _ _ _ _) (fun x hx=>by simp at hx;rcases hx with rfl|rfl <;> rfl) (by unfold maxLen;omega) (by omega) (by simp;omega) ?_);intro v4 w4 hown4 hgrow4 hnil4)|fail)
     have HO4:=Hd (show w4.ownsRow w.heap.size 139 2 _ ((out ++ [(s,z)]) ++ [(nm,zi)]).length (kidC ((out ++ [(s,z)]) ++ [(nm,zi)])) by rw[List.length_append,Afp];exact hown4)
     have HB4:=Hd (show Below w.heap.size w w4 from(HB3.out.alloc HB3.out.size _).grown hgrow4 (by simp;omega) (fun r hr=>(HO3.out.lt r hr).1))
     clear hown4 hgrow4 hnil4 hown3 hgrow3 hnil3 hb3
     go_wp2_with fail
     go_roundw
     case rel=>exact⟨k+1,(out ++ [(s,z)]) ++ [(nm,zi)],true,by omega,by go_num,rfl,by show _<=k+1+1;simp only[List.length_append,List.length_cons,List.length_nil];omega,HE.out,HO4.out,HB4.out⟩
     case measure=>simp[intOf] <;> omega
  ·obtain rfl:k=M.length:=by omega
   have hd:M.drop M.length=[]:=List.drop_length
   cases put with
   | true=>
    have HE:=Hd (show Aa3 M s z=out by have h:=HE0.out;rw[if_pos rfl,hd,List.append_nil]at h;exact h)
    clear hd
    go_wp2_with fail
    go_ret
    exact⟨_,rfl,by rw[HE.out];exact HO.out,HB.out⟩
   | false=>
    have hol':out.length<=M.length:=hol
    have HE:=Hd (show Aa3 M s z=out ++ [(s,z)] by have h:=HE0.out;rw[if_neg (by decide),hd]at h;exact h)
    clear hd
    go_wp2_with (first|(at_builtin;(refine wpList_append_own _ rfl _ _ 64 rfl w.heap.size 139 i0 _ 2 24 Tryz.underlying64 hi hz0 hz1 hz2 rfl (by decide) _ _ _ rfl (HO.out.alloc _) ⟨wr.heap.size,0,none⟩ 1 1 [.string ⟨s.toArray⟩,.int .i64 z] rfl rfl (Aja _ _ _ _) (fun x hx=>by simp at hx;rcases hx with rfl|rfl <;> rfl) (by unfold maxLen;omega) (by omega) (by simp;omega) ?_);intro v3 w3 hown3 hgrow3 hnil3)|fail)
    have hb3:Below w.heap.size w w3:=(HB.out.alloc HB.out.size _).grown hgrow3 (by simp;omega) (fun r hr=>(HO.out.lt r hr).1)
    have HO3:=Hd (show w3.ownsRow w.heap.size 139 2 _ (out ++ [(s,z)]).length (kidC (out ++ [(s,z)])) by rw[List.length_append,Afp];exact hown3)
    have HB3:=Hd hb3
    have hs3:=hb3.size
    clear hb3 hown3 hgrow3 hnil3
    go_wp2_with fail
    go_ret
    exact⟨_,rfl,by rw[HE.out];exact HO3.out,HB3.out⟩
end Go.Proofs.YtkdfbliiblojoaaGreatDoor
