import Derived.Test.YtkdfbliiblojoaaGreatDoorK44
set_option linter.all false
set_option maxRecDepth 100000
set_option maxHeartbeats 64000000
namespace Go.Proofs.YtkdfbliiblojoaaGreatDoor
open Go Go.RowKit
theorem Amq (A:KAd)(K:Krn)(f:List Int)(fd cwd:Int)(pb:ByteArray)(hp:pb.size<=1073741824)(how:Int)(hF:FitK K f)(w:World)(hK:KernIn w A K)(hY:Ways w) :
  Calls Tryz.prog 10 #[.agg #[.slice A.ta K.tree.length A.tc,.int .i64 K.m,.int .i64 K.b,.slice A.pa K.pipes.length A.pc,.slice A.oa K.opens.length A.oc,.string ⟨K.out0.toArray⟩,.string ⟨K.out1.toArray⟩],.agg #[.int .i64 (fdA f 0),.int .i64 (fdA f 1),.int .i64 (fdA f 2),.int .i64 (fdA f 3),.int .i64 (fdA f 4),.int .i64 (fdA f 5),.int .i64 (fdA f 6),.int .i64 (fdA f 7),.int .i64 (fdA f 8),.int .i64 (fdA f 9)],.int .i64 fd,.int .i64 cwd,.string pb,.int .i64 how] w (KAns (Afc K f fd cwd pb.data.toList how) w):=by
 have hY0:0 < w.heap.size:=Aaf (hY.at_ 0 (by decide)).1
 obtain⟨w2,hw2,hb2,hs2,hX,hY_⟩:=Aan w #[.slice A.ta K.tree.length A.tc,.int .i64 K.m,.int .i64 K.b,.slice A.pa K.pipes.length A.pc,.slice A.oa K.opens.length A.oc,.string ⟨K.out0.toArray⟩,.string ⟨K.out1.toArray⟩] #[.int .i64 (fdA f 0),.int .i64 (fdA f 1),.int .i64 (fdA f 2),.int .i64 (fdA f 3),.int .i64 (fdA f 4),.int .i64 (fdA f 5),.int .i64 (fdA f 6),.int .i64 (fdA f 7),.int .i64 (fdA f 8),.int .i64 (fdA f 9)] 29 31
 obtain⟨v0,hv0⟩:∃ z,z=w2.alloc (.cells #[.int .i64 fd] 3):=⟨_,rfl⟩
 have hbv0:Below w2.heap.size w2 v0:=by rw[hv0];exact Aab w2 _
 have hsv0:v0.heap.size=w.heap.size+3:=by rw[hv0];simp;omega
 have hXv0:v0.heap[w.heap.size+2]?=some (.cells #[.int .i64 fd] 3 (0,0)):=by
  have h:=Aag w2 (.cells #[.int .i64 fd] 3)
  rw[<-hv0,hs2]at h
  exact h
 obtain⟨v1,hv1⟩:∃ z,z=v0.alloc (.cells #[.int .i64 cwd] 3):=⟨_,rfl⟩
 have hbv1:Below v0.heap.size v0 v1:=by rw[hv1];exact Aab v0 _
 have hsv1:v1.heap.size=w.heap.size+4:=by rw[hv1];simp;omega
 have hXv1:v1.heap[w.heap.size+3]?=some (.cells #[.int .i64 cwd] 3 (0,0)):=by
  have h:=Aag v0 (.cells #[.int .i64 cwd] 3)
  rw[<-hv1,hsv0]at h
  exact h
 obtain⟨v2,hv2⟩:∃ z,z=v1.alloc (.cells #[.string pb] 9):=⟨_,rfl⟩
 have hbv2:Below v1.heap.size v1 v2:=by rw[hv2];exact Aab v1 _
 have hsv2:v2.heap.size=w.heap.size+5:=by rw[hv2];simp;omega
 have hXv2:v2.heap[w.heap.size+4]?=some (.cells #[.string pb] 9 (0,0)):=by
  have h:=Aag v1 (.cells #[.string pb] 9)
  rw[<-hv2,hsv1]at h
  exact h
 obtain⟨v3,hv3⟩:∃ z,z=v2.alloc (.cells #[.int .i64 how] 3):=⟨_,rfl⟩
 have hbv3:Below v2.heap.size v2 v3:=by rw[hv3];exact Aab v2 _
 have hsv3:v3.heap.size=w.heap.size+6:=by rw[hv3];simp;omega
 have hXv3:v3.heap[w.heap.size+5]?=some (.cells #[.int .i64 how] 3 (0,0)):=by
  have h:=Aag v2 (.cells #[.int .i64 how] 3)
  rw[<-hv3,hsv2]at h
  exact h
 obtain⟨w5,hw5,hb5,hs5,hU,hV⟩:=Aan v3 #[.slice none 0 0,.int .i64 0,.int .i64 0,.slice none 0 0,.slice none 0 0,.string ⟨#[]⟩,.string ⟨#[]⟩] #[.int .i64 0,.int .i64 0,.int .i64 0,.int .i64 0,.int .i64 0,.int .i64 0,.int .i64 0,.int .i64 0,.int .i64 0,.int .i64 0] 29 31
 rw[hsv3]at hU hV
 have hc4:Below v3.heap.size v3 w5:=hb5
 have hc3:Below v2.heap.size v2 w5:=hbv3.trans (hc4.mono (by omega))
 have hc2:Below v1.heap.size v1 w5:=hbv2.trans (hc3.mono (by omega))
 have hc1:Below v0.heap.size v0 w5:=hbv1.trans (hc2.mono (by omega))
 have hc0:Below w2.heap.size w2 w5:=hbv0.trans (hc1.mono (by omega))
 have hbw:Below w.heap.size w w5:=hb2.trans (hc0.mono (by omega))
 have hX5:=(hc0.block w.heap.size (by omega)).trans hX
 have hY5:=(hc0.block (w.heap.size+1) (by omega)).trans hY_
 have hA0:=(hc1.block (w.heap.size+2) (by omega)).trans hXv0
 have hA1:=(hc2.block (w.heap.size+3) (by omega)).trans hXv1
 have hA2:=(hc3.block (w.heap.size+4) (by omega)).trans hXv2
 have hA3:=(hc4.block (w.heap.size+5) (by omega)).trans hXv3
 have hs6:w5.heap.size=w.heap.size+8:=by omega
 have HB:=Hd hbw
 have HS:=Hd hs6
 have HU:=Hd hU
 have HV:=Hd hV
 have HX5:=Hd hX5
 have HY5:=Hd hY5
 have HA0:=Hd hA0
 have HA1:=Hd hA1
 have HA2:=Hd hA2
 have HA3:=Hd hA3
 have HCL:=Hd (ldo (fid:=37) (caps:=#[.pointer (some ⟨w.heap.size+2,0,none⟩),.pointer (some ⟨w.heap.size+3,0,none⟩),.pointer (some ⟨w.heap.size+4,0,none⟩),.pointer (some ⟨w.heap.size+5,0,none⟩)]) (Ajb 37 Tryz.f37 Tryz.func37 (by decide) (by intro h;cases h)) none (fun _=>True) A K f (Afc K f fd cwd pb.data.toList how) hF (fun h=>(Aop hF rfl).2 h) w5 (hK.below hbw) (fun W' h _=>(hK.below hbw).below h.below) (fun k h=>by cases h) (fun _ _ _ _=>trivial)
  (fun B g A' W h1 h2 h3 h4=>Baw _ _ _ _ fd cwd how pb hp W h4 hF h2 (hY.below (hbw.trans (h3.mono (by omega))) (Nat.le_refl _)) (by have:=hY0;omega) (Aaa h3 (bC hA0 0)) (Aaa h3 (bC hA1 0)) (Aaa h3 (bC hA2 0)) (Aaa h3 (bC hA3 0))))
 obtain⟨Z,hZ⟩:∃ Z,Z=Afc K f fd cwd pb.data.toList how:=⟨_,rfl⟩
 rw[<-hZ]at HCL ⊢
 have h0:=hw5
 rw[hv3,hv2,hv1,hv0,hw2]at h0
 have HW:=Hd h0
 have q0:=bC hX5 0
 have q1:=bC hX5 1
 have q2:=bC hX5 2
 have q3:=bC hX5 3
 have q4:=bC hX5 4
 have q5:=bC hX5 5
 have q6:=bC hX5 6
 have r0:=bC hY5 0
 have r1:=bC hY5 1
 have r2:=bC hY5 2
 have r3:=bC hY5 3
 have r4:=bC hY5 4
 have r5:=bC hY5 5
 have r6:=bC hY5 6
 have r7:=bC hY5 7
 have r8:=bC hY5 8
 have r9:=bC hY5 9
 clear h0 hZ hF hK hX hY_ hU hV hX5 hY5 hbw hb2 hb5 hs2 hs5 hs6 hw2 hw5 hA0 hv0 hbv0 hsv0 hXv0 hc1 hA1 hv1 hbv1 hsv1 hXv1 hc2 hA2 hv2 hbv2 hsv2 hXv2 hc3 hA3 hv3 hbv3 hsv3 hXv3 hc4 hc0
 go_enter Tryz.func10,Tryz.ntmps10
 go_upto_region 1 with fail
 have h0:=HW.out
 rw[<-h0]
 clear h0
 go_wp2_with fail
 refine HCL.out.mono ?_
 rintro e w6 ⟨⟨A',rfl,hk6,hfr⟩,hbo,-⟩
 have hb6:Below w5.heap.size w5 w6:=hbo.below
 have HU6:=Hd ((hb6.block (w.heap.size+6) (by have:=HS.out;omega)).trans HU.out)
 have HV6:=Hd ((hb6.block (w.heap.size+7) (by have:=HS.out;omega)).trans HV.out)
 have HFR:=Hd hfr
 have HB6:=Hd hb6
 obtain⟨wv,hwv,hU7,hV7,hkn,hfrm,hsz,ho1,ho2,ho3⟩:=Aeq (u:=w.heap.size+6) (v:=w.heap.size+7) (by omega) (Kz:=Z.1) Z.2.1 HU6.out HV6.out hk6 (fun x hx=>by have:=hfr.1 x hx;have:=HS.out;omega) (fun x hx=>by have:=hfr.2 x hx;have:=HS.out;omega)
 have HKN:=Hd hkn
 have HEND:=Hd (show Below w.heap.size w wv from⟨ho1.trans (hb6.os.trans HB.out.os),ho2.trans (hb6.tape.trans HB.out.tape),ho3.trans (hb6.output.trans HB.out.output),by have:=hb6.size;have:=HB.out.size;omega,fun k hk=>(hfrm k (by omega) (by omega)).trans ((hb6.block k (by have:=HB.out.size;omega)).trans (HB.out.block k hk))⟩)
 have d0:=bC hV7 0
 have d1:=bC hV7 1
 have d2:=bC hV7 2
 have d3:=bC hV7 3
 have d4:=bC hV7 4
 have d5:=bC hV7 5
 have d6:=bC hV7 6
 have d7:=bC hV7 7
 have d8:=bC hV7 8
 have d9:=bC hV7 9
 have e0:=bC hU7 0
 have e1:=bC hU7 1
 have e2:=bC hU7 2
 have e3:=bC hU7 3
 have e4:=bC hU7 4
 have e5:=bC hU7 5
 have e6:=bC hU7 6
 have a0:=bC HU6.out 0
 have a1:=bC HU6.out 1
 have a2:=bC HU6.out 2
 have a3:=bC HU6.out 3
 have a4:=bC HU6.out 4
 have a5:=bC HU6.out 5
 have a6:=bC HU6.out 6
 have b0:=bF HU6.out 0
 have b1:=bF HU6.out 1
 have b2:=bF HU6.out 2
 have b3:=bF HU6.out 3
 have b4:=bF HU6.out 4
 have b5:=bF HU6.out 5
 have b6:=bF HU6.out 6
 have m0:=bC HV6.out 0
 have m1:=bC HV6.out 1
 have m2:=bC HV6.out 2
 have m3:=bC HV6.out 3
 have m4:=bC HV6.out 4
 have m5:=bC HV6.out 5
 have m6:=bC HV6.out 6
 have m7:=bC HV6.out 7
 have m8:=bC HV6.out 8
 have m9:=bC HV6.out 9
 have n0:=bF HV6.out 0
 have n1:=bF HV6.out 1
 have n2:=bF HV6.out 2
 have n3:=bF HV6.out 3
 have n4:=bF HV6.out 4
 have n5:=bF HV6.out 5
 have n6:=bF HV6.out 6
 have n7:=bF HV6.out 7
 have n8:=bF HV6.out 8
 have n9:=bF HV6.out 9
 have ul:=lt_of_block HU6.out
 have vl:=lt_of_block HV6.out
 have HWV:=Hd hwv
 clear hwv hk6 hfr hb6 hbo hkn hfrm hsz ho1 ho2 ho3 hU7 hV7 q0 q1 q2 q3 q4 q5 q6 r0 r1 r2 r3 r4 r5 r6 r7 r8 r9
 go_wp2_with fail
 change bodyPost _ _ _ _ _ ((put7 w6 (w.heap.size+6) (.slice A'.ta Z.1.tree.length A'.tc) (.int .i64 Z.1.m) (.int .i64 Z.1.b) (.slice A'.pa Z.1.pipes.length A'.pc) (.slice A'.oa Z.1.opens.length A'.oc) (.string ⟨Z.1.out0.toArray⟩) (.string ⟨Z.1.out1.toArray⟩)).setCells (w.heap.size+7) 0 [.int .i64 (fdA Z.2.1 0),.int .i64 (fdA Z.2.1 1),.int .i64 (fdA Z.2.1 2),.int .i64 (fdA Z.2.1 3),.int .i64 (fdA Z.2.1 4),.int .i64 (fdA Z.2.1 5),.int .i64 (fdA Z.2.1 6),.int .i64 (fdA Z.2.1 7),.int .i64 (fdA Z.2.1 8),.int .i64 (fdA Z.2.1 9)])
 rw[<-HWV.out]
 exact bodyPost_ret (v:=.tuple #[.agg #[.slice A'.ta Z.1.tree.length A'.tc,.int .i64 Z.1.m,.int .i64 Z.1.b,.slice A'.pa Z.1.pipes.length A'.pc,.slice A'.oa Z.1.opens.length A'.oc,.string ⟨Z.1.out0.toArray⟩,.string ⟨Z.1.out1.toArray⟩],.agg #[.int .i64 (fdA Z.2.1 0),.int .i64 (fdA Z.2.1 1),.int .i64 (fdA Z.2.1 2),.int .i64 (fdA Z.2.1 3),.int .i64 (fdA Z.2.1 4),.int .i64 (fdA Z.2.1 5),.int .i64 (fdA Z.2.1 6),.int .i64 (fdA Z.2.1 7),.int .i64 (fdA Z.2.1 8),.int .i64 (fdA Z.2.1 9)],.int .i64 Z.2.2]) (by simp[results,Tryz.results10,go_sem,e0,e1,e2,e3,e4,e5,e6,d0,d1,d2,d3,d4,d5,d6,d7,d8,d9]) rfl ⟨⟨A',rfl,HKN.out,HFR.out.less (by have:=HS.out;omega)⟩,HEND.out⟩
theorem Ast (s:ByteArray)(n:Nat)(h:s.size=n+1):endL s.data.toList=((s[n].toNat:Int) == 47):=by
 have e:s.data.toList.getLast?=some (s[n]'(by omega)):=by
  rw[List.getLast?_eq_getElem?,Aas,show s.size - 1=n by omega,List.getElem?_eq_getElem (by rw[Aas];omega),Ahw s n (by omega)]
 unfold endL
 rw[e]
 rw[Bool.eq_iff_iff,beq_iff_eq,beq_iff_eq,Option.some.injEq]
 constructor
 ·intro e
  rw[e]
  rfl
 ·intro e
  exact UInt8.toNat_inj.1 (by show s[n].toNat=47;omega)
theorem Apn : ∀ (M:List (List UInt8)) (x:List UInt8),x∈M->x.length+1<=Aj2 M
 | [],_,h=>by cases h
 | y :: r,x,h=>by
  unfold Aj2
  rcases List.mem_cons.1 h with rfl|h
  ·omega
  ·have:=Apn r x h
   omega
theorem Axi {L:List Ino}{cwd:Int}{p:List UInt8}{d:Int}{nm:List UInt8}(h:Aa6 L cwd p=(d,nm,0)):nm.length<=p.length/\p≠[]:=by
 unfold Aa6 at h
 split at h
 ·rename_i h1
  simp only[Prod.mk.injEq]at h
  exact absurd h.2.2 h1
 ·split at h
  ·simp only[Prod.mk.injEq]at h
   exact absurd h.2.2 (by decide)
  ·rename_i h2
   have hp:p≠[]:=fun e=>h2 (by rw[e];rfl)
   split at h
   ·rename_i h3
    simp only[Prod.mk.injEq]at h
    exact absurd h.2.2 h3
   ·split at h
    ·simp only[Prod.mk.injEq]at h
     exact absurd h.2.2 (by decide)
    ·simp only[Prod.mk.injEq]at h
     refine⟨?_,hp⟩
     rw[<-h.2.1,List.getLastD_eq_getLast?,List.getLast?_eq_some_getLast h2]
     have h4:=Nat.le_trans (Apn _ _ (List.getLast_mem h2)) (Aj3 p)
     exact Nat.le_of_succ_le_succ h4
theorem Arq (a:Option Addr)(cap:Nat)(m b cwd:Int)(pb:ByteArray)(hp:pb.size<=1073741824)(dirs:Bool)(L:List Ino)(hF:FitP L m b)(z:Int)(s:List UInt8)(er:Int)(hz:Abc L cwd pb.data.toList dirs=(z,s,er))(w:World)(hN:Aad w a cap L) :
  Calls Tryz.prog 128 #[.agg #[.slice a L.length cap,.int .i64 m,.int .i64 b],.int .i64 cwd,.string pb,.bool dirs] w fun e w'=>e=.returned (.tuple #[.int .i64 z,.string ⟨s.toArray⟩,.int .i64 er])/\Below w.heap.size w w':=by
 obtain⟨⟨d,nm,pe⟩,hpar⟩:∃ r,Aa6 L cwd pb.data.toList=r:=⟨_,rfl⟩
 obtain⟨w1,hw1⟩:∃ w1,w1=w.alloc (.cells #[.slice a L.length cap,.int .i64 m,.int .i64 b] 24):=⟨_,rfl⟩
 have hb1:Below w.heap.size w w1:=by rw[hw1];exact Aab w _
 have HX:=Hd (show ∀ W',Below w1.heap.size w1 W'->W'.cell? ⟨w.heap.size,0,none⟩=some (.slice a L.length cap)/\W'.cell? ⟨w.heap.size,1,none⟩=some (.int .i64 m)/\W'.cell? ⟨w.heap.size,2,none⟩=some (.int .i64 b)from fun W' h=>box3 (by rw[<-hw1];exact h))
 have hs1:w1.heap.size=w.heap.size+1:=by rw[hw1];simp
 have HM:=Hd (show ∀ W',Below w1.heap.size w1 W'->Aad W' a cap L from fun W' h=>hN.below (hb1.trans (h.mono (by omega))))
 have HEND:=Hd (show ∀ W',Below w1.heap.size w1 W'->Below w.heap.size w W' from fun W' h=>hb1.trans (h.mono (by omega)))
 have HP:=Hd hpar
 have HF:=Hd hF
 have HZ:=Hd hz
 clear hpar hF hz hN hb1
 go_enter Tryz.func128,Tryz.ntmps128
 go_wp2_with fail
 rw[<-hw1]
 clear hw1
 have hpk:=Aoq a cap m b cwd pb hp L HF.out w1 (HM.out _ (Below.refl _ _))
 rw[HP.out]at hpk
 refine hpk.mono ?_
 rintro e w3 ⟨rfl,hb3⟩
 have HB3:=Hd hb3
 have hs3:=hb3.size
 clear hb3 hpk
 by_cases h1:pe=0
 ·subst h1
  obtain⟨hnmp,hpne⟩:=Axi HP.out
  rw[Aas]at hnmp
  obtain⟨n,hn⟩:∃ n,pb.size=n+1:=⟨pb.size - 1,by
   have h:pb.data.toList.length≠0:=fun e=>hpne (List.length_eq_zero_iff.1 e)
   rw[Aas]at h
   omega⟩
  have hnl:(⟨nm.toArray⟩:ByteArray).size<=9223372036854775807:=by rw[Acj];omega
  have HEB:=Hd (Ast pb n hn)
  obtain⟨sf,hsf⟩:∃ v,endL pb.data.toList=v:=⟨_,rfl⟩
  obtain⟨kz,hkz⟩:∃ v,kidL L d nm=v:=⟨_,rfl⟩
  obtain⟨mv,hmv⟩:∃ v,mayL L d 3=v:=⟨_,rfl⟩
  obtain⟨nv,hnv⟩:∃ v,Abd nm=v:=⟨_,rfl⟩
  have HSF:=Hd hsf
  have HK:=Hd hkz
  have HMV:=Hd hmv
  have HNM:=Hd (show Abd (⟨nm.toArray⟩:ByteArray).data.toList=nv from hnv)
  have hz2:=HZ.out
  unfold Abc at hz2
  rw[HP.out]at hz2
  simp only[hkz,hmv,hnv,hsf]at hz2
  clear hsf hkz hmv hnv hpne hnmp
  obtain⟨q0,q1,q2⟩:=HX.out _ HB3.out
  have hq:=Aaf q0
  by_cases e1:nm=[46]
  ·subst e1
   simp at hz2
   obtain⟨rfl,rfl,rfl⟩:=hz2
   go_wp2_with fail
   go_ret3
   exact⟨rfl,HEND.out _ HB3.out⟩
  have e1b:(nm == [46])=false:=by simpa using e1
  by_cases e2:nm=[46,46]
  ·subst e2
   simp at hz2
   obtain⟨rfl,rfl,rfl⟩:=hz2
   clear e1 e1b
   go_wp2_with fail
   go_ret3
   exact⟨rfl,HEND.out _ HB3.out⟩
  have e2b:(nm == [46,46])=false:=by simpa using e2
  simp only[e1,e2,false_or,ne_eq,not_true_eq_false,if_false]at hz2
  have HZ2:=Hd hz2
  clear e1 e2 hz2 HZ
  go_wp2_with fail
  refine(Aky _ _ _ _ _ _ L _ HK.out _ (HM.out _ HB3.out)).mono ?_
  rintro e w4 ⟨rfl,hb4⟩
  have HB4:=Hd (HB3.out.trans (hb4.mono HB3.out.size))
  clear hb4 q0 q1 q2 hq
  obtain⟨q0,q1,q2⟩:=HX.out _ HB4.out
  have hq:=Aaf q0
  have hz2:=HZ2.out
  by_cases e3:0<=kz
  ·simp only[e3,if_true,Prod.mk.injEq]at hz2
   obtain⟨rfl,rfl,rfl⟩:=hz2
   go_wp2_with fail
   go_ret3
   exact⟨rfl,HEND.out _ HB4.out⟩
  simp only[e3,if_false]at hz2
  cases nv with
  | false=>
   simp only[if_true,Prod.mk.injEq]at hz2
   obtain⟨rfl,rfl,rfl⟩:=hz2
   go_wp2_with (first|(go_at_call 89;refine(Acl _ hnl _ (HNM.out) _).mono ?_;rintro e w' ⟨rfl,rfl⟩)|fail)
   go_ret3
   exact⟨rfl,HEND.out _ HB4.out⟩
  | true=>
   simp only[Bool.true_eq_false,if_false]at hz2
   go_wp2_with (first|(go_at_call 89;refine(Acl _ hnl _ (HNM.out) _).mono ?_;rintro e w' ⟨rfl,rfl⟩)|fail)
   refine(Akr _ _ _ _ _ _ L (by decide) (by decide) HF.out.ins _ (HM.out _ HB4.out)).mono ?_
   rintro e w5 ⟨rfl,hb5⟩
   rw[HMV.out]
   have HB5:=Hd (HB4.out.trans (hb5.mono HB4.out.size))
   clear hb5 q0 q1 q2 hq
   cases mv with
   | false=>
    simp only[if_true,Prod.mk.injEq]at hz2
    obtain⟨rfl,rfl,rfl⟩:=hz2
    go_wp2_with fail
    go_ret3
    exact⟨rfl,HEND.out _ HB5.out⟩
   | true=>
    simp only[Bool.true_eq_false,if_false]at hz2
    cases dirs with
    | true=>
     simp only[Bool.true_eq_false,false_and,if_false,Prod.mk.injEq]at hz2
     obtain⟨rfl,rfl,rfl⟩:=hz2
     go_wp2_with fail
     go_ret3
     exact⟨rfl,HEND.out _ HB5.out⟩
    | false=>
     have hw:IntKind.i64.wrap ((pb.size:Int) - 1)=(n:Int):=by rw[IntWalk.i64_in _ ⟨by omega,by omega⟩];omega
     have hn0:(0:Int)<=(n:Int):=by omega
     have hn1:(n:Int) < (pb.size:Int):=by omega
     have hn2:n < pb.size:=by omega
     cases hl:((pb[n].toNat:Int) == 47)with
     | true=>
      have hsf:sf=true:=by rw[<-HSF.out,HEB.out,hl]
      subst hsf
      simp only[and_self,if_true,Prod.mk.injEq]at hz2
      obtain⟨rfl,rfl,rfl⟩:=hz2
      go_wp2_with fail
      go_ret3
      exact⟨rfl,HEND.out _ HB5.out⟩
     | false=>
      have hsf:sf=false:=by rw[<-HSF.out,HEB.out,hl]
      subst hsf
      simp only[Bool.false_eq_true,and_false,if_false,Prod.mk.injEq]at hz2
      obtain⟨rfl,rfl,rfl⟩:=hz2
      go_wp2_with fail
      go_ret3
      exact⟨rfl,HEND.out _ HB5.out⟩
 ·have hz2:=HZ.out
  unfold Abc at hz2
  rw[HP.out]at hz2
  simp only[h1,ne_eq,not_false_eq_true,if_true,Prod.mk.injEq]at hz2
  obtain⟨rfl,rfl,rfl⟩:=hz2
  have hb1:(pe != 0)=true:=by simpa using h1
  go_wp2_with fail
  go_ret3
  exact⟨rfl,HEND.out _ HB3.out⟩
theorem Ayd (q:Int)(v:Bool)(h:Af1 q=v)(w:World):Calls Tryz.prog 127 #[.int .i64 q] w fun e w'=>e=.returned (.bool v)/\w=w':=by
 subst h
 unfold Af1
 by_cases h0:0<=q
 ·have hb0:decide ((0:Int)<=q)=true:=decide_eq_true h0
  rw[hb0]
  go_enter Tryz.func127,Tryz.ntmps127
  go_wp2_with fail
  go_ret
  exact⟨by rfl,rfl⟩
 ·have hb0:decide ((0:Int)<=q)=false:=decide_eq_false h0
  rw[hb0]
  go_enter Tryz.func127,Tryz.ntmps127
  go_wp2_with fail
  go_ret
  exact⟨by rfl,rfl⟩
theorem Aor (a:Option Addr)(cap:Nat)(m b cwd q:Int)(pb:ByteArray)(hp:pb.size<=1073741824)(L:List Ino)(hF:FitP L m b)(L':List Ino)(kz er:Int)(hz:Adr L cwd pb.data.toList q=(L',kz,er))(w:World)(hN:Aad w a cap L) :
  Calls Tryz.prog 85 #[.agg #[.slice a L.length cap,.int .i64 m,.int .i64 b],.int .i64 cwd,.string pb,.int .i64 q] w (Akc w m b L' [.int .i64 kz,.int .i64 er]):=by
 obtain⟨w2,hw2,hb2,hs2,hA,hB⟩:=Aan w #[.slice a L.length cap,.int .i64 m,.int .i64 b] #[.slice none 0 0,.int .i64 0,.int .i64 0] 24 24
 obtain⟨l1,l2,l3,l4,l5⟩:=hF.limits
 have HX:=Hd (show ∀ W,Below w2.heap.size w2 W->W.cell? ⟨w.heap.size,0,none⟩=some (.slice a L.length cap)/\W.cell? ⟨w.heap.size,1,none⟩=some (.int .i64 m)/\W.cell? ⟨w.heap.size,2,none⟩=some (.int .i64 b)from fun W hW=>by
  have h:=(hW.block w.heap.size (by omega)).trans hA
  exact⟨bC h 0,bC h 1,bC h 2⟩)
 have HR:=Hd (show ∀ W,Below w2.heap.size w2 W->W.heap[w.heap.size+1]?=some (.cells #[.slice none 0 0,.int .i64 0,.int .i64 0] 24 (0,0))from fun W hW=>(hW.block _ (by omega)).trans hB)
 have HM:=Hd (show ∀ W,Below w2.heap.size w2 W->Aad W a cap L from fun W hW=>hN.below (hb2.trans (hW.mono (by omega))))
 have HB2:=Hd hb2
 have HZ:=Hd hz
 have HF:=Hd hF
 have HBW2:=Hd (Below.refl w2.heap.size w2)
 clear hz hN hb2 hA hB hF
 have HBW:=HBW2
 cases hqv:Af1 q with
 | false=>
  have HQ:=Hd hqv
  have hz2:=HZ.out
  unfold Adr at hz2
  rw[if_pos hqv]at hz2
  simp only[Prod.mk.injEq]at hz2
  obtain⟨rfl,rfl,rfl⟩:=hz2
  clear hqv
  go_enter Tryz.func85,Tryz.ntmps85
  obtain⟨q0,q1,q2⟩:=HX.out _ HBW.out
  have hq:=Aaf q0
  have hRx:=HR.out _ HBW.out
  have HRX:=Hd hRx
  have r0:=bC hRx 0
  have r1:=bC hRx 1
  have r2:=bC hRx 2
  have s0:=bF hRx 0
  have s1:=bF hRx 1
  have s2:=bF hRx 2
  have hrl:=lt_of_block hRx
  clear hRx
  go_wp2_with fail
  rw[<-hw2]
  clear hw2
  refine(Ayd _ _ HQ.out _).mono ?_
  rintro e w' ⟨rfl,rfl⟩
  go_wp2_with fail
  change bodyPost _ _ _ _ _ (put3 w2 (w.heap.size+1) (.slice a L.length cap) (.int .i64 m) (.int .i64 b))
  obtain⟨c0,c1,c2⟩:=Aam HRX.out (.slice a L.length cap) (.int .i64 m) (.int .i64 b)
  have hBF:=Aao (HB2.out.trans (HBW.out.mono (by omega))) (show w.heap.size<=w.heap.size+1 by omega) (.slice a L.length cap) (.int .i64 m) (.int .i64 b)
  exact bodyPost_ret (v:=.tuple #[.agg #[.slice a L.length cap,.int .i64 m,.int .i64 b],.int .i64 0,.int .i64 22]) (by simp[results,Tryz.results85,go_sem,c0,c1,c2]) rfl ⟨⟨_,_,rfl,Adg (HM.out _ HBW.out) HRX.out _ _ _⟩,hBF⟩
 | true=>
  have HQ:=Hd hqv
  have hz2:=HZ.out
  unfold Adr at hz2
  rw[if_neg (by rw[hqv];decide)]at hz2
  obtain⟨⟨z,s,fe⟩,hf⟩:∃ r,Abc L cwd pb.data.toList false=r:=⟨_,rfl⟩
  rw[hf]at hz2
  have HFR:=Hd hf
  have HZ2:=Hd hz2
  clear hqv hf hz2
  obtain⟨q0,q1,q2⟩:=HX.out _ HBW.out
  have hq:=Aaf q0
  go_enter Tryz.func85,Tryz.ntmps85
  go_wp2_with fail
  rw[<-hw2]
  clear hw2
  refine(Ayd _ _ HQ.out _).mono ?_
  rintro e w' ⟨rfl,rfl⟩
  go_wp2_with fail
  clear q0 q1 q2 hq
  refine(Arq _ _ _ _ _ _ hp false L HF.out _ _ _ HFR.out _ (HM.out _ HBW.out)).mono ?_
  rintro e w3 ⟨rfl,hb3⟩
  have HB3:=Hd hb3
  have hs3:=hb3.size
  clear hb3
  obtain⟨q0,q1,q2⟩:=HX.out _ HB3.out
  have hq:=Aaf q0
  have hRx:=HR.out _ HB3.out
  have HRX:=Hd hRx
  have r0:=bC hRx 0
  have r1:=bC hRx 1
  have r2:=bC hRx 2
  have s0:=bF hRx 0
  have s1:=bF hRx 1
  have s2:=bF hRx 2
  have hrl:=lt_of_block hRx
  clear hRx
  by_cases h1:fe=0
  ·subst h1
   have hz2:=HZ2.out
   rw[if_neg (by simp)]at hz2
   obtain⟨d,s2',hd,-,hf2,hdir,-,hn,-⟩:=Aip HF.out (by rw[HFR.out])
   rw[HFR.out]at hf2
   simp only[Prod.mk.injEq,and_true]at hf2
   obtain⟨rfl,rfl⟩:=hf2
   have HZ3:=Hd hz2
   have HN:=Hd hn
   have hkl:L[d].kids.length<=1024:=(HF.out.ins d hd).2.1
   have hdk:L[d].kind≠0:=by rw[hdir];decide
   clear hz2 hn
   go_wp2_with fail
   refine(Arl _ _ _ _ d s 1 q 0 [] 0 L hd (by omega) hkl HN.out hdk L' kz er HZ3.out _ (HM.out _ HB3.out)).mono ?_
   rintro e w5 ⟨⟨a',cap',he,hN5⟩,hb5⟩
   have he':e=.returned (.tuple #[.agg #[.slice a' L'.length cap',.int .i64 m,.int .i64 b],.int .i64 kz,.int .i64 er]):=he
   subst he'
   have HB5:=Hd (HB3.out.trans (hb5.mono HB3.out.size))
   have HN5:=Hd hN5
   have hs5:=hb5.size
   clear he hN5 hb5
   clear q0 q1 q2 hq HRX r0 r1 r2 s0 s1 s2 hrl
   obtain⟨q0,q1,q2⟩:=HX.out _ HB5.out
   have hq:=Aaf q0
   have hRx:=HR.out _ HB5.out
   have HRX:=Hd hRx
   have r0:=bC hRx 0
   have r1:=bC hRx 1
   have r2:=bC hRx 2
   have s0:=bF hRx 0
   have s1:=bF hRx 1
   have s2:=bF hRx 2
   have hrl:=lt_of_block hRx
   clear hRx
   go_wp2_with fail
   change bodyPost _ _ _ _ _ (put3 w5 (w.heap.size+1) (.slice a' L'.length cap') (.int .i64 m) (.int .i64 b))
   obtain⟨c0,c1,c2⟩:=Aam HRX.out (.slice a' L'.length cap') (.int .i64 m) (.int .i64 b)
   have hBF:=Aao (HB2.out.trans (HB5.out.mono (by omega))) (show w.heap.size<=w.heap.size+1 by omega) (.slice a' L'.length cap') (.int .i64 m) (.int .i64 b)
   exact bodyPost_ret (v:=.tuple #[.agg #[.slice a' L'.length cap',.int .i64 m,.int .i64 b],.int .i64 kz,.int .i64 er]) (by simp[results,Tryz.results85,go_sem,c0,c1,c2]) rfl ⟨⟨_,_,rfl,Adg HN5.out HRX.out _ _ _⟩,hBF⟩
  ·have hb1:(fe != 0)=true:=by simpa using h1
   have hz2:=HZ2.out
   rw[if_pos (by simpa using h1)]at hz2
   simp only[Prod.mk.injEq]at hz2
   obtain⟨rfl,rfl,rfl⟩:=hz2
   go_wp2_with fail
   change bodyPost _ _ _ _ _ (put3 w3 (w.heap.size+1) (.slice a L.length cap) (.int .i64 m) (.int .i64 b))
   obtain⟨c0,c1,c2⟩:=Aam HRX.out (.slice a L.length cap) (.int .i64 m) (.int .i64 b)
   have hBF:=Aao (HB2.out.trans (HB3.out.mono (by omega))) (show w.heap.size<=w.heap.size+1 by omega) (.slice a L.length cap) (.int .i64 m) (.int .i64 b)
   exact bodyPost_ret (v:=.tuple #[.agg #[.slice a L.length cap,.int .i64 m,.int .i64 b],.int .i64 0,.int .i64 fe]) (by simp[results,Tryz.results85,go_sem,c0,c1,c2]) rfl ⟨⟨_,_,rfl,Adg (HM.out _ HB3.out) HRX.out _ _ _⟩,hBF⟩
end Go.Proofs.YtkdfbliiblojoaaGreatDoor
