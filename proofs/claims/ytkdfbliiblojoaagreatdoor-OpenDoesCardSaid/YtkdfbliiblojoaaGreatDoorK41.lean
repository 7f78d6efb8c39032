import Derived.Test.YtkdfbliiblojoaaGreatDoorK38
set_option linter.all false
set_option maxRecDepth 100000
set_option maxHeartbeats 64000000
namespace Go.Proofs.YtkdfbliiblojoaaGreatDoor
open Go Go.RowKit
section
variable {B g : Nat} {A : KAd} {K : Krn} {f : List Int}
theorem Azg (b:Nat)(fd:Int)(w:World)(hW:Wk w B g A K f)(hF:FitK K f)(hBw:B<=w.heap.size)(hb:w.cell? ⟨b,0,none⟩=some (.int .i64 fd)) :
  Calls Tryz.prog 59 #[.pointer (some ⟨g,0,none⟩),.pointer (some ⟨b,0,none⟩)] w (Ahv B g none (fun _=>True) (Aeg K f fd) w):=by
 have hno:=hF.no
 have HC:=Hd (Ati fd w hW (by omega) (fun h=>by
  obtain⟨n,rfl,hn⟩:=Ac9 h
  rw[Int.toNat_natCast]
  exact Af5 hF hn) (Aio hF))
 have HW:=Hd hW
 have bl:=Aaf hb
 clear hW hF
 go_enter Tryz.func59,Tryz.ntmps59
 go_wp2_with fail
 refine HC.out.mono ?_
 rintro e w2 ⟨rfl,hw2,hs2⟩
 have HW2:=Hd hw2
 have HS2:=Hd hs2
 clear hw2 hs2
 go_wp2_with fail
 go_ret
 exact⟨rfl,.of_below (HW.out.low HS2.out hBw),fun _=>⟨_,HW2.out⟩,trivial⟩
theorem Bbs (b c:Nat)(fr to:Int)(w:World)(hW:Wk w B g A K f)(hF:FitK K f)(hBw:B<=w.heap.size)(hb:w.cell? ⟨b,0,none⟩=some (.int .i64 fr))(hc:w.cell? ⟨c,0,none⟩=some (.int .i64 to)) :
  Calls Tryz.prog 61 #[.pointer (some ⟨g,0,none⟩),.pointer (some ⟨b,0,none⟩),.pointer (some ⟨c,0,none⟩)] w (Ahv B g none (fun _=>True) (dupK K f fr to) w):=by
 have hno:=hF.no
 have HC:=Hd (Bbt fr to w hW (by omega) (fun n hn=>Af5 hF hn) (Aio hF) (Apk hF))
 rw[Av4 hF fr to]at HC
 have HW:=Hd hW
 have bl:=Aaf hb
 have cl:=Aaf hc
 clear hW hF
 go_enter Tryz.func61,Tryz.ntmps61
 go_wp2_with fail
 refine HC.out.mono ?_
 rintro e w2 ⟨rfl,hw2,hs2⟩
 have HW2:=Hd hw2
 have HS2:=Hd hs2
 clear hw2 hs2
 go_wp2_with fail
 go_ret
 exact⟨rfl,.of_below (HW.out.low HS2.out hBw),fun _=>⟨_,HW2.out⟩,trivial⟩
end
theorem Ajb (k:Nat)(fn:Func)(hf:Tryz.prog.funcs[k]?=some fn)(hn:¬ fn.name="runtime.NumGoroutine")(hb:¬ fn.body=none) :
  ∀ (args:Array Value) (W:World),(callFunc k args).run Tryz.prog W=.ok (.enter k args) W:=by
 intro args W
 simp[callFunc,hf,hn,hb]
def KAns (Z:Krn×List Int×Int)(w:World)(e:Ending)(w':World):Prop:=
 (∃ A:KAd,e=.returned (.tuple #[.agg #[.slice A.ta Z.1.tree.length A.tc,.int .i64 Z.1.m,.int .i64 Z.1.b,.slice A.pa Z.1.pipes.length A.pc,.slice A.oa Z.1.opens.length A.oc,.string ⟨Z.1.out0.toArray⟩,.string ⟨Z.1.out1.toArray⟩],.agg #[.int .i64 (fdA Z.2.1 0),.int .i64 (fdA Z.2.1 1),.int .i64 (fdA Z.2.1 2),.int .i64 (fdA Z.2.1 3),.int .i64 (fdA Z.2.1 4),.int .i64 (fdA Z.2.1 5),.int .i64 (fdA Z.2.1 6),.int .i64 (fdA Z.2.1 7),.int .i64 (fdA Z.2.1 8),.int .i64 (fdA Z.2.1 9)],.int .i64 Z.2.2])/\KernIn w' A Z.1/\Aj9 w.heap.size A)/\Below w.heap.size w w'
theorem Ay4 (K:Krn)(f:List Int)(fr to:Int)(h:(dupK K f fr to).2.2≠0):(dupK K f fr to).1=K/\(dupK K f fr to).2.1=f:=by
 unfold dupK at h ⊢
 split
 ·exact⟨rfl,rfl⟩
 ·rename_i h1
  rw[if_neg h1]at h
  split
  ·exact⟨rfl,rfl⟩
  ·rename_i h2
   rw[if_neg h2]at h
   exact absurd rfl h
theorem Az8 (A:KAd)(K:Krn)(f:List Int)(fd:Int)(hF:FitK K f)(w:World)(hK:KernIn w A K) :
  Calls Tryz.prog 20 #[.agg #[.slice A.ta K.tree.length A.tc,.int .i64 K.m,.int .i64 K.b,.slice A.pa K.pipes.length A.pc,.slice A.oa K.opens.length A.oc,.string ⟨K.out0.toArray⟩,.string ⟨K.out1.toArray⟩],.agg #[.int .i64 (fdA f 0),.int .i64 (fdA f 1),.int .i64 (fdA f 2),.int .i64 (fdA f 3),.int .i64 (fdA f 4),.int .i64 (fdA f 5),.int .i64 (fdA f 6),.int .i64 (fdA f 7),.int .i64 (fdA f 8),.int .i64 (fdA f 9)],.int .i64 fd] w (KAns (Aeg K f fd) w):=by
 obtain⟨w2,hw2,hb2,hs2,hX,hY⟩:=Aan w #[.slice A.ta K.tree.length A.tc,.int .i64 K.m,.int .i64 K.b,.slice A.pa K.pipes.length A.pc,.slice A.oa K.opens.length A.oc,.string ⟨K.out0.toArray⟩,.string ⟨K.out1.toArray⟩] #[.int .i64 (fdA f 0),.int .i64 (fdA f 1),.int .i64 (fdA f 2),.int .i64 (fdA f 3),.int .i64 (fdA f 4),.int .i64 (fdA f 5),.int .i64 (fdA f 6),.int .i64 (fdA f 7),.int .i64 (fdA f 8),.int .i64 (fdA f 9)] 29 31
 obtain⟨v0,hv0⟩:∃ z,z=w2.alloc (.cells #[.int .i64 fd] 3):=⟨_,rfl⟩
 have hbv0:Below w2.heap.size w2 v0:=by rw[hv0];exact Aab w2 _
 have hsv0:v0.heap.size=w.heap.size+3:=by rw[hv0];simp;omega
 have hXv0:v0.heap[w.heap.size+2]?=some (.cells #[.int .i64 fd] 3 (0,0)):=by
  have h:=Aag w2 (.cells #[.int .i64 fd] 3)
  rw[<-hv0,hs2]at h
  exact h
 obtain⟨w5,hw5,hb5,hs5,hU,hV⟩:=Aan v0 #[.slice none 0 0,.int .i64 0,.int .i64 0,.slice none 0 0,.slice none 0 0,.string ⟨#[]⟩,.string ⟨#[]⟩] #[.int .i64 0,.int .i64 0,.int .i64 0,.int .i64 0,.int .i64 0,.int .i64 0,.int .i64 0,.int .i64 0,.int .i64 0,.int .i64 0] 29 31
 rw[hsv0]at hU hV
 have hc1:Below v0.heap.size v0 w5:=hb5
 have hc0:Below w2.heap.size w2 w5:=hbv0.trans (hc1.mono (by omega))
 have hbw:Below w.heap.size w w5:=hb2.trans (hc0.mono (by omega))
 have hX5:=(hc0.block w.heap.size (by omega)).trans hX
 have hY5:=(hc0.block (w.heap.size+1) (by omega)).trans hY
 have hA0:=(hc1.block (w.heap.size+2) (by omega)).trans hXv0
 have hs6:w5.heap.size=w.heap.size+5:=by omega
 have HB:=Hd hbw
 have HS:=Hd hs6
 have HU:=Hd hU
 have HV:=Hd hV
 have HX5:=Hd hX5
 have HY5:=Hd hY5
 have HA0:=Hd hA0
 have HCL:=Hd (ldo (fid:=59) (caps:=#[.pointer (some ⟨w.heap.size+2,0,none⟩)]) (Ajb 59 Tryz.f59 Tryz.func59 (by decide) (by intro h;cases h)) none (fun _=>True) A K f (Aeg K f fd) hF (fun h=>(Avy hF fd rfl).2 h) w5 (hK.below hbw) (fun W' h _=>(hK.below hbw).below h.below) (fun k h=>by cases h) (fun _ _ _ _=>trivial)
  (fun B g A' W h1 h2 h3 h4=>Azg _ fd W h4 hF h2  (Aaa h3 (bC hA0 0))))
 obtain⟨Z,hZ⟩:∃ Z,Z=Aeg K f fd:=⟨_,rfl⟩
 rw[<-hZ]at HCL ⊢
 have h0:=hw5
 rw[hv0,hw2]at h0
 have HW:=Hd h0
 have q0:=bC hX5 0
 have q1:=bC hX5 1
 have q2:=bC hX5 2
 have q3:=bC hX5 3
 have q4:=bC hX5 4
 have q5:=bC hX5 5
 have q6:=bC hX5 6
 have r0:=bC hY5 0
 have r1:=bC hY5 1
 have r2:=bC hY5 2
 have r3:=bC hY5 3
 have r4:=bC hY5 4
 have r5:=bC hY5 5
 have r6:=bC hY5 6
 have r7:=bC hY5 7
 have r8:=bC hY5 8
 have r9:=bC hY5 9
 clear h0 hZ hF hK hX hY hU hV hX5 hY5 hbw hb2 hb5 hs2 hs5 hs6 hw2 hw5 hA0 hv0 hbv0 hsv0 hXv0 hc1 hc0
 go_enter Tryz.func20,Tryz.ntmps20
 go_upto_region 1 with fail
 have h0:=HW.out
 rw[<-h0]
 clear h0
 go_wp2_with fail
 refine HCL.out.mono ?_
 rintro e w6 ⟨⟨A',rfl,hk6,hfr⟩,hbo,-⟩
 have hb6:Below w5.heap.size w5 w6:=hbo.below
 have HU6:=Hd ((hb6.block (w.heap.size+3) (by have:=HS.out;omega)).trans HU.out)
 have HV6:=Hd ((hb6.block (w.heap.size+4) (by have:=HS.out;omega)).trans HV.out)
 have HFR:=Hd hfr
 have HB6:=Hd hb6
 obtain⟨wv,hwv,hU7,hV7,hkn,hfrm,hsz,ho1,ho2,ho3⟩:=Aeq (u:=w.heap.size+3) (v:=w.heap.size+4) (by omega) (Kz:=Z.1) Z.2.1 HU6.out HV6.out hk6 (fun x hx=>by have:=hfr.1 x hx;have:=HS.out;omega) (fun x hx=>by have:=hfr.2 x hx;have:=HS.out;omega)
 have HKN:=Hd hkn
 have HEND:=Hd (show Below w.heap.size w wv from⟨ho1.trans (hb6.os.trans HB.out.os),ho2.trans (hb6.tape.trans HB.out.tape),ho3.trans (hb6.output.trans HB.out.output),by have:=hb6.size;have:=HB.out.size;omega,fun k hk=>(hfrm k (by omega) (by omega)).trans ((hb6.block k (by have:=HB.out.size;omega)).trans (HB.out.block k hk))⟩)
 have d0:=bC hV7 0
 have d1:=bC hV7 1
 have d2:=bC hV7 2
 have d3:=bC hV7 3
 have d4:=bC hV7 4
 have d5:=bC hV7 5
 have d6:=bC hV7 6
 have d7:=bC hV7 7
 have d8:=bC hV7 8
 have d9:=bC hV7 9
 have e0:=bC hU7 0
 have e1:=bC hU7 1
 have e2:=bC hU7 2
 have e3:=bC hU7 3
 have e4:=bC hU7 4
 have e5:=bC hU7 5
 have e6:=bC hU7 6
 have a0:=bC HU6.out 0
 have a1:=bC HU6.out 1
 have a2:=bC HU6.out 2
 have a3:=bC HU6.out 3
 have a4:=bC HU6.out 4
 have a5:=bC HU6.out 5
 have a6:=bC HU6.out 6
 have b0:=bF HU6.out 0
 have b1:=bF HU6.out 1
 have b2:=bF HU6.out 2
 have b3:=bF HU6.out 3
 have b4:=bF HU6.out 4
 have b5:=bF HU6.out 5
 have b6:=bF HU6.out 6
 have m0:=bC HV6.out 0
 have m1:=bC HV6.out 1
 have m2:=bC HV6.out 2
 have m3:=bC HV6.out 3
 have m4:=bC HV6.out 4
 have m5:=bC HV6.out 5
 have m6:=bC HV6.out 6
 have m7:=bC HV6.out 7
 have m8:=bC HV6.out 8
 have m9:=bC HV6.out 9
 have n0:=bF HV6.out 0
 have n1:=bF HV6.out 1
 have n2:=bF HV6.out 2
 have n3:=bF HV6.out 3
 have n4:=bF HV6.out 4
 have n5:=bF HV6.out 5
 have n6:=bF HV6.out 6
 have n7:=bF HV6.out 7
 have n8:=bF HV6.out 8
 have n9:=bF HV6.out 9
 have ul:=lt_of_block HU6.out
 have vl:=lt_of_block HV6.out
 have HWV:=Hd hwv
 clear hwv hk6 hfr hb6 hbo hkn hfrm hsz ho1 ho2 ho3 hU7 hV7 q0 q1 q2 q3 q4 q5 q6 r0 r1 r2 r3 r4 r5 r6 r7 r8 r9
 go_wp2_with fail
 change bodyPost _ _ _ _ _ ((put7 w6 (w.heap.size+3) (.slice A'.ta Z.1.tree.length A'.tc) (.int .i64 Z.1.m) (.int .i64 Z.1.b) (.slice A'.pa Z.1.pipes.length A'.pc) (.slice A'.oa Z.1.opens.length A'.oc) (.string ⟨Z.1.out0.toArray⟩) (.string ⟨Z.1.out1.toArray⟩)).setCells (w.heap.size+4) 0 [.int .i64 (fdA Z.2.1 0),.int .i64 (fdA Z.2.1 1),.int .i64 (fdA Z.2.1 2),.int .i64 (fdA Z.2.1 3),.int .i64 (fdA Z.2.1 4),.int .i64 (fdA Z.2.1 5),.int .i64 (fdA Z.2.1 6),.int .i64 (fdA Z.2.1 7),.int .i64 (fdA Z.2.1 8),.int .i64 (fdA Z.2.1 9)])
 rw[<-HWV.out]
 exact bodyPost_ret (v:=.tuple #[.agg #[.slice A'.ta Z.1.tree.length A'.tc,.int .i64 Z.1.m,.int .i64 Z.1.b,.slice A'.pa Z.1.pipes.length A'.pc,.slice A'.oa Z.1.opens.length A'.oc,.string ⟨Z.1.out0.toArray⟩,.string ⟨Z.1.out1.toArray⟩],.agg #[.int .i64 (fdA Z.2.1 0),.int .i64 (fdA Z.2.1 1),.int .i64 (fdA Z.2.1 2),.int .i64 (fdA Z.2.1 3),.int .i64 (fdA Z.2.1 4),.int .i64 (fdA Z.2.1 5),.int .i64 (fdA Z.2.1 6),.int .i64 (fdA Z.2.1 7),.int .i64 (fdA Z.2.1 8),.int .i64 (fdA Z.2.1 9)],.int .i64 Z.2.2]) (by simp[results,Tryz.results20,go_sem,e0,e1,e2,e3,e4,e5,e6,d0,d1,d2,d3,d4,d5,d6,d7,d8,d9]) rfl ⟨⟨A',rfl,HKN.out,HFR.out.less (by have:=HS.out;omega)⟩,HEND.out⟩
theorem Awl (A:KAd)(K:Krn)(f:List Int)(fr to:Int)(hF:FitK K f)(w:World)(hK:KernIn w A K) :
  Calls Tryz.prog 22 #[.agg #[.slice A.ta K.tree.length A.tc,.int .i64 K.m,.int .i64 K.b,.slice A.pa K.pipes.length A.pc,.slice A.oa K.opens.length A.oc,.string ⟨K.out0.toArray⟩,.string ⟨K.out1.toArray⟩],.agg #[.int .i64 (fdA f 0),.int .i64 (fdA f 1),.int .i64 (fdA f 2),.int .i64 (fdA f 3),.int .i64 (fdA f 4),.int .i64 (fdA f 5),.int .i64 (fdA f 6),.int .i64 (fdA f 7),.int .i64 (fdA f 8),.int .i64 (fdA f 9)],.int .i64 fr,.int .i64 to] w (KAns (dupK K f fr to) w):=by
 obtain⟨w2,hw2,hb2,hs2,hX,hY⟩:=Aan w #[.slice A.ta K.tree.length A.tc,.int .i64 K.m,.int .i64 K.b,.slice A.pa K.pipes.length A.pc,.slice A.oa K.opens.length A.oc,.string ⟨K.out0.toArray⟩,.string ⟨K.out1.toArray⟩] #[.int .i64 (fdA f 0),.int .i64 (fdA f 1),.int .i64 (fdA f 2),.int .i64 (fdA f 3),.int .i64 (fdA f 4),.int .i64 (fdA f 5),.int .i64 (fdA f 6),.int .i64 (fdA f 7),.int .i64 (fdA f 8),.int .i64 (fdA f 9)] 29 31
 obtain⟨v0,hv0⟩:∃ z,z=w2.alloc (.cells #[.int .i64 fr] 3):=⟨_,rfl⟩
 have hbv0:Below w2.heap.size w2 v0:=by rw[hv0];exact Aab w2 _
 have hsv0:v0.heap.size=w.heap.size+3:=by rw[hv0];simp;omega
 have hXv0:v0.heap[w.heap.size+2]?=some (.cells #[.int .i64 fr] 3 (0,0)):=by
  have h:=Aag w2 (.cells #[.int .i64 fr] 3)
  rw[<-hv0,hs2]at h
  exact h
 obtain⟨v1,hv1⟩:∃ z,z=v0.alloc (.cells #[.int .i64 to] 3):=⟨_,rfl⟩
 have hbv1:Below v0.heap.size v0 v1:=by rw[hv1];exact Aab v0 _
 have hsv1:v1.heap.size=w.heap.size+4:=by rw[hv1];simp;omega
 have hXv1:v1.heap[w.heap.size+3]?=some (.cells #[.int .i64 to] 3 (0,0)):=by
  have h:=Aag v0 (.cells #[.int .i64 to] 3)
  rw[<-hv1,hsv0]at h
  exact h
 obtain⟨w5,hw5,hb5,hs5,hU,hV⟩:=Aan v1 #[.slice none 0 0,.int .i64 0,.int .i64 0,.slice none 0 0,.slice none 0 0,.string ⟨#[]⟩,.string ⟨#[]⟩] #[.int .i64 0,.int .i64 0,.int .i64 0,.int .i64 0,.int .i64 0,.int .i64 0,.int .i64 0,.int .i64 0,.int .i64 0,.int .i64 0] 29 31
 rw[hsv1]at hU hV
 have hc2:Below v1.heap.size v1 w5:=hb5
 have hc1:Below v0.heap.size v0 w5:=hbv1.trans (hc2.mono (by omega))
 have hc0:Below w2.heap.size w2 w5:=hbv0.trans (hc1.mono (by omega))
 have hbw:Below w.heap.size w w5:=hb2.trans (hc0.mono (by omega))
 have hX5:=(hc0.block w.heap.size (by omega)).trans hX
 have hY5:=(hc0.block (w.heap.size+1) (by omega)).trans hY
 have hA0:=(hc1.block (w.heap.size+2) (by omega)).trans hXv0
 have hA1:=(hc2.block (w.heap.size+3) (by omega)).trans hXv1
 have hs6:w5.heap.size=w.heap.size+6:=by omega
 have HB:=Hd hbw
 have HS:=Hd hs6
 have HU:=Hd hU
 have HV:=Hd hV
 have HX5:=Hd hX5
 have HY5:=Hd hY5
 have HA0:=Hd hA0
 have HA1:=Hd hA1
 have HCL:=Hd (ldo (fid:=61) (caps:=#[.pointer (some ⟨w.heap.size+2,0,none⟩),.pointer (some ⟨w.heap.size+3,0,none⟩)]) (Ajb 61 Tryz.f61 Tryz.func61 (by decide) (by intro h;cases h)) none (fun _=>True) A K f (dupK K f fr to) hF (fun h=>Ay4 K f fr to h) w5 (hK.below hbw) (fun W' h _=>(hK.below hbw).below h.below) (fun k h=>by cases h) (fun _ _ _ _=>trivial)
  (fun B g A' W h1 h2 h3 h4=>Bbs _ _ fr to W h4 hF h2  (Aaa h3 (bC hA0 0)) (Aaa h3 (bC hA1 0))))
 obtain⟨Z,hZ⟩:∃ Z,Z=dupK K f fr to:=⟨_,rfl⟩
 rw[<-hZ]at HCL ⊢
 have h0:=hw5
 rw[hv1,hv0,hw2]at h0
 have HW:=Hd h0
 have q0:=bC hX5 0
 have q1:=bC hX5 1
 have q2:=bC hX5 2
 have q3:=bC hX5 3
 have q4:=bC hX5 4
 have q5:=bC hX5 5
 have q6:=bC hX5 6
 have r0:=bC hY5 0
 have r1:=bC hY5 1
 have r2:=bC hY5 2
 have r3:=bC hY5 3
 have r4:=bC hY5 4
 have r5:=bC hY5 5
 have r6:=bC hY5 6
 have r7:=bC hY5 7
 have r8:=bC hY5 8
 have r9:=bC hY5 9
 clear h0 hZ hF hK hX hY hU hV hX5 hY5 hbw hb2 hb5 hs2 hs5 hs6 hw2 hw5 hA0 hv0 hbv0 hsv0 hXv0 hc1 hA1 hv1 hbv1 hsv1 hXv1 hc2 hc0
 go_enter Tryz.func22,Tryz.ntmps22
 go_upto_region 1 with fail
 have h0:=HW.out
 rw[<-h0]
 clear h0
 go_wp2_with fail
 refine HCL.out.mono ?_
 rintro e w6 ⟨⟨A',rfl,hk6,hfr⟩,hbo,-⟩
 have hb6:Below w5.heap.size w5 w6:=hbo.below
 have HU6:=Hd ((hb6.block (w.heap.size+4) (by have:=HS.out;omega)).trans HU.out)
 have HV6:=Hd ((hb6.block (w.heap.size+5) (by have:=HS.out;omega)).trans HV.out)
 have HFR:=Hd hfr
 have HB6:=Hd hb6
 obtain⟨wv,hwv,hU7,hV7,hkn,hfrm,hsz,ho1,ho2,ho3⟩:=Aeq (u:=w.heap.size+4) (v:=w.heap.size+5) (by omega) (Kz:=Z.1) Z.2.1 HU6.out HV6.out hk6 (fun x hx=>by have:=hfr.1 x hx;have:=HS.out;omega) (fun x hx=>by have:=hfr.2 x hx;have:=HS.out;omega)
 have HKN:=Hd hkn
 have HEND:=Hd (show Below w.heap.size w wv from⟨ho1.trans (hb6.os.trans HB.out.os),ho2.trans (hb6.tape.trans HB.out.tape),ho3.trans (hb6.output.trans HB.out.output),by have:=hb6.size;have:=HB.out.size;omega,fun k hk=>(hfrm k (by omega) (by omega)).trans ((hb6.block k (by have:=HB.out.size;omega)).trans (HB.out.block k hk))⟩)
 have d0:=bC hV7 0
 have d1:=bC hV7 1
 have d2:=bC hV7 2
 have d3:=bC hV7 3
 have d4:=bC hV7 4
 have d5:=bC hV7 5
 have d6:=bC hV7 6
 have d7:=bC hV7 7
 have d8:=bC hV7 8
 have d9:=bC hV7 9
 have e0:=bC hU7 0
 have e1:=bC hU7 1
 have e2:=bC hU7 2
 have e3:=bC hU7 3
 have e4:=bC hU7 4
 have e5:=bC hU7 5
 have e6:=bC hU7 6
 have a0:=bC HU6.out 0
 have a1:=bC HU6.out 1
 have a2:=bC HU6.out 2
 have a3:=bC HU6.out 3
 have a4:=bC HU6.out 4
 have a5:=bC HU6.out 5
 have a6:=bC HU6.out 6
 have b0:=bF HU6.out 0
 have b1:=bF HU6.out 1
 have b2:=bF HU6.out 2
 have b3:=bF HU6.out 3
 have b4:=bF HU6.out 4
 have b5:=bF HU6.out 5
 have b6:=bF HU6.out 6
 have m0:=bC HV6.out 0
 have m1:=bC HV6.out 1
 have m2:=bC HV6.out 2
 have m3:=bC HV6.out 3
 have m4:=bC HV6.out 4
 have m5:=bC HV6.out 5
 have m6:=bC HV6.out 6
 have m7:=bC HV6.out 7
 have m8:=bC HV6.out 8
 have m9:=bC HV6.out 9
 have n0:=bF HV6.out 0
 have n1:=bF HV6.out 1
 have n2:=bF HV6.out 2
 have n3:=bF HV6.out 3
 have n4:=bF HV6.out 4
 have n5:=bF HV6.out 5
 have n6:=bF HV6.out 6
 have n7:=bF HV6.out 7
 have n8:=bF HV6.out 8
 have n9:=bF HV6.out 9
 have ul:=lt_of_block HU6.out
 have vl:=lt_of_block HV6.out
 have HWV:=Hd hwv
 clear hwv hk6 hfr hb6 hbo hkn hfrm hsz ho1 ho2 ho3 hU7 hV7 q0 q1 q2 q3 q4 q5 q6 r0 r1 r2 r3 r4 r5 r6 r7 r8 r9
 go_wp2_with fail
 change bodyPost _ _ _ _ _ ((put7 w6 (w.heap.size+4) (.slice A'.ta Z.1.tree.length A'.tc) (.int .i64 Z.1.m) (.int .i64 Z.1.b) (.slice A'.pa Z.1.pipes.length A'.pc) (.slice A'.oa Z.1.opens.length A'.oc) (.string ⟨Z.1.out0.toArray⟩) (.string ⟨Z.1.out1.toArray⟩)).setCells (w.heap.size+5) 0 [.int .i64 (fdA Z.2.1 0),.int .i64 (fdA Z.2.1 1),.int .i64 (fdA Z.2.1 2),.int .i64 (fdA Z.2.1 3),.int .i64 (fdA Z.2.1 4),.int .i64 (fdA Z.2.1 5),.int .i64 (fdA Z.2.1 6),.int .i64 (fdA Z.2.1 7),.int .i64 (fdA Z.2.1 8),.int .i64 (fdA Z.2.1 9)])
 rw[<-HWV.out]
 exact bodyPost_ret (v:=.tuple #[.agg #[.slice A'.ta Z.1.tree.length A'.tc,.int .i64 Z.1.m,.int .i64 Z.1.b,.slice A'.pa Z.1.pipes.length A'.pc,.slice A'.oa Z.1.opens.length A'.oc,.string ⟨Z.1.out0.toArray⟩,.string ⟨Z.1.out1.toArray⟩],.agg #[.int .i64 (fdA Z.2.1 0),.int .i64 (fdA Z.2.1 1),.int .i64 (fdA Z.2.1 2),.int .i64 (fdA Z.2.1 3),.int .i64 (fdA Z.2.1 4),.int .i64 (fdA Z.2.1 5),.int .i64 (fdA Z.2.1 6),.int .i64 (fdA Z.2.1 7),.int .i64 (fdA Z.2.1 8),.int .i64 (fdA Z.2.1 9)],.int .i64 Z.2.2]) (by simp[results,Tryz.results22,go_sem,e0,e1,e2,e3,e4,e5,e6,d0,d1,d2,d3,d4,d5,d6,d7,d8,d9]) rfl ⟨⟨A',rfl,HKN.out,HFR.out.less (by have:=HS.out;omega)⟩,HEND.out⟩
theorem Asy {W:World}{k:Nat}{t:TypeId}{g:List Int}(h:W.heap[k]?=some (.cells #[.int .i64 (fdA g 0),.int .i64 (fdA g 1),.int .i64 (fdA g 2),.int .i64 (fdA g 3),.int .i64 (fdA g 4),.int .i64 (fdA g 5),.int .i64 (fdA g 6),.int .i64 (fdA g 7),.int .i64 (fdA g 8),.int .i64 (fdA g 9)] t (0,0)))(f:List Int):(W.setCells k 0 [.int .i64 (fdA f 0),.int .i64 (fdA f 1),.int .i64 (fdA f 2),.int .i64 (fdA f 3),.int .i64 (fdA f 4),.int .i64 (fdA f 5),.int .i64 (fdA f 6),.int .i64 (fdA f 7),.int .i64 (fdA f 8),.int .i64 (fdA f 9)]).heap[k]?=some (.cells #[.int .i64 (fdA f 0),.int .i64 (fdA f 1),.int .i64 (fdA f 2),.int .i64 (fdA f 3),.int .i64 (fdA f 4),.int .i64 (fdA f 5),.int .i64 (fdA f 6),.int .i64 (fdA f 7),.int .i64 (fdA f 8),.int .i64 (fdA f 9)] t (0,0)):=by
 have e:=Aey [.int .i64 (fdA f 0),.int .i64 (fdA f 1),.int .i64 (fdA f 2),.int .i64 (fdA f 3),.int .i64 (fdA f 4),.int .i64 (fdA f 5),.int .i64 (fdA f 6),.int .i64 (fdA f 7),.int .i64 (fdA f 8),.int .i64 (fdA f 9)] 0 W _ h
 have e2:Am9 #[.int .i64 (fdA g 0),.int .i64 (fdA g 1),.int .i64 (fdA g 2),.int .i64 (fdA g 3),.int .i64 (fdA g 4),.int .i64 (fdA g 5),.int .i64 (fdA g 6),.int .i64 (fdA g 7),.int .i64 (fdA g 8),.int .i64 (fdA g 9)] 0 [.int .i64 (fdA f 0),.int .i64 (fdA f 1),.int .i64 (fdA f 2),.int .i64 (fdA f 3),.int .i64 (fdA f 4),.int .i64 (fdA f 5),.int .i64 (fdA f 6),.int .i64 (fdA f 7),.int .i64 (fdA f 8),.int .i64 (fdA f 9)]=#[.int .i64 (fdA f 0),.int .i64 (fdA f 1),.int .i64 (fdA f 2),.int .i64 (fdA f 3),.int .i64 (fdA f 4),.int .i64 (fdA f 5),.int .i64 (fdA f 6),.int .i64 (fdA f 7),.int .i64 (fdA f 8),.int .i64 (fdA f 9)]:=by kernel_rfl
 rw[e2]at e
 exact e
theorem Ajh {W:World}{u:Nat}{A A2:KAd}{K Kz:Krn}(hU:W.heap[u]?=some (.cells #[.slice A.ta K.tree.length A.tc,.int .i64 K.m,.int .i64 K.b,.slice A.pa K.pipes.length A.pc,.slice A.oa K.opens.length A.oc,.string ⟨K.out0.toArray⟩,.string ⟨K.out1.toArray⟩] 29 (0,0)))(hK:KernIn W A2 Kz)(hp:∀ x,A2.pa=some x->x.block≠u)(ho:∀ x,A2.oa=some x->x.block≠u) :
  ∃ wv,wv=put7 W u (.slice A2.ta Kz.tree.length A2.tc) (.int .i64 Kz.m) (.int .i64 Kz.b) (.slice A2.pa Kz.pipes.length A2.pc) (.slice A2.oa Kz.opens.length A2.oc) (.string ⟨Kz.out0.toArray⟩) (.string ⟨Kz.out1.toArray⟩)/\wv.heap[u]?=some (.cells #[.slice A2.ta Kz.tree.length A2.tc,.int .i64 Kz.m,.int .i64 Kz.b,.slice A2.pa Kz.pipes.length A2.pc,.slice A2.oa Kz.opens.length A2.oc,.string ⟨Kz.out0.toArray⟩,.string ⟨Kz.out1.toArray⟩] 29 (0,0))/\KernIn wv A2 Kz/\But u W wv:=by
 have hbu:But u W (put7 W u (.slice A2.ta Kz.tree.length A2.tc) (.int .i64 Kz.m) (.int .i64 Kz.b) (.slice A2.pa Kz.pipes.length A2.pc) (.slice A2.oa Kz.opens.length A2.oc) (.string ⟨Kz.out0.toArray⟩) (.string ⟨Kz.out1.toArray⟩)):=Aiv _ _ _ _ _ _ _ _ _
 exact⟨_,rfl,Ac4 hU _ _ _ _ _ _ _,Age hK (Af6 hU) (fun k hk=>hbu.block k hk) (fun x hx _=>hp x hx) (fun x hx _=>ho x hx),hbu⟩
theorem Aon {W:World}{c:Nat}{t:TypeId}{f:List Int}(h:W.heap[c]?=some (.cells #[.int .i64 (fdA f 0),.int .i64 (fdA f 1),.int .i64 (fdA f 2),.int .i64 (fdA f 3),.int .i64 (fdA f 4),.int .i64 (fdA f 5),.int .i64 (fdA f 6),.int .i64 (fdA f 7),.int .i64 (fdA f 8),.int .i64 (fdA f 9)] t (0,0))):Akb W c:=
 Aid h fun j _ hj=>by
  match j,hj with
  | 0,hj=>exact⟨_,(Option.some.inj hj).symm⟩
  | 1,hj=>exact⟨_,(Option.some.inj hj).symm⟩
  | 2,hj=>exact⟨_,(Option.some.inj hj).symm⟩
  | 3,hj=>exact⟨_,(Option.some.inj hj).symm⟩
  | 4,hj=>exact⟨_,(Option.some.inj hj).symm⟩
  | 5,hj=>exact⟨_,(Option.some.inj hj).symm⟩
  | 6,hj=>exact⟨_,(Option.some.inj hj).symm⟩
  | 7,hj=>exact⟨_,(Option.some.inj hj).symm⟩
  | 8,hj=>exact⟨_,(Option.some.inj hj).symm⟩
  | 9,hj=>exact⟨_,(Option.some.inj hj).symm⟩
  | j+10,hj=>simp at hj
theorem Ai8 {W:World}{u:Nat}{A A2:KAd}{K Kz:Krn}{f:List Int}(fz:List Int)(hU:W.heap[u]?=some (.cells #[.slice A.ta K.tree.length A.tc,.int .i64 K.m,.int .i64 K.b,.slice A.pa K.pipes.length A.pc,.slice A.oa K.opens.length A.oc,.string ⟨K.out0.toArray⟩,.string ⟨K.out1.toArray⟩] 29 (0,0)))(hV:W.heap[u+1]?=some (.cells #[.int .i64 (fdA f 0),.int .i64 (fdA f 1),.int .i64 (fdA f 2),.int .i64 (fdA f 3),.int .i64 (fdA f 4),.int .i64 (fdA f 5),.int .i64 (fdA f 6),.int .i64 (fdA f 7),.int .i64 (fdA f 8),.int .i64 (fdA f 9)] 31 (0,0)))(hK:KernIn W A2 Kz)(hp:∀ x,A2.pa=some x->u+1 < x.block)(ho:∀ x,A2.oa=some x->u+1 < x.block) :
  ∃ wv,wv=(put7 W u (.slice A2.ta Kz.tree.length A2.tc) (.int .i64 Kz.m) (.int .i64 Kz.b) (.slice A2.pa Kz.pipes.length A2.pc) (.slice A2.oa Kz.opens.length A2.oc) (.string ⟨Kz.out0.toArray⟩) (.string ⟨Kz.out1.toArray⟩)).setCells (u+1) 0 [.int .i64 (fdA fz 0),.int .i64 (fdA fz 1),.int .i64 (fdA fz 2),.int .i64 (fdA fz 3),.int .i64 (fdA fz 4),.int .i64 (fdA fz 5),.int .i64 (fdA fz 6),.int .i64 (fdA fz 7),.int .i64 (fdA fz 8),.int .i64 (fdA fz 9)]/\wv.heap[u]?=some (.cells #[.slice A2.ta Kz.tree.length A2.tc,.int .i64 Kz.m,.int .i64 Kz.b,.slice A2.pa Kz.pipes.length A2.pc,.slice A2.oa Kz.opens.length A2.oc,.string ⟨Kz.out0.toArray⟩,.string ⟨Kz.out1.toArray⟩] 29 (0,0))/\wv.heap[u+1]?=some (.cells #[.int .i64 (fdA fz 0),.int .i64 (fdA fz 1),.int .i64 (fdA fz 2),.int .i64 (fdA fz 3),.int .i64 (fdA fz 4),.int .i64 (fdA fz 5),.int .i64 (fdA fz 6),.int .i64 (fdA fz 7),.int .i64 (fdA fz 8),.int .i64 (fdA fz 9)] 31 (0,0))/\KernIn wv A2 Kz/\wv.heap.size=W.heap.size/\∀ w n,n<=u->Below n w W->Below n w wv:=by
 obtain⟨w1,hw1,h1,h2,hb1⟩:=Ajh hU hK (fun x hx=>by have:=hp x hx;omega) (fun x hx=>by have:=ho x hx;omega)
 have hV1:=(hb1.block (u+1) (by omega)).trans hV
 have hb2:But (u+1) w1 (w1.setCells (u+1) 0 [.int .i64 (fdA fz 0),.int .i64 (fdA fz 1),.int .i64 (fdA fz 2),.int .i64 (fdA fz 3),.int .i64 (fdA fz 4),.int .i64 (fdA fz 5),.int .i64 (fdA fz 6),.int .i64 (fdA fz 7),.int .i64 (fdA fz 8),.int .i64 (fdA fz 9)]):=Abq _ _ _
 refine⟨_,by rw[<-hw1],(hb2.block u (by omega)).trans h1,Asy hV1 fz,Age h2 (Aon hV1) (fun k hk=>hb2.block k hk) (fun x hx _=>by have:=hp x hx;omega) (fun x hx _=>by have:=ho x hx;omega),hb2.size.trans hb1.size,fun w n hn hb=>But.below (But.below hb hb1 hn) hb2 (by omega)⟩
theorem Afs {W:World}{u:Nat}{A A2:KAd}{K Kz:Krn}{f:List Int}(hU:W.heap[u]?=some (.cells #[.slice A.ta K.tree.length A.tc,.int .i64 K.m,.int .i64 K.b,.slice A.pa K.pipes.length A.pc,.slice A.oa K.opens.length A.oc,.string ⟨K.out0.toArray⟩,.string ⟨K.out1.toArray⟩] 29 (0,0)))(hV:W.heap[u+1]?=some (.cells #[.int .i64 (fdA f 0),.int .i64 (fdA f 1),.int .i64 (fdA f 2),.int .i64 (fdA f 3),.int .i64 (fdA f 4),.int .i64 (fdA f 5),.int .i64 (fdA f 6),.int .i64 (fdA f 7),.int .i64 (fdA f 8),.int .i64 (fdA f 9)] 31 (0,0)))(hK:KernIn W A2 Kz)(hp:∀ x,A2.pa=some x->u+1 < x.block)(ho:∀ x,A2.oa=some x->u+1 < x.block) :
  ∃ wv,wv=put7 W u (.slice A2.ta Kz.tree.length A2.tc) (.int .i64 Kz.m) (.int .i64 Kz.b) (.slice A2.pa Kz.pipes.length A2.pc) (.slice A2.oa Kz.opens.length A2.oc) (.string ⟨Kz.out0.toArray⟩) (.string ⟨Kz.out1.toArray⟩)/\wv.heap[u]?=some (.cells #[.slice A2.ta Kz.tree.length A2.tc,.int .i64 Kz.m,.int .i64 Kz.b,.slice A2.pa Kz.pipes.length A2.pc,.slice A2.oa Kz.opens.length A2.oc,.string ⟨Kz.out0.toArray⟩,.string ⟨Kz.out1.toArray⟩] 29 (0,0))/\wv.heap[u+1]?=some (.cells #[.int .i64 (fdA f 0),.int .i64 (fdA f 1),.int .i64 (fdA f 2),.int .i64 (fdA f 3),.int .i64 (fdA f 4),.int .i64 (fdA f 5),.int .i64 (fdA f 6),.int .i64 (fdA f 7),.int .i64 (fdA f 8),.int .i64 (fdA f 9)] 31 (0,0))/\KernIn wv A2 Kz/\wv.heap.size=W.heap.size/\∀ w n,n<=u->Below n w W->Below n w wv:=by
 obtain⟨w1,hw1,h1,h2,hb1⟩:=Ajh hU hK (fun x hx=>by have:=hp x hx;omega) (fun x hx=>by have:=ho x hx;omega)
 exact⟨w1,hw1,h1,(hb1.block (u+1) (by omega)).trans hV,h2,hb1.size,fun w n hn hb=>But.below hb hb1 hn⟩
section
variable {L : List Ino} {m b : Int} {d k : Nat} {s : List UInt8} {x : Ino}
end
end Go.Proofs.YtkdfbliiblojoaaGreatDoor
