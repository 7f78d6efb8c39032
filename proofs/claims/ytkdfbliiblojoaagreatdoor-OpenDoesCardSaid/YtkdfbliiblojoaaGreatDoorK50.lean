import Derived.Test.YtkdfbliiblojoaaGreatDoorK48
import Derived.Test.YtkdfbliiblojoaaGreatDoorK49
import Derived.Test.YtkdfbliiblojoaaGreatDoorK47
import Derived.Test.YtkdfbliiblojoaaGreatDoorK46
set_option linter.all false
set_option maxRecDepth 100000
set_option maxHeartbeats 64000000
namespace Go.Proofs.YtkdfbliiblojoaaGreatDoor
open Go Go.RowKit
section
variable {B g : Nat} {A : KAd} {K : Krn} {f : List Int}
theorem Bax (b c d:Nat)(fd n:Int)(old:Value)(w:World)(hW:Wk w B g A K f)(hF:FitK K f)(hBw:B<=w.heap.size)(hb:w.cell? ⟨b,0,none⟩=some (.int .i64 fd))(hc:w.cell? ⟨c,0,none⟩=some (.int .i64 n))(hdB:d < B)(hd:w.heap[d]?=some (.cells #[old] 9 (0,0))) :
  Calls Tryz.prog 66 #[.pointer (some ⟨g,0,none⟩),.pointer (some ⟨b,0,none⟩),.pointer (some ⟨c,0,none⟩),.pointer (some ⟨d,0,none⟩)] w (Ahv B g (some d) (fun W=>W.heap[d]?=some (.cells #[.string ⟨(Ad1 K f fd n).2.1.toArray⟩] 9 (0,0))) ((Ad1 K f fd n).1,f,(Ad1 K f fd n).2.2) w):=by
 have HC:=Hd (Ba3 fd n w hW hF hBw)
 obtain⟨Z,hZ⟩:∃ Z,Z=Ad1 K f fd n:=⟨_,rfl⟩
 rw[<-hZ]at HC ⊢
 have HD:=Hd hd
 have HDB:=Hd hdB
 have HBW:=Hd hBw
 have bl:=Aaf hb
 have cl:=Aaf hc
 clear hW hF hZ hd hdB hBw
 go_enter Tryz.func66,Tryz.ntmps66
 go_wp2_with fail
 refine HC.out.mono ?_
 rintro e w2 ⟨rfl,hb2,hwk⟩
 have HB2:=Hd hb2
 have HWK:=Hd hwk
 have HD2:=Hd ((hb2.block d HDB.out).trans HD.out)
 have x0:=bC HD2.out 0
 have y0:=bF HD2.out 0
 have dl:=lt_of_block HD2.out
 clear hb2 hwk
 go_wp2_with fail
 go_ret
 have hbt:But d w2 (w2.setCell ⟨d,0,none⟩ (.string ⟨Z.2.1.toArray⟩)):=But.set ..
 refine⟨rfl,⟨hbt.os.trans HB2.out.os,hbt.tape.trans HB2.out.tape,hbt.output.trans HB2.out.output,by rw[hbt.size];exact HB2.out.size,fun k hk hn=>(hbt.block k (fun e=>hn (by rw[e]))).trans (HB2.out.block k hk)⟩,fun h=>?_,Aar HD2.out 0 _⟩
 obtain⟨A',h2⟩:=HWK.out h
 exact⟨A',h2.but HDB.out HD2.out _⟩
theorem Azh (b c d:Nat)(fd:Int)(S:ByteArray)(hS:S.size<=1000000)(old:Value)(w:World)(hW:Wk w B g A K f)(hF:FitK K f)(hBw:B<=w.heap.size)(hb:w.cell? ⟨b,0,none⟩=some (.int .i64 fd))(hc:w.cell? ⟨c,0,none⟩=some (.string S))(hdB:d < B)(hd:w.heap[d]?=some (.cells #[old] 3 (0,0))) :
  Calls Tryz.prog 70 #[.pointer (some ⟨g,0,none⟩),.pointer (some ⟨b,0,none⟩),.pointer (some ⟨c,0,none⟩),.pointer (some ⟨d,0,none⟩)] w (Ahv B g (some d) (fun W=>W.heap[d]?=some (.cells #[.int .i64 (Ab9 K f fd S.data.toList).2.1] 3 (0,0))) ((Ab9 K f fd S.data.toList).1,f,(Ab9 K f fd S.data.toList).2.2) w):=by
 have HC:=Hd (Azo fd S hS w hW hF hBw)
 obtain⟨Z,hZ⟩:∃ Z,Z=Ab9 K f fd S.data.toList:=⟨_,rfl⟩
 rw[<-hZ]at HC ⊢
 have HD:=Hd hd
 have HDB:=Hd hdB
 have HBW:=Hd hBw
 have bl:=Aaf hb
 have cl:=Aaf hc
 clear hW hF hZ hd hdB hBw
 go_enter Tryz.func70,Tryz.ntmps70
 go_wp2_with fail
 refine HC.out.mono ?_
 rintro e w2 ⟨rfl,hb2,hwk⟩
 have HB2:=Hd hb2
 have HWK:=Hd hwk
 have HD2:=Hd ((hb2.block d HDB.out).trans HD.out)
 have x0:=bC HD2.out 0
 have y0:=bF HD2.out 0
 have dl:=lt_of_block HD2.out
 clear hb2 hwk
 go_wp2_with fail
 go_ret
 have hbt:But d w2 (w2.setCell ⟨d,0,none⟩ (.int .i64 Z.2.1)):=But.set ..
 refine⟨rfl,⟨hbt.os.trans HB2.out.os,hbt.tape.trans HB2.out.tape,hbt.output.trans HB2.out.output,by rw[hbt.size];exact HB2.out.size,fun k hk hn=>(hbt.block k (fun e=>hn (by rw[e]))).trans (HB2.out.block k hk)⟩,fun h=>?_,Aar HD2.out 0 _⟩
 obtain⟨A',h2⟩:=HWK.out h
 exact⟨A',h2.but HDB.out HD2.out _⟩
end
def TAns (K':Krn)(v:Value)(er:Int)(w:World)(e:Ending)(w':World):Prop:=
 (∃ A:KAd,e=.returned (.tuple #[.agg #[.slice A.ta K'.tree.length A.tc,.int .i64 K'.m,.int .i64 K'.b,.slice A.pa K'.pipes.length A.pc,.slice A.oa K'.opens.length A.oc,.string ⟨K'.out0.toArray⟩,.string ⟨K'.out1.toArray⟩],v,.int .i64 er])/\KernIn w' A K'/\Aj9 w.heap.size A)/\Below w.heap.size w w'
theorem Amr (A:KAd)(K:Krn)(f:List Int)(fd n:Int)(hF:FitK K f)(w:World)(hK:KernIn w A K) :
  Calls Tryz.prog 26 #[.agg #[.slice A.ta K.tree.length A.tc,.int .i64 K.m,.int .i64 K.b,.slice A.pa K.pipes.length A.pc,.slice A.oa K.opens.length A.oc,.string ⟨K.out0.toArray⟩,.string ⟨K.out1.toArray⟩],.agg #[.int .i64 (fdA f 0),.int .i64 (fdA f 1),.int .i64 (fdA f 2),.int .i64 (fdA f 3),.int .i64 (fdA f 4),.int .i64 (fdA f 5),.int .i64 (fdA f 6),.int .i64 (fdA f 7),.int .i64 (fdA f 8),.int .i64 (fdA f 9)],.int .i64 fd,.int .i64 n] w (TAns (Ad1 K f fd n).1 (.string ⟨((Ad1 K f fd n)).2.1.toArray⟩) (Ad1 K f fd n).2.2 w):=by
 obtain⟨w2,hw2,hb2,hs2,hX,hY⟩:=Aan w #[.slice A.ta K.tree.length A.tc,.int .i64 K.m,.int .i64 K.b,.slice A.pa K.pipes.length A.pc,.slice A.oa K.opens.length A.oc,.string ⟨K.out0.toArray⟩,.string ⟨K.out1.toArray⟩] #[.int .i64 (fdA f 0),.int .i64 (fdA f 1),.int .i64 (fdA f 2),.int .i64 (fdA f 3),.int .i64 (fdA f 4),.int .i64 (fdA f 5),.int .i64 (fdA f 6),.int .i64 (fdA f 7),.int .i64 (fdA f 8),.int .i64 (fdA f 9)] 29 31
 obtain⟨w4,hw4,hb4,hs4,hA2,hA3⟩:=Aan w2 #[.int .i64 fd] #[.int .i64 n] 3 3
 obtain⟨w6,hw6,hb6,hs6,hU,hT⟩:=Aan w4 #[.slice none 0 0,.int .i64 0,.int .i64 0,.slice none 0 0,.slice none 0 0,.string ⟨#[]⟩,.string ⟨#[]⟩] #[.string ⟨#[]⟩] 29 9
 rw[hs2]at hA2 hA3
 rw[hs4,hs2]at hU hT
 have hc2:Below w2.heap.size w2 w6:=hb4.trans (hb6.mono (by omega))
 have hbw:Below w.heap.size w w6:=hb2.trans (hc2.mono (by omega))
 have hX5:=(hc2.block w.heap.size (by omega)).trans hX
 have hY5:=(hc2.block (w.heap.size+1) (by omega)).trans hY
 have hA2:=(hb6.block (w.heap.size+2) (by omega)).trans hA2
 have hA3:=(hb6.block (w.heap.size+3) (by omega)).trans hA3
 have hs:w6.heap.size=w.heap.size+6:=by omega
 have HB:=Hd hbw
 have HS:=Hd hs
 have HU:=Hd (show w6.heap[w.heap.size+4]?=some (.cells #[.slice none 0 0,.int .i64 0,.int .i64 0,.slice none 0 0,.slice none 0 0,.string ⟨#[]⟩,.string ⟨#[]⟩] 29 (0,0))from hU)
 have HT:=Hd (show w6.heap[w.heap.size+5]?=some (.cells #[.string ⟨#[]⟩] 9 (0,0))from hT)
 have HX5:=Hd hX5
 have HY5:=Hd hY5
 have HCL:=Hd (ldo (fid:=66) (caps:=#[.pointer (some ⟨w.heap.size+2,0,none⟩),.pointer (some ⟨w.heap.size+3,0,none⟩),.pointer (some ⟨w.heap.size+5,0,none⟩)]) (Ajb 66 Tryz.f66 Tryz.func66 (by decide) (by intro h;cases h)) (some (w.heap.size+5)) (fun W=>W.heap[w.heap.size+5]?=some (.cells #[.string ⟨((Ad1 K f fd n)).2.1.toArray⟩] 9 (0,0))) A K f ((Ad1 K f fd n).1,f,(Ad1 K f fd n).2.2) hF (fun h=>⟨((Aos hF rfl).2 h).1,rfl⟩) w6 (hK.below hbw) (fun W' h hT2=>App (hK.below hbw) HT.out hT2 h) (fun k h=>by have:=Option.some.inj h;omega) (fun W W' h h2=>(h _ rfl).trans h2)
  (fun B g A' W h1 h2 h3 h4=>Bax _ _ _ fd n (.string ⟨#[]⟩) W h4 hF h2 (Aaa h3 (bC hA2 0)) (Aaa h3 (bC hA3 0)) (by omega) ((h3.block _ (by omega)).trans HT.out)))
 obtain⟨Z,hZ⟩:∃ Z,Z=Ad1 K f fd n:=⟨_,rfl⟩
 rw[<-hZ]at HCL ⊢
 have h0:=hw6
 rw[hw4,hw2]at h0
 have HW:=Hd h0
 have q0:=bC hX5 0
 have q1:=bC hX5 1
 have q2:=bC hX5 2
 have q3:=bC hX5 3
 have q4:=bC hX5 4
 have q5:=bC hX5 5
 have q6:=bC hX5 6
 have r0:=bC hY5 0
 have r1:=bC hY5 1
 have r2:=bC hY5 2
 have r3:=bC hY5 3
 have r4:=bC hY5 4
 have r5:=bC hY5 5
 have r6:=bC hY5 6
 have r7:=bC hY5 7
 have r8:=bC hY5 8
 have r9:=bC hY5 9
 clear h0 hZ hF hK hX hY hU hT hX5 hY5 hbw hb2 hb4 hb6 hs2 hs4 hs6 hs hw2 hw4 hw6 hA2 hA3 hc2
 go_enter Tryz.func26,Tryz.ntmps26
 go_upto_region 2 with fail
 have h0:=HW.out
 rw[<-h0]
 clear h0
 go_wp2_with fail
 refine HCL.out.mono ?_
 rintro e w7 ⟨⟨A',rfl,hk7,hfr⟩,hbo,hT7⟩
 have hb7:Below w.heap.size w w7:=HB.out.trans (hbo.below_of (by omega) (by have:=HS.out;omega))
 have hs7:=hbo.size
 have HU7:=Hd ((hbo.block (w.heap.size+4) (by have:=HS.out;omega) (by simp)).trans HU.out)
 have HT7:=Hd hT7
 have HFR:=Hd hfr
 have HB7:=Hd hb7
 have HK7:=Hd hk7
 have HS7:=Hd hs7
 clear hk7 hfr hb7 hbo hT7 hs7 q0 q1 q2 q3 q4 q5 q6 r0 r1 r2 r3 r4 r5 r6 r7 r8 r9
 obtain⟨w9,hw9,hb9,hs9,hM,hN⟩:=Aan w7 #[.slice A'.ta Z.1.tree.length A'.tc,.int .i64 Z.1.m,.int .i64 Z.1.b,.slice A'.pa Z.1.pipes.length A'.pc,.slice A'.oa Z.1.opens.length A'.oc,.string ⟨Z.1.out0.toArray⟩,.string ⟨Z.1.out1.toArray⟩] #[.int .i64 (fdA f 0),.int .i64 (fdA f 1),.int .i64 (fdA f 2),.int .i64 (fdA f 3),.int .i64 (fdA f 4),.int .i64 (fdA f 5),.int .i64 (fdA f 6),.int .i64 (fdA f 7),.int .i64 (fdA f 8),.int .i64 (fdA f 9)] 29 31
 have HB9:=Hd hb9
 have HS9:=Hd hs9
 have HW9:=Hd hw9
 have hU9:=(hb9.block (w.heap.size+4) (by have:=HS.out;have:=HS7.out;omega)).trans HU7.out
 have hT9:=(hb9.block (w.heap.size+5) (by have:=HS.out;have:=HS7.out;omega)).trans HT7.out
 have HU9:=Hd hU9
 have HM:=Hd hM
 have HT9:=Hd hT9
 clear hb9 hs9 hw9 hM hN hU9 hT9
 go_upto_region 3 with fail
 have h0:=HW9.out
 rw[<-h0]
 clear h0
 have a0:=bC HM.out 0
 have a1:=bC HM.out 1
 have a2:=bC HM.out 2
 have a3:=bC HM.out 3
 have a4:=bC HM.out 4
 have a5:=bC HM.out 5
 have a6:=bC HM.out 6
 have u0:=bC HU9.out 0
 have u1:=bC HU9.out 1
 have u2:=bC HU9.out 2
 have u3:=bC HU9.out 3
 have u4:=bC HU9.out 4
 have u5:=bC HU9.out 5
 have u6:=bC HU9.out 6
 have v0:=bF HU9.out 0
 have v1:=bF HU9.out 1
 have v2:=bF HU9.out 2
 have v3:=bF HU9.out 3
 have v4:=bF HU9.out 4
 have v5:=bF HU9.out 5
 have v6:=bF HU9.out 6
 have t0:=bC HT9.out 0
 have ul:=lt_of_block HU9.out
 have ml:=lt_of_block HM.out
 have tl:=lt_of_block HT9.out
 go_region
 obtain⟨wv,hwv,hU7,hkn,hfrm,hsz,ho1,ho2,ho3⟩:=Akv (u:=w.heap.size+4) (Kz:=Z.1) HU9.out (HK7.out.below HB9.out) (fun x hx=>by have:=HFR.out.1 x hx;have:=HS.out;omega) (fun x hx=>by have:=HFR.out.2 x hx;have:=HS.out;omega)
 change Exit.then _ _ _ _ (World.drew (put7 w9 (w.heap.size+4) (.slice A'.ta Z.1.tree.length A'.tc) (.int .i64 Z.1.m) (.int .i64 Z.1.b) (.slice A'.pa Z.1.pipes.length A'.pc) (.slice A'.oa Z.1.opens.length A'.oc) (.string ⟨Z.1.out0.toArray⟩) (.string ⟨Z.1.out1.toArray⟩)))
 rw[<-hwv]
 obtain⟨wz,hwz⟩:∃ z,z=wv.drew:=⟨_,rfl⟩
 have hzh:wz.heap=wv.heap:=by rw[hwz];rfl
 have hbz:Below wv.heap.size wv wz:=by rw[hwz];exact Aac (Below.refl _ _)
 have HKZ:=Hd (hkn.below hbz)
 have HEND:=Hd (show Below w.heap.size w wz from⟨hbz.os.trans (ho1.trans (HB9.out.os.trans HB7.out.os)),hbz.tape.trans (ho2.trans (HB9.out.tape.trans HB7.out.tape)),hbz.output.trans (ho3.trans (HB9.out.output.trans HB7.out.output)),by rw[hzh,hsz];have:=HB9.out.size;have:=HB7.out.size;omega,fun k hk=>by
  rw[hzh,hfrm k (by omega),HB9.out.block k (by have:=HB7.out.size;omega)]
  exact HB7.out.block k hk⟩)
 obtain⟨c0,c1,c2,c3,c4,c5,c6⟩:=Aal (W:=wz) (g:=w.heap.size+4) (by rw[hzh];exact hU7)
 rw[<-hwz]
 clear hwz hzh hbz hU7 hwv hkn hfrm hsz ho1 ho2 ho3 a0 a1 a2 a3 a4 a5 a6 u0 u1 u2 u3 u4 u5 u6 v0 v1 v2 v3 v4 v5 v6 t0 ul ml tl
 go_wp2_with fail
 exact bodyPost_ret (v:=.tuple #[.agg #[.slice A'.ta Z.1.tree.length A'.tc,.int .i64 Z.1.m,.int .i64 Z.1.b,.slice A'.pa Z.1.pipes.length A'.pc,.slice A'.oa Z.1.opens.length A'.oc,.string ⟨Z.1.out0.toArray⟩,.string ⟨Z.1.out1.toArray⟩],.string ⟨(Z).2.1.toArray⟩,.int .i64 Z.2.2]) (by simp[results,Tryz.results26,go_sem,c0,c1,c2,c3,c4,c5,c6]) rfl ⟨⟨A',rfl,HKZ.out,HFR.out.less (by have:=HS.out;omega)⟩,HEND.out⟩
theorem Ako (A:KAd)(K:Krn)(f:List Int)(fd:Int)(S:ByteArray)(hS:S.size<=1000000)(hF:FitK K f)(w:World)(hK:KernIn w A K) :
  Calls Tryz.prog 28 #[.agg #[.slice A.ta K.tree.length A.tc,.int .i64 K.m,.int .i64 K.b,.slice A.pa K.pipes.length A.pc,.slice A.oa K.opens.length A.oc,.string ⟨K.out0.toArray⟩,.string ⟨K.out1.toArray⟩],.agg #[.int .i64 (fdA f 0),.int .i64 (fdA f 1),.int .i64 (fdA f 2),.int .i64 (fdA f 3),.int .i64 (fdA f 4),.int .i64 (fdA f 5),.int .i64 (fdA f 6),.int .i64 (fdA f 7),.int .i64 (fdA f 8),.int .i64 (fdA f 9)],.int .i64 fd,.string S] w (TAns (Ab9 K f fd S.data.toList).1 (.int .i64 ((Ab9 K f fd S.data.toList)).2.1) (Ab9 K f fd S.data.toList).2.2 w):=by
 obtain⟨w2,hw2,hb2,hs2,hX,hY⟩:=Aan w #[.slice A.ta K.tree.length A.tc,.int .i64 K.m,.int .i64 K.b,.slice A.pa K.pipes.length A.pc,.slice A.oa K.opens.length A.oc,.string ⟨K.out0.toArray⟩,.string ⟨K.out1.toArray⟩] #[.int .i64 (fdA f 0),.int .i64 (fdA f 1),.int .i64 (fdA f 2),.int .i64 (fdA f 3),.int .i64 (fdA f 4),.int .i64 (fdA f 5),.int .i64 (fdA f 6),.int .i64 (fdA f 7),.int .i64 (fdA f 8),.int .i64 (fdA f 9)] 29 31
 obtain⟨w4,hw4,hb4,hs4,hA2,hA3⟩:=Aan w2 #[.int .i64 fd] #[.string S] 3 9
 obtain⟨w6,hw6,hb6,hs6,hU,hT⟩:=Aan w4 #[.slice none 0 0,.int .i64 0,.int .i64 0,.slice none 0 0,.slice none 0 0,.string ⟨#[]⟩,.string ⟨#[]⟩] #[.int .i64 0] 29 3
 rw[hs2]at hA2 hA3
 rw[hs4,hs2]at hU hT
 have hc2:Below w2.heap.size w2 w6:=hb4.trans (hb6.mono (by omega))
 have hbw:Below w.heap.size w w6:=hb2.trans (hc2.mono (by omega))
 have hX5:=(hc2.block w.heap.size (by omega)).trans hX
 have hY5:=(hc2.block (w.heap.size+1) (by omega)).trans hY
 have hA2:=(hb6.block (w.heap.size+2) (by omega)).trans hA2
 have hA3:=(hb6.block (w.heap.size+3) (by omega)).trans hA3
 have hs:w6.heap.size=w.heap.size+6:=by omega
 have HB:=Hd hbw
 have HS:=Hd hs
 have HU:=Hd (show w6.heap[w.heap.size+4]?=some (.cells #[.slice none 0 0,.int .i64 0,.int .i64 0,.slice none 0 0,.slice none 0 0,.string ⟨#[]⟩,.string ⟨#[]⟩] 29 (0,0))from hU)
 have HT:=Hd (show w6.heap[w.heap.size+5]?=some (.cells #[.int .i64 0] 3 (0,0))from hT)
 have HX5:=Hd hX5
 have HY5:=Hd hY5
 have HCL:=Hd (ldo (fid:=70) (caps:=#[.pointer (some ⟨w.heap.size+2,0,none⟩),.pointer (some ⟨w.heap.size+3,0,none⟩),.pointer (some ⟨w.heap.size+5,0,none⟩)]) (Ajb 70 Tryz.f70 Tryz.func70 (by decide) (by intro h;cases h)) (some (w.heap.size+5)) (fun W=>W.heap[w.heap.size+5]?=some (.cells #[.int .i64 ((Ab9 K f fd S.data.toList)).2.1] 3 (0,0))) A K f ((Ab9 K f fd S.data.toList).1,f,(Ab9 K f fd S.data.toList).2.2) hF (fun h=>⟨((Aj8 hF rfl).2 h).1,rfl⟩) w6 (hK.below hbw) (fun W' h hT2=>App (hK.below hbw) HT.out hT2 h) (fun k h=>by have:=Option.some.inj h;omega) (fun W W' h h2=>(h _ rfl).trans h2)
  (fun B g A' W h1 h2 h3 h4=>Azh _ _ _ fd S hS (.int .i64 0) W h4 hF h2 (Aaa h3 (bC hA2 0)) (Aaa h3 (bC hA3 0)) (by omega) ((h3.block _ (by omega)).trans HT.out)))
 obtain⟨Z,hZ⟩:∃ Z,Z=Ab9 K f fd S.data.toList:=⟨_,rfl⟩
 rw[<-hZ]at HCL ⊢
 have h0:=hw6
 rw[hw4,hw2]at h0
 have HW:=Hd h0
 have q0:=bC hX5 0
 have q1:=bC hX5 1
 have q2:=bC hX5 2
 have q3:=bC hX5 3
 have q4:=bC hX5 4
 have q5:=bC hX5 5
 have q6:=bC hX5 6
 have r0:=bC hY5 0
 have r1:=bC hY5 1
 have r2:=bC hY5 2
 have r3:=bC hY5 3
 have r4:=bC hY5 4
 have r5:=bC hY5 5
 have r6:=bC hY5 6
 have r7:=bC hY5 7
 have r8:=bC hY5 8
 have r9:=bC hY5 9
 clear h0 hZ hF hK hX hY hU hT hX5 hY5 hbw hb2 hb4 hb6 hs2 hs4 hs6 hs hw2 hw4 hw6 hA2 hA3 hc2
 go_enter Tryz.func28,Tryz.ntmps28
 go_upto_region 2 with fail
 have h0:=HW.out
 rw[<-h0]
 clear h0
 go_wp2_with fail
 refine HCL.out.mono ?_
 rintro e w7 ⟨⟨A',rfl,hk7,hfr⟩,hbo,hT7⟩
 have hb7:Below w.heap.size w w7:=HB.out.trans (hbo.below_of (by omega) (by have:=HS.out;omega))
 have hs7:=hbo.size
 have HU7:=Hd ((hbo.block (w.heap.size+4) (by have:=HS.out;omega) (by simp)).trans HU.out)
 have HT7:=Hd hT7
 have HFR:=Hd hfr
 have HB7:=Hd hb7
 have HK7:=Hd hk7
 have HS7:=Hd hs7
 clear hk7 hfr hb7 hbo hT7 hs7 q0 q1 q2 q3 q4 q5 q6 r0 r1 r2 r3 r4 r5 r6 r7 r8 r9
 obtain⟨w9,hw9,hb9,hs9,hM,hN⟩:=Aan w7 #[.slice A'.ta Z.1.tree.length A'.tc,.int .i64 Z.1.m,.int .i64 Z.1.b,.slice A'.pa Z.1.pipes.length A'.pc,.slice A'.oa Z.1.opens.length A'.oc,.string ⟨Z.1.out0.toArray⟩,.string ⟨Z.1.out1.toArray⟩] #[.int .i64 (fdA f 0),.int .i64 (fdA f 1),.int .i64 (fdA f 2),.int .i64 (fdA f 3),.int .i64 (fdA f 4),.int .i64 (fdA f 5),.int .i64 (fdA f 6),.int .i64 (fdA f 7),.int .i64 (fdA f 8),.int .i64 (fdA f 9)] 29 31
 have HB9:=Hd hb9
 have HS9:=Hd hs9
 have HW9:=Hd hw9
 have hU9:=(hb9.block (w.heap.size+4) (by have:=HS.out;have:=HS7.out;omega)).trans HU7.out
 have hT9:=(hb9.block (w.heap.size+5) (by have:=HS.out;have:=HS7.out;omega)).trans HT7.out
 have HU9:=Hd hU9
 have HM:=Hd hM
 have HT9:=Hd hT9
 clear hb9 hs9 hw9 hM hN hU9 hT9
 go_upto_region 3 with fail
 have h0:=HW9.out
 rw[<-h0]
 clear h0
 have a0:=bC HM.out 0
 have a1:=bC HM.out 1
 have a2:=bC HM.out 2
 have a3:=bC HM.out 3
 have a4:=bC HM.out 4
 have a5:=bC HM.out 5
 have a6:=bC HM.out 6
 have u0:=bC HU9.out 0
 have u1:=bC HU9.out 1
 have u2:=bC HU9.out 2
 have u3:=bC HU9.out 3
 have u4:=bC HU9.out 4
 have u5:=bC HU9.out 5
 have u6:=bC HU9.out 6
 have v0:=bF HU9.out 0
 have v1:=bF HU9.out 1
 have v2:=bF HU9.out 2
 have v3:=bF HU9.out 3
 have v4:=bF HU9.out 4
 have v5:=bF HU9.out 5
 have v6:=bF HU9.out 6
 have t0:=bC HT9.out 0
 have ul:=lt_of_block HU9.out
 have ml:=lt_of_block HM.out
 have tl:=lt_of_block HT9.out
 go_region
 obtain⟨wv,hwv,hU7,hkn,hfrm,hsz,ho1,ho2,ho3⟩:=Akv (u:=w.heap.size+4) (Kz:=Z.1) HU9.out (HK7.out.below HB9.out) (fun x hx=>by have:=HFR.out.1 x hx;have:=HS.out;omega) (fun x hx=>by have:=HFR.out.2 x hx;have:=HS.out;omega)
 change Exit.then _ _ _ _ (World.drew (put7 w9 (w.heap.size+4) (.slice A'.ta Z.1.tree.length A'.tc) (.int .i64 Z.1.m) (.int .i64 Z.1.b) (.slice A'.pa Z.1.pipes.length A'.pc) (.slice A'.oa Z.1.opens.length A'.oc) (.string ⟨Z.1.out0.toArray⟩) (.string ⟨Z.1.out1.toArray⟩)))
 rw[<-hwv]
 obtain⟨wz,hwz⟩:∃ z,z=wv.drew:=⟨_,rfl⟩
 have hzh:wz.heap=wv.heap:=by rw[hwz];rfl
 have hbz:Below wv.heap.size wv wz:=by rw[hwz];exact Aac (Below.refl _ _)
 have HKZ:=Hd (hkn.below hbz)
 have HEND:=Hd (show Below w.heap.size w wz from⟨hbz.os.trans (ho1.trans (HB9.out.os.trans HB7.out.os)),hbz.tape.trans (ho2.trans (HB9.out.tape.trans HB7.out.tape)),hbz.output.trans (ho3.trans (HB9.out.output.trans HB7.out.output)),by rw[hzh,hsz];have:=HB9.out.size;have:=HB7.out.size;omega,fun k hk=>by
  rw[hzh,hfrm k (by omega),HB9.out.block k (by have:=HB7.out.size;omega)]
  exact HB7.out.block k hk⟩)
 obtain⟨c0,c1,c2,c3,c4,c5,c6⟩:=Aal (W:=wz) (g:=w.heap.size+4) (by rw[hzh];exact hU7)
 rw[<-hwz]
 clear hwz hzh hbz hU7 hwv hkn hfrm hsz ho1 ho2 ho3 a0 a1 a2 a3 a4 a5 a6 u0 u1 u2 u3 u4 u5 u6 v0 v1 v2 v3 v4 v5 v6 t0 ul ml tl
 go_wp2_with fail
 exact bodyPost_ret (v:=.tuple #[.agg #[.slice A'.ta Z.1.tree.length A'.tc,.int .i64 Z.1.m,.int .i64 Z.1.b,.slice A'.pa Z.1.pipes.length A'.pc,.slice A'.oa Z.1.opens.length A'.oc,.string ⟨Z.1.out0.toArray⟩,.string ⟨Z.1.out1.toArray⟩],.int .i64 (Z).2.1,.int .i64 Z.2.2]) (by simp[results,Tryz.results28,go_sem,c0,c1,c2,c3,c4,c5,c6]) rfl ⟨⟨A',rfl,HKZ.out,HFR.out.less (by have:=HS.out;omega)⟩,HEND.out⟩
theorem Bak (w:World)(hW:Ways w):Calls Tryz.prog 9 #[] w fun e w'=>e=.returned (.bool true)/\Below w.heap.size w w':=by
 have hnew:∀ w,Calls Tryz.prog 35 #[.int .i64 4,.int .i64 100] w fun e w'=>(∃ a cap,e=.returned (.tuple #[.agg #[.slice a (newT 4 100).nodes.length cap,.int .i64 4,.int .i64 100],.int .i64 0])/\Aad w' a cap (newT 4 100).nodes)/\Below w.heap.size w w':=
  fun w=>(Axt 4 100 (by decide) (by decide) (by decide) (by decide) w).mono fun e w' h=>by
   obtain⟨⟨v,rfl,a,cap,rfl,hN⟩,hb⟩:=h
   exact⟨⟨a,cap,rfl,hN⟩,hb⟩
 have hfit:=At5 (n:=4) (b:=100) (by decide) (by decide) (by decide) (by decide)
 have hK0:newK (newT 4 100).nodes 4 100 [105,110]=(ak0,af0):=rfl
 have E1:=Hd ak_1
 have E2:=Hd ak_2
 have E3:=Hd ak_3
 have E4:=Hd ak_4
 have E5:=Hd ak_5
 have E6:=Hd ak_6
 have F0:=Hd Ar6
 have F1:=Hd Ar7
 have F2:=Hd Ar8
 have F3:=Hd Ar9
 have F4:=Hd Asa
 have F5:=Hd Asb
 have F6:=Hd Ayt
 have HWK:=Hd Ayv
 have HDT:=Hd Ays
 have HL6:=Hd Bah.1
 obtain⟨T,hT⟩:∃ T,T=(newT 4 100).nodes:=⟨_,rfl⟩
 rw[<-hT]at hnew hfit hK0
 obtain⟨K0,h0⟩:∃ K,K=ak0:=⟨_,rfl⟩
 obtain⟨K1,h1⟩:∃ K,K=ak1:=⟨_,rfl⟩
 obtain⟨K2,h2⟩:∃ K,K=ak2:=⟨_,rfl⟩
 obtain⟨K3,h3⟩:∃ K,K=ak3:=⟨_,rfl⟩
 obtain⟨K4,h4⟩:∃ K,K=ak4:=⟨_,rfl⟩
 obtain⟨K5,h5⟩:∃ K,K=ak5:=⟨_,rfl⟩
 obtain⟨K6,h6⟩:∃ K,K=ak6:=⟨_,rfl⟩
 obtain⟨f0,g0⟩:∃ f,f=af0:=⟨_,rfl⟩
 obtain⟨f3,g3⟩:∃ f,f=af3:=⟨_,rfl⟩
 obtain⟨f5,g5⟩:∃ f,f=af5:=⟨_,rfl⟩
 rw[<-h0,<-g0]at hK0 F0
 rw[<-h0,<-g0,<-h1]at E1
 rw[<-h1,<-g0]at F1
 rw[<-h1,<-g0,<-h2]at E2
 rw[<-h2,<-g0]at F2
 rw[<-h2,<-g0,<-h3,<-g3]at E3
 rw[<-h3,<-g3]at F3
 rw[<-h3,<-g3,<-h4]at E4
 rw[<-h4,<-g3]at F4
 rw[<-h4,<-g3,<-h5,<-g5]at E5
 rw[<-h5,<-g5]at F5
 rw[<-h5,<-g5,<-h6]at E6
 rw[<-h6,<-g5]at F6
 rw[<-h6]at HWK HDT HL6
 have HFT:=Hd hfit
 have HN0:=Hd hK0
 have HNEW:=Hd hnew
 have HY0:=Hd hW
 clear hT h0 h1 h2 h3 h4 h5 h6 g0 g3 g5 hfit hK0 hnew hW
 go_enter Tryz.func9,Tryz.ntmps9
 go_wp2_with fail
 refine(HNEW.out _).mono ?_
 rintro e w1 ⟨⟨a,cap,rfl,hN⟩,hb1⟩
 obtain⟨w2,hw2⟩:∃ z,z=w1.alloc (.cells #[.slice a T.length cap,.int .i64 4,.int .i64 100] 24):=⟨_,rfl⟩
 have hb2:Below w1.heap.size w1 w2:=by rw[hw2];exact Aab w1 _
 have HX2:=Hd (show w2.heap[w1.heap.size]?=some (.cells #[.slice a T.length cap,.int .i64 4,.int .i64 100] 24 (0,0)) by rw[hw2];exact Aag w1 _)
 have HW2:=Hd hw2
 have HN2:=Hd (hN.below hb2)
 have HB2:=Hd (hb1.trans (hb2.mono hb1.size))
 clear hw2 hb2 hN hb1
 go_upto_region 2 with fail
 have hh:=HW2.out
 rw[<-hh]
 clear hh
 have t0:=bC HX2.out 0
 have t1:=bC HX2.out 1
 have t2:=bC HX2.out 2
 have tl:=lt_of_block HX2.out
 go_wp2_with fail
 have hnw:=Awm a cap 4 100 T HFT.out ⟨#[105,110]⟩ (by decide) w2 HN2.out
 rw[show (⟨#[105,110]⟩:ByteArray).data.toList=[105,110]from rfl,HN0.out]at hnw
 refine hnw.mono ?_
 rintro e w3 ⟨⟨A3,rfl,hk3,hfr3⟩,hb3⟩
 obtain⟨w4,hw4,hb4,hs4,hX4,hY4⟩:=Aan w3 #[.slice A3.ta K0.tree.length A3.tc,.int .i64 K0.m,.int .i64 K0.b,.slice A3.pa K0.pipes.length A3.pc,.slice A3.oa K0.opens.length A3.oc,.string ⟨K0.out0.toArray⟩,.string ⟨K0.out1.toArray⟩] #[.int .i64 (fdA f0 0),.int .i64 (fdA f0 1),.int .i64 (fdA f0 2),.int .i64 (fdA f0 3),.int .i64 (fdA f0 4),.int .i64 (fdA f0 5),.int .i64 (fdA f0 6),.int .i64 (fdA f0 7),.int .i64 (fdA f0 8),.int .i64 (fdA f0 9)] 29 31
 have HUW:=Hd (show w.heap.size<=w3.heap.size by have:=HB2.out.size;have:=hb3.size;omega)
 have HX:=Hd hX4
 have HY:=Hd hY4
 have HK:=Hd (hk3.below hb4)
 have HB:=Hd ((HB2.out.trans (hb3.mono HB2.out.size)).trans (hb4.mono HUW.out))
 have HS:=Hd (show w3.heap.size+2<=w4.heap.size by omega)
 have HW:=Hd hw4
 clear hw4 hb4 hs4 hX4 hY4 hk3 hfr3 hb3 hnw t0 t1 t2 tl
 go_upto_region 3 with fail
 have hh:=HW.out
 rw[<-hh]
 clear hh HW
 have q0:=bC HX.out 0
 have q1:=bC HX.out 1
 have q2:=bC HX.out 2
 have q3:=bC HX.out 3
 have q4:=bC HX.out 4
 have q5:=bC HX.out 5
 have q6:=bC HX.out 6
 have ql:=lt_of_block HX.out
 have c0:=bC HY.out 0
 have c1:=bC HY.out 1
 have c2:=bC HY.out 2
 have c3:=bC HY.out 3
 have c4:=bC HY.out 4
 have c5:=bC HY.out 5
 have c6:=bC HY.out 6
 have c7:=bC HY.out 7
 have c8:=bC HY.out 8
 have c9:=bC HY.out 9
 have cl:=lt_of_block HY.out
 go_wp2_with fail
 have hc:=Amr _ K0 f0 0 9 F0.out w4 HK.out
 rw[E1.out]at hc
 refine(hc).mono ?_
 rintro e w5_ ⟨⟨Aw5,rfl,hk,hfr⟩,hb⟩
 have hx:=(hb.block (w3.heap.size) (by have:=HS.out;omega)).trans HX.out
 have hy:=(hb.block (w3.heap.size+1) (by have:=HS.out;omega)).trans HY.out
 have HBV:=Hd (HB.out.trans (hb.mono HB.out.size))
 have HSV:=Hd (show w3.heap.size+2<=w5_.heap.size by have:=HS.out;have:=hb.size;omega)
 obtain⟨w5,hw,hx2,hy2,hk2,hsz,hbl⟩:=Afs hx hy hk (fun x h=>by have:=hfr.1 x h;have:=HS.out;omega) (fun x h=>by have:=hfr.2 x h;have:=HS.out;omega)
 clear q0 q1 q2 q3 q4 q5 q6 ql c0 c1 c2 c3 c4 c5 c6 c7 c8 c9 cl
 have HXO:=Hd hx
 have HYO:=Hd hy
 have u0:=bC hx 0
 have u1:=bC hx 1
 have u2:=bC hx 2
 have u3:=bC hx 3
 have u4:=bC hx 4
 have u5:=bC hx 5
 have u6:=bC hx 6
 have v0:=bF hx 0
 have v1:=bF hx 1
 have v2:=bF hx 2
 have v3:=bF hx 3
 have v4:=bF hx 4
 have v5:=bF hx 5
 have v6:=bF hx 6
 have ul:=lt_of_block hx
 have HX:=Hd hx2
 have HY:=Hd hy2
 have HK:=Hd hk2
 have HB:=Hd (hbl w w.heap.size (by have:=HBV.out.size;have:=HUW.out;omega) HBV.out)
 have HS:=Hd (show w3.heap.size+2<=w5.heap.size by rw[hsz];exact HSV.out)
 have HW:=Hd hw
 clear hc hk hfr hb hx hy hx2 hy2 hk2 hsz hbl hw
 go_upto_region 4 with fail
 change Code.wp _ _ _ _ (put7 w5_ (w3.heap.size) (.slice Aw5.ta K1.tree.length Aw5.tc) (.int .i64 K1.m) (.int .i64 K1.b) (.slice Aw5.pa K1.pipes.length Aw5.pc) (.slice Aw5.oa K1.opens.length Aw5.oc) (.string ⟨K1.out0.toArray⟩) (.string ⟨K1.out1.toArray⟩))
 rw[<-HW.out]
 clear HW HXO HYO HBV HSV u0 u1 u2 u3 u4 u5 u6 v0 v1 v2 v3 v4 v5 v6 ul
 have q0:=bC HX.out 0
 have q1:=bC HX.out 1
 have q2:=bC HX.out 2
 have q3:=bC HX.out 3
 have q4:=bC HX.out 4
 have q5:=bC HX.out 5
 have q6:=bC HX.out 6
 have ql:=lt_of_block HX.out
 have c0:=bC HY.out 0
 have c1:=bC HY.out 1
 have c2:=bC HY.out 2
 have c3:=bC HY.out 3
 have c4:=bC HY.out 4
 have c5:=bC HY.out 5
 have c6:=bC HY.out 6
 have c7:=bC HY.out 7
 have c8:=bC HY.out 8
 have c9:=bC HY.out 9
 have cl:=lt_of_block HY.out
 go_wp2_with fail
 have hc:=Amr _ K1 f0 0 9 F1.out w5 HK.out
 rw[E2.out]at hc
 refine(hc).mono ?_
 rintro e w6_ ⟨⟨Aw6,rfl,hk,hfr⟩,hb⟩
 have hx:=(hb.block (w3.heap.size) (by have:=HS.out;omega)).trans HX.out
 have hy:=(hb.block (w3.heap.size+1) (by have:=HS.out;omega)).trans HY.out
 have HBV:=Hd (HB.out.trans (hb.mono HB.out.size))
 have HSV:=Hd (show w3.heap.size+2<=w6_.heap.size by have:=HS.out;have:=hb.size;omega)
 obtain⟨w6,hw,hx2,hy2,hk2,hsz,hbl⟩:=Afs hx hy hk (fun x h=>by have:=hfr.1 x h;have:=HS.out;omega) (fun x h=>by have:=hfr.2 x h;have:=HS.out;omega)
 clear q0 q1 q2 q3 q4 q5 q6 ql c0 c1 c2 c3 c4 c5 c6 c7 c8 c9 cl
 have HXO:=Hd hx
 have HYO:=Hd hy
 have u0:=bC hx 0
 have u1:=bC hx 1
 have u2:=bC hx 2
 have u3:=bC hx 3
 have u4:=bC hx 4
 have u5:=bC hx 5
 have u6:=bC hx 6
 have v0:=bF hx 0
 have v1:=bF hx 1
 have v2:=bF hx 2
 have v3:=bF hx 3
 have v4:=bF hx 4
 have v5:=bF hx 5
 have v6:=bF hx 6
 have ul:=lt_of_block hx
 have HX:=Hd hx2
 have HY:=Hd hy2
 have HK:=Hd hk2
 have HB:=Hd (hbl w w.heap.size (by have:=HBV.out.size;have:=HUW.out;omega) HBV.out)
 have HS:=Hd (show w3.heap.size+2<=w6.heap.size by rw[hsz];exact HSV.out)
 have HW:=Hd hw
 clear hc hk hfr hb hx hy hx2 hy2 hk2 hsz hbl hw
 go_upto_region 5 with fail
 change Code.wp _ _ _ _ (put7 w6_ (w3.heap.size) (.slice Aw6.ta K2.tree.length Aw6.tc) (.int .i64 K2.m) (.int .i64 K2.b) (.slice Aw6.pa K2.pipes.length Aw6.pc) (.slice Aw6.oa K2.opens.length Aw6.oc) (.string ⟨K2.out0.toArray⟩) (.string ⟨K2.out1.toArray⟩))
 rw[<-HW.out]
 clear HW HXO HYO HBV HSV u0 u1 u2 u3 u4 u5 u6 v0 v1 v2 v3 v4 v5 v6 ul
 have q0:=bC HX.out 0
 have q1:=bC HX.out 1
 have q2:=bC HX.out 2
 have q3:=bC HX.out 3
 have q4:=bC HX.out 4
 have q5:=bC HX.out 5
 have q6:=bC HX.out 6
 have ql:=lt_of_block HX.out
 have c0:=bC HY.out 0
 have c1:=bC HY.out 1
 have c2:=bC HY.out 2
 have c3:=bC HY.out 3
 have c4:=bC HY.out 4
 have c5:=bC HY.out 5
 have c6:=bC HY.out 6
 have c7:=bC HY.out 7
 have c8:=bC HY.out 8
 have c9:=bC HY.out 9
 have cl:=lt_of_block HY.out
 go_wp2_with fail
 have hc:=Amq _ K2 f0 3 0 ⟨#[102]⟩ (by decide) 1 F2.out w6 HK.out (HY0.out.below HB.out (Nat.le_refl _))
 rw[show (⟨#[102]⟩:ByteArray).data.toList=[102]from rfl,E3.out]at hc
 refine(hc).mono ?_
 rintro e w7_ ⟨⟨Aw7,rfl,hk,hfr⟩,hb⟩
 have hx:=(hb.block (w3.heap.size) (by have:=HS.out;omega)).trans HX.out
 have hy:=(hb.block (w3.heap.size+1) (by have:=HS.out;omega)).trans HY.out
 have HBV:=Hd (HB.out.trans (hb.mono HB.out.size))
 have HSV:=Hd (show w3.heap.size+2<=w7_.heap.size by have:=HS.out;have:=hb.size;omega)
 obtain⟨w7,hw,hx2,hy2,hk2,hsz,hbl⟩:=Ai8 (f3) hx hy hk (fun x h=>by have:=hfr.1 x h;have:=HS.out;omega) (fun x h=>by have:=hfr.2 x h;have:=HS.out;omega)
 clear q0 q1 q2 q3 q4 q5 q6 ql c0 c1 c2 c3 c4 c5 c6 c7 c8 c9 cl
 have HXO:=Hd hx
 have HYO:=Hd hy
 have u0:=bC hx 0
 have u1:=bC hx 1
 have u2:=bC hx 2
 have u3:=bC hx 3
 have u4:=bC hx 4
 have u5:=bC hx 5
 have u6:=bC hx 6
 have v0:=bF hx 0
 have v1:=bF hx 1
 have v2:=bF hx 2
 have v3:=bF hx 3
 have v4:=bF hx 4
 have v5:=bF hx 5
 have v6:=bF hx 6
 have ul:=lt_of_block hx
 have m0:=bC hy 0
 have m1:=bC hy 1
 have m2:=bC hy 2
 have m3:=bC hy 3
 have m4:=bC hy 4
 have m5:=bC hy 5
 have m6:=bC hy 6
 have m7:=bC hy 7
 have m8:=bC hy 8
 have m9:=bC hy 9
 have n0:=bF hy 0
 have n1:=bF hy 1
 have n2:=bF hy 2
 have n3:=bF hy 3
 have n4:=bF hy 4
 have n5:=bF hy 5
 have n6:=bF hy 6
 have n7:=bF hy 7
 have n8:=bF hy 8
 have n9:=bF hy 9
 have ml:=lt_of_block hy
 have HX:=Hd hx2
 have HY:=Hd hy2
 have HK:=Hd hk2
 have HB:=Hd (hbl w w.heap.size (by have:=HBV.out.size;have:=HUW.out;omega) HBV.out)
 have HS:=Hd (show w3.heap.size+2<=w7.heap.size by rw[hsz];exact HSV.out)
 have HW:=Hd hw
 clear hc hk hfr hb hx hy hx2 hy2 hk2 hsz hbl hw
 go_upto_region 6 with fail
 change Code.wp _ _ _ _ ((put7 w7_ (w3.heap.size) (.slice Aw7.ta K3.tree.length Aw7.tc) (.int .i64 K3.m) (.int .i64 K3.b) (.slice Aw7.pa K3.pipes.length Aw7.pc) (.slice Aw7.oa K3.opens.length Aw7.oc) (.string ⟨K3.out0.toArray⟩) (.string ⟨K3.out1.toArray⟩)).setCells (w3.heap.size+1) 0 [.int .i64 (fdA f3 0),.int .i64 (fdA f3 1),.int .i64 (fdA f3 2),.int .i64 (fdA f3 3),.int .i64 (fdA f3 4),.int .i64 (fdA f3 5),.int .i64 (fdA f3 6),.int .i64 (fdA f3 7),.int .i64 (fdA f3 8),.int .i64 (fdA f3 9)])
 rw[<-HW.out]
 clear HW HXO HYO HBV HSV u0 u1 u2 u3 u4 u5 u6 v0 v1 v2 v3 v4 v5 v6 ul m0 m1 m2 m3 m4 m5 m6 m7 m8 m9 n0 n1 n2 n3 n4 n5 n6 n7 n8 n9 ml
 have q0:=bC HX.out 0
 have q1:=bC HX.out 1
 have q2:=bC HX.out 2
 have q3:=bC HX.out 3
 have q4:=bC HX.out 4
 have q5:=bC HX.out 5
 have q6:=bC HX.out 6
 have ql:=lt_of_block HX.out
 have c0:=bC HY.out 0
 have c1:=bC HY.out 1
 have c2:=bC HY.out 2
 have c3:=bC HY.out 3
 have c4:=bC HY.out 4
 have c5:=bC HY.out 5
 have c6:=bC HY.out 6
 have c7:=bC HY.out 7
 have c8:=bC HY.out 8
 have c9:=bC HY.out 9
 have cl:=lt_of_block HY.out
 go_wp2_with fail
 have hc:=Ako _ K3 f3 3 ⟨#[120]⟩ (by decide) F3.out w7 HK.out
 rw[show (⟨#[120]⟩:ByteArray).data.toList=[120]from rfl,E4.out]at hc
 refine(hc).mono ?_
 rintro e w8_ ⟨⟨Aw8,rfl,hk,hfr⟩,hb⟩
 have hx:=(hb.block (w3.heap.size) (by have:=HS.out;omega)).trans HX.out
 have hy:=(hb.block (w3.heap.size+1) (by have:=HS.out;omega)).trans HY.out
 have HBV:=Hd (HB.out.trans (hb.mono HB.out.size))
 have HSV:=Hd (show w3.heap.size+2<=w8_.heap.size by have:=HS.out;have:=hb.size;omega)
 obtain⟨w8,hw,hx2,hy2,hk2,hsz,hbl⟩:=Afs hx hy hk (fun x h=>by have:=hfr.1 x h;have:=HS.out;omega) (fun x h=>by have:=hfr.2 x h;have:=HS.out;omega)
 clear q0 q1 q2 q3 q4 q5 q6 ql c0 c1 c2 c3 c4 c5 c6 c7 c8 c9 cl
 have HXO:=Hd hx
 have HYO:=Hd hy
 have u0:=bC hx 0
 have u1:=bC hx 1
 have u2:=bC hx 2
 have u3:=bC hx 3
 have u4:=bC hx 4
 have u5:=bC hx 5
 have u6:=bC hx 6
 have v0:=bF hx 0
 have v1:=bF hx 1
 have v2:=bF hx 2
 have v3:=bF hx 3
 have v4:=bF hx 4
 have v5:=bF hx 5
 have v6:=bF hx 6
 have ul:=lt_of_block hx
 have HX:=Hd hx2
 have HY:=Hd hy2
 have HK:=Hd hk2
 have HB:=Hd (hbl w w.heap.size (by have:=HBV.out.size;have:=HUW.out;omega) HBV.out)
 have HS:=Hd (show w3.heap.size+2<=w8.heap.size by rw[hsz];exact HSV.out)
 have HW:=Hd hw
 clear hc hk hfr hb hx hy hx2 hy2 hk2 hsz hbl hw
 go_upto_region 7 with fail
 change Code.wp _ _ _ _ (put7 w8_ (w3.heap.size) (.slice Aw8.ta K4.tree.length Aw8.tc) (.int .i64 K4.m) (.int .i64 K4.b) (.slice Aw8.pa K4.pipes.length Aw8.pc) (.slice Aw8.oa K4.opens.length Aw8.oc) (.string ⟨K4.out0.toArray⟩) (.string ⟨K4.out1.toArray⟩))
 rw[<-HW.out]
 clear HW HXO HYO HBV HSV u0 u1 u2 u3 u4 u5 u6 v0 v1 v2 v3 v4 v5 v6 ul
 have q0:=bC HX.out 0
 have q1:=bC HX.out 1
 have q2:=bC HX.out 2
 have q3:=bC HX.out 3
 have q4:=bC HX.out 4
 have q5:=bC HX.out 5
 have q6:=bC HX.out 6
 have ql:=lt_of_block HX.out
 have c0:=bC HY.out 0
 have c1:=bC HY.out 1
 have c2:=bC HY.out 2
 have c3:=bC HY.out 3
 have c4:=bC HY.out 4
 have c5:=bC HY.out 5
 have c6:=bC HY.out 6
 have c7:=bC HY.out 7
 have c8:=bC HY.out 8
 have c9:=bC HY.out 9
 have cl:=lt_of_block HY.out
 go_wp2_with fail
 have hc:=Awl _ K4 f3 3 1 F4.out w8 HK.out
 rw[E5.out]at hc
 refine(hc).mono ?_
 rintro e w9_ ⟨⟨Aw9,rfl,hk,hfr⟩,hb⟩
 have hx:=(hb.block (w3.heap.size) (by have:=HS.out;omega)).trans HX.out
 have hy:=(hb.block (w3.heap.size+1) (by have:=HS.out;omega)).trans HY.out
 have HBV:=Hd (HB.out.trans (hb.mono HB.out.size))
 have HSV:=Hd (show w3.heap.size+2<=w9_.heap.size by have:=HS.out;have:=hb.size;omega)
 obtain⟨w9,hw,hx2,hy2,hk2,hsz,hbl⟩:=Ai8 (f5) hx hy hk (fun x h=>by have:=hfr.1 x h;have:=HS.out;omega) (fun x h=>by have:=hfr.2 x h;have:=HS.out;omega)
 clear q0 q1 q2 q3 q4 q5 q6 ql c0 c1 c2 c3 c4 c5 c6 c7 c8 c9 cl
 have HXO:=Hd hx
 have HYO:=Hd hy
 have u0:=bC hx 0
 have u1:=bC hx 1
 have u2:=bC hx 2
 have u3:=bC hx 3
 have u4:=bC hx 4
 have u5:=bC hx 5
 have u6:=bC hx 6
 have v0:=bF hx 0
 have v1:=bF hx 1
 have v2:=bF hx 2
 have v3:=bF hx 3
 have v4:=bF hx 4
 have v5:=bF hx 5
 have v6:=bF hx 6
 have ul:=lt_of_block hx
 have m0:=bC hy 0
 have m1:=bC hy 1
 have m2:=bC hy 2
 have m3:=bC hy 3
 have m4:=bC hy 4
 have m5:=bC hy 5
 have m6:=bC hy 6
 have m7:=bC hy 7
 have m8:=bC hy 8
 have m9:=bC hy 9
 have n0:=bF hy 0
 have n1:=bF hy 1
 have n2:=bF hy 2
 have n3:=bF hy 3
 have n4:=bF hy 4
 have n5:=bF hy 5
 have n6:=bF hy 6
 have n7:=bF hy 7
 have n8:=bF hy 8
 have n9:=bF hy 9
 have ml:=lt_of_block hy
 have HX:=Hd hx2
 have HY:=Hd hy2
 have HK:=Hd hk2
 have HB:=Hd (hbl w w.heap.size (by have:=HBV.out.size;have:=HUW.out;omega) HBV.out)
 have HS:=Hd (show w3.heap.size+2<=w9.heap.size by rw[hsz];exact HSV.out)
 have HW:=Hd hw
 clear hc hk hfr hb hx hy hx2 hy2 hk2 hsz hbl hw
 go_upto_region 8 with fail
 change Code.wp _ _ _ _ ((put7 w9_ (w3.heap.size) (.slice Aw9.ta K5.tree.length Aw9.tc) (.int .i64 K5.m) (.int .i64 K5.b) (.slice Aw9.pa K5.pipes.length Aw9.pc) (.slice Aw9.oa K5.opens.length Aw9.oc) (.string ⟨K5.out0.toArray⟩) (.string ⟨K5.out1.toArray⟩)).setCells (w3.heap.size+1) 0 [.int .i64 (fdA f5 0),.int .i64 (fdA f5 1),.int .i64 (fdA f5 2),.int .i64 (fdA f5 3),.int .i64 (fdA f5 4),.int .i64 (fdA f5 5),.int .i64 (fdA f5 6),.int .i64 (fdA f5 7),.int .i64 (fdA f5 8),.int .i64 (fdA f5 9)])
 rw[<-HW.out]
 clear HW HXO HYO HBV HSV u0 u1 u2 u3 u4 u5 u6 v0 v1 v2 v3 v4 v5 v6 ul m0 m1 m2 m3 m4 m5 m6 m7 m8 m9 n0 n1 n2 n3 n4 n5 n6 n7 n8 n9 ml
 have q0:=bC HX.out 0
 have q1:=bC HX.out 1
 have q2:=bC HX.out 2
 have q3:=bC HX.out 3
 have q4:=bC HX.out 4
 have q5:=bC HX.out 5
 have q6:=bC HX.out 6
 have ql:=lt_of_block HX.out
 have c0:=bC HY.out 0
 have c1:=bC HY.out 1
 have c2:=bC HY.out 2
 have c3:=bC HY.out 3
 have c4:=bC HY.out 4
 have c5:=bC HY.out 5
 have c6:=bC HY.out 6
 have c7:=bC HY.out 7
 have c8:=bC HY.out 8
 have c9:=bC HY.out 9
 have cl:=lt_of_block HY.out
 go_wp2_with fail
 have hc:=Ako _ K5 f5 1 ⟨#[121]⟩ (by decide) F5.out w9 HK.out
 rw[show (⟨#[121]⟩:ByteArray).data.toList=[121]from rfl,E6.out]at hc
 refine(hc).mono ?_
 rintro e w10_ ⟨⟨Aw10,rfl,hk,hfr⟩,hb⟩
 have hx:=(hb.block (w3.heap.size) (by have:=HS.out;omega)).trans HX.out
 have hy:=(hb.block (w3.heap.size+1) (by have:=HS.out;omega)).trans HY.out
 have HBV:=Hd (HB.out.trans (hb.mono HB.out.size))
 have HSV:=Hd (show w3.heap.size+2<=w10_.heap.size by have:=HS.out;have:=hb.size;omega)
 obtain⟨w10,hw,hx2,hy2,hk2,hsz,hbl⟩:=Afs hx hy hk (fun x h=>by have:=hfr.1 x h;have:=HS.out;omega) (fun x h=>by have:=hfr.2 x h;have:=HS.out;omega)
 clear q0 q1 q2 q3 q4 q5 q6 ql c0 c1 c2 c3 c4 c5 c6 c7 c8 c9 cl
 have HXO:=Hd hx
 have HYO:=Hd hy
 have u0:=bC hx 0
 have u1:=bC hx 1
 have u2:=bC hx 2
 have u3:=bC hx 3
 have u4:=bC hx 4
 have u5:=bC hx 5
 have u6:=bC hx 6
 have v0:=bF hx 0
 have v1:=bF hx 1
 have v2:=bF hx 2
 have v3:=bF hx 3
 have v4:=bF hx 4
 have v5:=bF hx 5
 have v6:=bF hx 6
 have ul:=lt_of_block hx
 have HX:=Hd hx2
 have HY:=Hd hy2
 have HK:=Hd hk2
 have HB:=Hd (hbl w w.heap.size (by have:=HBV.out.size;have:=HUW.out;omega) HBV.out)
 have HS:=Hd (show w3.heap.size+2<=w10.heap.size by rw[hsz];exact HSV.out)
 have HW:=Hd hw
 clear hc hk hfr hb hx hy hx2 hy2 hk2 hsz hbl hw
 go_upto_region 9 with fail
 change Code.wp _ _ _ _ (put7 w10_ (w3.heap.size) (.slice Aw10.ta K6.tree.length Aw10.tc) (.int .i64 K6.m) (.int .i64 K6.b) (.slice Aw10.pa K6.pipes.length Aw10.pc) (.slice Aw10.oa K6.opens.length Aw10.oc) (.string ⟨K6.out0.toArray⟩) (.string ⟨K6.out1.toArray⟩))
 rw[<-HW.out]
 clear HW HXO HYO HBV HSV u0 u1 u2 u3 u4 u5 u6 v0 v1 v2 v3 v4 v5 v6 ul
 have q0:=bC HX.out 0
 have q1:=bC HX.out 1
 have q2:=bC HX.out 2
 have q3:=bC HX.out 3
 have q4:=bC HX.out 4
 have q5:=bC HX.out 5
 have q6:=bC HX.out 6
 have ql:=lt_of_block HX.out
 have c0:=bC HY.out 0
 have c1:=bC HY.out 1
 have c2:=bC HY.out 2
 have c3:=bC HY.out 3
 have c4:=bC HY.out 4
 have c5:=bC HY.out 5
 have c6:=bC HY.out 6
 have c7:=bC HY.out 7
 have c8:=bC HY.out 8
 have c9:=bC HY.out 9
 have cl:=lt_of_block HY.out
 go_wp2_with fail
 have hS6:Al4 K6.tree:=Anc F6.out.tree
 refine(Az1 _ K6 f5 F6.out.len (by have:=HL6.out;omega) hS6 (by have:=F6.out.np;omega) (by have:=F6.out.no;omega) true ⟨fun _=>F6.out,fun _=>rfl⟩ w10 HK.out).mono ?_
 rintro e w11 ⟨rfl,hb11⟩
 have HB11:=Hd (HB.out.trans (hb11.mono HB.out.size))
 have HX11:=Hd ((hb11.block _ ql).trans HX.out)
 have HK11:=Hd (HK.out.below hb11)
 clear hb11 q0 q1 q2 q3 q4 q5 q6 ql c0 c1 c2 c3 c4 c5 c6 c7 c8 c9 cl
 have q0:=bC HX11.out 0
 have q1:=bC HX11.out 1
 have q2:=bC HX11.out 2
 have q3:=bC HX11.out 3
 have q4:=bC HX11.out 4
 have q5:=bC HX11.out 5
 have q6:=bC HX11.out 6
 have ql:=lt_of_block HX11.out
 go_wp2_with fail
 refine(Aj4 _ _ _ _ 0 ⟨#[102]⟩ (by decide) true K6.tree F6.out.tree 1 0 HWK.out w11 HK11.out.tree).mono ?_
 rintro e w12 ⟨rfl,hb12⟩
 have HB12:=Hd (HB11.out.trans (hb12.mono HB11.out.size))
 have HX12:=Hd ((hb12.block _ ql).trans HX11.out)
 have HK12:=Hd (HK11.out.below hb12)
 clear hb12 q0 q1 q2 q3 q4 q5 q6 ql
 have q0:=bC HX12.out 0
 have q1:=bC HX12.out 1
 have q2:=bC HX12.out 2
 have q3:=bC HX12.out 3
 have q4:=bC HX12.out 4
 have q5:=bC HX12.out 5
 have q6:=bC HX12.out 6
 have ql:=lt_of_block HX12.out
 obtain⟨bt,ot,hta,hx⟩:=HK12.out.tree.2.2 1 (by have:=HL6.out;omega)
 have xd:=hx.data
 have hd:(K6.tree[1]'(by have:=HL6.out;omega)).data=[120,121]:=by
  have h:=HDT.out
  rw[show (1:Int)=((1:Nat):Int)from rfl,Aae _ 1 (by have:=HL6.out;omega)]at h
  exact h
 rw[hd]at xd
 rw[hta]at q0
 have hl4:=HL6.out
 rw[hl4]at q0
 have xl:=Aaf xd
 clear hx hd hta
 go_wp2_with fail
 go_ret
 exact⟨rfl,HB12.out⟩
def KB9 (Z:Krn×List Int×Int)(w:World)(e:Ending)(w':World):Prop:=
 (∃ A:KAd,e=.returned (.tuple #[.agg (kB A Z.1),.agg (fB Z.2.1),.int .i64 Z.2.2])/\KernIn w' A Z.1/\Aj9 w.heap.size A)/\Below w.heap.size w w'
theorem Bap (f:List Int)(W:World):(binOp .eql 31 (.agg (fB f)) (.agg (fB f))).run Tryz.prog W=.ok (.bool true) W:=by
 have u3:=Tryz.underlying3
 have a3:=Tryz.isAgg3
 have z3:=Tryz.sizeOf3
 obtain⟨i0,hi,hz0,hz1,hz2⟩:=info_parts Awc
 have hc:Tryz.prog.cellsOf 3=1:=by kernel_rfl
 unfold fB
 rw[run_eql_struct,show (10000:Nat)=9999+1 from rfl,run_equalIn_array W 9999 _ _ Tryz.underlying31 hi,hc,show List.range 10=[0,1,2,3,4,5,6,7,8,9]from rfl]
 simp only[Op.eqItems]
 go_simp
theorem Arg (A:KAd)(K:Krn)(f:List Int)(fd cwd:Int)(S:ByteArray)(how:Int)(hf:f.length=10)(hS:Al4 K.tree)(hl1:K.tree.length<=4611686018427387904)(hl2:K.pipes.length<=4611686018427387904)(hl3:K.opens.length<=4611686018427387904)(w:World)(hA:KernIn w A K)(hW:Ways w) :
  Calls Tryz.prog 3 #[.agg #[.slice A.ta K.tree.length A.tc,.int .i64 K.m,.int .i64 K.b,.slice A.pa K.pipes.length A.pc,.slice A.oa K.opens.length A.oc,.string ⟨K.out0.toArray⟩,.string ⟨K.out1.toArray⟩],.agg #[.int .i64 (fdA f 0),.int .i64 (fdA f 1),.int .i64 (fdA f 2),.int .i64 (fdA f 3),.int .i64 (fdA f 4),.int .i64 (fdA f 5),.int .i64 (fdA f 6),.int .i64 (fdA f 7),.int .i64 (fdA f 8),.int .i64 (fdA f 9)],.int .i64 fd,.int .i64 cwd,.string S,.int .i64 how] w fun e w'=>e=.returned (.bool true)/\Below w.heap.size w w':=by
 have HK:=Hd hA
 have HY:=Hd hW
 have HGD:=Hd (fun W hA=>As6 A K f hf hS hl1 hl2 hl3 W hA)
 have HAW:=Hd (fun W (h:Below w.heap.size w W)=>Bak W (HY.out.below h (Nat.le_refl _)))
 clear hA hW hf hS hl1 hl2 hl3
 go_enter Tryz.func3,Tryz.ntmps3
 go_upto_region 1 with fail
 refine two9 (G:=Code.wp _ _ _ _) (fun w2 hb2 hs2 hX hY=>?_)
 have HB:=Hd (show B2 w w2 A K f from⟨hb2,Nat.le_of_eq hs2.symm,hX,hY⟩)
 clear hb2 hs2 hX hY
 go_wp2_with (first|((with_reducible refine Ab3 HB.out.x ?_ ?_);rfl;(try simp only[Act.put,Zaa,Zab,Zac]))|((with_reducible refine Agd HB.out.y ?_ ?_);rfl;(try simp only[Act.put,Zaa,Zab,Zac])))
 refine(HGD.out _ (HK.out.below HB.out.b)).mono ?_
 rintro e w3 ⟨⟨vg,rfl,hgd⟩,hb⟩
 have HB:=Hd (HB.out.below hb)
 have HG0:=Hd hgd
 clear hb hgd
 by_cases hgo:vg=false∨3000 < S.size
 ·have hd:∀ h:vg=true,decide ((S.size:Int) > 3000)=true/\decide (3000 < (S.size:Int))=true:=fun h=>by
   rcases hgo with h1|h1
   ·rw[h1]at h;cases h
   ·exact⟨decide_eq_true (by omega),decide_eq_true (by omega)⟩
  clear hgo
  cases vg with
  | false=>
   clear hd
   go_wp2_with (first|(go_at_call 9;refine(HAW.out _ HB.out.b).mono ?_;rintro e w4 ⟨rfl,hb⟩;have HE:=Hd (HB.out.b.trans (hb.mono HB.out.b.size));clear hb))
   go_ret
   exact⟨rfl,HE.out⟩
  | true=>
   obtain⟨hd1,hd2⟩:=hd rfl
   clear hd
   go_wp2_with (first|(go_at_call 9;refine(HAW.out _ HB.out.b).mono ?_;rintro e w4 ⟨rfl,hb⟩;have HE:=Hd (HB.out.b.trans (hb.mono HB.out.b.size));clear hb))
   go_ret
   exact⟨rfl,HE.out⟩
 rw[not_or]at hgo
 obtain rfl:vg=true:=by simpa using hgo.1
 have hg:decide ((S.size:Int) > 3000)=false:=decide_eq_false (by omega)
 have hg2:decide (3000 < (S.size:Int))=false:=decide_eq_false (by omega)
 have HSL:=Hd (show S.size<=1073741824 by omega)
 have HG:=Hd (HG0.out rfl)
 clear hgo HG0
 obtain⟨⟨K1,f1,e1⟩,hz1⟩:∃ z,Afc K f fd cwd S.data.toList how=z:=⟨_,rfl⟩
 have HC1:=Hd (show ∀ W (h:KernIn W A K) (hy:Ways W),Calls Tryz.prog 10 #[.agg (kB A K),.agg (fB f),.int .i64 fd,.int .i64 cwd,.string S,.int .i64 how] W (KB9 (K1,f1,e1) W)from fun W h hy=>by rw[<-hz1];exact Amq A K f fd cwd S HSL.out how HG.out.fit W h hy)
 have HR1:=Hd (show ∀ W (h:KernIn W A K),Calls Tryz.prog 11 #[.agg (kB A K),.agg (fB f),.int .i64 fd,.int .i64 cwd,.string S,.int .i64 how] W (RAns A K (K1,f1,e1) W)from fun W h=>by rw[<-hz1];exact Bbd A K f fd cwd how S HSL.out HG.out.fit W h)
 have HF1:=Hd (Aop HG.out.fit hz1).1
 clear hz1
 go_upto_region 4 with (first|((with_reducible refine Ab3 HB.out.x ?_ ?_);rfl;(try simp only[Act.put,Zaa,Zab,Zac]))|((with_reducible refine Agd HB.out.y ?_ ?_);rfl;(try simp only[Act.put,Zaa,Zab,Zac]))|(go_at_call 10;refine(HC1.out _ (HK.out.below HB.out.b) (HY.out.below HB.out.b (Nat.le_refl _))).mono ?_;rintro e w4 ⟨⟨A1,rfl,hk,hfr⟩,hb⟩;have HB:=Hd (HB.out.below hb);have HK1:=Hd hk;have HFR:=Hd hfr;have HS4:=Hd hb.size;clear hk hfr hb)|((with_reducible refine Akn A1 K1 ?_ ?_ ?_ ?_);rfl;rfl;rfl;intro w5 hb hx hz;have HS5:=Hd HB.out.s;have HBW:=Hd hb;have HB:=Hd (HB.out.below hb);have HXA:=Hd hx;have HZA:=Hd hz;clear hb hx hz)|((with_reducible refine Agw f1 HZA.out ?_ ?_ ?_ ?_);rfl;rfl;rfl;intro w6 hy hb;have hz:=But.below HBW.out hb (by omega);have HB:=Hd (HB.out.but hb (by have:=HS5.out;omega));have HXA:=Hd ((hb.block _ (by omega)).trans HXA.out);have HYA:=Hd hy;have HK1:=Hd (HK1.out.below hz);have HSA:=Hd (show w4.heap.size+2<=w6.heap.size by have:=lt_of_block hy;omega);clear hz hb hy HZA HBW))
 go_upto_region 5 with (first|((with_reducible refine Ab3 HB.out.x ?_ ?_);rfl;(try simp only[Act.put,Zaa,Zab,Zac]))|((with_reducible refine Agd HB.out.y ?_ ?_);rfl;(try simp only[Act.put,Zaa,Zab,Zac]))|(go_at_call 11;refine(HR1.out _ (HK.out.below HB.out.b)).mono ?_;rintro e w7 ⟨⟨A2,rfl,hk,hnr⟩,hb⟩;have HB:=Hd (HB.out.below hb);have HK2:=Hd hk;have HXA:=Hd ((hb.block _ (lt_of_block HXA.out)).trans HXA.out);have HYA:=Hd ((hb.block _ (lt_of_block HYA.out)).trans HYA.out);have HK1:=Hd (HK1.out.below hb);have HSA:=Hd (show w4.heap.size+2<=w7.heap.size by have:=hb.size;have:=HSA.out;omega);clear hk hnr hb)|((with_reducible refine Akn A2 K1 ?_ ?_ ?_ ?_);rfl;rfl;rfl;intro w8 hb hx hz;have HS8:=Hd HB.out.s;have HBW:=Hd hb;have HB:=Hd (HB.out.below hb);have HXB:=Hd hx;have HZB:=Hd hz;clear hb hx hz)|((with_reducible refine Agw f1 HZB.out ?_ ?_ ?_ ?_);rfl;rfl;rfl;intro w9 hy hb;have hz:=But.below HBW.out hb (by omega);have HM:=Hd (show MS w w9 A K f w4.heap.size w7.heap.size A1 K1 f1 A2 K1 f1 from⟨HB.out.but hb (by have:=HS8.out;omega),HS5.out,HSA.out,by have:=lt_of_block hy;omega,(hz.block _ (lt_of_block HXA.out)).trans HXA.out,(hz.block _ (lt_of_block HYA.out)).trans HYA.out,(hb.block _ (by omega)).trans HXB.out,hy⟩);have HK1:=Hd (HK1.out.below hz);have HK2:=Hd (HK2.out.below hz);clear hz hb hy HZB HBW))
 clear HB HXA HYA HSA HXB HS4 HS5 HS8 HFR
 have hef:=Bap f1
 have hge:=Asz
 have hee:(e1 == e1)=true:=beq_self_eq_true e1
 by_cases he:e1=0
 ·have heb:(e1 != 0)=false:=by rw[he];rfl
  clear he
  go_wp2_with (first|((with_reducible refine Ab3 HM.out.xa ?_ ?_);rfl;(try simp only[Act.put,Zaa,Zab,Zac]))|((with_reducible refine Ab3 HM.out.xb ?_ ?_);rfl;(try simp only[Act.put,Zaa,Zab,Zac]))|((with_reducible refine Afo HM.out.ya ?_ ?_ ?_);rfl;rfl;(try simp only[Act.put,Zaa,Zab,Zac]))|((with_reducible refine Afo HM.out.yb ?_ ?_ ?_);rfl;rfl;(try simp only[Act.put,Zaa,Zab,Zac]))|((with_reducible refine Ajm HM.out.xa ?_ ?_ ?_);rfl;rfl;(try simp only[Act.put,Zaa,Zab,Zac]))|(go_at_call 12;refine(Aye A1 A2 K1 K1 (by obtain⟨l1,l2,l3,l4,l5⟩:=HF1.out.tree.limits;omega) true ⟨fun _=>rfl,fun _=>rfl⟩ _ HK1.out HK2.out).mono ?_;rintro e wq ⟨rfl,hb⟩;have HM:=Hd (HM.out.below hb);have HK1:=Hd (HK1.out.below hb);have HK2:=Hd (HK2.out.below hb);clear hb)|(go_at_call 13;refine(Az1 A1 K1 f1 HF1.out.len (by obtain⟨l1,l2,l3,l4,l5⟩:=HF1.out.tree.limits;omega) (Anc HF1.out.tree) (by have:=HF1.out.np;omega) (by have:=HF1.out.no;omega) true ⟨fun _=>HF1.out,fun _=>rfl⟩ _ HK1.out).mono ?_;rintro e w10 ⟨rfl,hb⟩;have HM:=Hd (HM.out.below hb);clear hb HK1 HK2)|(go_at_call 9;refine(HAW.out _ HM.out.o.b).mono ?_;rintro e w11 ⟨rfl,hb⟩;have HE:=Hd (HM.out.o.b.trans (hb.mono HM.out.o.b.size));clear hb))
  go_ret
  exact⟨rfl,HE.out⟩
 ·have heb:(e1 != 0)=true:=by simpa using he
  clear he
  go_wp2_with (first|((with_reducible refine Ab3 HM.out.xa ?_ ?_);rfl;(try simp only[Act.put,Zaa,Zab,Zac]))|((with_reducible refine Ab3 HM.out.xb ?_ ?_);rfl;(try simp only[Act.put,Zaa,Zab,Zac]))|((with_reducible refine Afo HM.out.ya ?_ ?_ ?_);rfl;rfl;(try simp only[Act.put,Zaa,Zab,Zac]))|((with_reducible refine Afo HM.out.yb ?_ ?_ ?_);rfl;rfl;(try simp only[Act.put,Zaa,Zab,Zac]))|((with_reducible refine Ajm HM.out.xa ?_ ?_ ?_);rfl;rfl;(try simp only[Act.put,Zaa,Zab,Zac]))|(go_at_call 12;refine(Aye A1 A2 K1 K1 (by obtain⟨l1,l2,l3,l4,l5⟩:=HF1.out.tree.limits;omega) true ⟨fun _=>rfl,fun _=>rfl⟩ _ HK1.out HK2.out).mono ?_;rintro e wq ⟨rfl,hb⟩;have HM:=Hd (HM.out.below hb);have HK1:=Hd (HK1.out.below hb);have HK2:=Hd (HK2.out.below hb);clear hb)|(go_at_call 9;refine(HAW.out _ HM.out.o.b).mono ?_;rintro e w11 ⟨rfl,hb⟩;have HE:=Hd (HM.out.o.b.trans (hb.mono HM.out.o.b.size));clear hb))
  go_ret
  exact⟨rfl,HE.out⟩
end Go.Proofs.YtkdfbliiblojoaaGreatDoor
