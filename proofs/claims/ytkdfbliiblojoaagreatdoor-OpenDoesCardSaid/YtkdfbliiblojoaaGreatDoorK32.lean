import Derived.Test.YtkdfbliiblojoaaGreatDoorK30
import Derived.Test.YtkdfbliiblojoaaGreatDoorK31
import Derived.Test.YtkdfbliiblojoaaGreatDoorK29
import Derived.Test.YtkdfbliiblojoaaGreatDoorK26
set_option linter.all false
set_option maxRecDepth 100000
set_option maxHeartbeats 64000000
namespace Go.Proofs.YtkdfbliiblojoaaGreatDoor
open Go Go.RowKit
theorem Avg (s:ByteArray):(⟨s.data.toList.toArray⟩:ByteArray)=s:=by cases s;simp
theorem Ag9 {L:List Ino}{m b:Int}(hF:FitP L m b){k:Nat}(hk:k < L.length):L[k].data.length<=65536:=by
 obtain⟨-,h2,-⟩:=As2 hF
 have:=Ah9 L k hk
 omega
theorem Asp (L:List Ino)(k:Nat)(d:List UInt8)(hk:k < L.length)(i:Nat)(hi:i < L.length)(hi':i < (Ae9 L k d).length):(Ae9 L k d)[i].kids=L[i].kids:=by
 simp only[Ae9,List.getElem_set]
 split
 ·rename_i h
  subst h
  rw[Aae L _ hk]
 ·rfl
theorem Auz (a:Option Addr)(cap:Nat)(m b:Int)(k:Nat)(sb:ByteArray)(hsb:sb.size<=1000000)(L:List Ino)(hF:FitP L m b)(hk:k < L.length)(L':List Ino)(er:Int)(hz:Aee L b k sb.data.toList=(L',er))(w0 w:World)(h0:Aad w0 a cap L)(hb0:Below w0.heap.size w0 w) :
  Calls Tryz.prog 114 #[.agg #[.slice a L.length cap,.int .i64 m,.int .i64 b],.int .i64 k,.string sb] w (Ar5 w0 w m b L' [.int .i64 er]):=by
 have hN:Aad w a cap L:=h0.below hb0
 obtain⟨vs,hvl,hone,hkk,hcell⟩:=Ah3 h0
 obtain⟨bb,o,rfl,-⟩:=hN.2.2 k hk
 have HC0:=Hd (show ∀ j u,(Afr L vs)[j]?=some u->w.cell? ⟨bb,o+j,none⟩=some u from fun j u hj=>by
  obtain⟨b',o',e,h⟩:=hcell j u hj
  obtain⟨rfl,rfl⟩:bb=b'/\o=o':=by simpa using e
  exact Aaa hb0 h)
 have HKK:=Hd hkk
 have HVL:=Hd hvl
 have HON:=Hd hone
 have H0:=Hd h0
 have HB0:=Hd hb0
 have HNC:=Hd (And.intro hN.1 hN.2.1)
 clear hvl hone hkk hcell h0 hb0
 obtain⟨w2,hw2,hb2,hs2,hA,hB⟩:=Aan w #[.slice (some ⟨bb,o,none⟩) L.length cap,.int .i64 m,.int .i64 b] #[.slice none 0 0,.int .i64 0,.int .i64 0] 24 24
 have HX:=Hd (show ∀ W,Below w2.heap.size w2 W->W.heap[w.heap.size+1]?=some (.cells #[.slice none 0 0,.int .i64 0,.int .i64 0] 24 (0,0))/\W.cell? ⟨w.heap.size,0,none⟩=some (.slice (some ⟨bb,o,none⟩) L.length cap)/\W.cell? ⟨w.heap.size,1,none⟩=some (.int .i64 m)/\W.cell? ⟨w.heap.size,2,none⟩=some (.int .i64 b)from fun W hW=>by
  have h:=(hW.block w.heap.size (by omega)).trans hA
  exact⟨(hW.block _ (by omega)).trans hB,bC h 0,bC h 1,bC h 2⟩)
 have HM:=Hd (show ∀ W,Below w2.heap.size w2 W->Aad W (some ⟨bb,o,none⟩) cap L from fun W hW=>hN.below (hb2.trans (hW.mono (by omega))))
 have HB2:=Hd hb2
 have HF:=Hd hF
 obtain⟨l1,l2,l3,l4,l5⟩:=hF.limits
 have hz2:=hz
 unfold Aee at hz2
 rw[Aae L k hk]at hz2
 obtain⟨D,hD⟩:∃ D:ByteArray,D=⟨L[k].data.toArray⟩:=⟨_,rfl⟩
 have hDs:D.size=L[k].data.length:=by rw[hD];simp[ByteArray.size]
 have hsl:sb.data.toList.length=sb.size:=Array.length_toList
 have HDL:=Hd (Ag9 hF hk)
 rw[<-hDs,hsl]at hz2
 have HDD:=Hd hD
 have hDb:D.size<=65536:=by rw[hDs];exact HDL.out
 have HU:=Hd (show Aax L<=65536 by omega)
 clear hz hN hb2 hA hB hF hD hDs hsl
 obtain⟨hRx,q0,q1,q2⟩:=HX.out _ (Below.refl _ _)
 have HRX:=Hd hRx
 have hq:=Aaf q0
 have r0:=bC hRx 0
 have r1:=bC hRx 1
 have r2:=bC hRx 2
 have s0:=bF hRx 0
 have s1:=bF hRx 1
 have s2:=bF hRx 2
 have hrl:=lt_of_block hRx
 clear hRx
 rw[hw2]at r0 r1 r2 s0 s1 s2 hrl q0 q1 q2 hq
 go_enter Tryz.func114,Tryz.ntmps114
 go_wp2_with fail
 rw[<-hw2]
 clear HRX r0 r1 r2 s0 s1 s2 hrl q0 q1 q2 hq
 clear hw2
 refine(Au7 _ _ _ _ L (by omega) (by have:=HU.out;omega) _ (HM.out _ (Below.refl _ _))).mono ?_
 rintro e w3 ⟨rfl,hb3⟩
 have HB3:=Hd hb3
 have hs3:=hb3.size
 clear hb3
 obtain⟨hRx,q0,q1,q2⟩:=HX.out _ HB3.out
 have HRX:=Hd hRx
 have hq:=Aaf q0
 have r0:=bC hRx 0
 have r1:=bC hRx 1
 have r2:=bC hRx 2
 have s0:=bF hRx 0
 have s1:=bF hRx 1
 have s2:=bF hRx 2
 have hrl:=lt_of_block hRx
 clear hRx
 obtain⟨bb',o',e1,hx⟩:=(HM.out _ HB3.out).2.2 k hk
 obtain⟨rfl,rfl⟩:bb=bb'/\o=o':=by simpa using e1
 have x3:=hx.data
 rw[<-HDD.out]at x3
 have hxl:=Aaf x3
 have hk0:(0:Int)<=(k:Int):=by omega
 have hk1:(k:Int) < (L.length:Int):=by omega
 obtain⟨U,hU⟩:∃ U,U=Aax L:=⟨_,rfl⟩
 rw[<-hU]at hz2
 have hUb:U<=65536:=by rw[hU];exact HU.out
 have hwr1:IntKind.i64.wrap ((U:Int) - (D.size:Int))=(U:Int) - (D.size:Int):=by rw[IntKind.wrap_i64];omega
 have hwr2:IntKind.i64.wrap ((U:Int) - (D.size:Int)+(sb.size:Int))=(U:Int) - (D.size:Int)+(sb.size:Int):=by rw[IntKind.wrap_i64];omega
 rw[<-hU]
 clear hx e1 hU
 go_wp2_with fail
 by_cases hg:b < (U:Int) - (D.size:Int)+(sb.size:Int)
 ·rw[if_pos hg]at hz2
  simp only[Prod.mk.injEq]at hz2
  obtain⟨rfl,rfl⟩:=hz2
  go_quiet (fail)
  obtain⟨wq,hwq⟩:∃ p,p=w3.drewN nq:=⟨_,rfl⟩
  have hbq:Below w3.heap.size w3 wq:=by rw[hwq];exact⟨rfl,rfl,rfl,Nat.le_refl _,fun _ _=>rfl⟩
  have hsq:w3.heap.size<=wq.heap.size:=hbq.size
  rw[<-hwq]
  have HBQ:=Hd (HB3.out.trans (hbq.mono HB3.out.size))
  clear hwq hbq x3 hxl
  clear HRX r0 r1 r2 s0 s1 s2 hrl q0 q1 q2 hq
  obtain⟨hRx,q0,q1,q2⟩:=HX.out _ HBQ.out
  have HRX:=Hd hRx
  have hq:=Aaf q0
  have r0:=bC hRx 0
  have r1:=bC hRx 1
  have r2:=bC hRx 2
  have s0:=bF hRx 0
  have s1:=bF hRx 1
  have s2:=bF hRx 2
  have hrl:=lt_of_block hRx
  clear hRx
  go_wp2_with fail
  change bodyPost _ _ _ _ _ (put3 wq (w.heap.size+1) (.slice (some ⟨bb,o,none⟩) L.length cap) (.int .i64 m) (.int .i64 b))
  obtain⟨c0,c1,c2⟩:=Aam HRX.out (.slice (some ⟨bb,o,none⟩) L.length cap) (.int .i64 m) (.int .i64 b)
  exact bodyPost_ret (v:=.tuple #[.agg #[.slice (some ⟨bb,o,none⟩) L.length cap,.int .i64 m,.int .i64 b],.int .i64 28]) (by simp[results,Tryz.results114,go_sem,c0,c1,c2]) rfl ⟨⟨_,_,rfl,Ay5 H0.out (Aao (HB0.out.trans ((HB2.out.trans (HBQ.out.mono (by omega))).mono HB0.out.size)) (by have:=HB0.out.size;omega) _ _ _)⟩,Aao (HB2.out.trans (HBQ.out.mono (by omega))) (by omega) _ _ _⟩
 ·rw[if_neg hg]at hz2
  simp only[Prod.mk.injEq]at hz2
  obtain⟨hL',rfl⟩:=hz2
  have HL':=Hd hL'
  clear hL'
  go_quiet (fail)
  obtain⟨wq,hwq⟩:∃ p,p=w3.drewN nq:=⟨_,rfl⟩
  have hbq:Below w3.heap.size w3 wq:=by rw[hwq];exact⟨rfl,rfl,rfl,Nat.le_refl _,fun _ _=>rfl⟩
  have hsq:w3.heap.size<=wq.heap.size:=hbq.size
  rw[<-hwq]
  have HBQ:=Hd (HB3.out.trans (hbq.mono HB3.out.size))
  clear hwq hbq x3 hxl
  clear HRX r0 r1 r2 s0 s1 s2 hrl q0 q1 q2 hq
  obtain⟨hRx,q0,q1,q2⟩:=HX.out _ HBQ.out
  have HRX:=Hd hRx
  have hq:=Aaf q0
  have r0:=bC hRx 0
  have r1:=bC hRx 1
  have r2:=bC hRx 2
  have s0:=bF hRx 0
  have s1:=bF hRx 1
  have s2:=bF hRx 2
  have hrl:=lt_of_block hRx
  clear hRx
  go_wp2_with fail
  refine(Au6 bb o cap m b L vs (by omega) (by omega) HNC.out.1 HNC.out.2 HVL.out HON.out wq (fun j u hj=>Aaa (HB2.out.trans (HBQ.out.mono (by omega))) (HC0.out j u hj))).mono ?_
  rintro e w4 ⟨g,cap',rfl,hN4,hg4,hb4⟩
  have hb40:Below w0.heap.size w0 w4:=HB0.out.trans (((HB2.out.trans (HBQ.out.mono (by omega))).trans (hb4.mono (by omega))).mono HB0.out.size)
  have hR4:RefT w4 g cap' L vs:=RefT.of_kids hN4 HKK.out (by have:=HB0.out.size;omega) hb40.size hb40.block
  have HR4:=Hd hR4
  have hgl:=hR4.nodes.lt
  have HB4:=Hd (HBQ.out.trans (hb4.mono HBQ.out.size))
  have hs4:=hb4.size
  clear hR4 hb4
  clear HRX r0 r1 r2 s0 s1 s2 hrl q0 q1 q2 hq
  obtain⟨hRx,q0,q1,q2⟩:=HX.out _ HB4.out
  have HRX:=Hd hRx
  have hq:=Aaf q0
  have r0:=bC hRx 0
  have r1:=bC hRx 1
  have r2:=bC hRx 2
  have s0:=bF hRx 0
  have s1:=bF hRx 1
  have s2:=bF hRx 2
  have hrl:=lt_of_block hRx
  clear hRx
  obtain⟨w5,hw5⟩:∃ p,p=w4.alloc (.cells #[.slice (some ⟨g,0,none⟩) L.length cap',.int .i64 m,.int .i64 b] 24):=⟨_,rfl⟩
  have hb5:Below w4.heap.size w4 w5:=by rw[hw5];exact Aab w4 _
  have hs5:w5.heap.size=w4.heap.size+1:=by rw[hw5];simp
  have HU5:=Hd (show w5.heap[w4.heap.size]?=some (.cells #[.slice (some ⟨g,0,none⟩) L.length cap',.int .i64 m,.int .i64 b] 24 (0,0)) by rw[hw5];exact Aag w4 _)
  have HR5:=Hd (HR4.out.below hb5)
  have HB5:=Hd (HB4.out.trans (hb5.mono HB4.out.size))
  have HS5:=Hd hs5
  clear hb5 hs5
  go_upto_region 5 with fail
  rw[<-hw5]
  clear hw5
  clear HRX r0 r1 r2 s0 s1 s2 hrl q0 q1 q2 hq
  obtain⟨hRx,q0,q1,q2⟩:=HX.out _ HB5.out
  have HRX:=Hd hRx
  have hq:=Aaf q0
  have r0:=bC hRx 0
  have r1:=bC hRx 1
  have r2:=bC hRx 2
  have s0:=bF hRx 0
  have s1:=bF hRx 1
  have s2:=bF hRx 2
  have hrl:=lt_of_block hRx
  clear hRx
  have u0:=bC HU5.out 0
  have u1:=bC HU5.out 1
  have u2:=bC HU5.out 2
  have hul:=lt_of_block HU5.out
  obtain⟨⟨d3,n3⟩,f3⟩:=HR5.out.cells hk 3 (by omega)
  have hgl5:=HR5.out.nodes.lt
  obtain⟨w6,hw6⟩:∃ p,p=w5.setCell ⟨g,k * 6+3,none⟩ (.string sb):=⟨_,rfl⟩
  have hR6:RefT w6 g cap' L' vs:=by
   have h:=HR5.out.setData hk sb.data.toList
   rw[Avg,HL'.out,<-hw6]at h
   exact h
  have hne:∀ j,j≠g->w6.heap[j]?=w5.heap[j]?:=fun j hj=>by rw[hw6];exact Below.heap_setCell _ _ _ _ hj
  have hB6:Below w.heap.size w w6:=by rw[hw6];exact(HB2.out.trans (HB5.out.mono (by omega))).setCell (show w.heap.size<=g by omega) _
  have hR6x:=(hne (w.heap.size+1) (by omega)).trans HRX.out
  have HR6:=Hd hR6
  have HB6:=Hd hB6
  have HW6:=Hd hw6
  have HLE:=Hd (show L'.length=L.length by rw[<-HL'.out,Afm])
  have HKE:=Hd (show ∀ i (hi:i < L.length) (hi':i < L'.length),L'[i].kids=L[i].kids from fun i hi hi'=>by
   have e:=HL'.out
   subst e
   exact Asp L k _ hk i hi hi')
  clear hR6 hB6 hw6 hne
  go_wp2_with fail
  rw[<-HW6.out]
  clear HRX
  have HRX:=Hd hR6x
  clear hR6x
  change bodyPost _ _ _ _ _ (put3 w6 (w.heap.size+1) (.slice (some ⟨g,0,none⟩) L.length cap') (.int .i64 m) (.int .i64 b))
  obtain⟨c0,c1,c2⟩:=Aam HRX.out (.slice (some ⟨g,0,none⟩) L.length cap') (.int .i64 m) (.int .i64 b)
  exact bodyPost_ret (v:=.tuple #[.agg #[.slice (some ⟨g,0,none⟩) L'.length cap',.int .i64 m,.int .i64 b],.int .i64 0]) (by simp[results,Tryz.results114,go_sem,c0,c1,c2,HLE.out]) rfl ⟨⟨_,_,rfl,Ay6 (HR6.out.nodes.same (Aa9 (by omega) _ _ _)) (by omega) HKK.out HLE.out (fun i hi hi'=>HKE.out i hi hi') (Aao (HB0.out.trans (HB6.out.mono HB0.out.size)) (by have:=HB0.out.size;omega) _ _ _)⟩,Aao HB6.out (by omega) _ _ _⟩
theorem Ap7 (a:Option Addr)(cap:Nat)(m b:Int)(k:Nat)(sb:ByteArray)(hsb:sb.size<=1000000)(L:List Ino)(hF:FitP L m b)(hk:k < L.length)(L':List Ino)(er:Int)(hz:Aee L b k sb.data.toList=(L',er))(w:World)(hN:Aad w a cap L) :
  Calls Tryz.prog 114 #[.agg #[.slice a L.length cap,.int .i64 m,.int .i64 b],.int .i64 k,.string sb] w (Akc w m b L' [.int .i64 er]):=
 (Auz a cap m b k sb hsb L hF hk L' er hz w w hN (Below.refl _ _)).mono fun _ _ h=>h.ans
theorem Al6 {B g:Nat}{w0 w:World}(hb:Below B w0 w)(hg:B<=g)(cs:Array Value):Below B w0 (w.setRow g cs):=⟨hb.os,hb.tape,hb.output,by rw[setRow_size];exact hb.size,fun k hk=>by rw[setRow_other w g k cs (by omega)];exact hb.block k hk⟩
theorem Az3 (old:List UInt8)(n:Nat):(List.replicate n (0:UInt8)).take 0 ++ old.take n ++ (List.replicate n 0).drop (0+min old.length n)=cutL old n:=by
 unfold cutL
 rw[List.take_zero,List.nil_append,List.drop_replicate]
 congr 2
 omega
theorem Axv (old:List UInt8)(off:Nat)(s:List UInt8)(n:Nat)(hn:n=max (off+s.length) old.length):(cutL old n).take off ++ s.take (n - off) ++ (cutL old n).drop (off+min s.length (n - off))=Ale old off s:=by
 have h1:s.take (n - off)=s:=List.take_of_length_le (by omega)
 have h2:min s.length (n - off)=s.length:=by omega
 rw[h1,h2]
 refine List.ext_getElem? fun i=>?_
 have hl:((cutL old n).take off).length=off:=by rw[List.length_take,Aga];omega
 rw[Awk,List.getElem?_append,List.length_append,hl]
 by_cases c1:i < off
 ·rw[if_pos (by omega),List.getElem?_append,hl,if_pos c1,if_pos c1,List.getElem?_take,if_pos c1,Apf,if_pos (by omega)]
 ·rw[if_neg c1]
  by_cases c2:i < off+s.length
  ·rw[if_pos c2,if_pos c2,List.getElem?_append,hl,if_neg c1]
  ·rw[if_neg c2,if_neg c2,List.getElem?_drop,show off+s.length+(i - (off+s.length))=i by omega,Apf]
   by_cases c3:i < n
   ·rw[if_pos c3,if_pos (by omega)]
   ·rw[if_neg c3,List.getElem?_eq_none (by omega)]
theorem Atv (a:Option Addr)(cap:Nat)(m b:Int)(k size:Nat)(hsz:size<=1000000)(L:List Ino)(hF:FitP L m b)(hk:k < L.length)(hno:b < (Aax L:Int) - (L[k].data.length:Int)+(size:Int))(w:World)(hN:Aad w a cap L) :
  Calls Tryz.prog 161 #[.agg #[.slice a L.length cap,.int .i64 m,.int .i64 b],.int .i64 k,.int .i64 size] w fun e w'=>e=.returned (.tuple #[.slice none 0 0,.int .i64 28])/\Below w.heap.size w w':=by
 have hb1:=Aab w (.cells #[.slice a L.length cap,.int .i64 m,.int .i64 b] 24)
 have HM:=Hd (hN.below hb1)
 have HB1:=Hd hb1
 obtain⟨l1,l2,l3,l4,l5⟩:=hF.limits
 obtain⟨bb,o,rfl,hx⟩:=(hN.below hb1).2.2 k hk
 have x3:=hx.data
 have hxl:=Aaf x3
 have hk0:(0:Int)<=(k:Int):=by omega
 have hk1:(k:Int) < (L.length:Int):=by omega
 obtain⟨D,hD⟩:∃ D:ByteArray,D=⟨L[k].data.toArray⟩:=⟨_,rfl⟩
 have hDs:D.size=L[k].data.length:=by rw[hD];simp[ByteArray.size]
 have hDb:D.size<=65536:=by rw[hDs];exact Ag9 hF hk
 have hU:Aax L<=65536:=by omega
 have hLl:L.length<=1000:=by omega
 rw[<-hD]at x3
 rw[<-hDs]at hno
 have hwr:IntKind.i64.wrap ((size:Int) - (D.size:Int))=(size:Int) - (D.size:Int):=by rw[IntKind.wrap_i64];omega
 have HR:=Hd (fun W hW=>Ajq (some ⟨bb,o,none⟩) cap m b ((size:Int) - (D.size:Int)) (by omega) L hLl (by omega) W hW)
 have HV:=Hd (show decide ((Aax L:Int)+((size:Int) - (D.size:Int))<=b)=false from decide_eq_false (by omega))
 clear hN hb1 hx hF hD hDs hno l1 l2 l3 l4 l5 hU
 go_enter Tryz.func161,Tryz.ntmps161
 go_wp2_with fail
 refine(HR.out _ HM.out).mono ?_
 rintro e w2 ⟨rfl,hb2⟩
 rw[HV.out]
 have HB2:=Hd (HB1.out.trans (hb2.mono (by simp)))
 clear hb2
 go_wp2_with fail
 go_ret2
 exact⟨rfl,HB2.out⟩
theorem Ap2 (a:Option Addr)(cap:Nat)(m b:Int)(k size:Nat)(hsz:size<=1000000)(L:List Ino)(hF:FitP L m b)(hk:k < L.length)(hyes:¬ b < (Aax L:Int) - (L[k].data.length:Int)+(size:Int))(w:World)(hN:Aad w a cap L) :
  Calls Tryz.prog 161 #[.agg #[.slice a L.length cap,.int .i64 m,.int .i64 b],.int .i64 k,.int .i64 size] w fun e w'=>∃ B,e=.returned (.tuple #[.slice (some ⟨B,0,none⟩) size size,.int .i64 0])/\w'.heap[B]?=some (.cells (rowB (cutL L[k].data size)) 5 (0,0))/\w.heap.size<=B/\Below w.heap.size w w':=by
 have hb1:=Aab w (.cells #[.slice a L.length cap,.int .i64 m,.int .i64 b] 24)
 have HM:=Hd (hN.below hb1)
 have HB1:=Hd hb1
 obtain⟨l1,l2,l3,l4,l5⟩:=hF.limits
 obtain⟨bb,o,rfl,hx⟩:=(hN.below hb1).2.2 k hk
 have x3:=hx.data
 have hxl:=Aaf x3
 have hk0:(0:Int)<=(k:Int):=by omega
 have hk1:(k:Int) < (L.length:Int):=by omega
 obtain⟨D,hD⟩:∃ D:ByteArray,D=⟨L[k].data.toArray⟩:=⟨_,rfl⟩
 have hDs:D.size=L[k].data.length:=by rw[hD];simp[ByteArray.size]
 have HDL:=Hd (show D.data.toList=L[k].data by rw[hD])
 have hDb:D.size<=65536:=by rw[hDs];exact Ag9 hF hk
 have hU:Aax L<=65536:=by omega
 have hLl:L.length<=1000:=by omega
 rw[<-hD]at x3
 rw[<-hDs]at hyes
 have hwr:IntKind.i64.wrap ((size:Int) - (D.size:Int))=(size:Int) - (D.size:Int):=by rw[IntKind.wrap_i64];omega
 have HR:=Hd (fun W hW=>Ajq (some ⟨bb,o,none⟩) cap m b ((size:Int) - (D.size:Int)) (by omega) L hLl (by omega) W hW)
 have HV:=Hd (show decide ((Aax L:Int)+((size:Int) - (D.size:Int))<=b)=true from decide_eq_true (by omega))
 clear hN hb1 hx hF hD hyes l1 l2 l3 l4 l5 hU
 have HDS:=Hd hDs
 clear hDs
 go_enter Tryz.func161,Tryz.ntmps161
 go_wp2_with fail
 refine(HR.out _ HM.out).mono ?_
 rintro e w2 ⟨rfl,hb2⟩
 rw[HV.out]
 have HB2:=Hd (HB1.out.trans (hb2.mono (by simp)))
 have hmk:=Agr w2 (size:Int) size rfl (by omega)
 have hcp:=Agq (w2.alloc (.cells (rowB (List.replicate size 0)) 5)) w2.heap.size 0 size size D (List.replicate size 0) 5 (Aag w2 _) (by rw[List.length_replicate];omega)
 have hrow:(List.replicate size (0:UInt8)).take 0 ++ D.data.toList.take size ++ (List.replicate size 0).drop (0+min D.size size)=cutL L[k].data size:=by
  rw[HDL.out,HDS.out,Az3]
 rw[hrow]at hcp
 have hs2:w.heap.size<=w2.heap.size:=HB2.out.size
 have HBW:=Hd (Al6 ((HB2.out).alloc hs2 (.cells (rowB (List.replicate size 0)) 5)) hs2 (rowB (cutL L[k].data size)))
 have HHW:=Hd (setRow_heap (w2.alloc (.cells (rowB (List.replicate size 0)) 5)) w2.heap.size (rowB (List.replicate size 0)) (rowB (cutL L[k].data size)) 5 (0,0) (Aag w2 _))
 clear hb2 hrow
 go_wp2_with fail
 go_ret2
 exact⟨w2.heap.size,rfl,HHW.out,hs2,HBW.out⟩
theorem Ap6 {L:List Ino}{k least:Int}(h:refW L k least=0):Adj L k=0/\0<=least:=by
 unfold refW at h
 by_cases h0:Adj L k=0
 ·rw[if_neg (by simpa using h0)]at h
  by_cases h1:least < 0
  ·rw[if_pos h1]at h;exact absurd h (by decide)
  ·exact⟨h0,by omega⟩
 ·rw[if_pos h0]at h;exact absurd h h0
theorem Ay3 (L:List Ino)(b k n:Int):cutW L b k n=if refW L k n≠0 then(L,refW L k n)else if 65536 < n then(L,27)else Aee L b k.toNat (cutL (Aai L k).data n.toNat):=by
 unfold cutW refW
 by_cases h0:Adj L k=0
 ·by_cases h1:n < 0
  ·simp[h0,h1]
  ·simp[h0,h1]
 ·simp[h0]
theorem Amv (a:Option Addr)(cap:Nat)(m b ino n:Int)(L:List Ino)(hF:FitP L m b)(L':List Ino)(er:Int)(hz:cutW L b ino n=(L',er))(w:World)(hN:Aad w a cap L) :
  Calls Tryz.prog 124 #[.agg #[.slice a L.length cap,.int .i64 m,.int .i64 b],.int .i64 ino,.int .i64 n] w (Ar3 w m b L' [.int .i64 er]):=by
 obtain⟨w2,hw2,hb2,hs2,hA,hB⟩:=Aan w #[.slice a L.length cap,.int .i64 m,.int .i64 b] #[.slice none 0 0,.int .i64 0,.int .i64 0] 24 24
 have HX:=Hd (show ∀ W,Below w2.heap.size w2 W->W.heap[w.heap.size+1]?=some (.cells #[.slice none 0 0,.int .i64 0,.int .i64 0] 24 (0,0))/\W.cell? ⟨w.heap.size,0,none⟩=some (.slice a L.length cap)/\W.cell? ⟨w.heap.size,1,none⟩=some (.int .i64 m)/\W.cell? ⟨w.heap.size,2,none⟩=some (.int .i64 b)from fun W hW=>by
  have h:=(hW.block w.heap.size (by omega)).trans hA
  exact⟨(hW.block _ (by omega)).trans hB,bC h 0,bC h 1,bC h 2⟩)
 have HM:=Hd (show ∀ W,Below w2.heap.size w2 W->Aad W a cap L from fun W hW=>hN.below (hb2.trans (hW.mono (by omega))))
 have HB2:=Hd hb2
 have HF:=Hd hF
 have HK:=Hd (show ∀ x∈L,x.kids.length<=4096 from fun x hx=>by obtain⟨j,hj,rfl⟩:=List.getElem_of_mem hx;have:=(hF.ins j hj).2.1;omega)
 obtain⟨l1,l2,l3,l4,l5⟩:=hF.limits
 have hz2:=hz
 rw[Ay3]at hz2
 obtain⟨rf,hrf⟩:∃ v,refW L ino n=v:=⟨_,rfl⟩
 rw[hrf]at hz2
 have HRF:=Hd hrf
 clear hz hN hb2 hA hB hF hrf
 obtain⟨hRx,q0,q1,q2⟩:=HX.out _ (Below.refl _ _)
 have HRX:=Hd hRx
 have hq:=Aaf q0
 have r0:=bC hRx 0
 have r1:=bC hRx 1
 have r2:=bC hRx 2
 have s0:=bF hRx 0
 have s1:=bF hRx 1
 have s2:=bF hRx 2
 have hrl:=lt_of_block hRx
 clear hRx
 rw[hw2]at r0 r1 r2 s0 s1 s2 hrl q0 q1 q2 hq
 go_enter Tryz.func124,Tryz.ntmps124
 go_wp2_with fail
 rw[<-hw2]
 clear HRX r0 r1 r2 s0 s1 s2 hrl q0 q1 q2 hq
 clear hw2
 refine(Adu a cap m b L (by omega) (by omega) HK.out _ (HM.out _ (Below.refl _ _))).mono ?_
 rintro e w3 ⟨g,cap',vs,rfl,hO3,hb3⟩
 have HO3:=Hd (hO3.lower (show w.heap.size+2<=w2.heap.size by omega))
 have hgl3:=hO3.nodes.lt
 have hgb:w.heap.size+2<=g:=by have:=hO3.hbase;omega
 have HB3:=Hd hb3
 have hs3:=hb3.size
 obtain⟨-,q0,q1,q2⟩:=HX.out _ hb3
 have hq:=Aaf q0
 clear hO3 hb3
 go_wp2_with fail
 obtain⟨w4,hw4⟩:∃ w4,w4=w3.alloc (.cells #[.slice (some ⟨g,0,none⟩) L.length cap',.int .i64 m,.int .i64 b] 24):=⟨_,rfl⟩
 have hb4:Below w3.heap.size w3 w4:=by rw[hw4];exact Aab w3 _
 have hM4:w4.heap[w3.heap.size]?=some (.cells #[.slice (some ⟨g,0,none⟩) L.length cap',.int .i64 m,.int .i64 b] 24 (0,0)):=by rw[hw4];exact Aag w3 _
 have hs4:w4.heap.size=w3.heap.size+1:=by rw[hw4];simp
 rw[<-hw4]
 clear hw4 q0 q1 q2 hq
 have HB34:=Hd hb4
 have HB4:=Hd (HB3.out.trans (hb4.mono hs3))
 have HX4:=Hd (show ∀ W,Below w4.heap.size w4 W->W.heap[w.heap.size+1]?=some (.cells #[.slice none 0 0,.int .i64 0,.int .i64 0] 24 (0,0))/\W.cell? ⟨w.heap.size,0,none⟩=some (.slice a L.length cap)/\W.cell? ⟨w.heap.size,1,none⟩=some (.int .i64 m)/\W.cell? ⟨w.heap.size,2,none⟩=some (.int .i64 b)/\W.heap[w3.heap.size]?=some (.cells #[.slice (some ⟨g,0,none⟩) L.length cap',.int .i64 m,.int .i64 b] 24 (0,0))/\OwnT W (w.heap.size+2) g cap' L vs from fun W hW=>by
  obtain⟨x0,x1,x2,x3⟩:=HX.out W (HB4.out.trans (hW.mono (by omega)))
  exact⟨x0,x1,x2,x3,(hW.block w3.heap.size (by omega)).trans hM4,HO3.out.below (HB34.out.trans (hW.mono (by omega)))⟩)
 have HM4:=Hd (show ∀ W,Below w4.heap.size w4 W->Aad W a cap L from fun W hW=>HM.out W (HB4.out.trans (hW.mono (by omega))))
 have HEND:=Hd (show ∀ W,Below w4.heap.size w4 W->Below w.heap.size w W from fun W hW=>HB2.out.trans ((HB4.out.trans (hW.mono (by omega))).mono (by omega)))
 clear hb4 hM4 hs4
 refine(Alh _ _ _ _ _ _ L rf HRF.out _ (HM4.out _ (Below.refl _ _))).mono ?_
 rintro e w5 ⟨rfl,hb5⟩
 have HB5:=Hd hb5
 have hs5:=hb5.size
 clear hb5
 obtain⟨hRx,q0,q1,q2,hMx,hRT⟩:=HX4.out _ HB5.out
 have HRX:=Hd hRx
 have HRT:=Hd hRT
 have hq:=Aaf q0
 have r0:=bC hRx 0
 have r1:=bC hRx 1
 have r2:=bC hRx 2
 have s0:=bF hRx 0
 have s1:=bF hRx 1
 have s2:=bF hRx 2
 have hrl:=lt_of_block hRx
 have m0:=bC hMx 0
 have m1:=bC hMx 1
 have m2:=bC hMx 2
 have hml:=lt_of_block hMx
 have HMX:=Hd hMx
 clear hRx hMx hRT
 by_cases h0:rf=0
 ·subst h0
  rw[if_neg (by simp)]at hz2
  obtain⟨hf0,hn0⟩:=Ap6 HRF.out
  obtain⟨k,hk,rfl,-⟩:=Ahy hf0
  obtain⟨n1,rfl⟩:∃ n1:Nat,n=(n1:Int):=⟨n.toNat,by omega⟩
  have hk0:(0:Int)<=(k:Int):=by omega
  have hk1:(k:Int) < (L.length:Int):=by omega
  rw[Aae L k hk,Int.toNat_natCast,Int.toNat_natCast]at hz2
  clear hf0 hn0
  by_cases h1:(65536:Int) < (n1:Int)
  ·rw[if_pos h1]at hz2
   simp only[Prod.mk.injEq]at hz2
   obtain⟨rfl,rfl⟩:=hz2
   go_wp2_with fail
   change bodyPost _ _ _ _ _ (put3 w5 (w.heap.size+1) (.slice (some ⟨g,0,none⟩) L.length cap') (.int .i64 m) (.int .i64 b))
   obtain⟨c0,c1,c2⟩:=Aam HRX.out (.slice (some ⟨g,0,none⟩) L.length cap') (.int .i64 m) (.int .i64 b)
   exact bodyPost_ret (v:=.tuple #[.agg #[.slice (some ⟨g,0,none⟩) L.length cap',.int .i64 m,.int .i64 b],.int .i64 27]) (by simp[results,Tryz.results124,go_sem,c0,c1,c2]) rfl ⟨⟨_,_,_,rfl,(HRT.out.low fun k hk=>Aa9 (by omega) _ _ _).lower (by omega)⟩,Aao (HEND.out _ HB5.out) (by omega) _ _ _⟩
  ·rw[if_neg h1]at hz2
   unfold Aee at hz2
   rw[Aae L k hk,Aga]at hz2
   by_cases h2:b < (Aax L:Int) - (L[k].data.length:Int)+(n1:Int)
   ·rw[if_pos h2]at hz2
    simp only[Prod.mk.injEq]at hz2
    obtain⟨rfl,rfl⟩:=hz2
    have HNO:=Hd (fun W hW=>Atv a cap m b k n1 (by omega) L HF.out hk h2 W hW)
    clear h2
    go_wp2_with fail
    refine(HNO.out _ (HM4.out _ HB5.out)).mono ?_
    rintro e w7 ⟨rfl,hb7⟩
    have HB7:=Hd (HB5.out.trans (hb7.mono HB5.out.size))
    clear hb7
    clear HRX HRT HMX r0 r1 r2 s0 s1 s2 hrl q0 q1 q2 hq m0 m1 m2 hml
    obtain⟨hRx,q0,q1,q2,hMx,hRT⟩:=HX4.out _ HB7.out
    have HRX:=Hd hRx
    have HRT:=Hd hRT
    have hq:=Aaf q0
    have r0:=bC hRx 0
    have r1:=bC hRx 1
    have r2:=bC hRx 2
    have s0:=bF hRx 0
    have s1:=bF hRx 1
    have s2:=bF hRx 2
    have hrl:=lt_of_block hRx
    have m0:=bC hMx 0
    have m1:=bC hMx 1
    have m2:=bC hMx 2
    have hml:=lt_of_block hMx
    have HMX:=Hd hMx
    clear hRx hMx hRT
    go_wp2_with fail
    change bodyPost _ _ _ _ _ (put3 w7 (w.heap.size+1) (.slice (some ⟨g,0,none⟩) L.length cap') (.int .i64 m) (.int .i64 b))
    obtain⟨c0,c1,c2⟩:=Aam HRX.out (.slice (some ⟨g,0,none⟩) L.length cap') (.int .i64 m) (.int .i64 b)
    exact bodyPost_ret (v:=.tuple #[.agg #[.slice (some ⟨g,0,none⟩) L.length cap',.int .i64 m,.int .i64 b],.int .i64 28]) (by simp[results,Tryz.results124,go_sem,c0,c1,c2]) rfl ⟨⟨_,_,_,rfl,(HRT.out.low fun k hk=>Aa9 (by omega) _ _ _).lower (by omega)⟩,Aao (HEND.out _ HB7.out) (by omega) _ _ _⟩
   ·rw[if_neg h2]at hz2
    simp only[Prod.mk.injEq]at hz2
    obtain⟨hL',rfl⟩:=hz2
    obtain⟨d,hd⟩:∃ d,d=cutL L[k].data n1:=⟨_,rfl⟩
    have hdl:d.length=n1:=by rw[hd,Aga]
    have HYES:=Hd (fun W hW=>Ap2 a cap m b k n1 (by omega) L HF.out hk h2 W hW)
    rw[<-hd]at hL' HYES
    have HDL:=Hd hL'
    clear h2 hL' hd
    go_wp2_with fail
    refine(HYES.out _ (HM4.out _ HB5.out)).mono ?_
    rintro e w7 ⟨B,rfl,hB7,hBl,hb7⟩
    have HB7:=Hd (HB5.out.trans (hb7.mono HB5.out.size))
    have hcv:=Aoy w7 B n1 d 5 hB7
    rw[hdl]at hcv
    clear hb7 hB7 hdl
    clear HRX HRT HMX r0 r1 r2 s0 s1 s2 hrl q0 q1 q2 hq m0 m1 m2 hml
    obtain⟨hRx,q0,q1,q2,hMx,hRT⟩:=HX4.out _ HB7.out
    have HRX:=Hd hRx
    have HRT:=Hd hRT
    have hq:=Aaf q0
    have r0:=bC hRx 0
    have r1:=bC hRx 1
    have r2:=bC hRx 2
    have s0:=bF hRx 0
    have s1:=bF hRx 1
    have s2:=bF hRx 2
    have hrl:=lt_of_block hRx
    have m0:=bC hMx 0
    have m1:=bC hMx 1
    have m2:=bC hMx 2
    have hml:=lt_of_block hMx
    have HMX:=Hd hMx
    clear hRx hMx hRT
    obtain⟨⟨d3,n3⟩,f3⟩:=HRT.out.refT.cells hk 3 (by omega)
    have hgl5:=HRT.out.nodes.lt
    obtain⟨w6,hw6⟩:∃ p,p=w7.setCell ⟨g,k * 6+3,none⟩ (.string ⟨d.toArray⟩):=⟨_,rfl⟩
    have hR6:OwnT w6 (w.heap.size+2) g cap' L' vs:=by
     have h:=HRT.out.setData hk d
     rw[HDL.out,<-hw6]at h
     exact h
    have hne:∀ j,j≠g->w6.heap[j]?=w7.heap[j]?:=fun j hj=>by rw[hw6];exact Below.heap_setCell _ _ _ _ hj
    have hB6:Below w.heap.size w w6:=by rw[hw6];exact(HEND.out _ HB7.out).setCell (show w.heap.size<=g by omega) _
    have hR6x:=(hne (w.heap.size+1) (by omega)).trans HRX.out
    have HR6:=Hd hR6
    have HB6:=Hd hB6
    have HW6:=Hd hw6
    have HLE:=Hd (show L'.length=L.length by rw[<-HDL.out,Afm])
    clear hR6 hB6 hw6 hne
    go_wp2_with fail
    rw[<-HW6.out]
    clear HRX
    have HRX:=Hd hR6x
    clear hR6x
    change bodyPost _ _ _ _ _ (put3 w6 (w.heap.size+1) (.slice (some ⟨g,0,none⟩) L.length cap') (.int .i64 m) (.int .i64 b))
    obtain⟨c0,c1,c2⟩:=Aam HRX.out (.slice (some ⟨g,0,none⟩) L.length cap') (.int .i64 m) (.int .i64 b)
    exact bodyPost_ret (v:=.tuple #[.agg #[.slice (some ⟨g,0,none⟩) L'.length cap',.int .i64 m,.int .i64 b],.int .i64 0]) (by simp[results,Tryz.results124,go_sem,c0,c1,c2,HLE.out]) rfl ⟨⟨_,_,_,rfl,(HR6.out.low fun k hk=>Aa9 (by omega) _ _ _).lower (by omega)⟩,Aao HB6.out (by omega) _ _ _⟩
 ·rw[if_pos h0]at hz2
  have h0b:(rf != 0)=true:=by simpa using h0
  simp only[Prod.mk.injEq]at hz2
  obtain⟨rfl,rfl⟩:=hz2
  go_wp2_with fail
  change bodyPost _ _ _ _ _ (put3 w5 (w.heap.size+1) (.slice (some ⟨g,0,none⟩) L.length cap') (.int .i64 m) (.int .i64 b))
  obtain⟨c0,c1,c2⟩:=Aam HRX.out (.slice (some ⟨g,0,none⟩) L.length cap') (.int .i64 m) (.int .i64 b)
  exact bodyPost_ret (v:=.tuple #[.agg #[.slice (some ⟨g,0,none⟩) L.length cap',.int .i64 m,.int .i64 b],.int .i64 rf]) (by simp[results,Tryz.results124,go_sem,c0,c1,c2]) rfl ⟨⟨_,_,_,rfl,(HRT.out.low fun k hk=>Aa9 (by omega) _ _ _).lower (by omega)⟩,Aao (HEND.out _ HB5.out) (by omega) _ _ _⟩
theorem Arw (B N o:Nat)(h:o < N)(W:World):(Instr.slice 175 (.slice (some ⟨B,0,none⟩) N N) (some (.int .i64 (o:Int))) none none).run Tryz.prog W=.ok (.slice (some ⟨B,o,none⟩) (N - o) (N - o)) W:=by
 obtain⟨i0,hi,hz0,hz1,hz2⟩:=info_parts Aza
 have hne:¬ N=o:=by omega
 simp[Instr.slice,run_underlying Tryz.underlying175,Instr.sliceBounds,Instr.sliceBound,asIntOf,sizeOf,typeInfo,hi,hz1,hne,Addr.add]
 rw[if_pos (by omega)]
 by_cases h0:o=0
 ·subst h0
  rfl
 ·rw[if_neg h0]
theorem Avo (L:List Ino)(b k off:Int)(s:List UInt8):Ae1 L b k off s=if refW L k off≠0 then(L,refW L k off)else if s=[]then(L,0)else if (65536:Int) - (s.length:Int) < off then(L,27)else Aee L b k.toNat (Ale (Aai L k).data off.toNat s):=by
 unfold Ae1 refW
 by_cases h0:Adj L k=0
 ·by_cases h1:off < 0
  ·simp[h0,h1]
  ·simp only[h0,h1,ne_eq,not_true_eq_false,if_false]
   by_cases h2:s=[]
   ·rw[if_pos h2,if_pos h2]
   ·have h3:0 < s.length:=List.length_pos_iff.2 h2
    rw[if_neg h2,if_neg h2]
    by_cases h4:(65536:Int) - (s.length:Int) < off
    ·rw[if_pos h4,if_pos (by omega)]
    ·rw[if_neg h4,if_neg (by omega)]
 ·simp[h0]
theorem Aoh (a:Option Addr)(cap:Nat)(m b ino off:Int)(sb:ByteArray)(hsb:sb.size<=1000000)(L:List Ino)(hF:FitP L m b)(L':List Ino)(er:Int)(hz:Ae1 L b ino off sb.data.toList=(L',er))(w:World)(hN:Aad w a cap L) :
  Calls Tryz.prog 131 #[.agg #[.slice a L.length cap,.int .i64 m,.int .i64 b],.int .i64 ino,.int .i64 off,.string sb] w (Ar3 w m b L' [.int .i64 er]):=by
 obtain⟨w2,hw2,hb2,hs2,hA,hB⟩:=Aan w #[.slice a L.length cap,.int .i64 m,.int .i64 b] #[.slice none 0 0,.int .i64 0,.int .i64 0] 24 24
 have HX:=Hd (show ∀ W,Below w2.heap.size w2 W->W.heap[w.heap.size+1]?=some (.cells #[.slice none 0 0,.int .i64 0,.int .i64 0] 24 (0,0))/\W.cell? ⟨w.heap.size,0,none⟩=some (.slice a L.length cap)/\W.cell? ⟨w.heap.size,1,none⟩=some (.int .i64 m)/\W.cell? ⟨w.heap.size,2,none⟩=some (.int .i64 b)from fun W hW=>by
  have h:=(hW.block w.heap.size (by omega)).trans hA
  exact⟨(hW.block _ (by omega)).trans hB,bC h 0,bC h 1,bC h 2⟩)
 have HM:=Hd (show ∀ W,Below w2.heap.size w2 W->Aad W a cap L from fun W hW=>hN.below (hb2.trans (hW.mono (by omega))))
 have HB2:=Hd hb2
 have HF:=Hd hF
 have HK:=Hd (show ∀ x∈L,x.kids.length<=4096 from fun x hx=>by obtain⟨j,hj,rfl⟩:=List.getElem_of_mem hx;have:=(hF.ins j hj).2.1;omega)
 obtain⟨l1,l2,l3,l4,l5⟩:=hF.limits
 have hz2:=hz
 rw[Avo]at hz2
 obtain⟨rf,hrf⟩:∃ v,refW L ino off=v:=⟨_,rfl⟩
 rw[hrf]at hz2
 have HRF:=Hd hrf
 have hwr0:IntKind.i64.wrap (65536 - (sb.size:Int))=65536 - (sb.size:Int):=by rw[IntKind.wrap_i64];omega
 clear hz hN hb2 hA hB hF hrf
 obtain⟨hRx,q0,q1,q2⟩:=HX.out _ (Below.refl _ _)
 have HRX:=Hd hRx
 have hq:=Aaf q0
 have r0:=bC hRx 0
 have r1:=bC hRx 1
 have r2:=bC hRx 2
 have s0:=bF hRx 0
 have s1:=bF hRx 1
 have s2:=bF hRx 2
 have hrl:=lt_of_block hRx
 clear hRx
 rw[hw2]at r0 r1 r2 s0 s1 s2 hrl q0 q1 q2 hq
 go_enter Tryz.func131,Tryz.ntmps131
 go_wp2_with fail
 rw[<-hw2]
 clear HRX r0 r1 r2 s0 s1 s2 hrl q0 q1 q2 hq
 clear hw2
 refine(Adu a cap m b L (by omega) (by omega) HK.out _ (HM.out _ (Below.refl _ _))).mono ?_
 rintro e w3 ⟨g,cap',vs,rfl,hO3,hb3⟩
 have HO3:=Hd (hO3.lower (show w.heap.size+2<=w2.heap.size by omega))
 have hgl3:=hO3.nodes.lt
 have hgb:w.heap.size+2<=g:=by have:=hO3.hbase;omega
 have HB3:=Hd hb3
 have hs3:=hb3.size
 obtain⟨-,q0,q1,q2⟩:=HX.out _ hb3
 have hq:=Aaf q0
 clear hO3 hb3
 go_wp2_with fail
 obtain⟨w4,hw4⟩:∃ w4,w4=w3.alloc (.cells #[.slice (some ⟨g,0,none⟩) L.length cap',.int .i64 m,.int .i64 b] 24):=⟨_,rfl⟩
 have hb4:Below w3.heap.size w3 w4:=by rw[hw4];exact Aab w3 _
 have hM4:w4.heap[w3.heap.size]?=some (.cells #[.slice (some ⟨g,0,none⟩) L.length cap',.int .i64 m,.int .i64 b] 24 (0,0)):=by rw[hw4];exact Aag w3 _
 have hs4:w4.heap.size=w3.heap.size+1:=by rw[hw4];simp
 rw[<-hw4]
 clear hw4 q0 q1 q2 hq
 have HB34:=Hd hb4
 have HB4:=Hd (HB3.out.trans (hb4.mono hs3))
 have HX4:=Hd (show ∀ W,Below w4.heap.size w4 W->W.heap[w.heap.size+1]?=some (.cells #[.slice none 0 0,.int .i64 0,.int .i64 0] 24 (0,0))/\W.cell? ⟨w.heap.size,0,none⟩=some (.slice a L.length cap)/\W.cell? ⟨w.heap.size,1,none⟩=some (.int .i64 m)/\W.cell? ⟨w.heap.size,2,none⟩=some (.int .i64 b)/\W.heap[w3.heap.size]?=some (.cells #[.slice (some ⟨g,0,none⟩) L.length cap',.int .i64 m,.int .i64 b] 24 (0,0))/\OwnT W (w.heap.size+2) g cap' L vs from fun W hW=>by
  obtain⟨x0,x1,x2,x3⟩:=HX.out W (HB4.out.trans (hW.mono (by omega)))
  exact⟨x0,x1,x2,x3,(hW.block w3.heap.size (by omega)).trans hM4,HO3.out.below (HB34.out.trans (hW.mono (by omega)))⟩)
 have HM4:=Hd (show ∀ W,Below w4.heap.size w4 W->Aad W a cap L from fun W hW=>HM.out W (HB4.out.trans (hW.mono (by omega))))
 have HEND:=Hd (show ∀ W,Below w4.heap.size w4 W->Below w.heap.size w W from fun W hW=>HB2.out.trans ((HB4.out.trans (hW.mono (by omega))).mono (by omega)))
 clear hb4 hM4 hs4
 refine(Alh _ _ _ _ _ _ L rf HRF.out _ (HM4.out _ (Below.refl _ _))).mono ?_
 rintro e w5 ⟨rfl,hb5⟩
 have HB5:=Hd hb5
 have hs5:=hb5.size
 clear hb5
 obtain⟨hRx,q0,q1,q2,hMx,hRT⟩:=HX4.out _ HB5.out
 have HRX:=Hd hRx
 have HRT:=Hd hRT
 have hq:=Aaf q0
 have r0:=bC hRx 0
 have r1:=bC hRx 1
 have r2:=bC hRx 2
 have s0:=bF hRx 0
 have s1:=bF hRx 1
 have s2:=bF hRx 2
 have hrl:=lt_of_block hRx
 have m0:=bC hMx 0
 have m1:=bC hMx 1
 have m2:=bC hMx 2
 have hml:=lt_of_block hMx
 have HMX:=Hd hMx
 clear hRx hMx hRT
 by_cases h0:rf=0
 ·subst h0
  rw[if_neg (by simp)]at hz2
  by_cases he:sb.data.toList=[]
  ·rw[if_pos he]at hz2
   have he':=Aqc he
   subst he'
   simp only[Prod.mk.injEq]at hz2
   obtain⟨rfl,rfl⟩:=hz2
   clear he
   go_wp2_with fail
   change bodyPost _ _ _ _ _ (put3 w5 (w.heap.size+1) (.slice (some ⟨g,0,none⟩) L.length cap') (.int .i64 m) (.int .i64 b))
   obtain⟨c0,c1,c2⟩:=Aam HRX.out (.slice (some ⟨g,0,none⟩) L.length cap') (.int .i64 m) (.int .i64 b)
   exact bodyPost_ret (v:=.tuple #[.agg #[.slice (some ⟨g,0,none⟩) L.length cap',.int .i64 m,.int .i64 b],.int .i64 0]) (by simp[results,Tryz.results131,go_sem,c0,c1,c2]) rfl ⟨⟨_,_,_,rfl,(HRT.out.low fun k hk=>Aa9 (by omega) _ _ _).lower (by omega)⟩,Aao (HEND.out _ HB5.out) (by omega) _ _ _⟩
  have hpl:(sb.data.toList == [])=false:=by
   cases h:sb.data.toList with
   | nil=>exact absurd h he
   | cons c r=>rfl
  have hpe:sb.toList.isEmpty=false:=by
   rw[ByteArray.toList_eq]
   cases h:sb.data.toList with
   | nil=>exact absurd h he
   | cons c r=>rfl
  rw[if_neg he]at hz2
  have hsl:sb.data.toList.length=sb.size:=Array.length_toList
  have hsp:0 < sb.size:=by rw[<-hsl];exact List.length_pos_iff.2 he
  rw[hsl]at hz2
  have HSL:=Hd hsl
  clear he hsl
  by_cases h1:(65536:Int) - (sb.size:Int) < off
  ·rw[if_pos h1]at hz2
   simp only[Prod.mk.injEq]at hz2
   obtain⟨rfl,rfl⟩:=hz2
   go_wp2_with fail
   change bodyPost _ _ _ _ _ (put3 w5 (w.heap.size+1) (.slice (some ⟨g,0,none⟩) L.length cap') (.int .i64 m) (.int .i64 b))
   obtain⟨c0,c1,c2⟩:=Aam HRX.out (.slice (some ⟨g,0,none⟩) L.length cap') (.int .i64 m) (.int .i64 b)
   exact bodyPost_ret (v:=.tuple #[.agg #[.slice (some ⟨g,0,none⟩) L.length cap',.int .i64 m,.int .i64 b],.int .i64 27]) (by simp[results,Tryz.results131,go_sem,c0,c1,c2]) rfl ⟨⟨_,_,_,rfl,(HRT.out.low fun k hk=>Aa9 (by omega) _ _ _).lower (by omega)⟩,Aao (HEND.out _ HB5.out) (by omega) _ _ _⟩
  rw[if_neg h1]at hz2
  obtain⟨hf0,hn0⟩:=Ap6 HRF.out
  obtain⟨k,hk,rfl,-⟩:=Ahy hf0
  obtain⟨o1,rfl⟩:∃ n1:Nat,off=(n1:Int):=⟨off.toNat,by omega⟩
  have hk0:(0:Int)<=(k:Int):=by omega
  have hk1:(k:Int) < (L.length:Int):=by omega
  rw[Aae L k hk,Int.toNat_natCast,Int.toNat_natCast]at hz2
  clear hf0 hn0
  have hwr1:IntKind.i64.wrap ((o1:Int)+(sb.size:Int))=(o1:Int)+(sb.size:Int):=by rw[IntKind.wrap_i64];omega
  obtain⟨bb,o,ha,hx⟩:=(HM4.out _ HB5.out).2.2 k hk
  subst ha
  have x3:=hx.data
  have hxl:=Aaf x3
  obtain⟨D,hD⟩:∃ D:ByteArray,D=⟨L[k].data.toArray⟩:=⟨_,rfl⟩
  have hDs:D.size=L[k].data.length:=by rw[hD];simp[ByteArray.size]
  have hDb:D.size<=65536:=by rw[hDs];exact Ag9 HF.out hk
  rw[<-hD]at x3
  have HDS:=Hd hDs
  clear hx hD hDs
  obtain⟨N,hN⟩:∃ N,N=max (o1+sb.size) D.size:=⟨_,rfl⟩
  have hNe:max ((o1:Int)+(sb.size:Int)) (D.size:Int)=(N:Int):=by omega
  have hNb:N<=65536:=by omega
  have hNo:o1 < N:=by omega
  have HNN:=Hd hN
  have HNE:=Hd hNe
  clear hN hNe
  unfold Aee at hz2
  rw[Aae L k hk,Aps]at hz2
  have hle:((o1+sb.data.toList.length+(L[k].data.length - (o1+sb.data.toList.length)):Nat):Int)=(N:Int):=by rw[HSL.out,<-HDS.out,HNN.out];omega
  rw[hle]at hz2
  clear hle
  by_cases h2:b < (Aax L:Int) - (L[k].data.length:Int)+(N:Int)
  ·rw[if_pos h2]at hz2
   simp only[Prod.mk.injEq]at hz2
   obtain⟨rfl,rfl⟩:=hz2
   have HROW:=Hd (show ∀ W,Below w5.heap.size w5 W->Calls Tryz.prog 161 #[.agg #[.slice (some ⟨bb,o,none⟩) L.length cap,.int .i64 m,.int .i64 b],.int .i64 k,.int .i64 (max ((o1:Int)+(sb.size:Int)) (D.size:Int))] W fun e w'=>e=.returned (.tuple #[.slice none 0 0,.int .i64 28])/\Below w4.heap.size w4 w' from fun W hW=>by
    rw[HNE.out]
    exact(Atv _ cap m b k N (by omega) L HF.out hk h2 W (HM4.out W (HB5.out.trans (hW.mono hs5)))).mono fun e w' h=>⟨h.1,(HB5.out.trans (hW.mono hs5)).trans (h.2.mono (by have:=(HB5.out.trans (hW.mono hs5)).size;omega))⟩)
   clear h2
   go_wp2_with fail
   go_region_with (first|(go_at_call 161;refine(HROW.out _ ?_).mono ?_;(exact⟨rfl,rfl,rfl,Nat.le_refl _,fun _ _=>rfl⟩);rintro e w7 ⟨rfl,hb7⟩;have HB7:=Hd hb7;clear hb7))
   all_goals
    clear x3 hxl
    clear HRX HRT HMX r0 r1 r2 s0 s1 s2 hrl q0 q1 q2 hq m0 m1 m2 hml
    obtain⟨hRx,q0,q1,q2,hMx,hRT⟩:=HX4.out _ HB7.out
    have HRX:=Hd hRx
    have HRT:=Hd hRT
    have hq:=Aaf q0
    have r0:=bC hRx 0
    have r1:=bC hRx 1
    have r2:=bC hRx 2
    have s0:=bF hRx 0
    have s1:=bF hRx 1
    have s2:=bF hRx 2
    have hrl:=lt_of_block hRx
    have m0:=bC hMx 0
    have m1:=bC hMx 1
    have m2:=bC hMx 2
    have hml:=lt_of_block hMx
    have HMX:=Hd hMx
    clear hRx hMx hRT
    go_wp2_with fail
    change bodyPost _ _ _ _ _ (put3 w7 (w.heap.size+1) (.slice (some ⟨g,0,none⟩) L.length cap') (.int .i64 m) (.int .i64 b))
    obtain⟨c0,c1,c2⟩:=Aam HRX.out (.slice (some ⟨g,0,none⟩) L.length cap') (.int .i64 m) (.int .i64 b)
    exact bodyPost_ret (v:=.tuple #[.agg #[.slice (some ⟨g,0,none⟩) L.length cap',.int .i64 m,.int .i64 b],.int .i64 28]) (by simp[results,Tryz.results131,go_sem,c0,c1,c2]) rfl ⟨⟨_,_,_,rfl,(HRT.out.low fun k hk=>Aa9 (by omega) _ _ _).lower (by omega)⟩,Aao (HEND.out _ HB7.out) (by omega) _ _ _⟩
  ·rw[if_neg h2]at hz2
   simp only[Prod.mk.injEq]at hz2
   obtain⟨hL',rfl⟩:=hz2
   obtain⟨d,hd⟩:∃ d,d=Ale L[k].data o1 sb.data.toList:=⟨_,rfl⟩
   have hdl:d.length=N:=by rw[hd,Aps,HSL.out,<-HDS.out,HNN.out];omega
   have hrow:(cutL L[k].data N).take o1 ++ sb.data.toList.take (N - o1) ++ (cutL L[k].data N).drop (o1+min sb.size (N - o1))=d:=by
    rw[hd,<-HSL.out]
    exact Axv _ _ _ _ (by rw[HSL.out,<-HDS.out];exact HNN.out)
   have HROW:=Hd (show ∀ W,Below w5.heap.size w5 W->Calls Tryz.prog 161 #[.agg #[.slice (some ⟨bb,o,none⟩) L.length cap,.int .i64 m,.int .i64 b],.int .i64 k,.int .i64 (max ((o1:Int)+(sb.size:Int)) (D.size:Int))] W fun e w'=>∃ B,e=.returned (.tuple #[.slice (some ⟨B,0,none⟩) N N,.int .i64 0])/\w'.heap[B]?=some (.cells (rowB (cutL L[k].data N)) 5 (0,0))/\w4.heap.size<=B/\Below w4.heap.size w4 w' from fun W hW=>by
    rw[HNE.out]
    exact(Ap2 _ cap m b k N (by omega) L HF.out hk h2 W (HM4.out W (HB5.out.trans (hW.mono hs5)))).mono fun e w' h=>by
     obtain⟨B,h1,h2,h3,h4⟩:=h
     have hs:=(HB5.out.trans (hW.mono hs5)).size
     exact⟨B,h1,h2,by omega,(HB5.out.trans (hW.mono hs5)).trans (h4.mono hs)⟩)
   rw[<-hd]at hL'
   have HDL:=Hd hL'
   have HRW:=Hd hrow
   have HDN:=Hd hdl
   clear h2 hL' hd hrow hdl
   go_wp2_with fail
   go_region_with (first|(go_at_call 161;refine(HROW.out _ ?_).mono ?_;(exact⟨rfl,rfl,rfl,Nat.le_refl _,fun _ _=>rfl⟩);rintro e w7 ⟨B,rfl,hB7,hBl,hb7⟩;have HB7:=Hd hb7;have HBB:=Hd hB7;clear hb7 hB7))
   all_goals
    clear x3 hxl
    have hcp:=fun ty=>Agq w7 B o1 (N - o1) (N - o1) sb (cutL L[k].data N) 5 HBB.out (by rw[Aga];omega) ty
    rw[HRW.out]at hcp
    have hsf:=fun W=>Arw B N o1 hNo W
    obtain⟨w8,hw8⟩:∃ p,p=w7.setRow B (rowB d):=⟨_,rfl⟩
    have HB8:=Hd (show Below w4.heap.size w4 w8 by rw[hw8];exact Al6 HB7.out hBl _)
    have hcv:=Aoy w8 B N d 5 (by rw[hw8];exact setRow_heap _ _ _ _ _ _ HBB.out)
    rw[HDN.out]at hcv
    rw[<-hw8]at hcp
    clear hw8
    clear HRX HRT HMX r0 r1 r2 s0 s1 s2 hrl q0 q1 q2 hq m0 m1 m2 hml
    obtain⟨hRx,q0,q1,q2,hMx,hRT⟩:=HX4.out _ HB7.out
    have HRX:=Hd hRx
    have HRT:=Hd hRT
    have hq:=Aaf q0
    have r0:=bC hRx 0
    have r1:=bC hRx 1
    have r2:=bC hRx 2
    have s0:=bF hRx 0
    have s1:=bF hRx 1
    have s2:=bF hRx 2
    have hrl:=lt_of_block hRx
    have m0:=bC hMx 0
    have m1:=bC hMx 1
    have m2:=bC hMx 2
    have hml:=lt_of_block hMx
    have HMX:=Hd hMx
    clear hRx hMx hRT
    go_upto_region 11 with fail
    clear HRX HRT HMX r0 r1 r2 s0 s1 s2 hrl q0 q1 q2 hq m0 m1 m2 hml
    obtain⟨hRx,q0,q1,q2,hMx,hRT⟩:=HX4.out _ HB8.out
    have HRX:=Hd hRx
    have HRT:=Hd hRT
    have hq:=Aaf q0
    have r0:=bC hRx 0
    have r1:=bC hRx 1
    have r2:=bC hRx 2
    have s0:=bF hRx 0
    have s1:=bF hRx 1
    have s2:=bF hRx 2
    have hrl:=lt_of_block hRx
    have m0:=bC hMx 0
    have m1:=bC hMx 1
    have m2:=bC hMx 2
    have hml:=lt_of_block hMx
    have HMX:=Hd hMx
    clear hRx hMx hRT
    obtain⟨⟨d3,n3⟩,f3⟩:=HRT.out.refT.cells hk 3 (by omega)
    have hgl5:=HRT.out.nodes.lt
    obtain⟨w6,hw6⟩:∃ p,p=w8.setCell ⟨g,k * 6+3,none⟩ (.string ⟨d.toArray⟩):=⟨_,rfl⟩
    have hR6:OwnT w6 (w.heap.size+2) g cap' L' vs:=by
     have h:=HRT.out.setData hk d
     rw[HDL.out,<-hw6]at h
     exact h
    have hne:∀ j,j≠g->w6.heap[j]?=w8.heap[j]?:=fun j hj=>by rw[hw6];exact Below.heap_setCell _ _ _ _ hj
    have hB6:Below w.heap.size w w6:=by rw[hw6];exact(HEND.out _ HB8.out).setCell (show w.heap.size<=g by omega) _
    have hR6x:=(hne (w.heap.size+1) (by omega)).trans HRX.out
    have HR6:=Hd hR6
    have HB6:=Hd hB6
    have HW6:=Hd hw6
    have HLE:=Hd (show L'.length=L.length by rw[<-HDL.out,Afm])
    clear hR6 hB6 hw6 hne
    go_wp2_with fail
    rw[<-HW6.out]
    clear HRX
    have HRX:=Hd hR6x
    clear hR6x
    change bodyPost _ _ _ _ _ (put3 w6 (w.heap.size+1) (.slice (some ⟨g,0,none⟩) L.length cap') (.int .i64 m) (.int .i64 b))
    obtain⟨c0,c1,c2⟩:=Aam HRX.out (.slice (some ⟨g,0,none⟩) L.length cap') (.int .i64 m) (.int .i64 b)
    exact bodyPost_ret (v:=.tuple #[.agg #[.slice (some ⟨g,0,none⟩) L'.length cap',.int .i64 m,.int .i64 b],.int .i64 0]) (by simp[results,Tryz.results131,go_sem,c0,c1,c2,HLE.out]) rfl ⟨⟨_,_,_,rfl,(HR6.out.low fun k hk=>Aa9 (by omega) _ _ _).lower (by omega)⟩,Aao HB6.out (by omega) _ _ _⟩
 ·rw[if_pos h0]at hz2
  have h0b:(rf != 0)=true:=by simpa using h0
  simp only[Prod.mk.injEq]at hz2
  obtain⟨rfl,rfl⟩:=hz2
  go_wp2_with fail
  change bodyPost _ _ _ _ _ (put3 w5 (w.heap.size+1) (.slice (some ⟨g,0,none⟩) L.length cap') (.int .i64 m) (.int .i64 b))
  obtain⟨c0,c1,c2⟩:=Aam HRX.out (.slice (some ⟨g,0,none⟩) L.length cap') (.int .i64 m) (.int .i64 b)
  exact bodyPost_ret (v:=.tuple #[.agg #[.slice (some ⟨g,0,none⟩) L.length cap',.int .i64 m,.int .i64 b],.int .i64 rf]) (by simp[results,Tryz.results131,go_sem,c0,c1,c2]) rfl ⟨⟨_,_,_,rfl,(HRT.out.low fun k hk=>Aa9 (by omega) _ _ _).lower (by omega)⟩,Aao (HEND.out _ HB5.out) (by omega) _ _ _⟩
theorem OwnT.mid {W W':World}{base g cap:Nat}{L:List Ino}{vs:List Value}(h:OwnT W base g cap L vs)(hb:∀ k,base<=k->k < W.heap.size->W'.heap[k]?=W.heap[k]?):OwnT W' base g cap L vs:=
 ⟨h.nodes.same (hb g h.hbase h.nodes.lt),h.hbase,fun i hi hv=>(h.kids i hi hv).same fun k hk=>hb k ((h.kids i hi hv).lt k hk).1 ((h.kids i hi hv).lt k hk).2,h.apart,h.off⟩
section
variable {B g : Nat} {A : KAd} {K : Krn} {f : List Int}
theorem Wk.newTree {W W1:World}(h:Wk W B g A K f)(hb:Below W.heap.size W W1){gt cap:Nat}{L':List Ino}{vs:List Value}(ho:OwnT W1 W.heap.size gt cap L' vs) :
  Wk (put3 W1 g (.slice (some ⟨gt,0,none⟩) L'.length cap) (.int .i64 K.m) (.int .i64 K.b)) B g { A with ta:=some ⟨gt,0,none⟩,tc:=cap } { K with tree:=L' } f/\Stepw g A W { A with ta:=some ⟨gt,0,none⟩,tc:=cap } (put3 W1 g (.slice (some ⟨gt,0,none⟩) L'.length cap) (.int .i64 K.m) (.int .i64 K.b)):=by
 have h1:=h.below hb
 have hg0:(W1.setCell ⟨g,0,none⟩ (.slice (some ⟨gt,0,none⟩) L'.length cap)).heap[g]?=some (.cells ((wrk g A K f).setIfInBounds 0 (.slice (some ⟨gt,0,none⟩) L'.length cap)) 124 (0,0)):=Aar h1.box 0 _
 have hg1:=Aar hg0 1 (.int .i64 K.m)
 have hg2:=Aar hg1 2 (.int .i64 K.b)
 have hbut:But g W1 (put3 W1 g (.slice (some ⟨gt,0,none⟩) L'.length cap) (.int .i64 K.m) (.int .i64 K.b)):=((But.set _ _ _ _).trans (But.set _ _ _ _)).trans (But.set _ _ _ _)
 have hown:∀ k,Own3 g A k->k < W.heap.size:=fun k hk=>(h.own3 hk).2
 refine⟨⟨hg2,h.base,⟨Ab8 h1.own.pipes fun x hx=>hbut.block _ (h.gp x hx),Ab8 h1.own.opens fun x hx=>hbut.block _ (h.go x hx),h.own.apart⟩,h.gp,h.go,fun W'' hw=>?_,h.flen⟩,⟨⟨hbut.os.trans hb.os,hbut.tape.trans hb.tape,hbut.output.trans hb.output,by rw[hbut.size];exact hb.size,fun k hk hn=>(hbut.block k (fun e=>hn (.inl e))).trans (hb.block k hk)⟩,.refl _ _⟩⟩
 refine(ho.mid fun k hk hlt=>?_).nodesIn
 have hng:¬ Own3 g A k:=fun h3=>by have:=hown k h3;omega
 exact(hw k (by rw[hbut.size];exact hlt) hng).trans (hbut.block k (fun e=>hng (.inl e)))
end
end Go.Proofs.YtkdfbliiblojoaaGreatDoor
