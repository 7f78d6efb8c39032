import Derived.Test.YtkdfbliiblojoaaGreatDoorK34
import Derived.Test.YtkdfbliiblojoaaGreatDoorK43
import Derived.Lib.LaidTab
import Derived.LaidLaws
import Derived.OpenShut
import Derived.ProofKit
import Derived.LaidMore
import Derived.Stop.Joined
import Derived.SizedLaws
import Derived.ChangeMaps5
import Derived.JoinedAt
import Derived.Deep.Strs
import Derived.Test.YtkdfbliiblojoaaGreatDoorRows
import Derived.Test.YtkdfbliiblojoaaGreatDoorTie
set_option linter.all false
set_option maxRecDepth 100000
set_option maxHeartbeats 64000000
namespace Go.Proofs.YtkdfbliiblojoaaGreatDoor
open Go Go.RowKit
structure GoodK (K:Krn)(f:List Int):Prop where
 tree:K.tree.length<=300
 pipes:K.pipes.length<=100
 opens:K.opens.length<=200
 fit:FitK K f
 refs:∀ o∈K.opens,o.refs<=900
def Bbn (K:Krn)(f:List Int)(e:Ending):Prop:=∃ v:Bool,e=.returned (.bool v)/\(v=true->GoodK K f)
theorem As6 (A:KAd)(K:Krn)(f:List Int)(hf:f.length=10)(hS:Al4 K.tree)(hl1:K.tree.length<=4611686018427387904)(hl2:K.pipes.length<=4611686018427387904)(hl3:K.opens.length<=4611686018427387904)(w:World)(hA:KernIn w A K) :
  Calls Tryz.prog 8 #[.agg #[.slice A.ta K.tree.length A.tc,.int .i64 K.m,.int .i64 K.b,.slice A.pa K.pipes.length A.pc,.slice A.oa K.opens.length A.oc,.string ⟨K.out0.toArray⟩,.string ⟨K.out1.toArray⟩],.agg #[.int .i64 (fdA f 0),.int .i64 (fdA f 1),.int .i64 (fdA f 2),.int .i64 (fdA f 3),.int .i64 (fdA f 4),.int .i64 (fdA f 5),.int .i64 (fdA f 6),.int .i64 (fdA f 7),.int .i64 (fdA f 8),.int .i64 (fdA f 9)]] w fun e w'=>Bbn K f e/\Below w.heap.size w w':=by
 obtain⟨D0,hD0⟩:∃ D:ByteArray,D=⟨K.out0.toArray⟩:=⟨_,rfl⟩
 obtain⟨D1,hD1⟩:∃ D:ByteArray,D=⟨K.out1.toArray⟩:=⟨_,rfl⟩
 obtain⟨vt,hvt⟩:∃ vt:Bool,vt=true↔FitK K f:=by classical exact⟨decide _,decide_eq_true_iff⟩
 have HVT:=Hd hvt
 have HF:=Hd (fun(h1:K.tree.length<=300) (h2:K.pipes.length<=1000) (h3:K.opens.length<=1000) W (hA:KernIn W A K)=>Az1 A K f hf h1 hS h2 h3 vt hvt W hA)
 rw[<-hD0,<-hD1]at HF ⊢
 obtain⟨w2,hw2,hb2,hs2,hX,hY⟩:=Aan w #[.slice A.ta K.tree.length A.tc,.int .i64 K.m,.int .i64 K.b,.slice A.pa K.pipes.length A.pc,.slice A.oa K.opens.length A.oc,.string D0,.string D1] #[.int .i64 (fdA f 0),.int .i64 (fdA f 1),.int .i64 (fdA f 2),.int .i64 (fdA f 3),.int .i64 (fdA f 4),.int .i64 (fdA f 5),.int .i64 (fdA f 6),.int .i64 (fdA f 7),.int .i64 (fdA f 8),.int .i64 (fdA f 9)] 29 31
 have HX:=Hd hX
 have HY:=Hd hY
 have HK2:=Hd (hA.below hb2)
 have HB2:=Hd hb2
 have HS2:=Hd hs2
 have HW2:=Hd hw2
 have HEND0:=HB2
 have q0:=bC hX 0
 have q1:=bC hX 1
 have q2:=bC hX 2
 have q3:=bC hX 3
 have q4:=bC hX 4
 have q5:=bC hX 5
 have q6:=bC hX 6
 have c0:=bC hY 0
 have c1:=bC hY 1
 have c2:=bC hY 2
 have c3:=bC hY 3
 have c4:=bC hY 4
 have c5:=bC hY 5
 have c6:=bC hY 6
 have c7:=bC hY 7
 have c8:=bC hY 8
 have c9:=bC hY 9
 clear hX hY hb2 hs2 hw2 hA hS hf hvt hD0 hD1
 go_enter Tryz.func8,Tryz.ntmps8
 go_upto_region 1 with fail
 have h0:=HW2.out
 rw[<-h0]
 clear h0
 by_cases h1:300 < K.tree.length
 ·have d1:decide (300 < (K.tree.length:Int))=true:=decide_eq_true (by omega)
  clear h1
  go_wp2_with fail
  go_ret
  exact⟨⟨false,rfl,fun h=>by cases h⟩,HEND0.out⟩
 have d1:decide (300 < (K.tree.length:Int))=false:=decide_eq_false (by omega)
 by_cases h2:100 < K.pipes.length
 ·have d2:decide (100 < (K.pipes.length:Int))=true:=decide_eq_true (by omega)
  clear h1 h2
  go_wp2_with fail
  go_ret
  exact⟨⟨false,rfl,fun h=>by cases h⟩,HEND0.out⟩
 have d2:decide (100 < (K.pipes.length:Int))=false:=decide_eq_false (by omega)
 by_cases h3:200 < K.opens.length
 ·have d3:decide (200 < (K.opens.length:Int))=true:=decide_eq_true (by omega)
  clear h1 h2 h3
  go_wp2_with fail
  go_ret
  exact⟨⟨false,rfl,fun h=>by cases h⟩,HEND0.out⟩
 have d3:decide (200 < (K.opens.length:Int))=false:=decide_eq_false (by omega)
 have HL:=Hd (And.intro h1 (And.intro h2 h3))
 clear h1 h2 h3
 go_wp2_with fail
 refine(HF.out (by have:=HL.out.1;omega) (by have:=HL.out.2.1;omega) (by have:=HL.out.2.2;omega) _ HK2.out).mono ?_
 rintro e w3 ⟨rfl,hb3⟩
 have HB3:=Hd (HB2.out.trans (hb3.mono HB2.out.size))
 have HX3:=Hd ((hb3.block w.heap.size (by have:=HS2.out;omega)).trans HX.out)
 have HK3:=Hd (HK2.out.below hb3)
 have HEND0:=HB3
 clear hb3 q0 q1 q2 q3 q4 q5 q6 c0 c1 c2 c3 c4 c5 c6 c7 c8 c9 d1 d2 d3
 have q0:=bC HX3.out 0
 have q1:=bC HX3.out 1
 have q2:=bC HX3.out 2
 have q3:=bC HX3.out 3
 have q4:=bC HX3.out 4
 have q5:=bC HX3.out 5
 have q6:=bC HX3.out 6
 cases vt with
 | false=>
  go_wp2_with fail
  go_ret
  exact⟨⟨false,rfl,fun h=>by cases h⟩,HEND0.out⟩
 | true=>
  go_wp2_with fail
  go_loopw [33] (fun iv wr=>∃ i:Nat,i<=K.opens.length/\iv=.int .i64 i/\Hid (∀ q (hq:q < K.opens.length),q < i->K.opens[q].refs<=900)/\Hid (Below w3.heap.size w3 wr)) (fun iv _=>K.opens.length - (intOf iv).toNat)
  case atStart=>exact⟨0,by omega,rfl,Hd (fun q _ h=>absurd h (Nat.not_lt_zero _)),Hd (Below.refl _ _)⟩
  case round=>
   clear q0 q1 q2 q3 q4 q5 q6
   obtain⟨i,hi,rfl,HRQ,HBR⟩:=hrel
   have HKR:=Hd (HK3.out.below HBR.out)
   have HEND0:=Hd (HB3.out.trans (HBR.out.mono HB3.out.size))
   by_cases hlt:i < K.opens.length
   ·obtain⟨bx,ox,hax,x0,x1,x2,x3,x4⟩:=HKR.out.opens.opn i hlt
    have HAX:=Hd hax
    obtain⟨o,ho⟩:∃ o,o=K.opens[i]:=⟨_,rfl⟩
    rw[<-ho]at x0 x1 x2 x3 x4
    have HO:=Hd ho
    obtain⟨kd,at_,off,fl,rf⟩:=o
    simp only at x0 x1 x2 x3 x4
    have b1:(0:Int)<=(i:Int):=by omega
    have b2:(i:Int) < (K.opens.length:Int):=by omega
    have hwi:IntKind.i64.wrap ((i:Int)+1)=(i:Int)+1:=by rw[IntKind.wrap_i64];have:=HL.out.2.2;omega
    have xl:=Aaf x0
    have HB6:=Hd (Aab wr (.cells #[.int .i64 kd,.int .i64 at_,.int .i64 off,.int .i64 fl,.int .i64 rf] 70))
    clear ho
    by_cases hr:900 < rf
    ·have d1:decide (900 < rf)=true:=decide_eq_true hr
     clear hr
     go_wp2_with fail
     go_ret
     exact⟨⟨false,rfl,fun h=>by cases h⟩,HEND0.out.trans (HB6.out.mono HEND0.out.size)⟩
    ·have d1:decide (900 < rf)=false:=decide_eq_false hr
     have HR:=Hd hr
     clear hr
     go_wp2_with fail
     go_roundw
     case rel=>exact⟨i+1,by omega,by go_num,Hd (fun q hq h=>by
      by_cases e:q=i
      ·subst e
       rw[<-HO.out]
       have:=HR.out
       show rf<=900
       omega
      ·exact HRQ.out q hq (by omega)),Hd (HBR.out.trans (HB6.out.mono HBR.out.size))⟩
     case measure=>simp[intOf] <;> omega
   ·have HG:=Hd (show GoodK K f from⟨by have:=HL.out.1;omega,by have:=HL.out.2.1;omega,by have:=HL.out.2.2;omega,HVT.out.1 (by trivial),fun o ho=>by
     obtain⟨q,hq,rfl⟩:=List.getElem_of_mem ho
     exact HRQ.out q hq (by omega)⟩)
    go_wp2_with fail
    go_ret
    exact⟨⟨true,rfl,fun _=>HG.out⟩,HEND0.out⟩
def ak0 : Krn:=(newK (newT 4 100).nodes 4 100 [105,110]).1
def af0 : List Int:=(newK (newT 4 100).nodes 4 100 [105,110]).2
def ak1 : Krn:=(Ad1 ak0 af0 0 9).1
def ak2 : Krn:=(Ad1 ak1 af0 0 9).1
def ak3 : Krn:=(Afc ak2 af0 3 0 [102] 1).1
def af3 : List Int:=(Afc ak2 af0 3 0 [102] 1).2.1
def ak4 : Krn:=(Ab9 ak3 af3 3 [120]).1
def ak5 : Krn:=(dupK ak4 af3 3 1).1
def af5 : List Int:=(dupK ak4 af3 3 1).2.1
def ak6 : Krn:=(Ab9 ak5 af5 1 [121]).1
theorem ak_1 : Ad1 ak0 af0 0 9=(ak1,[105,110],0):=Prod.ext rfl (by decide +kernel)
theorem ak_2 : Ad1 ak1 af0 0 9=(ak2,[],0):=Prod.ext rfl (by decide +kernel)
theorem ak_3 : Afc ak2 af0 3 0 [102] 1=(ak3,af3,0):=Prod.ext rfl (Prod.ext rfl (by decide +kernel))
theorem ak_4 : Ab9 ak3 af3 3 [120]=(ak4,1,0):=Prod.ext rfl (by decide +kernel)
theorem ak_5 : dupK ak4 af3 3 1=(ak5,af5,0):=Prod.ext rfl (Prod.ext rfl (by decide +kernel))
theorem ak_6 : Ab9 ak5 af5 1 [121]=(ak6,1,0):=Prod.ext rfl (by decide +kernel)
theorem Ar6 : FitK ak0 af0:=Aw3 (At5 (n:=4) (b:=100) (by decide) (by decide) (by decide) (by decide)) (by decide)
theorem Ar7 : FitK ak1 af0:=(Aos Ar6 ak_1).1
theorem Ar8 : FitK ak2 af0:=(Aos Ar7 ak_2).1
theorem Ar9 : FitK ak3 af3:=(Aop Ar8 ak_3).1
theorem Asa : FitK ak4 af3:=(Aj8 Ar9 ak_4).1
theorem Ayu : ak4.opens.all (fun o=>decide (o.refs<=900))=true:=by decide +kernel
theorem Asb : FitK ak5 af5:=(Ban Asa (fun o ho=>by simpa using List.all_eq_true.1 Ayu o ho) 3 1 ak_5).1
theorem Ayt : FitK ak6 af5:=(Aj8 Asb ak_6).1
theorem Ayv : Acp ak6.tree 0 [102] true=(1,0):=by decide +kernel
theorem Ays : (Aai ak6.tree 1).data=[120,121]:=by decide +kernel
theorem Bah : ak6.tree.length=4/\ak0.tree.length=4/\ak1.tree.length=4/\ak2.tree.length=4/\ak3.tree.length=4/\ak4.tree.length=4/\ak5.tree.length=4:=by decide +kernel
theorem Aum : Tryz.prog.eqGuardType Tryz.prog.depth 87=false:=by kernel_rfl
theorem Bav {K M:Krn}:K=M↔(Tre.mk K.tree K.m K.b=Tre.mk M.tree M.m M.b)/\K.out0=M.out0/\K.out1=M.out1/\K.pipes=M.pipes/\K.opens=M.opens:=by
 obtain⟨a,b,c,d,e,f,g⟩:=K
 obtain⟨a',b',c',d',e',f',g'⟩:=M
 simp only[Krn.mk.injEq,Tre.mk.injEq]
 constructor
 ·rintro⟨h1,h2,h3,h4,h5,h6,h7⟩;exact⟨⟨h1,h2,h3⟩,h6,h7,h4,h5⟩
 ·rintro⟨⟨h1,h2,h3⟩,h6,h7,h4,h5⟩;exact⟨h1,h2,h3,h4,h5,h6,h7⟩
theorem Ba7 {p q:Pip}:p=q↔p.data=q.data/\p.rd=q.rd/\p.wr=q.wr/\p.cap=q.cap:=by
 obtain⟨a,b,c,d⟩:=p
 obtain⟨a',b',c',d'⟩:=q
 exact Pip.mk.injEq .. ▸ Iff.rfl
theorem Ba6 {p q:Opn}:p=q↔p.kind=q.kind/\p.at_=q.at_/\p.off=q.off/\p.flags=q.flags/\p.refs=q.refs:=by
 obtain⟨a,b,c,d,e⟩:=p
 obtain⟨a',b',c',d',e'⟩:=q
 exact Opn.mk.injEq .. ▸ Iff.rfl
theorem Ang {T:Type}(A B:List T)(k:Nat)(h1:k < A.length)(h2:k < B.length)(h:A.take k=B.take k)(he:A[k]=B[k]):A.take (k+1)=B.take (k+1):=by
 rw[List.take_succ_eq_append_getElem h1,List.take_succ_eq_append_getElem h2,h,he]
theorem Alx {a b:List UInt8}{D E:ByteArray}(h1:D=⟨a.toArray⟩)(h2:E=⟨b.toArray⟩):D.data.toList=E.data.toList↔a=b:=by
 rw[h1,h2]
theorem Aye (A B:KAd)(K M:Krn)(hKl:K.tree.length<=1000)(v:Bool)(hv:v=true↔K=M)(w:World)(hA:KernIn w A K)(hB:KernIn w B M) :
  Calls Tryz.prog 12 #[.agg #[.slice A.ta K.tree.length A.tc,.int .i64 K.m,.int .i64 K.b,.slice A.pa K.pipes.length A.pc,.slice A.oa K.opens.length A.oc,.string ⟨K.out0.toArray⟩,.string ⟨K.out1.toArray⟩],.agg #[.slice B.ta M.tree.length B.tc,.int .i64 M.m,.int .i64 M.b,.slice B.pa M.pipes.length B.pc,.slice B.oa M.opens.length B.oc,.string ⟨M.out0.toArray⟩,.string ⟨M.out1.toArray⟩]] w fun e w'=>e=.returned (.bool v)/\Below w.heap.size w w':=by
 obtain⟨D0,hD0⟩:∃ D:ByteArray,D=⟨K.out0.toArray⟩:=⟨_,rfl⟩
 obtain⟨D1,hD1⟩:∃ D:ByteArray,D=⟨K.out1.toArray⟩:=⟨_,rfl⟩
 obtain⟨E0,hE0⟩:∃ D:ByteArray,D=⟨M.out0.toArray⟩:=⟨_,rfl⟩
 obtain⟨E1,hE1⟩:∃ D:ByteArray,D=⟨M.out1.toArray⟩:=⟨_,rfl⟩
 rw[<-hD0,<-hD1,<-hE0,<-hE1]
 obtain⟨w2,hw2,hb2,hs2,hX,hY⟩:=Aan w #[.slice A.ta K.tree.length A.tc,.int .i64 K.m,.int .i64 K.b,.slice A.pa K.pipes.length A.pc,.slice A.oa K.opens.length A.oc,.string D0,.string D1] #[.slice B.ta M.tree.length B.tc,.int .i64 M.m,.int .i64 M.b,.slice B.pa M.pipes.length B.pc,.slice B.oa M.opens.length B.oc,.string E0,.string E1] 29 29
 have HX:=Hd (show ∀ W,Below w2.heap.size w2 W->W.heap[w.heap.size]?=some (.cells #[.slice A.ta K.tree.length A.tc,.int .i64 K.m,.int .i64 K.b,.slice A.pa K.pipes.length A.pc,.slice A.oa K.opens.length A.oc,.string D0,.string D1] 29 (0,0))from fun W hW=>(hW.block _ (by omega)).trans hX)
 have HY:=Hd (show ∀ W,Below w2.heap.size w2 W->W.heap[w.heap.size+1]?=some (.cells #[.slice B.ta M.tree.length B.tc,.int .i64 M.m,.int .i64 M.b,.slice B.pa M.pipes.length B.pc,.slice B.oa M.opens.length B.oc,.string E0,.string E1] 29 (0,0))from fun W hW=>(hW.block _ (by omega)).trans hY)
 have HA:=Hd (show ∀ W,Below w2.heap.size w2 W->KernIn W A K from fun W hW=>hA.below (hb2.trans (hW.mono (by omega))))
 have HB:=Hd (show ∀ W,Below w2.heap.size w2 W->KernIn W B M from fun W hW=>hB.below (hb2.trans (hW.mono (by omega))))
 have HEND:=Hd (show ∀ W,Below w2.heap.size w2 W->Below w.heap.size w W from fun W hW=>hb2.trans (hW.mono (by omega)))
 have HV:=Hd (hv.trans Bav)
 have hmp:=hA.pipes.1
 have hmo:=hA.opens.1
 have hmp2:=hA.pipes.2.1
 have hmo2:=hA.opens.2.1
 have hmq:=hB.pipes.1
 have hmr:=hB.opens.1
 have hmq2:=hB.pipes.2.1
 have hmr2:=hB.opens.2.1
 unfold maxLen at hmp2 hmo2 hmq2 hmr2
 have HT0:=Hd (Alx hD0 hE0)
 have HT1:=Hd (Alx hD1 hE1)
 obtain⟨q0,q1,q2,q3,q4,q5,q6⟩:=Aal (HX.out _ (Below.refl _ _))
 obtain⟨r0,r1,r2,r3,r4,r5,r6⟩:=Aal (HY.out _ (Below.refl _ _))
 rw[hw2]at q0 q1 q2 q3 q4 q5 q6 r0 r1 r2 r3 r4 r5 r6
 clear hA hB hb2 hX hY hv hD0 hD1 hE0 hE1
 go_enter Tryz.func12,Tryz.ntmps12
 go_wp2_with fail
 rw[<-hw2]
 clear hw2 q0 q1 q2 q3 q4 q5 q6 r0 r1 r2 r3 r4 r5 r6
 refine(Art A.ta B.ta A.tc B.tc K.m K.b M.m M.b K.tree M.tree hKl _ (HA.out _ (Below.refl _ _)).tree (HB.out _ (Below.refl _ _)).tree).mono ?_
 rintro e w3 ⟨⟨vt,rfl,hvt⟩,hb3⟩
 have HVT:=Hd hvt
 have HB3:=Hd hb3
 obtain⟨q0,q1,q2,q3,q4,q5,q6⟩:=Aal (HX.out _ hb3)
 obtain⟨r0,r1,r2,r3,r4,r5,r6⟩:=Aal (HY.out _ hb3)
 clear hvt hb3
 cases vt with
 | false=>
  have hvf:v=false:=by
   cases v
   ·rfl
   ·exact absurd (HVT.out.2 (HV.out.1 rfl).1) (by decide)
  subst hvf
  go_wp2_with fail
  go_ret
  exact⟨rfl,HEND.out _ HB3.out⟩
 | true=>
  obtain⟨vo,hvo⟩:∃ vo:Bool,vo=true↔D0.data.toList=E0.data.toList/\D1.data.toList=E1.data.toList:=⟨decide _,decide_eq_true_iff⟩
  have hno:=fun W=>Aw1 D0 D1 E0 E1 vo hvo W
  have hng:=Arj
  have HVO:=Hd hvo
  clear hvo
  cases vo with
  | false=>
   have hvf:v=false:=by
    cases v
    ·rfl
    ·exact absurd (HVO.out.2 ⟨HT0.out.2 (HV.out.1 rfl).2.1,HT1.out.2 (HV.out.1 rfl).2.2.1⟩) (by decide)
   subst hvf
   go_wp2_with fail
   go_ret
   exact⟨rfl,HEND.out _ HB3.out⟩
  | true=>
  by_cases hlp:K.pipes.length=M.pipes.length
  rotate_left
  ·have hd:((K.pipes.length:Int) != (M.pipes.length:Int))=true:=by rw[bne_iff_ne];omega
   have hvf:v=false:=by
    cases v
    ·rfl
    ·exact absurd (congrArg List.length (HV.out.1 rfl).2.2.2.1) hlp
   subst hvf
   clear hlp
   go_wp2_with fail
   go_ret
   exact⟨rfl,HEND.out _ HB3.out⟩
  by_cases hlo:K.opens.length=M.opens.length
  rotate_left
  ·have hd:((K.opens.length:Int) != (M.opens.length:Int))=true:=by rw[bne_iff_ne];omega
   have hd2:((K.pipes.length:Int) != (M.pipes.length:Int))=false:=by rw[bne_eq_false_iff_eq];omega
   have hvf:v=false:=by
    cases v
    ·rfl
    ·exact absurd (congrArg List.length (HV.out.1 rfl).2.2.2.2) hlo
   subst hvf
   clear hlo hlp
   go_wp2_with fail
   go_ret
   exact⟨rfl,HEND.out _ HB3.out⟩
  have hd:((K.opens.length:Int) != (M.opens.length:Int))=false:=by rw[bne_eq_false_iff_eq];omega
  have hd2:((K.pipes.length:Int) != (M.pipes.length:Int))=false:=by rw[bne_eq_false_iff_eq];omega
  have HLP:=Hd hlp
  have HLO:=Hd hlo
  clear hlo hlp
  go_wp2_with fail
  have HREF:=Hd (Below.refl w2.heap.size w2)
  go_loopw [5] (fun iv wr=>∃ k:Nat,k<=K.pipes.length/\iv=.int .i64 k/\Hid (K.pipes.take k=M.pipes.take k)/\Hid (Below w2.heap.size w2 wr)) (fun iv _=>K.pipes.length - (intOf iv).toNat)
  case atStart=>exact⟨0,by omega,rfl,Hd (by simp),HB3⟩
  case round=>
   obtain⟨k,hk,rfl,HTK,HBR⟩:=hrel
   clear q0 q1 q2 q3 q4 q5 q6 r0 r1 r2 r3 r4 r5 r6
   obtain⟨q0,q1,q2,q3,q4,q5,q6⟩:=Aal (HX.out _ HBR.out)
   obtain⟨r0,r1,r2,r3,r4,r5,r6⟩:=Aal (HY.out _ HBR.out)
   by_cases hlt:k < K.pipes.length
   ·have hlt2:k < M.pipes.length:=by have:=HLP.out;omega
    obtain⟨bx,ox,hax,x0,x1,x2,x3⟩:=(HA.out _ HBR.out).pipes.pip k hlt
    obtain⟨by_,oy,hay,y0,y1,y2,y3⟩:=(HB.out _ HBR.out).pipes.pip k hlt2
    rw[hax]at q3
    rw[hay]at r3
    obtain⟨p,hp⟩:∃ p,p=K.pipes[k]:=⟨_,rfl⟩
    obtain⟨q,hq⟩:∃ q,q=M.pipes[k]:=⟨_,rfl⟩
    rw[<-hp]at x0 x1 x2 x3
    rw[<-hq]at y0 y1 y2 y3
    obtain⟨D,hD⟩:∃ D:ByteArray,D=⟨p.data.toArray⟩:=⟨_,rfl⟩
    obtain⟨E,hE⟩:∃ D:ByteArray,D=⟨q.data.toArray⟩:=⟨_,rfl⟩
    rw[<-hD]at x0
    rw[<-hE]at y0
    have b1:(0:Int)<=(k:Int):=by omega
    have b2:(k:Int) < (K.pipes.length:Int):=by omega
    have b3:(k:Int) < (M.pipes.length:Int):=by omega
    obtain⟨ve,hve⟩:∃ ve:Bool,ve=true↔D.data.toList=E.data.toList/\p.rd=q.rd/\p.wr=q.wr/\p.cap=q.cap:=⟨decide _,decide_eq_true_iff⟩
    have hne:=fun W=>Aw2 D E p.rd p.wr p.cap q.rd q.wr q.cap ve hve W
    have hng2:=Aum
    have HE:=Hd (show ve=true↔K.pipes[k]=M.pipes[k] by rw[hve,Alx hD hE,<-hp,<-hq,Ba7])
    clear hve hp hq hD hE hax hay
    cases ve with
    | true=>
     have HN:=Hd (Ang K.pipes M.pipes k hlt hlt2 HTK.out (HE.out.1 rfl))
     go_wp2_with fail
     go_quiet (fail)
     go_wp2_with fail
     go_roundw
     case rel=>exact⟨k+1,by omega,by go_num,HN,Hd (HBR.out.trans ⟨rfl,rfl,rfl,Nat.le_refl _,fun _ _=>rfl⟩)⟩
     case measure=>simp[intOf] <;> omega
    | false=>
     have hvf:v=false:=by
      cases v
      ·rfl
      ·have h:=(HV.out.1 rfl).2.2.2.1
       exact absurd (HE.out.2 (by simp only[h])) (by decide)
     subst hvf
     go_wp2_with fail
     go_quiet (fail)
     go_wp2_with fail
     go_ret
     exact⟨rfl,HEND.out _ (HBR.out.trans ⟨rfl,rfl,rfl,Nat.le_refl _,fun _ _=>rfl⟩)⟩
   ·have hke:k=K.pipes.length:=by omega
    have HPE:=Hd (show K.pipes=M.pipes by
     have h:=HTK.out
     rw[hke,List.take_length,HLP.out,List.take_length]at h
     exact h)
    clear hke
    go_wp2_with fail
    go_loopw [6] (fun iv wr=>∃ k:Nat,k<=K.opens.length/\iv=.int .i64 k/\Hid (K.opens.take k=M.opens.take k)/\Hid (Below w2.heap.size w2 wr)) (fun iv _=>K.opens.length - (intOf iv).toNat)
    case atStart=>exact⟨0,by omega,rfl,Hd (by simp),HBR⟩
    case round=>
     obtain⟨k2,hk2,rfl,HTK2,HBR2⟩:=hrel
     clear q0 q1 q2 q3 q4 q5 q6 r0 r1 r2 r3 r4 r5 r6
     obtain⟨q0,q1,q2,q3,q4,q5,q6⟩:=Aal (HX.out _ HBR2.out)
     obtain⟨r0,r1,r2,r3,r4,r5,r6⟩:=Aal (HY.out _ HBR2.out)
     by_cases hlt2:k2 < K.opens.length
     ·have hlt3:k2 < M.opens.length:=by have:=HLO.out;omega
      obtain⟨bx,ox,hax,x0,x1,x2,x3,x4⟩:=(HA.out _ HBR2.out).opens.opn k2 hlt2
      obtain⟨by_,oy,hay,y0,y1,y2,y3,y4⟩:=(HB.out _ HBR2.out).opens.opn k2 hlt3
      rw[hax]at q4
      rw[hay]at r4
      obtain⟨p,hp⟩:∃ p,p=K.opens[k2]:=⟨_,rfl⟩
      obtain⟨q,hq⟩:∃ q,q=M.opens[k2]:=⟨_,rfl⟩
      rw[<-hp]at x0 x1 x2 x3 x4
      rw[<-hq]at y0 y1 y2 y3 y4
      have b1:(0:Int)<=(k2:Int):=by omega
      have b2:(k2:Int) < (K.opens.length:Int):=by omega
      have b3:(k2:Int) < (M.opens.length:Int):=by omega
      obtain⟨ve,hve⟩:∃ ve:Bool,ve=true↔p.kind=q.kind/\p.at_=q.at_/\p.off=q.off/\p.flags=q.flags/\p.refs=q.refs:=⟨decide _,decide_eq_true_iff⟩
      have hne:=fun W=>Aw0 p.kind p.at_ p.off p.flags p.refs q.kind q.at_ q.off q.flags q.refs ve hve W
      have hng2:=Ajw
      have HE:=Hd (show ve=true↔K.opens[k2]=M.opens[k2] by rw[hve,<-hp,<-hq,Ba6])
      clear hve hp hq hax hay
      cases ve with
      | true=>
       have HN:=Hd (Ang K.opens M.opens k2 hlt2 hlt3 HTK2.out (HE.out.1 rfl))
       go_wp2_with fail
       go_quiet (fail)
       go_wp2_with fail
       go_roundw
       case rel=>exact⟨k2+1,by omega,by go_num,HN,Hd (HBR2.out.trans ⟨rfl,rfl,rfl,Nat.le_refl _,fun _ _=>rfl⟩)⟩
       case measure=>simp[intOf] <;> omega
      | false=>
       have hvf:v=false:=by
        cases v
        ·rfl
        ·have h:=(HV.out.1 rfl).2.2.2.2
         exact absurd (HE.out.2 (by simp only[h])) (by decide)
       subst hvf
       go_wp2_with fail
       go_quiet (fail)
       go_wp2_with fail
       go_ret
       exact⟨rfl,HEND.out _ (HBR2.out.trans ⟨rfl,rfl,rfl,Nat.le_refl _,fun _ _=>rfl⟩)⟩
     ·have hke:k2=K.opens.length:=by omega
      have HOE:=Hd (show K.opens=M.opens by
       have h:=HTK2.out
       rw[hke,List.take_length,HLO.out,List.take_length]at h
       exact h)
      have hvt:v=true:=HV.out.2 ⟨HVT.out.1 (by trivial),HT0.out.1 (HVO.out.1 (by trivial)).1,HT1.out.1 (HVO.out.1 (by trivial)).2,HPE.out,HOE.out⟩
      subst hvt
      clear hke
      go_wp2_with fail
      go_ret
      exact⟨rfl,HEND.out _ HBR2.out⟩
end Go.Proofs.YtkdfbliiblojoaaGreatDoor
namespace Go.Proofs.YtkdfbliiblojoaaGreatDoor
open Go.ChangeShapes Go.WideShapes Go.ChangeAt
open Go Go.RowKit
theorem own9 : ownKnob Tryz.prog.godebug=none:=by kernel_rfl
theorem Bar : Tryz.prog.globalNamed "windlass/open.ways"=some 0:=by kernel_rfl
theorem Bbz : (Tryz.prog.globals[0]?).map (·.type)=some 133:=by kernel_rfl
theorem Ar0 : ∃ f0 f1 f2:Field,Tryz.prog.underlying 132=some (.struct #[f0,f1,f2])/\f0.offset=0/\f1.offset=1/\f2.offset=2/\f0.type=3/\f1.type=3/\f2.type=4:=
 ⟨_,_,_,Tryz.underlying132,rfl,rfl,rfl,rfl,rfl,rfl⟩
theorem Bal : Tryz.prog.cellsOf 132=3:=by kernel_rfl
theorem Ayz : Tryz.prog.cellsOf 133=15:=by kernel_rfl
theorem Asi : Tryz.prog.cellsOf 3=1:=by kernel_rfl
theorem Ayy : Tryz.prog.cellsOf 4=1:=by kernel_rfl
abbrev Amp : List (String×DataW Unit):=[("windlass/open.ways",Rows.laid_windlass_open_ways)]
section
variable {H : Type} {enc : TypeId × Value -> H} {w : World} {base : Nat} {spare : Nat -> Bool} {held : Bool}
theorem Afl {n:Nat}{c0 c1 c2:Value}{x:DataW H×List MemPlace}(h:DataW.trod enc Tryz.prog w base spare held n 132 [c0,c1,c2]=some x){a b:Int}{c:Bool}(hx:x.1=.agg [.lit (.int .i64 a),.lit (.int .i64 b),.lit (.bool c)]):c0=.int .i64 a/\c1=.int .i64 b/\c2=.bool c:=by
 obtain⟨f0,f1,f2,hu,o0,o1,o2,t0,t1,t2⟩:=Ar0
 obtain⟨xs,m,_,rfl,hl,hlen,hfs⟩:=DataW.trod_struct hu h
 have g0:=hfs 0 f0 rfl
 have g1:=hfs 1 f1 rfl
 have g2:=hfs 2 f2 rfl
 have hlen':xs.length=3:=hlen
 match xs,hlen' with
 | [y0,y1,y2],_=>
  rw[t0,o0,Asi]at g0
  rw[t1,o1,Asi]at g1
  rw[t2,o2,Ayy]at g2
  have g0:DataW.trod enc Tryz.prog w base spare held m 3 [c0]=some y0:=g0
  have g1:DataW.trod enc Tryz.prog w base spare held m 3 [c1]=some y1:=g1
  have g2:DataW.trod enc Tryz.prog w base spare held m 4 [c2]=some y2:=g2
  obtain⟨z0,e0,h0,-⟩:=DataW.trod_int Tryz.underlying3 g0
  obtain⟨z1,e1,h1,-⟩:=DataW.trod_int Tryz.underlying3 g1
  obtain⟨z2,e2,h2⟩:=DataW.trod_bool Tryz.underlying4 g2
  subst h0 h1 h2
  simp at hx e0 e1 e2
  obtain⟨rfl,rfl,rfl⟩:=hx
  exact⟨e0,e1,e2⟩
theorem Avm {n:Nat}:∀ {ys:List (DataW H×List MemPlace)} {l:List Value},ys.length=5->ys.map (·.1)=[.agg [.lit (.int .i64 4),.lit (.int .i64 1),.lit (.bool false)],.agg [.lit (.int .i64 2),.lit (.int .i64 2),.lit (.bool true)],.agg [.lit (.int .i64 2),.lit (.int .i64 6),.lit (.bool false)],.agg [.lit (.int .i64 6),.lit (.int .i64 3),.lit (.bool false)],.agg [.lit (.int .i64 2),.lit (.int .i64 2),.lit (.bool true)]]->l.length=15 ->
  (∀ i,i < 5->DataW.trod enc Tryz.prog w base spare held n 132 ((l.drop (i * 3)).take 3)=ys[i]?)->∀ (i:Nat) (v:Value),Bbk[i]?=some v->l[i]?=some v
 | [y0,y1,y2,y3,y4],[a0,a1,a2,a3,a4,a5,a6,a7,a8,a9,a10,a11,a12,a13,a14],_,hys,_,hya,i,v,hv=>by
  simp only[List.map_cons,List.map_nil,List.cons.injEq,and_true]at hys
  obtain⟨e0,e1,e2,e3,e4⟩:=hys
  obtain⟨rfl,rfl,rfl⟩:=Afl (hya 0 (by decide)) e0
  obtain⟨rfl,rfl,rfl⟩:=Afl (hya 1 (by decide)) e1
  obtain⟨rfl,rfl,rfl⟩:=Afl (hya 2 (by decide)) e2
  obtain⟨rfl,rfl,rfl⟩:=Afl (hya 3 (by decide)) e3
  obtain⟨rfl,rfl,rfl⟩:=Afl (hya 4 (by decide)) e4
  exact hv
end
theorem Axc {W:World}(h:laidMetH Tryz.prog Amp W):Ways W:=by
 rw[MakeChecks.laidMetH_plain _ _ _ (by kernel_rfl)]at h
 obtain⟨ps,⟨g',t',cs,fuel,p,q,hg',ht',hvar,hd,_,_⟩,_⟩:=h
 obtain rfl:=Option.some.inj (Bar.symm.trans hg')
 obtain rfl:=Option.some.inj (Bbz.symm.trans ht')
 have hcell:=World.var?_cell Bar hvar
 refine⟨fun i v hv=>?_⟩
 rw[hcell i]
 obtain⟨ys,k,_,hyx,hcl,hyl,hya⟩:=DataW.trod_array Tryz.underlying133 hd
 have hys:ys.map (·.1)=[.agg [.lit (.int .i64 4),.lit (.int .i64 1),.lit (.bool false)],.agg [.lit (.int .i64 2),.lit (.int .i64 2),.lit (.bool true)],.agg [.lit (.int .i64 2),.lit (.int .i64 6),.lit (.bool false)],.agg [.lit (.int .i64 6),.lit (.int .i64 3),.lit (.bool false)],.agg [.lit (.int .i64 2),.lit (.int .i64 2),.lit (.bool true)]]:=by
  have h:=congrArg Prod.fst hyx
  exact(DataW.agg.inj h).symm
 clear hyx hd
 have hcl:cs.toList.length=15:=hcl.trans Ayz
 rw[<-Array.getElem?_toList]
 obtain⟨l,hl⟩:∃ l,l=cs.toList:=⟨_,rfl⟩
 rw[<-hl]at hcl hya ⊢
 clear hl hvar hcell
 exact Avm hyl hys hcl (by rw[Bal]at hya;exact hya) i v hv
theorem Ass (os:Os)(args:Array Value):laidMetH Tryz.prog Amp ((World.doorLaid Tryz.prog 400 os).forCall (fun _ _=>0) ⟨#[],args,[]⟩).memory:=
 laidMetH_of_parts3 (fuel:=8) (laidMet_of_run' 8 (by kernel_rfl) (by kernel_rfl)) (by kernel_rfl) (by kernel_rfl)
end Go.Proofs.YtkdfbliiblojoaaGreatDoor
