import Derived.Laws.EntriesVeiled
import Derived.Laws.Tables
import Derived.Test.YtkdfbliiblojoaaGreatDoorK35
set_option linter.all false
set_option maxRecDepth 100000
set_option maxHeartbeats 64000000
namespace Go.Proofs.YtkdfbliiblojoaaGreatDoor
open Go Go.RowKit
theorem Aj7 {P:Program}{ops:Array Oper}{rest:List Oper}{o:Oper}{a:Act}{w:World}{Q:Exit->Act->World->Prop}(hgd:o.guard=none)(ty:TypeId)(x y:Operand)(ho:o.op=.store ty x y)
  (g off:Nat) (v:Value) (hx:a.eval x=.pointer (some ⟨g,off,none⟩)) (hy:a.eval y=v) (L:List Value) (hL:v.cells.toList=L) (hi:(P.info? ty).map (·.size)=some L.length)
  (hc:∀ j,j < L.length->(w.cell? ⟨g,off+j,none⟩).isSome=true) (hf:∀ j,j < L.length->w.frozen? ⟨g,off+j,none⟩=false) (h1:∀ u∈L,u.oneCell'=true)
  (h:wpList P ops Q rest (a.put o.dst undef) (w.setCells g off L)):wpList P ops Q (o :: rest) a w:=by
 refine wpList_plain hgd fun K hK=>?_
 have hs:(storeVar ty ⟨g,off,none⟩ v).run P w=.ok () (w.setCells g off L):=by
  have:=run_storeCells_cells (P:=P) g off L 0 w (by simpa using hc) (by simpa using hf) h1
  cases hq:P.info? ty with
  | none=>simp[hq]at hi
  | some i=>
   have hs:v.cells.size=i.size:=by
    simp[hq]at hi
    rw[hi,<-hL]
    simp
   simp[storeVar,sizeOf,typeInfo,hq,hs,hL,this]
 unfold Oper.wp execOp
 simp only[ho,hx,hy,Instr.storeAt,Instr.sureAddr,Sem.run_bind,Sem.run_pure,Result.andThen_ok,hs]
 exact hK _ _ h
def Anf (g:Nat):List Value:=[.func (.func 92) #[.pointer (some ⟨g,0,none⟩)] #[],.nilFunc,.nilFunc,.nilFunc,.func (.func 93) #[.pointer (some ⟨g,0,none⟩)] #[],.func (.func 94) #[.pointer (some ⟨g,0,none⟩)] #[],.func (.func 95) #[.pointer (some ⟨g,0,none⟩)] #[],.func (.func 96) #[.pointer (some ⟨g,0,none⟩)] #[],.func (.func 97) #[.pointer (some ⟨g,0,none⟩)] #[],.func (.func 98) #[.pointer (some ⟨g,0,none⟩)] #[],.nilFunc,.func (.func 99) #[.pointer (some ⟨g,0,none⟩)] #[],.func (.func 100) #[.pointer (some ⟨g,0,none⟩)] #[],.nilFunc,.func (.func 101) #[.pointer (some ⟨g,0,none⟩)] #[],.func (.func 102) #[.pointer (some ⟨g,0,none⟩)] #[],.func (.func 103) #[.pointer (some ⟨g,0,none⟩)] #[],.nilFunc,.func (.func 104) #[.pointer (some ⟨g,0,none⟩)] #[],.func (.func 96) #[.pointer (some ⟨g,0,none⟩)] #[]]
theorem Arx (g:Nat)(A:KAd)(K:Krn)(f:List Int)(D0 D1:ByteArray)(h0:D0=⟨K.out0.toArray⟩)(h1:D1=⟨K.out1.toArray⟩):Am9 #[(.slice A.ta K.tree.length A.tc),(.int .i64 K.m),(.int .i64 K.b),(.slice A.pa K.pipes.length A.pc),(.slice A.oa K.opens.length A.oc),(.string D0),(.string D1),(.int .i64 (fdA f 0)),(.int .i64 (fdA f 1)),(.int .i64 (fdA f 2)),(.int .i64 (fdA f 3)),(.int .i64 (fdA f 4)),(.int .i64 (fdA f 5)),(.int .i64 (fdA f 6)),(.int .i64 (fdA f 7)),(.int .i64 (fdA f 8)),(.int .i64 (fdA f 9)),.nilFunc,.nilFunc,.nilFunc,.nilFunc,.nilFunc,.nilFunc,.nilFunc,.nilFunc,.nilFunc,.nilFunc,.nilFunc,.nilFunc,.nilFunc,.nilFunc,.nilFunc,.nilFunc,.nilFunc,.nilFunc,.nilFunc,.nilFunc] 17 (Anf g)=wrk g A K f:=by
 subst h0 h1
 kernel_rfl
theorem At0 (A:KAd)(K:Krn)(f:List Int)(w:World) :
  Calls Tryz.prog 53 #[.agg #[.slice A.ta K.tree.length A.tc,.int .i64 K.m,.int .i64 K.b,.slice A.pa K.pipes.length A.pc,.slice A.oa K.opens.length A.oc,.string ⟨K.out0.toArray⟩,.string ⟨K.out1.toArray⟩],.agg #[(.int .i64 (fdA f 0)),(.int .i64 (fdA f 1)),(.int .i64 (fdA f 2)),(.int .i64 (fdA f 3)),(.int .i64 (fdA f 4)),(.int .i64 (fdA f 5)),(.int .i64 (fdA f 6)),(.int .i64 (fdA f 7)),(.int .i64 (fdA f 8)),(.int .i64 (fdA f 9))]] w fun e w'=>e=.returned (.pointer (some ⟨w.heap.size+2,0,none⟩))/\w'.heap[w.heap.size+2]?=some (.cells (wrk (w.heap.size+2) A K f) 124 (0,0))/\Below w.heap.size w w':=by
 obtain⟨D0,hD0⟩:∃ D:ByteArray,D=⟨K.out0.toArray⟩:=⟨_,rfl⟩
 obtain⟨D1,hD1⟩:∃ D:ByteArray,D=⟨K.out1.toArray⟩:=⟨_,rfl⟩
 have HD0:=Hd hD0
 have HD1:=Hd hD1
 rw[<-hD0,<-hD1]
 clear hD0 hD1
 obtain⟨w3,hw3,hb3,hs3,hX,hY,hZ⟩:=Aec w #[(.slice A.ta K.tree.length A.tc),(.int .i64 K.m),(.int .i64 K.b),(.slice A.pa K.pipes.length A.pc),(.slice A.oa K.opens.length A.oc),(.string D0),(.string D1)] #[(.int .i64 (fdA f 0)),(.int .i64 (fdA f 1)),(.int .i64 (fdA f 2)),(.int .i64 (fdA f 3)),(.int .i64 (fdA f 4)),(.int .i64 (fdA f 5)),(.int .i64 (fdA f 6)),(.int .i64 (fdA f 7)),(.int .i64 (fdA f 8)),(.int .i64 (fdA f 9))] #[(.slice A.ta K.tree.length A.tc),(.int .i64 K.m),(.int .i64 K.b),(.slice A.pa K.pipes.length A.pc),(.slice A.oa K.opens.length A.oc),(.string D0),(.string D1),(.int .i64 (fdA f 0)),(.int .i64 (fdA f 1)),(.int .i64 (fdA f 2)),(.int .i64 (fdA f 3)),(.int .i64 (fdA f 4)),(.int .i64 (fdA f 5)),(.int .i64 (fdA f 6)),(.int .i64 (fdA f 7)),(.int .i64 (fdA f 8)),(.int .i64 (fdA f 9)),.nilFunc,.nilFunc,.nilFunc,.nilFunc,.nilFunc,.nilFunc,.nilFunc,.nilFunc,.nilFunc,.nilFunc,.nilFunc,.nilFunc,.nilFunc,.nilFunc,.nilFunc,.nilFunc,.nilFunc,.nilFunc,.nilFunc,.nilFunc] 29 31 124
 have HZ:=Hd hZ
 have HB3:=Hd hb3
 have HW3:=Hd hw3
 clear hX hY hZ hb3 hw3
 go_enter Tryz.func53,Tryz.ntmps53
 go_upto_region 2 with fail
 have hw3:=HW3.out
 rw[show w.heap.size+1+1=w.heap.size+2 from rfl,<-hw3]
 clear hw3
 have zl:=lt_of_block HZ.out
 have hlen:(Anf (w.heap.size+2)).length=20:=rfl
 go_wp2_with (first|(refine Aj7 rfl 122 _ _ rfl (w.heap.size+2) 17 _ rfl rfl (Anf (w.heap.size+2)) rfl (by kernel_rfl) (fun j hj=>?qa) (fun j hj=>bF HZ.out (17+j)) (fun u hu=>?qb) ?_)|fail)
 case qa=>
  rw[bC HZ.out,Array.getElem?_eq_getElem (show 17+j < 37 by rw[hlen]at hj;omega)]
  rfl
 case qb=>exact List.all_eq_true.1 (show (Anf (w.heap.size+2)).all (·.oneCell')=true from rfl) u hu
 go_ret
 refine⟨rfl,?_,But.below HB3.out (Abq _ _ _) (by omega)⟩
 have e:=Aey (Anf (w.heap.size+2)) 17 w3 _ HZ.out
 rw[Arx (w.heap.size+2) A K f D0 D1 HD0.out HD1.out]at e
 exact e
structure BelowO (ob:Option Nat)(n:Nat)(w w':World):Prop where
 os:w'.os=w.os
 tape:w'.tape=w.tape
 output:w'.output=w.output
 size:w.heap.size<=w'.heap.size
 block:∀ k,k < n->ob≠some k->w'.heap[k]?=w.heap[k]?
theorem BelowO.of_below {ob:Option Nat}{n:Nat}{w w':World}(h:Below n w w'):BelowO ob n w w':=⟨h.os,h.tape,h.output,h.size,fun k hk _=>h.block k hk⟩
theorem BelowO.below {n:Nat}{w w':World}(h:BelowO none n w w'):Below n w w':=⟨h.os,h.tape,h.output,h.size,fun k hk=>h.block k hk (fun e=>by cases e)⟩
theorem BelowO.trans {ob:Option Nat}{n:Nat}{a b c:World}(h:BelowO ob n a b)(k:BelowO ob n b c):BelowO ob n a c:=⟨k.os.trans h.os,k.tape.trans h.tape,k.output.trans h.output,Nat.le_trans h.size k.size,fun j hj hn=>(k.block j hj hn).trans (h.block j hj hn)⟩
theorem BelowO.mono {ob:Option Nat}{n m:Nat}{a b:World}(h:BelowO ob n a b)(hm:m<=n):BelowO ob m a b:=⟨h.os,h.tape,h.output,h.size,fun k hk hn=>h.block k (Nat.lt_of_lt_of_le hk hm) hn⟩
def Ahv (B g:Nat)(ob:Option Nat)(T:World->Prop)(Z:Krn×List Int×Int)(w:World)(e:Ending)(w':World):Prop:=
 e=.returned (.int .i64 Z.2.2)/\BelowO ob B w w'/\(Z.2.2=0->∃ A',Wk w' B g A' Z.1 Z.2.1)/\T w'
def Bbm (ob:Option Nat)(T:World->Prop)(Z:Krn×List Int×Int)(w:World)(e:Ending)(w':World):Prop:=
 (∃ A:KAd,e=.returned (.tuple #[.agg #[.slice A.ta Z.1.tree.length A.tc,.int .i64 Z.1.m,.int .i64 Z.1.b,.slice A.pa Z.1.pipes.length A.pc,.slice A.oa Z.1.opens.length A.oc,.string ⟨Z.1.out0.toArray⟩,.string ⟨Z.1.out1.toArray⟩],.agg #[.int .i64 (fdA Z.2.1 0),.int .i64 (fdA Z.2.1 1),.int .i64 (fdA Z.2.1 2),.int .i64 (fdA Z.2.1 3),.int .i64 (fdA Z.2.1 4),.int .i64 (fdA Z.2.1 5),.int .i64 (fdA Z.2.1 6),.int .i64 (fdA Z.2.1 7),.int .i64 (fdA Z.2.1 8),.int .i64 (fdA Z.2.1 9)],.int .i64 Z.2.2])/\KernIn w' A Z.1/\Aj9 w.heap.size A)/\BelowO ob w.heap.size w w'/\T w'
theorem ldo (fid:Nat)(caps:Array Value)(ent:∀ (args:Array Value) (W:World),(callFunc fid args).run Tryz.prog W=.ok (.enter fid args) W)(ob:Option Nat)(T:World->Prop)(A:KAd)(K:Krn)(f:List Int)(Z:Krn×List Int×Int)(hF:FitK K f)(hZ:Z.2.2≠0->Z.1=K/\Z.2.1=f)(w:World)(hK:KernIn w A K)(hKO:∀ W':World,BelowO ob w.heap.size w W'->T W'->KernIn W' A K)
  (hob:∀ k,ob=some k->k < w.heap.size) (hT:∀ W W':World,(∀ k,ob=some k->W'.heap[k]?=W.heap[k]?)->T W->T W')
  (hCl:∀ B g A' W,w.heap.size<=B->B<=W.heap.size->Below w.heap.size w W->Wk W B g A' K f->Calls Tryz.prog fid (#[.pointer (some ⟨g,0,none⟩)] ++ caps) W (Ahv B g ob T Z W)) :
  Calls Tryz.prog 36 #[.agg #[.slice A.ta K.tree.length A.tc,.int .i64 K.m,.int .i64 K.b,.slice A.pa K.pipes.length A.pc,.slice A.oa K.opens.length A.oc,.string ⟨K.out0.toArray⟩,.string ⟨K.out1.toArray⟩],.agg #[.int .i64 (fdA f 0),.int .i64 (fdA f 1),.int .i64 (fdA f 2),.int .i64 (fdA f 3),.int .i64 (fdA f 4),.int .i64 (fdA f 5),.int .i64 (fdA f 6),.int .i64 (fdA f 7),.int .i64 (fdA f 8),.int .i64 (fdA f 9)],.func (.func fid) #[] caps] w (Bbm ob T Z w):=by
 obtain⟨w2,hw2,hb2,hs2,hX,hY⟩:=Aan w #[.slice A.ta K.tree.length A.tc,.int .i64 K.m,.int .i64 K.b,.slice A.pa K.pipes.length A.pc,.slice A.oa K.opens.length A.oc,.string ⟨K.out0.toArray⟩,.string ⟨K.out1.toArray⟩] #[.int .i64 (fdA f 0),.int .i64 (fdA f 1),.int .i64 (fdA f 2),.int .i64 (fdA f 3),.int .i64 (fdA f 4),.int .i64 (fdA f 5),.int .i64 (fdA f 6),.int .i64 (fdA f 7),.int .i64 (fdA f 8),.int .i64 (fdA f 9)] 29 31
 obtain⟨w4,hw4,hb4,hs4,hU,hV⟩:=Aan w2 #[.slice none 0 0,.int .i64 0,.int .i64 0,.slice none 0 0,.slice none 0 0,.string ⟨#[]⟩,.string ⟨#[]⟩] #[.int .i64 0,.int .i64 0,.int .i64 0,.int .i64 0,.int .i64 0,.int .i64 0,.int .i64 0,.int .i64 0,.int .i64 0,.int .i64 0] 29 31
 have hb24:Below w.heap.size w w4:=hb2.trans (hb4.mono (by omega))
 have HK:=Hd (hK.below hb24)
 have HB4:=Hd hb24
 have HX:=Hd ((hb4.block w.heap.size (by omega)).trans hX)
 have HY:=Hd ((hb4.block (w.heap.size+1) (by omega)).trans hY)
 rw[hs2]at hU hV
 have HU:=Hd hU
 have HV:=Hd hV
 have hs44:w4.heap.size=w.heap.size+4:=by omega
 have HS4:=Hd hs44
 have HSS:=Hd (show ∀ W:World,W.heap[w.heap.size]?=w4.heap[w.heap.size]?->W.heap[w.heap.size+1]?=w4.heap[w.heap.size+1]?->(W.cell? ⟨w.heap.size,0,none⟩=some (.slice A.ta K.tree.length A.tc)/\W.cell? ⟨w.heap.size,1,none⟩=some (.int .i64 K.m)/\W.cell? ⟨w.heap.size,2,none⟩=some (.int .i64 K.b)/\W.cell? ⟨w.heap.size,3,none⟩=some (.slice A.pa K.pipes.length A.pc)/\W.cell? ⟨w.heap.size,4,none⟩=some (.slice A.oa K.opens.length A.oc)/\W.cell? ⟨w.heap.size,5,none⟩=some (.string ⟨K.out0.toArray⟩)/\W.cell? ⟨w.heap.size,6,none⟩=some (.string ⟨K.out1.toArray⟩))/\W.rangeAt (w.heap.size+1) 0 [.int .i64 (fdA f 0),.int .i64 (fdA f 1),.int .i64 (fdA f 2),.int .i64 (fdA f 3),.int .i64 (fdA f 4),.int .i64 (fdA f 5),.int .i64 (fdA f 6),.int .i64 (fdA f 7),.int .i64 (fdA f 8),.int .i64 (fdA f 9)]from fun W h1 h2=>by
  have a:=h1.trans HX.out
  have b:=h2.trans HY.out
  exact⟨⟨bC a 0,bC a 1,bC a 2,bC a 3,bC a 4,bC a 5,bC a 6⟩,fun j v hj=>by rw[Nat.zero_add];exact(bC b j).trans (by simpa using hj)⟩)
 have hfu:Tryz.prog.underlying 31=some (.array 10 3):=by kernel_rfl
 have hfi:(Tryz.prog.info? 31).map (·.size)=some 10:=by kernel_rfl
 obtain⟨l1,l2,l3,l4,l5⟩:=hF.tree.limits
 have hkk:∀ x∈K.tree,x.kids.length<=4096:=fun x hx=>by obtain⟨j,hj,rfl⟩:=List.getElem_of_mem hx;have:=(hF.tree.ins j hj).2.1;omega
 have hnp:=hF.np
 have hno:=hF.no
 have HCO:=Hd (fun W (h:KernIn W A K)=>Apv A K (by omega) (by omega) hkk (by omega) (by omega) W h)
 have HKO:=Hd hKO
 have HCP:=Hd (fun W (hb:Below w4.heap.size w4 W)=>Apv A K (by omega) (by omega) hkk (by omega) (by omega) W (HK.out.below hb))
 have HCL:=Hd hCl
 have HFL:=Hd hF.len
 have HZ:=Hd hZ
 have HT:=Hd hT
 have HOB:=Hd hob
 have HBB:=Hd (Below.refl w4.heap.size w4)
 have HW4:=Hd (And.intro hw2 hw4)
 clear hX hY hU hV hb2 hb4 hb24 hK hKO hF hZ hCl hT hob hw2 hw4 hs4 hs2
 go_enter Tryz.func36,Tryz.ntmps36
 go_upto_region 1 with fail
 have hw4:=HW4.out.2
 rw[HW4.out.1]at hw4
 rw[<-hw4]
 clear hw4
 obtain⟨⟨q0,q1,q2,q3,q4,q5,q6⟩,rg⟩:=HSS.out w4 rfl rfl
 have HL1:=Hd (show w.heap.size < w4.heap.size by omega)
 have HL2:=Hd (show w.heap.size+1 < w4.heap.size by omega)
 go_cut [9]from 11 (fun c wx=>∃ g A',c=.pointer (some ⟨g,0,none⟩)/\Wk wx w4.heap.size g A' K f/\Below w4.heap.size w4 wx)
 case first=>
  go_region_held3 (fun W=>(W.cell? ⟨w.heap.size,0,none⟩=some (.slice A.ta K.tree.length A.tc)/\W.cell? ⟨w.heap.size,1,none⟩=some (.int .i64 K.m)/\W.cell? ⟨w.heap.size,2,none⟩=some (.int .i64 K.b)/\W.cell? ⟨w.heap.size,3,none⟩=some (.slice A.pa K.pipes.length A.pc)/\W.cell? ⟨w.heap.size,4,none⟩=some (.slice A.oa K.opens.length A.oc)/\W.cell? ⟨w.heap.size,5,none⟩=some (.string ⟨K.out0.toArray⟩)/\W.cell? ⟨w.heap.size,6,none⟩=some (.string ⟨K.out1.toArray⟩))/\W.rangeAt (w.heap.size+1) 0 [.int .i64 (fdA f 0),.int .i64 (fdA f 1),.int .i64 (fdA f 2),.int .i64 (fdA f 3),.int .i64 (fdA f 4),.int .i64 (fdA f 5),.int .i64 (fdA f 6),.int .i64 (fdA f 7),.int .i64 (fdA f 8),.int .i64 (fdA f 9)])
   (first|exact⟨⟨q0,q1,q2,q3,q4,q5,q6⟩,rg⟩|exact HSS.out _ (HBB.out.block _ HL1.out) (HBB.out.block _ HL2.out))
   (first
    | (go_at_call 74;refine(HCP.out _ (Aac (Below.refl _ _))).mono ?_;rintro e wn ⟨A',rfl,hoo,hbn⟩;have HBB:Hid (Below w4.heap.size w4 wn):=Hd (Aaz HBB.out hbn HBB.out.size ⟨rfl,rfl,rfl,rfl⟩);have HOO:=Hd hoo;clear hoo hbn;obtain⟨⟨q0,q1,q2,q3,q4,q5,q6⟩,rg⟩:=HSS.out _ (HBB.out.block _ HL1.out) (HBB.out.block _ HL2.out))
    | (go_at_call 53;refine(At0 A' K f _).mono ?_;rintro e wm ⟨rfl,hbx,hbm⟩;have HWM:=Hd (Wk.of_owned HOO.out hbm (Nat.le_add_right _ 2) HBB.out.size hbx HFL.out);have HBB:Hid (Below w4.heap.size w4 wm):=Hd (Aaz HBB.out hbm HBB.out.size ⟨rfl,rfl,rfl,rfl⟩);clear hbx hbm;obtain⟨⟨q0,q1,q2,q3,q4,q5,q6⟩,rg⟩:=HSS.out _ (HBB.out.block _ HL1.out) (HBB.out.block _ HL2.out)))
  all_goals
   go_wp2_with fail
   go_meet
   exact⟨_,A',rfl,HWM.out,HBB.out⟩
 case rest=>
  obtain⟨g,A',rfl,hwk,hbc⟩:=hcut
  clear q0 q1 q2 q3 q4 q5 q6 rg HBB
  obtain⟨wb,hwb⟩:∃ z,z=wc:=⟨_,rfl⟩
  rw[<-hwb]at hwk hbc ⊢
  have HBC:=Hd hbc
  have hcl:=HCL.out w4.heap.size g A' wb HB4.out.size hbc.size (HB4.out.trans (hbc.mono HB4.out.size)) hwk
  have HCX:=Hd hcl
  clear hwk hbc hwb hcl
  go_wp2_with fail
  refine HCX.out.mono ?_
  rintro e wn ⟨rfl,hbo,hwk2,hT2⟩
  have HBO:=Hd hbo
  have HWK2:=Hd hwk2
  have HT2:=Hd hT2
  have hnb:∀ k,w.heap.size<=k->k < w4.heap.size->wn.heap[k]?=w4.heap[k]?:=fun k h1 h2=>(hbo.block k h2 (fun e=>by have:=HOB.out k e;omega)).trans (HBC.out.block k h2)
  have HNB:=Hd hnb
  have HU5:=Hd ((hnb (w.heap.size+2) (by omega) (by have:=HS4.out;omega)).trans HU.out)
  have HV5:=Hd ((hnb (w.heap.size+3) (by omega) (by have:=HS4.out;omega)).trans HV.out)
  obtain⟨⟨Kz,fz,er⟩,hz⟩:∃ z,Z=z:=⟨_,rfl⟩
  subst hz
  simp only at HWK2 ⊢
  clear hbo hwk2 hT2 hnb HCX
  by_cases he:er=0
  ·subst he
   obtain⟨A2,hw5⟩:=HWK2.out rfl
   have HW5:=Hd hw5
   obtain⟨g0,g1,g2,g3,g4,g5,g6⟩:=hw5.kcells
   have gl:=hw5.lt
   obtain⟨g7,g8,g9,g10,g11,g12,g13,g14,g15,g16⟩:=hw5.fds
   clear hw5
   have x0:=bC HV5.out 0
   have y0:=bF HV5.out 0
   have x1:=bC HV5.out 1
   have y1:=bF HV5.out 1
   have x2:=bC HV5.out 2
   have y2:=bF HV5.out 2
   have x3:=bC HV5.out 3
   have y3:=bF HV5.out 3
   have x4:=bC HV5.out 4
   have y4:=bF HV5.out 4
   have x5:=bC HV5.out 5
   have y5:=bF HV5.out 5
   have x6:=bC HV5.out 6
   have y6:=bF HV5.out 6
   have x7:=bC HV5.out 7
   have y7:=bF HV5.out 7
   have x8:=bC HV5.out 8
   have y8:=bF HV5.out 8
   have x9:=bC HV5.out 9
   have y9:=bF HV5.out 9
   obtain⟨u0,u1,u2,u3,u4,u5,u6⟩:=Aal HU5.out
   have v0:=bF HU5.out 0
   have v1:=bF HU5.out 1
   have v2:=bF HU5.out 2
   have v3:=bF HU5.out 3
   have v4:=bF HU5.out 4
   have v5:=bF HU5.out 5
   have v6:=bF HU5.out 6
   have ul:=lt_of_block HU5.out
   have vl:=lt_of_block HV5.out
   clear hfu hfi
   go_upto_region 5 with fail
   go_region
   obtain⟨wv,hwv,hU7,hV7,hkn,hfr,hsz,ho1,ho2,ho3⟩:=Aeq (u:=w.heap.size+2) (v:=w.heap.size+3) (by omega) (Kz:=Kz) fz HU5.out HV5.out HW5.out.kern (fun x hx=>by have:=(HW5.out.own3 (.inr (.inl ⟨x,hx,rfl⟩))).1;have:=HS4.out;omega) (fun x hx=>by have:=(HW5.out.own3 (.inr (.inr ⟨x,hx,rfl⟩))).1;have:=HS4.out;omega)
   change Exit.then _ _ _ _ (World.drew ((put7 wn (w.heap.size+2) (.slice A2.ta Kz.tree.length A2.tc) (.int .i64 Kz.m) (.int .i64 Kz.b) (.slice A2.pa Kz.pipes.length A2.pc) (.slice A2.oa Kz.opens.length A2.oc) (.string ⟨Kz.out0.toArray⟩) (.string ⟨Kz.out1.toArray⟩)).setCells (w.heap.size+3) 0 [.int .i64 (fdA fz 0),.int .i64 (fdA fz 1),.int .i64 (fdA fz 2),.int .i64 (fdA fz 3),.int .i64 (fdA fz 4),.int .i64 (fdA fz 5),.int .i64 (fdA fz 6),.int .i64 (fdA fz 7),.int .i64 (fdA fz 8),.int .i64 (fdA fz 9)]))
   rw[<-hwv]
   obtain⟨wz,hwz⟩:∃ z,z=wv.drew:=⟨_,rfl⟩
   have hzh:wz.heap=wv.heap:=by rw[hwz];rfl
   have hzo:wz.os=wn.os/\wz.tape=wn.tape/\wz.output=wn.output:=by rw[hwz];exact⟨ho1,ho2,ho3⟩
   have hbz:Below wv.heap.size wv wz:=by rw[hwz];exact Aac (Below.refl _ _)
   have HFR:=Hd hfr
   have HSZ:=Hd hsz
   have HZH:=Hd hzh
   have HZO:=Hd hzo
   have HKZ:=Hd (hkn.below hbz)
   obtain⟨c0,c1,c2,c3,c4,c5,c6⟩:=Aal (W:=wz) (g:=w.heap.size+2) (by rw[hzh];exact hU7)
   have hV8:wz.heap[w.heap.size+3]?=_:=(congrArg (fun h:Array Obj=>h[w.heap.size+3]?) hzh).trans hV7
   have d0:=bC hV8 0
   have d1:=bC hV8 1
   have d2:=bC hV8 2
   have d3:=bC hV8 3
   have d4:=bC hV8 4
   have d5:=bC hV8 5
   have d6:=bC hV8 6
   have d7:=bC hV8 7
   have d8:=bC hV8 8
   have d9:=bC hV8 9
   rw[<-hwz]
   clear hwz hzh hzo hbz hU7 hV7 hV8 hwv hkn hfr hsz ho1 ho2 ho3
   go_wp2_with fail
   have hfr:∀ k,k≠w.heap.size+2->k≠w.heap.size+3->wz.heap[k]?=wn.heap[k]?:=fun k h1 h2=>by rw[HZH.out];exact HFR.out k h1 h2
   have hb5:BelowO ob w.heap.size wn wz:=⟨HZO.out.1,HZO.out.2.1,HZO.out.2.2,by rw[HZH.out,HSZ.out];exact Nat.le_refl _,fun k hk _=>hfr k (by omega) (by omega)⟩
   exact bodyPost_ret (v:=.tuple #[.agg #[.slice A2.ta Kz.tree.length A2.tc,.int .i64 Kz.m,.int .i64 Kz.b,.slice A2.pa Kz.pipes.length A2.pc,.slice A2.oa Kz.opens.length A2.oc,.string ⟨Kz.out0.toArray⟩,.string ⟨Kz.out1.toArray⟩],.agg #[.int .i64 (fdA fz 0),.int .i64 (fdA fz 1),.int .i64 (fdA fz 2),.int .i64 (fdA fz 3),.int .i64 (fdA fz 4),.int .i64 (fdA fz 5),.int .i64 (fdA fz 6),.int .i64 (fdA fz 7),.int .i64 (fdA fz 8),.int .i64 (fdA fz 9)],.int .i64 0]) (by simp[results,Tryz.results36,go_sem,c0,c1,c2,c3,c4,c5,c6,d0,d1,d2,d3,d4,d5,d6,d7,d8,d9]) rfl ⟨⟨A2,rfl,HKZ.out,⟨fun x hx=>by have:=(HW5.out.own3 (.inr (.inl ⟨x,hx,rfl⟩))).1;have:=HS4.out;omega,fun x hx=>by have:=(HW5.out.own3 (.inr (.inr ⟨x,hx,rfl⟩))).1;have:=HS4.out;omega⟩⟩,((BelowO.of_below (HB4.out.trans (HBC.out.mono HB4.out.size))).trans (HBO.out.mono HB4.out.size)).trans hb5,HT.out wn wz (fun k hk=>hfr k (by have:=HOB.out k hk;omega) (by have:=HOB.out k hk;omega)) HT2.out⟩
  ·have heb:(er != 0)=true:=by simpa using he
   obtain⟨hz1,hz2⟩:=HZ.out he
   have hz1':K=Kz:=hz1.symm
   have hz2':f=fz:=hz2.symm
   subst hz1' hz2'
   have HBW:=Hd ((BelowO.of_below (HB4.out.trans (HBC.out.mono HB4.out.size))).trans (HBO.out.mono HB4.out.size))
   have HKW:=Hd (HKO.out wn HBW.out HT2.out)
   have HBN:=Hd (Below.refl wn.heap.size wn)
   have hs0:w.heap.size+4<=wn.heap.size:=by have:=HS4.out;have:=HBC.out.size;have:=HBO.out.size;omega
   have HL0:=Hd hs0
   have HSN:=Hd (show ∀ W:World,W.heap[w.heap.size]?=wn.heap[w.heap.size]?->W.heap[w.heap.size+1]?=wn.heap[w.heap.size+1]?->(W.cell? ⟨w.heap.size,0,none⟩=some (.slice A.ta K.tree.length A.tc)/\W.cell? ⟨w.heap.size,1,none⟩=some (.int .i64 K.m)/\W.cell? ⟨w.heap.size,2,none⟩=some (.int .i64 K.b)/\W.cell? ⟨w.heap.size,3,none⟩=some (.slice A.pa K.pipes.length A.pc)/\W.cell? ⟨w.heap.size,4,none⟩=some (.slice A.oa K.opens.length A.oc)/\W.cell? ⟨w.heap.size,5,none⟩=some (.string ⟨K.out0.toArray⟩)/\W.cell? ⟨w.heap.size,6,none⟩=some (.string ⟨K.out1.toArray⟩))/\W.rangeAt (w.heap.size+1) 0 [.int .i64 (fdA f 0),.int .i64 (fdA f 1),.int .i64 (fdA f 2),.int .i64 (fdA f 3),.int .i64 (fdA f 4),.int .i64 (fdA f 5),.int .i64 (fdA f 6),.int .i64 (fdA f 7),.int .i64 (fdA f 8),.int .i64 (fdA f 9)]from fun W h1 h2=>HSS.out W (h1.trans (HNB.out _ (by omega) (by have:=HS4.out;omega))) (h2.trans (HNB.out _ (by omega) (by have:=HS4.out;omega))))
   obtain⟨⟨q0,q1,q2,q3,q4,q5,q6⟩,rg⟩:=HSN.out wn rfl rfl
   have hL1:=HL1.out
   have hL2:=HL2.out
   have u0:wn.heap.size=wn.heap.size:=rfl
   clear hz1 hz2 HCP HCL
   have v0:=bF HU5.out 0
   have v1:=bF HU5.out 1
   have v2:=bF HU5.out 2
   have v3:=bF HU5.out 3
   have v4:=bF HU5.out 4
   have v5:=bF HU5.out 5
   have v6:=bF HU5.out 6
   clear u0 v0 v1 v2 v3 v4 v5 v6 hL1 hL2
   have HA0:=Hd (show w.heap.size < wn.heap.size by omega)
   have HA1:=Hd (show w.heap.size+1 < wn.heap.size by omega)
   have HA2:=Hd (show w.heap.size+2 < wn.heap.size by omega)
   have HA3:=Hd (show w.heap.size+3 < wn.heap.size by omega)
   have HUN:=Hd (show ∀ W,Below wn.heap.size wn W->W.heap[w.heap.size+2]?=some (.cells #[.slice none 0 0,.int .i64 0,.int .i64 0,.slice none 0 0,.slice none 0 0,.string ⟨#[]⟩,.string ⟨#[]⟩] 29 (0,0))/\W.heap[w.heap.size+3]?=some (.cells #[.int .i64 0,.int .i64 0,.int .i64 0,.int .i64 0,.int .i64 0,.int .i64 0,.int .i64 0,.int .i64 0,.int .i64 0,.int .i64 0] 31 (0,0))from fun W hb=>⟨(hb.block _ HA2.out).trans HU5.out,(hb.block _ HA3.out).trans HV5.out⟩)
   have N02:=Hd (show w.heap.size≠w.heap.size+1+1 by omega)
   have N03:=Hd (show w.heap.size≠w.heap.size+1+1+1 by omega)
   have N12:=Hd (show w.heap.size+1≠w.heap.size+1+1 by omega)
   have N32:=Hd (show w.heap.size+1+1+1≠w.heap.size+1+1 by omega)
   have N13:=Hd (show w.heap.size+1≠w.heap.size+1+1+1 by omega)
   have HTH:=Hd (show ∀ W,Below wn.heap.size wn W->W.there (w.heap.size+1+1+1) 0 10 from fun W hb=>Avh ((hb.block _ HA3.out).trans HV5.out))
   have hone:∀ v∈([.int .i64 (fdA f 0),.int .i64 (fdA f 1),.int .i64 (fdA f 2),.int .i64 (fdA f 3),.int .i64 (fdA f 4),.int .i64 (fdA f 5),.int .i64 (fdA f 6),.int .i64 (fdA f 7),.int .i64 (fdA f 8),.int .i64 (fdA f 9)]:List Value),v.oneCell'=true:=fun v hv=>by simp at hv;rcases hv with rfl|rfl|rfl|rfl|rfl|rfl|rfl|rfl|rfl|rfl <;> rfl
   have th:=HTH.out wn (Below.refl _ _)
   go_upto_region 4 with fail
   refine wp_region_held_drew (S:=fun W=>((W.cell? ⟨w.heap.size,0,none⟩=some (.slice A.ta K.tree.length A.tc)/\W.cell? ⟨w.heap.size,1,none⟩=some (.int .i64 K.m)/\W.cell? ⟨w.heap.size,2,none⟩=some (.int .i64 K.b)/\W.cell? ⟨w.heap.size,3,none⟩=some (.slice A.pa K.pipes.length A.pc)/\W.cell? ⟨w.heap.size,4,none⟩=some (.slice A.oa K.opens.length A.oc)/\W.cell? ⟨w.heap.size,5,none⟩=some (.string ⟨K.out0.toArray⟩)/\W.cell? ⟨w.heap.size,6,none⟩=some (.string ⟨K.out1.toArray⟩))/\W.rangeAt (w.heap.size+1) 0 [.int .i64 (fdA f 0),.int .i64 (fdA f 1),.int .i64 (fdA f 2),.int .i64 (fdA f 3),.int .i64 (fdA f 4),.int .i64 (fdA f 5),.int .i64 (fdA f 6),.int .i64 (fdA f 7),.int .i64 (fdA f 8),.int .i64 (fdA f 9)])/\W.there (w.heap.size+1+1+1) 0 10) (by kernel_rfl) ?_ (fun hHeld=>?_)
   ·exact⟨⟨⟨q0,q1,q2,q3,q4,q5,q6⟩,rg⟩,th⟩
   refine wpAnyH_take (i:=0) (v:=?_) rfl (by kernel_rfl) (by kernel_rfl) (by kernel_rfl) (fun _ _ _ h=>h) (Or.inl ⟨by rfl,?hy0⟩) (by assumption) ?rest0
   case hy0=>intro W' hSw;(try dsimp only at hSw);obtain⟨⟨⟨q0,q1,q2,q3,q4,q5,q6⟩,rg⟩,th⟩:=hSw;go_simp <;> with_reducible rfl
   try simp only[Act.put,Zaa,Zab,Zac]
   refine' wpAnyH_take (i:=2) (v:=_) rfl (by kernel_rfl) (by kernel_rfl) (by kernel_rfl) (fun _ _ _ h=>h) (yieldsIf_load_mid (by rfl) _ _ rfl _ _ rfl _ _ ?hS ?hu ?hd ?hi) (by assumption) ?rest
   case hS=>intro w' hSw;(try dsimp only at hSw);exact hSw.1.2
   case hu=>exact hfu
   case hd=>rfl
   case hi=>exact hfi
   try simp only[Act.put,Zaa,Zab,Zac]
   refine wpAnyH_take (i:=3) (v:=?_) rfl (by kernel_rfl) (by kernel_rfl) (by kernel_rfl) (fun _ _ _ h=>h) (Or.inl ⟨by rfl,?hy3⟩) (by assumption) ?rest3
   case hy3=>intro W' hSw;go_simp <;> with_reducible rfl
   try simp only[Act.put,Zaa,Zab,Zac]
   refine wpAnyH_ready (rs:=[1]) (by kernel_rfl) (by simp) ?_
   refine AllReadyH.cons rfl (fun K' hK=>?_) AllReadyH.nil
   go_simp
   refine(HCO.out _ (HKW.out.below (Aac (Below.refl _ _)))).mono ?_
   rintro e w7 ⟨A3,rfl,hoo,hbn⟩
   have hbw7:Below wn.heap.size wn w7:=Aaz (Below.refl _ _) hbn (Nat.le_refl _) ⟨rfl,rfl,rfl,rfl⟩
   have HBM:=Hd hbw7
   have HOO:=Hd hoo
   clear hoo hbn hbw7 hHeld
   obtain⟨⟨q0,q1,q2,q3,q4,q5,q6⟩,rg⟩:=HSN.out _ (HBM.out.block _ HA0.out) (HBM.out.block _ HA1.out)
   refine hK.out _ _ ⟨⟨⟨q0,q1,q2,q3,q4,q5,q6⟩,rg⟩,HTH.out _ HBM.out⟩ (fun _=>?_)
   clear hK K'
   try simp only[Act.put,Zaa,Zab,Zac]
   obtain⟨hu7,hv7⟩:=HUN.out _ HBM.out
   have HU7:=Hd hu7
   have HV7:=Hd hv7
   obtain⟨u0,u1,u2,u3,u4,u5,u6⟩:=Aal hu7
   have v0:=bF hu7 0;have v1:=bF hu7 1;have v2:=bF hu7 2;have v3:=bF hu7 3;have v4:=bF hu7 4;have v5:=bF hu7 5;have v6:=bF hu7 6
   have ul:=lt_of_block hu7
   clear hu7 hv7 q0 q1 q2 q3 q4 q5 q6 rg th
   refine wpAnyH_ready (rs:=[4]) (by kernel_rfl) (by simp) ?_
   refine AllReadyH.cons rfl (fun K' hK=>?_) AllReadyH.nil
   go_simp
   refine hK.out _ _ ⟨HSN.out _ ((Afj N02.out).trans (HBM.out.block _ HA0.out)) ((Afj N12.out).trans (HBM.out.block _ HA1.out)),Aih (Afj N32.out) (HTH.out _ HBM.out)⟩ (fun _=>?_)
   clear hK K' u0 u1 u2 u3 u4 u5 u6 v0 v1 v2 v3 v4 v5 v6 ul
   try simp only[Act.put,Zaa,Zab,Zac]
   obtain⟨w8,hw8⟩:∃ z,z=(((((((w7.setCell ⟨w.heap.size+1+1,0,none⟩ (.slice A3.ta K.tree.length A3.tc)).setCell ⟨w.heap.size+1+1,1,none⟩ (.int .i64 K.m)).setCell ⟨w.heap.size+1+1,2,none⟩ (.int .i64 K.b)).setCell ⟨w.heap.size+1+1,3,none⟩ (.slice A3.pa K.pipes.length A3.pc)).setCell ⟨w.heap.size+1+1,4,none⟩ (.slice A3.oa K.opens.length A3.oc)).setCell ⟨w.heap.size+1+1,5,none⟩ (.string ⟨K.out0.toArray⟩)).setCell ⟨w.heap.size+1+1,6,none⟩ (.string ⟨K.out1.toArray⟩)):=⟨_,rfl⟩
   rw[<-hw8]
   have h80:w8.heap[w.heap.size]?=wn.heap[w.heap.size]?:=by rw[hw8];exact(Afj N02.out).trans (HBM.out.block _ HA0.out)
   have h81:w8.heap[w.heap.size+1]?=wn.heap[w.heap.size+1]?:=by rw[hw8];exact(Afj N12.out).trans (HBM.out.block _ HA1.out)
   have h83:w8.there (w.heap.size+1+1+1) 0 10:=by rw[hw8];exact Aih (Afj N32.out) (HTH.out _ HBM.out)
   have HW8:=Hd hw8
   clear hw8
   refine wpAnyH_ready (rs:=[5]) (by kernel_rfl) (by simp) ?_
   refine AllReadyH.cons rfl (fun K' hK=>?_) AllReadyH.nil
   rw[if_pos (by rfl)]
   refine wp_store_mid _ _ _ rfl _ _ (List.toArray _) rfl rfl h83 hfi (all_oneCell_toArray hone) ?_
   simp only[Act.put,Zaa,Zab,Zac,List.toList_toArray]
   refine hK.out _ _ ⟨HSN.out _ ((Ap8 N03.out).trans h80) ((Ap8 N13.out).trans h81),World.there_setCells h83 _ _ _⟩ (fun hHeld=>?_)
   clear hK K'
   try simp only[Act.put,Zaa,Zab,Zac]
   refine wpAnyH_take (i:=6) (v:=?_) rfl (by kernel_rfl) (by kernel_rfl) (by kernel_rfl) (fun _ _ _ h=>h) (Or.inl ⟨by rfl,?hy6⟩) hHeld ?rest6
   case hy6=>intro W' hSw;go_simp <;> with_reducible rfl
   try simp only[Act.put,Zaa,Zab,Zac]
   refine wpAnyH_done (by kernel_rfl) ?_ _
   clear hHeld h80 h81 h83
   rw[HW8.out]
   have hbl:∀ x,(A3.pa=some x∨A3.oa=some x)->wn.heap.size<=x.block:=fun x hx=>by
    rcases hx with hx|hx
    ·exact(Abf HOO.out.own.pipes x hx).elim fun go h=>by rw[h.1];exact h.2.1
    ·exact(Abf HOO.out.own.opens x hx).elim fun go h=>by rw[h.1];exact h.2.1
   obtain⟨wv,hwv,hU8,hV8,hkn,hfr,hsz,ho1,ho2,ho3⟩:=Aeq (u:=w.heap.size+2) (v:=w.heap.size+3) (by omega) (Kz:=K) f HU7.out HV7.out HOO.out.kern (fun x hx=>by have:=hbl x (.inl hx);omega) (fun x hx=>by have:=hbl x (.inr hx);omega)
   change Exit.then _ _ _ _ ((put7 w7 (w.heap.size+2) (.slice A3.ta K.tree.length A3.tc) (.int .i64 K.m) (.int .i64 K.b) (.slice A3.pa K.pipes.length A3.pc) (.slice A3.oa K.opens.length A3.oc) (.string ⟨K.out0.toArray⟩) (.string ⟨K.out1.toArray⟩)).setCells (w.heap.size+3) 0 [.int .i64 (fdA f 0),.int .i64 (fdA f 1),.int .i64 (fdA f 2),.int .i64 (fdA f 3),.int .i64 (fdA f 4),.int .i64 (fdA f 5),.int .i64 (fdA f 6),.int .i64 (fdA f 7),.int .i64 (fdA f 8),.int .i64 (fdA f 9)])
   rw[<-hwv]
   have HFR:=Hd hfr
   have HKZ:=Hd hkn
   have HBL:=Hd hbl
   have HZO:=Hd (And.intro hsz (And.intro ho1 (And.intro ho2 ho3)))
   have c0:=bC hU8 0
   have c1:=bC hU8 1
   have c2:=bC hU8 2
   have c3:=bC hU8 3
   have c4:=bC hU8 4
   have c5:=bC hU8 5
   have c6:=bC hU8 6
   have d0:=bC hV8 0
   have d1:=bC hV8 1
   have d2:=bC hV8 2
   have d3:=bC hV8 3
   have d4:=bC hV8 4
   have d5:=bC hV8 5
   have d6:=bC hV8 6
   have d7:=bC hV8 7
   have d8:=bC hV8 8
   have d9:=bC hV8 9
   clear hwv hkn hfr hsz ho1 ho2 ho3 hU8 hV8 hbl
   go_wp2_with fail
   have hfr:∀ k,k < wn.heap.size->k≠w.heap.size+2->k≠w.heap.size+3->wv.heap[k]?=wn.heap[k]?:=fun k h0 h1 h2=>(HFR.out k h1 h2).trans (HBM.out.block k h0)
   have hb5:BelowO ob w.heap.size wn wv:=⟨HZO.out.2.1.trans HBM.out.os,HZO.out.2.2.1.trans HBM.out.tape,HZO.out.2.2.2.trans HBM.out.output,by rw[HZO.out.1];exact HBM.out.size,fun k hk _=>hfr k (by have:=HL0.out;omega) (by omega) (by omega)⟩
   exact bodyPost_ret (v:=.tuple #[.agg #[.slice A3.ta K.tree.length A3.tc,.int .i64 K.m,.int .i64 K.b,.slice A3.pa K.pipes.length A3.pc,.slice A3.oa K.opens.length A3.oc,.string ⟨K.out0.toArray⟩,.string ⟨K.out1.toArray⟩],.agg #[.int .i64 (fdA f 0),.int .i64 (fdA f 1),.int .i64 (fdA f 2),.int .i64 (fdA f 3),.int .i64 (fdA f 4),.int .i64 (fdA f 5),.int .i64 (fdA f 6),.int .i64 (fdA f 7),.int .i64 (fdA f 8),.int .i64 (fdA f 9)],.int .i64 er]) (by simp[results,Tryz.results36,go_sem,c0,c1,c2,c3,c4,c5,c6,d0,d1,d2,d3,d4,d5,d6,d7,d8,d9]) rfl ⟨⟨A3,rfl,HKZ.out,⟨fun x hx=>by have:=HBL.out x (.inl hx);have:=HL0.out;omega,fun x hx=>by have:=HBL.out x (.inr hx);have:=HL0.out;omega⟩⟩,HBW.out.trans hb5,HT.out wn wv (fun k hk=>hfr k (by have:=HOB.out k hk;have:=HL0.out;omega) (by have:=HOB.out k hk;omega) (by have:=HOB.out k hk;omega)) HT2.out⟩
theorem An1 (a:Option Addr)(cap:Nat)(m b cwd q:Int)(pb:ByteArray)(hp:pb.size<=1073741824)(L:List Ino)(hF:FitP L m b)(L':List Ino)(kz ez:Int)(hz:Adr L cwd pb.data.toList q=(L',kz,ez))(w:World)(hN:Aad w a cap L) :
  Calls Tryz.prog 122 #[.agg #[.slice a L.length cap,.int .i64 m,.int .i64 b],.int .i64 cwd,.string pb,.int .i64 q] w (Ar4 w.heap.size w m b L' [.int .i64 kz,.int .i64 ez]):=by
 obtain⟨w2,hw2,hb2,hs2,hA,hQ,hB⟩:=Aj1 w #[.slice a L.length cap,.int .i64 m,.int .i64 b] #[.int .i64 q] #[.slice none 0 0,.int .i64 0,.int .i64 0] 24 3 24
 obtain⟨l1,l2,l3,l4,l5⟩:=hF.limits
 have hL0:0 < L.length:=by omega
 have hL1:L.length<=256:=by omega
 have HF:=Hd hF
 have HN2:=Hd (hN.below hb2)
 have HZ:=Hd hz
 have HB2:=Hd hb2
 have HK:=Hd (show ∀ x∈L,x.kids.length<=4096 from fun x hx=>by obtain⟨j,hj,rfl⟩:=List.getElem_of_mem hx;have:=(hF.ins j hj).2.1;omega)
 have HR:=Hd (show ∀ W,Below w2.heap.size w2 W->W.heap[w.heap.size+2]?=some (.cells #[.slice none 0 0,.int .i64 0,.int .i64 0] 24 (0,0))from fun W hW=>(hW.block _ (by omega)).trans hB)
 have HQ:=Hd (show ∀ W,Below w2.heap.size w2 W->W.cell? ⟨w.heap.size+1,0,none⟩=some (.int .i64 q)from fun W hW=>bC ((hW.block (w.heap.size+1) (by omega)).trans hQ) 0)
 clear hF hN hz hb2 hA hQ hB
 have q0:=HQ.out _ (Below.refl _ _)
 cases hq:Af1 q with
 | false=>
  have HM:=Hd hq
  have hz2:=HZ.out
  unfold Adr at hz2
  rw[if_pos hq]at hz2
  simp only[Prod.mk.injEq]at hz2
  obtain⟨rfl,rfl,rfl⟩:=hz2
  clear hq
  go_enter Tryz.func122,Tryz.ntmps122
  go_wp2_with (first|(go_at_call 156;refine(Ahg _ _ HM.out _).mono ?_;rintro e w' ⟨rfl,rfl⟩)|fail)
  rw[<-hw2]
  clear hw2 q0
  refine(Adu a cap m b L hL0 (by omega) HK.out _ HN2.out).mono ?_
  rintro e w3 ⟨g,cap',vs,rfl,hO3,hb3⟩
  have HO3:=Hd hO3
  have HB3:=Hd (HB2.out.trans (hb3.mono (by omega)))
  have HRX:=Hd (HR.out w3 hb3)
  have r0:=bC HRX.out 0
  have r1:=bC HRX.out 1
  have r2:=bC HRX.out 2
  have s0:=bF HRX.out 0
  have s1:=bF HRX.out 1
  have s2:=bF HRX.out 2
  have hrl:=lt_of_block HRX.out
  clear hO3 hb3
  go_wp2_with fail
  change bodyPost _ _ _ _ _ (put3 w3 (w.heap.size+2) (.slice (some ⟨g,0,none⟩) L.length cap') (.int .i64 m) (.int .i64 b))
  obtain⟨c0,c1,c2⟩:=Aam HRX.out (.slice (some ⟨g,0,none⟩) L.length cap') (.int .i64 m) (.int .i64 b)
  obtain⟨hOF,hBF⟩:=Amd (c:=w.heap.size+2) HO3.out HB3.out (by omega) (by omega) (.slice (some ⟨g,0,none⟩) L.length cap') (.int .i64 m) (.int .i64 b)
  have HOG:=Hd hOF
  have HBG:=Hd hBF
  clear hOF hBF
  generalize put3 w3 (w.heap.size+2) (.slice (some ⟨g,0,none⟩) L.length cap') (.int .i64 m) (.int .i64 b)=wF at *
  exact bodyPost_ret (v:=.tuple #[.agg #[.slice (some ⟨g,0,none⟩) L.length cap',.int .i64 m,.int .i64 b],.int .i64 0,.int .i64 22]) (by simp[results,Tryz.results122,go_sem,c0,c1,c2]) rfl ⟨⟨g,cap',vs,rfl,HOG.out⟩,HBG.out⟩
 | true=>
  have HM:=Hd hq
  have hz2:=HZ.out
  rw[Amb HF.out cwd pb.data.toList q hq]at hz2
  clear hq
  go_enter Tryz.func122,Tryz.ntmps122
  go_wp2_with (first|(go_at_call 156;refine(Ahg _ _ HM.out _).mono ?_;rintro e w' ⟨rfl,rfl⟩)|fail)
  rw[<-hw2]
  clear hw2 q0
  have hadd:=Awi a cap m b cwd pb hp L HF.out (fun _=>Ad9 1 q [] 0) (fun _=>rfl) (fun _=>rfl) (fun _=>Nat.zero_le _) 158 #[.pointer (some ⟨w.heap.size+1,0,none⟩)] (enters_of Tryz.func158 (by kernel_rfl) rfl) w2 HN2.out (fun W d hW=>Amu d _ _ W (HQ.out W hW)) L' kz ez hz2
  have HADD:=Hd hadd
  clear hadd
  have hmf:∀ (fn:Fn) (first cap:Array Value) (w:World),(Instr.makeFunc fn first cap).run Tryz.prog w=.ok (.func fn first cap) w:=fun _ _ _ _=>rfl
  go_wp2_with fail
  refine HADD.out.mono ?_
  rintro e w3 ⟨⟨g,cap',vs,he,hO3⟩,hb3⟩
  have he':e=.returned (.tuple #[.agg #[.slice (some ⟨g,0,none⟩) L'.length cap',.int .i64 m,.int .i64 b],.int .i64 kz,.int .i64 ez]):=he
  subst he'
  have HO3:=Hd hO3
  have HB3:=Hd (HB2.out.trans (hb3.mono (by omega)))
  have HRX:=Hd (HR.out w3 hb3)
  have r0:=bC HRX.out 0
  have r1:=bC HRX.out 1
  have r2:=bC HRX.out 2
  have s0:=bF HRX.out 0
  have s1:=bF HRX.out 1
  have s2:=bF HRX.out 2
  have hrl:=lt_of_block HRX.out
  clear hO3 hb3 he
  go_wp2_with fail
  change bodyPost _ _ _ _ _ (put3 w3 (w.heap.size+2) (.slice (some ⟨g,0,none⟩) L'.length cap') (.int .i64 m) (.int .i64 b))
  obtain⟨c0,c1,c2⟩:=Aam HRX.out (.slice (some ⟨g,0,none⟩) L'.length cap') (.int .i64 m) (.int .i64 b)
  obtain⟨hOF,hBF⟩:=Amd (c:=w.heap.size+2) HO3.out HB3.out (by omega) (by omega) (.slice (some ⟨g,0,none⟩) L'.length cap') (.int .i64 m) (.int .i64 b)
  have HOG:=Hd hOF
  have HBG:=Hd hBF
  clear hOF hBF
  generalize put3 w3 (w.heap.size+2) (.slice (some ⟨g,0,none⟩) L'.length cap') (.int .i64 m) (.int .i64 b)=wF at *
  exact bodyPost_ret (v:=.tuple #[.agg #[.slice (some ⟨g,0,none⟩) L'.length cap',.int .i64 m,.int .i64 b],.int .i64 kz,.int .i64 ez]) (by simp[results,Tryz.results122,go_sem,c0,c1,c2]) rfl ⟨⟨g,cap',vs,rfl,HOG.out⟩,HBG.out⟩
end Go.Proofs.YtkdfbliiblojoaaGreatDoor
