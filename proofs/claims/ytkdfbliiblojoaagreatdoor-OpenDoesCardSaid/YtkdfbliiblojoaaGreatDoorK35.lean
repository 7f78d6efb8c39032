import Derived.Test.YtkdfbliiblojoaaGreatDoorK33
import Derived.Test.YtkdfbliiblojoaaGreatDoorK32
set_option linter.all false
set_option maxRecDepth 100000
set_option maxHeartbeats 64000000
namespace Go.Proofs.YtkdfbliiblojoaaGreatDoor
open Go Go.RowKit
structure Owned (W:World)(B:Nat)(A:KAd)(K:Krn):Prop where
 own:KOwn W B A K.pipes K.opens
 tree:∀ W',(∀ k,k < W.heap.size->(∀ x,A.pa=some x->x.block≠k)->(∀ x,A.oa=some x->x.block≠k)->W'.heap[k]?=W.heap[k]?)->Aad W' A.ta A.tc K.tree
theorem Owned.nodes {W:World}{B:Nat}{A:KAd}{K:Krn}(h:Owned W B A K):Aad W A.ta A.tc K.tree:=h.tree W fun _ _ _ _=>rfl
theorem Owned.kern {W:World}{B:Nat}{A:KAd}{K:Krn}(h:Owned W B A K):KernIn W A K:=h.own.kern h.nodes
theorem Owned.below {W W':World}{B:Nat}{A:KAd}{K:Krn}(h:Owned W B A K)(hb:Below W.heap.size W W'):Owned W' B A K:=
 ⟨h.own.below hb,fun W'' hw=>h.tree W'' fun k hk h1 h2=>(hw k (Nat.lt_of_lt_of_le hk hb.size) h1 h2).trans (hb.block k hk)⟩
theorem Wk.of_owned {W W':World}{B g:Nat}{A:KAd}{K:Krn}{f:List Int}(h:Owned W B A K)(hb:Below W.heap.size W W')(hg:W.heap.size<=g)(hB:B<=W.heap.size)(hx:W'.heap[g]?=some (.cells (wrk g A K f) 124 (0,0)))(hf:f.length=10):Wk W' B g A K f:=by
 have h':=h.below hb
 refine⟨hx,Nat.le_trans hB hg,h'.own,fun a ha=>?_,fun a ha=>?_,fun W'' hw=>h.tree W'' fun k hk h1 h2=>(hw k (Nat.lt_of_lt_of_le hk hb.size) (fun h3=>?_)).trans (hb.block k hk),hf⟩
 ·obtain⟨go,rfl,-,hlt⟩:=Abf h.own.pipes a ha
  show go≠g
  omega
 ·obtain⟨go,rfl,-,hlt⟩:=Abf h.own.opens a ha
  show go≠g
  omega
 ·rcases h3 with e|⟨x,hx,e⟩|⟨x,hx,e⟩
  ·omega
  ·exact h1 x hx e
  ·exact h2 x hx e
theorem Apv (A:KAd)(K:Krn)(hF0:0 < K.tree.length)(hF1:K.tree.length<=1000)(hF2:∀ x∈K.tree,x.kids.length<=4096)(hp:K.pipes.length<=1000)(ho:K.opens.length<=1000)(w:World)(hK:KernIn w A K) :
  Calls Tryz.prog 74 #[.agg #[.slice A.ta K.tree.length A.tc,.int .i64 K.m,.int .i64 K.b,.slice A.pa K.pipes.length A.pc,.slice A.oa K.opens.length A.oc,.string ⟨K.out0.toArray⟩,.string ⟨K.out1.toArray⟩]] w fun e w'=>∃ A':KAd,e=.returned (.agg #[.slice A'.ta K.tree.length A'.tc,.int .i64 K.m,.int .i64 K.b,.slice A'.pa K.pipes.length A'.pc,.slice A'.oa K.opens.length A'.oc,.string ⟨K.out0.toArray⟩,.string ⟨K.out1.toArray⟩])/\Owned w' w.heap.size A' K/\Below w.heap.size w w':=by
 obtain⟨D0,hD0⟩:∃ D:ByteArray,D=⟨K.out0.toArray⟩:=⟨_,rfl⟩
 obtain⟨D1,hD1⟩:∃ D:ByteArray,D=⟨K.out1.toArray⟩:=⟨_,rfl⟩
 rw[<-hD0,<-hD1]
 clear hD0 hD1
 obtain⟨w2,hw2,hb2,hs2,hX,hY⟩:=Aan w #[.slice A.ta K.tree.length A.tc,.int .i64 K.m,.int .i64 K.b,.slice A.pa K.pipes.length A.pc,.slice A.oa K.opens.length A.oc,.string D0,.string D1] #[.slice none 0 0,.int .i64 0,.int .i64 0,.slice none 0 0,.slice none 0 0,.string ⟨#[]⟩,.string ⟨#[]⟩] 29 29
 have HK0:=Hd hK
 have HK:=Hd (hK.below hb2)
 have HB2:=Hd hb2
 have HX:=Hd hX
 have HY:=Hd hY
 clear hK hb2 hX hY
 obtain⟨q0,q1,q2,q3,q4,q5,q6⟩:=Aal HX.out
 have s0:=bF HX.out 0
 have s1:=bF HX.out 1
 have s2:=bF HX.out 2
 have ql:=lt_of_block HX.out
 rw[hw2]at q0 q1 q2 q3 q4 q5 q6 s0 s1 s2 ql
 go_enter Tryz.func74,Tryz.ntmps74
 go_wp2_with fail
 rw[<-hw2]
 clear hw2 q0 q1 q2 q3 q4 q5 q6 s0 s1 s2 ql
 refine(Adu A.ta A.tc K.m K.b K.tree hF0 hF1 hF2 _ HK.out.tree).mono ?_
 rintro e w3 ⟨gt,ct,vs,rfl,hot,hb3⟩
 have HOT:=Hd hot
 have HB3:=Hd hb3
 have hX3:=(hb3.block w.heap.size (by omega)).trans HX.out
 have hY3:=(hb3.block (w.heap.size+1) (by omega)).trans HY.out
 have HX3:=Hd hX3
 have HY3:=Hd hY3
 clear hot hb3 hX3 hY3
 obtain⟨q0,q1,q2,q3,q4,q5,q6⟩:=Aal HX3.out
 have s0:=bF HX3.out 0
 have s1:=bF HX3.out 1
 have s2:=bF HX3.out 2
 have ql:=lt_of_block HX3.out
 go_upto_region 2 with fail
 obtain⟨w4,hw4⟩:∃ z,z=put3 w3 w.heap.size (.slice (some ⟨gt,0,none⟩) K.tree.length ct) (.int .i64 K.m) (.int .i64 K.b):=⟨_,rfl⟩
 change Code.wp _ _ _ _ (put3 w3 w.heap.size (.slice (some ⟨gt,0,none⟩) K.tree.length ct) (.int .i64 K.m) (.int .i64 K.b))
 have hbt:But w.heap.size w3 w4:=by rw[hw4];exact((But.set _ _ _ _).trans (But.set _ _ _ _)).trans (But.set _ _ _ _)
 have HBT:=Hd hbt
 have hX4:w4.heap[w.heap.size]?=some (.cells #[.slice (some ⟨gt,0,none⟩) K.tree.length ct,.int .i64 K.m,.int .i64 K.b,.slice A.pa K.pipes.length A.pc,.slice A.oa K.opens.length A.oc,.string D0,.string D1] 29 (0,0)):=by rw[hw4];exact Aar (Aar (Aar HX3.out 0 _) 1 _) 2 _
 have hY4:w4.heap[w.heap.size+1]?=some (.cells #[.slice none 0 0,.int .i64 0,.int .i64 0,.slice none 0 0,.slice none 0 0,.string ⟨#[]⟩,.string ⟨#[]⟩] 29 (0,0)):=(hbt.block _ (by omega)).trans HY3.out
 have hB4:Below w.heap.size w w4:=But.below (HB2.out.trans (HB3.out.mono (by omega))) hbt (Nat.le_refl _)
 have hot4:OwnT w4 w2.heap.size gt ct K.tree vs:=HOT.out.mid fun k hk _=>hbt.block k (by omega)
 have hp4:SlIn w4 A.pa K.pipes.length A.pc 4 (rowC pipF K.pipes):=HK0.out.pipes.below hB4
 have ho4:SlIn w4 A.oa K.opens.length A.oc 5 (rowC opnF K.opens):=HK0.out.opens.below hB4
 have HX4:=Hd hX4
 have HY4:=Hd hY4
 have HB4:=Hd hB4
 have HOT4:=Hd hot4
 have HP4:=Hd hp4
 have HO4:=Hd ho4
 have hs4:w2.heap.size<=w4.heap.size:=by have:=HB3.out.size;have:=hbt.size;omega
 rw[<-hw4]
 clear hw4 hbt hX4 hY4 hB4 hot4 hp4 ho4 q0 q1 q2 q3 q4 q5 q6 s0 s1 s2 ql HX3 HY3
 obtain⟨q0,q1,q2,q3,q4,q5,q6⟩:=Aal HX4.out
 have s3:=bF HX4.out 3
 have ql:=lt_of_block HX4.out
 go_wp2_with fail
 refine(An0 A.pa A.pc K.pipes (by omega) _ HP4.out).mono ?_
 rintro e w5 ⟨pa',pc',rfl,hr5,hb5⟩
 have HR5:=Hd hr5
 have HB5:=Hd hb5
 have hX5:=(hb5.block w.heap.size ql).trans HX4.out
 have HX5:=Hd hX5
 clear hr5 hb5 hX5 q0 q1 q2 q3 q4 q5 q6 s3 ql
 obtain⟨q0,q1,q2,q3,q4,q5,q6⟩:=Aal HX5.out
 have s3:=bF HX5.out 3
 have ql:=lt_of_block HX5.out
 go_upto_region 3 with fail
 obtain⟨w6,hw6⟩:∃ z,z=w5.setCell ⟨w.heap.size,3,none⟩ (.slice pa' K.pipes.length pc'):=⟨_,rfl⟩
 have hbt6:But w.heap.size w5 w6:=by rw[hw6];exact But.set _ _ _ _
 have hX6:w6.heap[w.heap.size]?=some (.cells #[.slice (some ⟨gt,0,none⟩) K.tree.length ct,.int .i64 K.m,.int .i64 K.b,.slice pa' K.pipes.length pc',.slice A.oa K.opens.length A.oc,.string D0,.string D1] 29 (0,0)):=by rw[hw6];exact Aar HX5.out 3 _
 have HX6:=Hd hX6
 have HBT6:=Hd hbt6
 have hs6:w4.heap.size<=w6.heap.size:=by have:=HB5.out.size;have:=hbt6.size;omega
 have HB6:=Hd (show Below w.heap.size w w6 from But.below (HB4.out.trans (HB5.out.mono HB4.out.size)) hbt6 (Nat.le_refl _))
 have HO6:=Hd (show SlIn w6 A.oa K.opens.length A.oc 5 (rowC opnF K.opens)from HK0.out.opens.below HB6.out)
 rw[<-hw6]
 clear hw6 hbt6 hX6 q0 q1 q2 q3 q4 q5 q6 s3 ql
 obtain⟨q0,q1,q2,q3,q4,q5,q6⟩:=Aal HX6.out
 have s4:=bF HX6.out 4
 have ql:=lt_of_block HX6.out
 go_wp2_with fail
 refine(Anz A.oa A.oc K.opens (by omega) _ HO6.out).mono ?_
 rintro e w7 ⟨oa',oc',rfl,hr7,hb7⟩
 have HR7:=Hd hr7
 have HB7:=Hd hb7
 have hX7:=(hb7.block w.heap.size ql).trans HX6.out
 have HX7:=Hd hX7
 clear hr7 hb7 hX7 q0 q1 q2 q3 q4 q5 q6 s4 ql
 obtain⟨q0,q1,q2,q3,q4,q5,q6⟩:=Aal HX7.out
 have s4:=bF HX7.out 4
 have ql:=lt_of_block HX7.out
 go_upto_region 4 with fail
 obtain⟨w8,hw8⟩:∃ z,z=w7.setCell ⟨w.heap.size,4,none⟩ (.slice oa' K.opens.length oc'):=⟨_,rfl⟩
 have hbt8:But w.heap.size w7 w8:=by rw[hw8];exact But.set _ _ _ _
 have hX8:w8.heap[w.heap.size]?=some (.cells #[.slice (some ⟨gt,0,none⟩) K.tree.length ct,.int .i64 K.m,.int .i64 K.b,.slice pa' K.pipes.length pc',.slice oa' K.opens.length oc',.string D0,.string D1] 29 (0,0)):=by rw[hw8];exact Aar HX7.out 4 _
 have hY8:w8.heap[w.heap.size+1]?=some (.cells #[.slice none 0 0,.int .i64 0,.int .i64 0,.slice none 0 0,.slice none 0 0,.string ⟨#[]⟩,.string ⟨#[]⟩] 29 (0,0)):=
  (hbt8.block _ (by omega)).trans ((HB7.out.block _ (by omega)).trans ((HBT6.out.block _ (by omega)).trans ((HB5.out.block _ (by omega)).trans HY4.out)))
 have HX8:=Hd hX8
 have HY8:=Hd hY8
 have HBT8:=Hd hbt8
 rw[<-hw8]
 clear hw8 hbt8 hX8 hY8 q0 q1 q2 q3 q4 q5 q6 s4 ql
 obtain⟨q0,q1,q2,q3,q4,q5,q6⟩:=Aal HX8.out
 have r0:=bC HY8.out 0
 have r1:=bC HY8.out 1
 have r2:=bC HY8.out 2
 have r3:=bC HY8.out 3
 have r4:=bC HY8.out 4
 have r5:=bC HY8.out 5
 have r6:=bC HY8.out 6
 have s0:=bF HY8.out 0
 have s1:=bF HY8.out 1
 have s2:=bF HY8.out 2
 have s3:=bF HY8.out 3
 have s4:=bF HY8.out 4
 have s5:=bF HY8.out 5
 have s6:=bF HY8.out 6
 have ql:=lt_of_block HY8.out
 go_wp2_with fail
 change bodyPost _ _ _ _ _ (put7 w8 (w.heap.size+1) (.slice (some ⟨gt,0,none⟩) K.tree.length ct) (.int .i64 K.m) (.int .i64 K.b) (.slice pa' K.pipes.length pc') (.slice oa' K.opens.length oc') (.string D0) (.string D1))
 obtain⟨c0,c1,c2,c3,c4,c5,c6⟩:=Aal (Ac4 HY8.out (.slice (some ⟨gt,0,none⟩) K.tree.length ct) (.int .i64 K.m) (.int .i64 K.b) (.slice pa' K.pipes.length pc') (.slice oa' K.opens.length oc') (.string D0) (.string D1))
 have hup:∀ k,w2.heap.size<=k->k < w4.heap.size->(put7 w8 (w.heap.size+1) (.slice (some ⟨gt,0,none⟩) K.tree.length ct) (.int .i64 K.m) (.int .i64 K.b) (.slice pa' K.pipes.length pc') (.slice oa' K.opens.length oc') (.string D0) (.string D1)).heap[k]?=w4.heap[k]?:=fun k h1 h2=>by
  rw[Acg (show k≠w.heap.size+1 by omega),HBT8.out.block k (by omega),HB7.out.block k (by omega),HBT6.out.block k (by omega),HB5.out.block k h2]
 have hrp:w6.ownsRow w4.heap.size 87 4 (.slice pa' K.pipes.length pc') K.pipes.length (rowC pipF K.pipes):=Aci HR5.out fun k hk=>HBT6.out.block k (by omega)
 have hrp7:=Aeb hrp HB7.out (Nat.le_refl _)
 have hoff8:∀ k,w4.heap.size<=k->(put7 w8 (w.heap.size+1) (.slice (some ⟨gt,0,none⟩) K.tree.length ct) (.int .i64 K.m) (.int .i64 K.b) (.slice pa' K.pipes.length pc') (.slice oa' K.opens.length oc') (.string D0) (.string D1)).heap[k]?=w7.heap[k]?:=fun k hk=>by
  rw[Acg (show k≠w.heap.size+1 by omega),HBT8.out.block k (by omega)]
 refine bodyPost_ret (v:=.agg #[.slice (some ⟨gt,0,none⟩) K.tree.length ct,.int .i64 K.m,.int .i64 K.b,.slice pa' K.pipes.length pc',.slice oa' K.opens.length oc',.string D0,.string D1]) (by simp[results,Tryz.results74,go_sem,c0,c1,c2,c3,c4,c5,c6]) rfl ⟨⟨some ⟨gt,0,none⟩,ct,pa',pc',oa',oc'⟩,rfl,⟨⟨Acn (Aci hrp7 hoff8) (by omega),Acn (Aci HR7.out fun k hk=>hoff8 k (by omega)) (by omega),fun x y hx hy=>?_⟩,fun W' hw=>?_⟩,?_⟩
 ·obtain⟨ga,rfl,-,h1⟩:=Abf hrp x hx
  obtain⟨gb,rfl,h2,-⟩:=Abf HR7.out y hy
  show ga≠gb
  omega
 ·refine(HOT4.out.mid fun k h1 h2=>?_).nodesIn
  refine(hw k ?_ ?_ ?_).trans (hup k h1 h2)
  ·have e1:(put7 w8 (w.heap.size+1) (.slice (some ⟨gt,0,none⟩) K.tree.length ct) (.int .i64 K.m) (.int .i64 K.b) (.slice pa' K.pipes.length pc') (.slice oa' K.opens.length oc') (.string D0) (.string D1)).heap.size=w8.heap.size:=by simp[put7,World.setCell]
   have e2:=HBT8.out.size
   have e3:=HB7.out.size
   omega
  ·intro x hx
   obtain⟨ga,rfl,h3,-⟩:=Abf hrp x hx
   show ga≠k
   omega
  ·intro x hx
   obtain⟨gb,rfl,h3,-⟩:=Abf HR7.out x hx
   show gb≠k
   omega
 ·exact Afh (But.below (HB6.out.trans (HB7.out.mono HB6.out.size)) HBT8.out (Nat.le_refl _)) (by omega) _ _ _ _ _ _ _
theorem KOwn.storeOpn {W:World}{B:Nat}{A:KAd}{P:List Pip}{O:List Opn}(h:KOwn W B A P O){go j:Nat}(ha:A.oa=some ⟨go,0,none⟩)(hj:j < O.length)(q:Opn):KOwn (Acz W go (j * 5) (.int .i64 q.kind) (.int .i64 q.at_) (.int .i64 q.off) (.int .i64 q.flags) (.int .i64 q.refs)) B A P (O.set j q)/\Offk A W (Acz W go (j * 5) (.int .i64 q.kind) (.int .i64 q.at_) (.int .i64 q.off) (.int .i64 q.flags) (.int .i64 q.refs)):=by
 have h0:=h.opens
 rw[ha]at h0
 have h1:=Ah4 h0 j hj q
 have hb:=Ad0 W go (j * 5) (.int .i64 q.kind) (.int .i64 q.at_) (.int .i64 q.off) (.int .i64 q.flags) (.int .i64 q.refs)
 refine⟨⟨Ab8 h.pipes fun x hx=>hb.block _ (fun e=>h.apart x _ hx ha e),?_,h.apart⟩,⟨hb.os,hb.tape,hb.output,Nat.le_of_eq hb.size.symm,fun k _ _ h2=>hb.block k (fun e=>h2 _ ha e.symm)⟩⟩
 rw[ha,List.length_set]
 exact h1
theorem KOwn.storePip {W:World}{B:Nat}{A:KAd}{P:List Pip}{O:List Opn}(h:KOwn W B A P O){go i:Nat}(ha:A.pa=some ⟨go,0,none⟩)(hi:i < P.length)(q:Pip):KOwn (Acc W go (i * 4) (.string ⟨q.data.toArray⟩) (.int .i64 q.rd) (.int .i64 q.wr) (.int .i64 q.cap)) B A (P.set i q) O/\Offk A W (Acc W go (i * 4) (.string ⟨q.data.toArray⟩) (.int .i64 q.rd) (.int .i64 q.wr) (.int .i64 q.cap)):=by
 have h0:=h.pipes
 rw[ha]at h0
 have h1:=Akx h0 i hi q
 have hb:=Adh W go (i * 4) (.string ⟨q.data.toArray⟩) (.int .i64 q.rd) (.int .i64 q.wr) (.int .i64 q.cap)
 refine⟨⟨?_,Ab8 h.opens fun x hx=>hb.block _ (fun e=>h.apart _ x ha hx e.symm),h.apart⟩,⟨hb.os,hb.tape,hb.output,Nat.le_of_eq hb.size.symm,fun k _ h2 _=>hb.block k (fun e=>h2 _ ha e.symm)⟩⟩
 rw[ha,List.length_set]
 exact h1
theorem KOwn.opn {W:World}{B:Nat}{A:KAd}{P:List Pip}{O:List Opn}(h:KOwn W B A P O){j:Nat}(hj:j < O.length):∃ go,A.oa=some ⟨go,0,none⟩/\B<=go/\OpnAt W go j O[j]:=by
 obtain⟨b,o,ha,c0,c1,c2,c3,c4⟩:=(SlIn.of_row h.opens).opn j hj
 obtain⟨go,e,h1,h2⟩:=Abf h.opens _ ha
 simp only[Addr.mk.injEq]at e
 obtain⟨rfl,rfl,-⟩:=e
 rw[Nat.zero_add]at c0 c1 c2 c3 c4
 exact⟨b,ha,h1,c0,c1,c2,c3,c4,h2,Ahp h.opens ha⟩
theorem KOwn.pip {W:World}{B:Nat}{A:KAd}{P:List Pip}{O:List Opn}(h:KOwn W B A P O){i:Nat}(hi:i < P.length):∃ go,A.pa=some ⟨go,0,none⟩/\B<=go/\PipAt W go i P[i]:=by
 obtain⟨b,o,ha,c0,c1,c2,c3⟩:=(SlIn.of_row h.pipes).pip i hi
 obtain⟨go,e,h1,h2⟩:=Abf h.pipes _ ha
 simp only[Addr.mk.injEq]at e
 obtain⟨rfl,rfl,-⟩:=e
 rw[Nat.zero_add]at c0 c1 c2 c3
 exact⟨b,ha,h1,c0,c1,c2,c3,h2,Ahp h.pipes ha⟩
theorem KOwn.but {W W':World}{B c:Nat}{A:KAd}{P:List Pip}{O:List Opn}(h:KOwn W B A P O)(hb:But c W W')(hp:∀ x,A.pa=some x->x.block≠c)(ho:∀ x,A.oa=some x->x.block≠c):KOwn W' B A P O:=
 ⟨Ab8 h.pipes fun x hx=>hb.block _ (hp x hx),Ab8 h.opens fun x hx=>hb.block _ (ho x hx),h.apart⟩
theorem KOwn.lt {W:World}{B:Nat}{A:KAd}{P:List Pip}{O:List Opn}(h:KOwn W B A P O):(∀ x,A.pa=some x->B<=x.block/\x.block < W.heap.size)/\(∀ x,A.oa=some x->B<=x.block/\x.block < W.heap.size):=by
 refine⟨fun x hx=>?_,fun x hx=>?_⟩
 ·obtain⟨go,rfl,h1,h2⟩:=Abf h.pipes x hx
  exact⟨h1,h2⟩
 ·obtain⟨go,rfl,h1,h2⟩:=Abf h.opens x hx
  exact⟨h1,h2⟩
theorem Offk.but {A:KAd}{W W' W'':World}{c:Nat}(h:Offk A W W')(hb:But c W' W'')(hc:W.heap.size<=c):Offk A W W'':=
 ⟨hb.os.trans h.os,hb.tape.trans h.tape,hb.output.trans h.output,by rw[hb.size];exact h.size,fun k hk h1 h2=>(hb.block k (by omega)).trans (h.block k hk h1 h2)⟩
theorem Offk.below {A:KAd}{W W' W'':World}(h:Offk A W W')(hb:Below W'.heap.size W' W''):Offk A W W'':=h.trans (.of_below hb)
theorem Offk.box {A:KAd}{W W':World}{c:Nat}{o:Obj}(h:Offk A W W')(hp:∀ x,A.pa=some x->x.block≠c)(ho:∀ x,A.oa=some x->x.block≠c)(hc:W.heap[c]?=some o):W'.heap[c]?=some o:=by
 refine(h.block c ?_ hp ho).trans hc
 rcases Nat.lt_or_ge c W.heap.size with h1|h1
 ·exact h1
 ·rw[Array.getElem?_eq_none h1]at hc;cases hc
theorem Ah6 {W:World}{u:Nat}{t:TypeId}{a b c d e:Value}(h:W.heap[u]?=some (.cells #[a,b,c,d,e] t (0,0)))(x y z v s:Value):(Acz W u 0 x y z v s).heap[u]?=some (.cells #[x,y,z,v,s] t (0,0)):=
 Aar (Aar (Aar (Aar (Aar h 0 x) 1 y) 2 z) 3 v) 4 s
theorem Bbg (A:KAd)(K:Krn)(f:List Int)(n B:Nat)(hf:f.length=10)(hn:n < 10)(hO:Led K f n)(hP:Al2 K)(hol:K.opens.length<=1000)(w:World)(hK:KOwn w B A K.pipes K.opens) :
  Calls Tryz.prog 44 #[.agg #[.slice A.ta K.tree.length A.tc,.int .i64 K.m,.int .i64 K.b,.slice A.pa K.pipes.length A.pc,.slice A.oa K.opens.length A.oc,.string ⟨K.out0.toArray⟩,.string ⟨K.out1.toArray⟩],.agg #[.int .i64 (fdA f 0),.int .i64 (fdA f 1),.int .i64 (fdA f 2),.int .i64 (fdA f 3),.int .i64 (fdA f 4),.int .i64 (fdA f 5),.int .i64 (fdA f 6),.int .i64 (fdA f 7),.int .i64 (fdA f 8),.int .i64 (fdA f 9)],.int .i64 (n:Int)] w fun e w'=>e=.returned (.agg #[.int .i64 (fdA (Abh K f n).2 0),.int .i64 (fdA (Abh K f n).2 1),.int .i64 (fdA (Abh K f n).2 2),.int .i64 (fdA (Abh K f n).2 3),.int .i64 (fdA (Abh K f n).2 4),.int .i64 (fdA (Abh K f n).2 5),.int .i64 (fdA (Abh K f n).2 6),.int .i64 (fdA (Abh K f n).2 7),.int .i64 (fdA (Abh K f n).2 8),.int .i64 (fdA (Abh K f n).2 9)])/\KOwn w' B A (Abh K f n).1.pipes (Abh K f n).1.opens/\Offk A w w':=by
 obtain⟨D0,hD0⟩:∃ D:ByteArray,D=⟨K.out0.toArray⟩:=⟨_,rfl⟩
 obtain⟨D1,hD1⟩:∃ D:ByteArray,D=⟨K.out1.toArray⟩:=⟨_,rfl⟩
 rw[<-hD0,<-hD1]
 clear hD0 hD1
 obtain⟨w3,hw3,hb3,hs3,hX,hY,hZ⟩:=Aec w #[.slice A.ta K.tree.length A.tc,.int .i64 K.m,.int .i64 K.b,.slice A.pa K.pipes.length A.pc,.slice A.oa K.opens.length A.oc,.string D0,.string D1] #[.int .i64 (fdA f 0),.int .i64 (fdA f 1),.int .i64 (fdA f 2),.int .i64 (fdA f 3),.int .i64 (fdA f 4),.int .i64 (fdA f 5),.int .i64 (fdA f 6),.int .i64 (fdA f 7),.int .i64 (fdA f 8),.int .i64 (fdA f 9)] #[.int .i64 0,.int .i64 0,.int .i64 0,.int .i64 0,.int .i64 0,.int .i64 0,.int .i64 0,.int .i64 0,.int .i64 0,.int .i64 0] 29 31 31
 have HK:=Hd (hK.below hb3)
 have HLT:=Hd hK.lt
 have HX:=Hd hX
 have HY:=Hd hY
 have HZ:=Hd hZ
 have HB3:=Hd hb3
 have HS3:=Hd hs3
 have HFP:=Hd hP
 have HFL:=Hd hf
 have h1:(0:Int)<=(n:Int):=by omega
 have h2:(n:Int) < 10:=by omega
 have cn:=(bC hY n).trans (Ajd f n hn)
 have fn_:=bF hY n
 have yl:=lt_of_block hY
 clear hX hY hZ hK hb3 hP hs3
 by_cases h0:fdA f n=0
 ·have HS:=Hd (show Abh K f n=(K,f)from if_pos h0)
  rw[h0]at cn
  rw[HS.out]
  clear h0 hO
  rw[hw3]at cn
  go_enter Tryz.func44,Tryz.ntmps44
  go_upto_region 2 with fail
  rw[<-hw3]
  clear cn hw3 fn_ yl
  have c0:=bC HY.out 0
  have c1:=bC HY.out 1
  have c2:=bC HY.out 2
  have c3:=bC HY.out 3
  have c4:=bC HY.out 4
  have c5:=bC HY.out 5
  have c6:=bC HY.out 6
  have c7:=bC HY.out 7
  have c8:=bC HY.out 8
  have c9:=bC HY.out 9
  have z0:=bC HZ.out 0
  have z1:=bC HZ.out 1
  have z2:=bC HZ.out 2
  have z3:=bC HZ.out 3
  have z4:=bC HZ.out 4
  have z5:=bC HZ.out 5
  have z6:=bC HZ.out 6
  have z7:=bC HZ.out 7
  have z8:=bC HZ.out 8
  have z9:=bC HZ.out 9
  have y0:=bF HZ.out 0
  have y1:=bF HZ.out 1
  have y2:=bF HZ.out 2
  have y3:=bF HZ.out 3
  have y4:=bF HZ.out 4
  have y5:=bF HZ.out 5
  have y6:=bF HZ.out 6
  have y7:=bF HZ.out 7
  have y8:=bF HZ.out 8
  have y9:=bF HZ.out 9
  have yl:=lt_of_block HZ.out
  go_wp2_with fail
  have t0:=Afk HZ.out f
  have t1:But (w.heap.size+2) w3 (w3.setCells (w.heap.size+2) 0 [.int .i64 (fdA f 0),.int .i64 (fdA f 1),.int .i64 (fdA f 2),.int .i64 (fdA f 3),.int .i64 (fdA f 4),.int .i64 (fdA f 5),.int .i64 (fdA f 6),.int .i64 (fdA f 7),.int .i64 (fdA f 8),.int .i64 (fdA f 9)]):=Abq _ _ _
  have t2:=t1.below HB3.out (by omega)
  obtain⟨wz,hwz⟩:∃ z,z=w3.setCells (w.heap.size+2) 0 [.int .i64 (fdA f 0),.int .i64 (fdA f 1),.int .i64 (fdA f 2),.int .i64 (fdA f 3),.int .i64 (fdA f 4),.int .i64 (fdA f 5),.int .i64 (fdA f 6),.int .i64 (fdA f 7),.int .i64 (fdA f 8),.int .i64 (fdA f 9)]:=⟨_,rfl⟩
  change bodyPost _ _ _ _ _ (w3.setCells (w.heap.size+2) 0 [.int .i64 (fdA f 0),.int .i64 (fdA f 1),.int .i64 (fdA f 2),.int .i64 (fdA f 3),.int .i64 (fdA f 4),.int .i64 (fdA f 5),.int .i64 (fdA f 6),.int .i64 (fdA f 7),.int .i64 (fdA f 8),.int .i64 (fdA f 9)])
  rw[<-hwz]at t0 t1 t2 ⊢
  have hk3:=HK.out
  have d0:=bC t0 0
  have d1:=bC t0 1
  have d2:=bC t0 2
  have d3:=bC t0 3
  have d4:=bC t0 4
  have d5:=bC t0 5
  have d6:=bC t0 6
  have d7:=bC t0 7
  have d8:=bC t0 8
  have d9:=bC t0 9
  exact bodyPost_ret (v:=.agg #[.int .i64 (fdA f 0),.int .i64 (fdA f 1),.int .i64 (fdA f 2),.int .i64 (fdA f 3),.int .i64 (fdA f 4),.int .i64 (fdA f 5),.int .i64 (fdA f 6),.int .i64 (fdA f 7),.int .i64 (fdA f 8),.int .i64 (fdA f 9)]) (by simp[results,Tryz.results44,go_sem,d0,d1,d2,d3,d4,d5,d6,d7,d8,d9]) rfl ⟨rfl,hk3.but t1 (fun x hx=>by have:=(HLT.out.1 x hx).2;omega) (fun x hx=>by have:=(HLT.out.2 x hx).2;omega),.of_below t2⟩
 have hO':∃ j:Nat,∃ hj:j < K.opens.length,fdA f n=(j:Int)+1/\K.opens[j].kind≠0/\Ad7 K.tree K.pipes.length K.opens[j]=true/\1<=K.opens[j].refs/\K.opens[j].refs<=1000:=hO.resolve_left h0
 obtain⟨j,hj,e1,e2,e3,e4,e5⟩:=hO'
 have HS:=Hd (show Abh K f n=(Abg K j,f.set n 0) by
  unfold Abh
  rw[if_neg (show ¬ f.getD n 0=0 from h0),show f.getD n 0=(j:Int)+1 from e1,show ((j:Int)+1 - 1).toNat=j by omega])
 rw[HS.out]
 obtain⟨r,hr⟩:∃ r:Int,K.opens[j].refs=r:=⟨_,rfl⟩
 have HR:=Hd hr
 rw[hr]at e4 e5
 have HKB:=Hd e3
 have HKN:=Hd e2
 have b2:(0:Int)<=(j:Int):=by omega
 have b3:(j:Int) < (K.opens.length:Int):=by omega
 have hjb:((j:Int)+1 == 0)=false:=by rw[beq_eq_false_iff_ne];omega
 have hwr:IntKind.i64.wrap ((j:Int)+1 - 1)=(j:Int):=by rw[IntKind.wrap_i64];omega
 have hrw:IntKind.i64.wrap (r - 1)=r - 1:=by rw[IntKind.wrap_i64];omega
 rw[e1]at cn
 clear h0 hO e1 e2 e3 hr
 have cn0:=cn
 rw[hw3]at cn0
 go_enter Tryz.func44,Tryz.ntmps44
 go_upto_region 3 with fail
 rw[<-hw3]
 clear hw3 cn0
 have q4:=bC HX.out 4
 go_upto_region 5 with fail
 obtain⟨w4,hw4⟩:∃ z,z=w3.setCell ⟨w.heap.size+1,n,none⟩ (.int .i64 0):=⟨_,rfl⟩
 rw[<-hw4]
 have hbt4:But (w.heap.size+1) w3 w4:=by rw[hw4];exact But.set ..
 have hlp:∀ x,A.pa=some x->x.block < w.heap.size:=fun x hx=>(HLT.out.1 x hx).2
 have hlo:∀ x,A.oa=some x->x.block < w.heap.size:=fun x hx=>(HLT.out.2 x hx).2
 have HLP:=Hd hlp
 have HLO:=Hd hlo
 have HK4:=Hd (HK.out.but hbt4 (fun x hx=>by have:=hlp x hx;omega) (fun x hx=>by have:=hlo x hx;omega))
 have HX4:=Hd ((hbt4.block w.heap.size (by omega)).trans HX.out)
 have HY4:=Hd (show w4.heap[w.heap.size+1]?=some (.cells #[.int .i64 (fdA (f.set n 0) 0),.int .i64 (fdA (f.set n 0) 1),.int .i64 (fdA (f.set n 0) 2),.int .i64 (fdA (f.set n 0) 3),.int .i64 (fdA (f.set n 0) 4),.int .i64 (fdA (f.set n 0) 5),.int .i64 (fdA (f.set n 0) 6),.int .i64 (fdA (f.set n 0) 7),.int .i64 (fdA (f.set n 0) 8),.int .i64 (fdA (f.set n 0) 9)] 31 (0,0))from by
  have h:=Aar HY.out n (.int .i64 0)
  rw[Ax7 f HFL.out n hn 0]at h
  rw[hw4]
  exact h)
 have HZ4:=Hd ((hbt4.block (w.heap.size+2) (by omega)).trans HZ.out)
 have HS4:=Hd (show w4.heap.size=w.heap.size+3 from hbt4.size.trans HS3.out)
 have HB4:=Hd (show Below w.heap.size w w4 from But.below HB3.out hbt4 (by omega))
 clear hw4 hbt4 cn fn_ yl q4 hlp hlo
 obtain⟨go,ha,hgo,hOA⟩:=HK4.out.opn hj
 obtain⟨x0,x1,x2,x3,x4,xl,xf⟩:=hOA
 rw[HR.out]at x4
 have HA:=Hd ha
 have HGL:=Hd (show go < w.heap.size from HLO.out _ ha)
 have q4:=bC HX4.out 4
 rw[ha]at q4
 have ql:=lt_of_block HX4.out
 obtain⟨o,ho⟩:∃ o,o=K.opens[j]:=⟨_,rfl⟩
 have HO:=Hd ho
 rw[<-ho]at x0 x1 x2 x3
 have HRO:Hid (o.refs=r):=Hd (by rw[ho];exact HR.out)
 have HKk:Hid (Ad7 K.tree K.pipes.length o=true):=Hd (by rw[ho];exact HKB.out)
 have HKn:Hid (o.kind≠0):=Hd (by rw[ho];exact HKN.out)
 clear ho ha
 obtain⟨kd,at_,off,fl,rf⟩:=o
 simp only at x0 x1 x2 x3
 have f0:=xf (j * 5)
 have f1:=xf (j * 5+1)
 have f2:=xf (j * 5+2)
 have f3:=xf (j * 5+3)
 have f4:=xf (j * 5+4)
 have HF:=Hd (And.intro f0 (And.intro f1 (And.intro f2 (And.intro f3 f4))))
 clear f0 f1 f2 f3 f4 xf
 go_upto_region 7 with fail
 obtain⟨w5,hw5⟩:∃ z,z=w4.alloc (.cells #[.int .i64 kd,.int .i64 at_,.int .i64 off,.int .i64 fl,.int .i64 (r - 1)] 70):=⟨_,rfl⟩
 rw[<-hw5]
 have hb5:Below w4.heap.size w4 w5:=by rw[hw5];exact Aab w4 _
 have hds:w4.heap.size=w.heap.size+3:=HS4.out
 have HX:=Hd ((hb5.block w.heap.size (by have:=HS4.out;omega)).trans HX4.out)
 have HY:=Hd ((hb5.block (w.heap.size+1) (by have:=HS4.out;omega)).trans HY4.out)
 have HZ:=Hd ((hb5.block (w.heap.size+2) (by have:=HS4.out;omega)).trans HZ4.out)
 have HD:=Hd (show w5.heap[w.heap.size+3]?=some (.cells #[.int .i64 kd,.int .i64 at_,.int .i64 off,.int .i64 fl,.int .i64 (r - 1)] 70 (0,0)) by rw[hw5,<-HS4.out];exact Aag w4 _)
 have HKW:=Hd (HK4.out.below hb5)
 have HOF:Hid (Offk A w w5):=Hd (.of_below (HB4.out.trans (hb5.mono HB4.out.size)))
 clear hw5 hb5 x0 x1 x2 x3 x4 xl q4 ql HX4 HY4 HZ4 HK4 HF
 have HKL:=Hd (show K.opens[j]=⟨kd,at_,off,fl,rf⟩from HO.out.symm)
 have HRR:=Hd (show rf=r from HRO.out)
 have d0:=bC HD.out 0
 have d1:=bC HD.out 1
 have d2:=bC HD.out 2
 have d3:=bC HD.out 3
 have d4:=bC HD.out 4
 have dl:=lt_of_block HD.out
 by_cases hr1:r - 1=0
 case neg=>
  have hrb:(r - 1 == 0)=false:=by rw[beq_eq_false_iff_ne];exact hr1
  have HLS:=Hd (show Abg K j={ K with opens:=K.opens.set j ⟨kd,at_,off,fl,r - 1⟩ } by
   unfold Abg
   rw[Abx _ j hj,HKL.out]
   simp only
   rw[HRR.out,if_neg hr1])
  clear hr1
  go_upto_region 11 with fail
  clear d0 d1 d2 d3 d4 dl
  obtain⟨go,ha,hgo,hoa⟩:=HKW.out.opn hj
  have x0:=hoa.kind
  have x1:=hoa.at_
  have x2:=hoa.off
  have x3:=hoa.flags
  have x4:=hoa.refs
  have f0:=hoa.free (j * 5)
  have f1:=hoa.free (j * 5+1)
  have f2:=hoa.free (j * 5+2)
  have f3:=hoa.free (j * 5+3)
  have f4:=hoa.free (j * 5+4)
  have xl:=hoa.lt
  have q4:=bC HX.out 4
  rw[ha]at q4
  have ql:=lt_of_block HX.out
  have d0:=bC HD.out 0
  have d1:=bC HD.out 1
  have d2:=bC HD.out 2
  have d3:=bC HD.out 3
  have d4:=bC HD.out 4
  have dl:=lt_of_block HD.out
  have hgl:go < w.heap.size:=(HLT.out.2 _ ha).2
  obtain⟨hk6,ho6⟩:=HKW.out.storeOpn ha hj ⟨kd,at_,off,fl,(r - 1)⟩
  obtain⟨w8,hw8⟩:∃ z,z=Acz w5 go (j * 5) (.int .i64 kd) (.int .i64 at_) (.int .i64 off) (.int .i64 fl) (.int .i64 (r - 1)):=⟨_,rfl⟩
  rw[<-hw8]at hk6 ho6
  have HKW:=Hd hk6
  have HX:=Hd (ho6.box (fun x hx e=>by have:=HLT.out.1 x hx;omega) (fun x hx e=>by have:=HLT.out.2 x hx;omega) HX.out)
  have HY:=Hd (ho6.box (fun x hx e=>by have:=HLT.out.1 x hx;omega) (fun x hx e=>by have:=HLT.out.2 x hx;omega) HY.out)
  have HZ:=Hd (ho6.box (fun x hx e=>by have:=HLT.out.1 x hx;omega) (fun x hx e=>by have:=HLT.out.2 x hx;omega) HZ.out)
  have HOF:=Hd (HOF.out.trans ho6)
  clear hoa hk6 ho6
  go_upto_region 12 with fail
  change Code.wp _ _ _ _ (Acz w5 go (j * 5) (.int .i64 kd) (.int .i64 at_) (.int .i64 off) (.int .i64 fl) (.int .i64 (r - 1)))
  rw[<-hw8]
  clear hw8 x0 x1 x2 x3 x4 f0 f1 f2 f3 f4 xl q4 ql d0 d1 d2 d3 d4 dl
  have c0:=bC HY.out 0
  have c1:=bC HY.out 1
  have c2:=bC HY.out 2
  have c3:=bC HY.out 3
  have c4:=bC HY.out 4
  have c5:=bC HY.out 5
  have c6:=bC HY.out 6
  have c7:=bC HY.out 7
  have c8:=bC HY.out 8
  have c9:=bC HY.out 9
  have z0:=bC HZ.out 0
  have z1:=bC HZ.out 1
  have z2:=bC HZ.out 2
  have z3:=bC HZ.out 3
  have z4:=bC HZ.out 4
  have z5:=bC HZ.out 5
  have z6:=bC HZ.out 6
  have z7:=bC HZ.out 7
  have z8:=bC HZ.out 8
  have z9:=bC HZ.out 9
  have y0:=bF HZ.out 0
  have y1:=bF HZ.out 1
  have y2:=bF HZ.out 2
  have y3:=bF HZ.out 3
  have y4:=bF HZ.out 4
  have y5:=bF HZ.out 5
  have y6:=bF HZ.out 6
  have y7:=bF HZ.out 7
  have y8:=bF HZ.out 8
  have y9:=bF HZ.out 9
  have cl:=lt_of_block HY.out
  have yl:=lt_of_block HZ.out
  go_wp2_with fail
  have t0:=Afk HZ.out (f.set n 0)
  have t1:But (w.heap.size+2) w8 (w8.setCells (w.heap.size+2) 0 [.int .i64 (fdA (f.set n 0) 0),.int .i64 (fdA (f.set n 0) 1),.int .i64 (fdA (f.set n 0) 2),.int .i64 (fdA (f.set n 0) 3),.int .i64 (fdA (f.set n 0) 4),.int .i64 (fdA (f.set n 0) 5),.int .i64 (fdA (f.set n 0) 6),.int .i64 (fdA (f.set n 0) 7),.int .i64 (fdA (f.set n 0) 8),.int .i64 (fdA (f.set n 0) 9)]):=Abq _ _ _
  obtain⟨wz,hwz⟩:∃ z,z=w8.setCells (w.heap.size+2) 0 [.int .i64 (fdA (f.set n 0) 0),.int .i64 (fdA (f.set n 0) 1),.int .i64 (fdA (f.set n 0) 2),.int .i64 (fdA (f.set n 0) 3),.int .i64 (fdA (f.set n 0) 4),.int .i64 (fdA (f.set n 0) 5),.int .i64 (fdA (f.set n 0) 6),.int .i64 (fdA (f.set n 0) 7),.int .i64 (fdA (f.set n 0) 8),.int .i64 (fdA (f.set n 0) 9)]:=⟨_,rfl⟩
  change bodyPost _ _ _ _ _ (w8.setCells (w.heap.size+2) 0 [.int .i64 (fdA (f.set n 0) 0),.int .i64 (fdA (f.set n 0) 1),.int .i64 (fdA (f.set n 0) 2),.int .i64 (fdA (f.set n 0) 3),.int .i64 (fdA (f.set n 0) 4),.int .i64 (fdA (f.set n 0) 5),.int .i64 (fdA (f.set n 0) 6),.int .i64 (fdA (f.set n 0) 7),.int .i64 (fdA (f.set n 0) 8),.int .i64 (fdA (f.set n 0) 9)])
  rw[<-hwz]at t0 t1 ⊢
  have e0:=bC t0 0
  have e1:=bC t0 1
  have e2:=bC t0 2
  have e3:=bC t0 3
  have e4:=bC t0 4
  have e5:=bC t0 5
  have e6:=bC t0 6
  have e7:=bC t0 7
  have e8:=bC t0 8
  have e9:=bC t0 9
  rw[HLS.out]
  exact bodyPost_ret (v:=.agg #[.int .i64 (fdA (f.set n 0) 0),.int .i64 (fdA (f.set n 0) 1),.int .i64 (fdA (f.set n 0) 2),.int .i64 (fdA (f.set n 0) 3),.int .i64 (fdA (f.set n 0) 4),.int .i64 (fdA (f.set n 0) 5),.int .i64 (fdA (f.set n 0) 6),.int .i64 (fdA (f.set n 0) 7),.int .i64 (fdA (f.set n 0) 8),.int .i64 (fdA (f.set n 0) 9)]) (by simp[results,Tryz.results44,go_sem,e0,e1,e2,e3,e4,e5,e6,e7,e8,e9]) rfl ⟨rfl,HKW.out.but t1 (fun x hx e=>by have:=HLT.out.1 x hx;omega) (fun x hx e=>by have:=HLT.out.2 x hx;omega),HOF.out.but t1 (by omega)⟩
 rw[hr1]at d4
 by_cases hk23:kd=2∨kd=3
 case neg=>
  have hk2:(kd == 2)=false:=by rw[beq_eq_false_iff_ne];exact fun e=>hk23 (.inl e)
  have hk3:(kd == 3)=false:=by rw[beq_eq_false_iff_ne];exact fun e=>hk23 (.inr e)
  have HLS:=Hd (show Abg K j={ K with opens:=K.opens.set j ⟨0,0,0,0,0⟩ } by
   unfold Abg
   rw[Abx _ j hj,HKL.out]
   simp only
   rw[HRR.out,if_pos hr1,if_neg hk23]
   rfl)
  clear hk23
  go_upto_region 10 with fail
  clear d0 d1 d2 d3 d4 dl
  have hb7:=Ad0 w5 (w.heap.size+3) 0 (.int .i64 0) (.int .i64 0) (.int .i64 0) (.int .i64 0) (.int .i64 0)
  have hd7:=Ah6 HD.out (.int .i64 0) (.int .i64 0) (.int .i64 0) (.int .i64 0) (.int .i64 0)
  obtain⟨w7,hw7⟩:∃ z,z=Acz w5 (w.heap.size+3) 0 (.int .i64 0) (.int .i64 0) (.int .i64 0) (.int .i64 0) (.int .i64 0):=⟨_,rfl⟩
  rw[<-hw7]at hb7 hd7
  have d0:=bC HD.out 0
  have d1:=bC HD.out 1
  have d2:=bC HD.out 2
  have d3:=bC HD.out 3
  have d4:=bC HD.out 4
  have g0:=bF HD.out 0
  have g1:=bF HD.out 1
  have g2:=bF HD.out 2
  have g3:=bF HD.out 3
  have g4:=bF HD.out 4
  have dl:=lt_of_block HD.out
  have HX:=Hd ((hb7.block w.heap.size (by omega)).trans HX.out)
  have HY:=Hd ((hb7.block (w.heap.size+1) (by omega)).trans HY.out)
  have HZ:=Hd ((hb7.block (w.heap.size+2) (by omega)).trans HZ.out)
  have HD:=Hd hd7
  have HKW:=Hd (HKW.out.but hb7 (fun x hx e=>by have:=HLT.out.1 x hx;omega) (fun x hx e=>by have:=HLT.out.2 x hx;omega))
  have HOF:=Hd (HOF.out.but hb7 (by omega))
  clear hb7 hd7
  go_upto_region 11 with fail
  change Code.wp _ _ _ _ (Acz w5 (w.heap.size+3) 0 (.int .i64 0) (.int .i64 0) (.int .i64 0) (.int .i64 0) (.int .i64 0))
  rw[<-hw7]
  clear hw7 d0 d1 d2 d3 d4 g0 g1 g2 g3 g4 dl
  obtain⟨go,ha,hgo,hoa⟩:=HKW.out.opn hj
  have x0:=hoa.kind
  have x1:=hoa.at_
  have x2:=hoa.off
  have x3:=hoa.flags
  have x4:=hoa.refs
  have f0:=hoa.free (j * 5)
  have f1:=hoa.free (j * 5+1)
  have f2:=hoa.free (j * 5+2)
  have f3:=hoa.free (j * 5+3)
  have f4:=hoa.free (j * 5+4)
  have xl:=hoa.lt
  have q4:=bC HX.out 4
  rw[ha]at q4
  have ql:=lt_of_block HX.out
  have d0:=bC HD.out 0
  have d1:=bC HD.out 1
  have d2:=bC HD.out 2
  have d3:=bC HD.out 3
  have d4:=bC HD.out 4
  have dl:=lt_of_block HD.out
  have hgl:go < w.heap.size:=(HLT.out.2 _ ha).2
  obtain⟨hk6,ho6⟩:=HKW.out.storeOpn ha hj ⟨0,0,0,0,0⟩
  obtain⟨w8,hw8⟩:∃ z,z=Acz w7 go (j * 5) (.int .i64 0) (.int .i64 0) (.int .i64 0) (.int .i64 0) (.int .i64 0):=⟨_,rfl⟩
  rw[<-hw8]at hk6 ho6
  have HKW:=Hd hk6
  have HX:=Hd (ho6.box (fun x hx e=>by have:=HLT.out.1 x hx;omega) (fun x hx e=>by have:=HLT.out.2 x hx;omega) HX.out)
  have HY:=Hd (ho6.box (fun x hx e=>by have:=HLT.out.1 x hx;omega) (fun x hx e=>by have:=HLT.out.2 x hx;omega) HY.out)
  have HZ:=Hd (ho6.box (fun x hx e=>by have:=HLT.out.1 x hx;omega) (fun x hx e=>by have:=HLT.out.2 x hx;omega) HZ.out)
  have HOF:=Hd (HOF.out.trans ho6)
  clear hoa hk6 ho6
  go_upto_region 12 with fail
  change Code.wp _ _ _ _ (Acz w7 go (j * 5) (.int .i64 0) (.int .i64 0) (.int .i64 0) (.int .i64 0) (.int .i64 0))
  rw[<-hw8]
  clear hw8 x0 x1 x2 x3 x4 f0 f1 f2 f3 f4 xl q4 ql d0 d1 d2 d3 d4 dl
  have c0:=bC HY.out 0
  have c1:=bC HY.out 1
  have c2:=bC HY.out 2
  have c3:=bC HY.out 3
  have c4:=bC HY.out 4
  have c5:=bC HY.out 5
  have c6:=bC HY.out 6
  have c7:=bC HY.out 7
  have c8:=bC HY.out 8
  have c9:=bC HY.out 9
  have z0:=bC HZ.out 0
  have z1:=bC HZ.out 1
  have z2:=bC HZ.out 2
  have z3:=bC HZ.out 3
  have z4:=bC HZ.out 4
  have z5:=bC HZ.out 5
  have z6:=bC HZ.out 6
  have z7:=bC HZ.out 7
  have z8:=bC HZ.out 8
  have z9:=bC HZ.out 9
  have y0:=bF HZ.out 0
  have y1:=bF HZ.out 1
  have y2:=bF HZ.out 2
  have y3:=bF HZ.out 3
  have y4:=bF HZ.out 4
  have y5:=bF HZ.out 5
  have y6:=bF HZ.out 6
  have y7:=bF HZ.out 7
  have y8:=bF HZ.out 8
  have y9:=bF HZ.out 9
  have cl:=lt_of_block HY.out
  have yl:=lt_of_block HZ.out
  go_wp2_with fail
  have t0:=Afk HZ.out (f.set n 0)
  have t1:But (w.heap.size+2) w8 (w8.setCells (w.heap.size+2) 0 [.int .i64 (fdA (f.set n 0) 0),.int .i64 (fdA (f.set n 0) 1),.int .i64 (fdA (f.set n 0) 2),.int .i64 (fdA (f.set n 0) 3),.int .i64 (fdA (f.set n 0) 4),.int .i64 (fdA (f.set n 0) 5),.int .i64 (fdA (f.set n 0) 6),.int .i64 (fdA (f.set n 0) 7),.int .i64 (fdA (f.set n 0) 8),.int .i64 (fdA (f.set n 0) 9)]):=Abq _ _ _
  obtain⟨wz,hwz⟩:∃ z,z=w8.setCells (w.heap.size+2) 0 [.int .i64 (fdA (f.set n 0) 0),.int .i64 (fdA (f.set n 0) 1),.int .i64 (fdA (f.set n 0) 2),.int .i64 (fdA (f.set n 0) 3),.int .i64 (fdA (f.set n 0) 4),.int .i64 (fdA (f.set n 0) 5),.int .i64 (fdA (f.set n 0) 6),.int .i64 (fdA (f.set n 0) 7),.int .i64 (fdA (f.set n 0) 8),.int .i64 (fdA (f.set n 0) 9)]:=⟨_,rfl⟩
  change bodyPost _ _ _ _ _ (w8.setCells (w.heap.size+2) 0 [.int .i64 (fdA (f.set n 0) 0),.int .i64 (fdA (f.set n 0) 1),.int .i64 (fdA (f.set n 0) 2),.int .i64 (fdA (f.set n 0) 3),.int .i64 (fdA (f.set n 0) 4),.int .i64 (fdA (f.set n 0) 5),.int .i64 (fdA (f.set n 0) 6),.int .i64 (fdA (f.set n 0) 7),.int .i64 (fdA (f.set n 0) 8),.int .i64 (fdA (f.set n 0) 9)])
  rw[<-hwz]at t0 t1 ⊢
  have e0:=bC t0 0
  have e1:=bC t0 1
  have e2:=bC t0 2
  have e3:=bC t0 3
  have e4:=bC t0 4
  have e5:=bC t0 5
  have e6:=bC t0 6
  have e7:=bC t0 7
  have e8:=bC t0 8
  have e9:=bC t0 9
  rw[HLS.out]
  exact bodyPost_ret (v:=.agg #[.int .i64 (fdA (f.set n 0) 0),.int .i64 (fdA (f.set n 0) 1),.int .i64 (fdA (f.set n 0) 2),.int .i64 (fdA (f.set n 0) 3),.int .i64 (fdA (f.set n 0) 4),.int .i64 (fdA (f.set n 0) 5),.int .i64 (fdA (f.set n 0) 6),.int .i64 (fdA (f.set n 0) 7),.int .i64 (fdA (f.set n 0) 8),.int .i64 (fdA (f.set n 0) 9)]) (by simp[results,Tryz.results44,go_sem,e0,e1,e2,e3,e4,e5,e6,e7,e8,e9]) rfl ⟨rfl,HKW.out.but t1 (fun x hx e=>by have:=HLT.out.1 x hx;omega) (fun x hx e=>by have:=HLT.out.2 x hx;omega),HOF.out.but t1 (by omega)⟩
 have hat:∃ i:Nat,∃ _:i < K.pipes.length,at_=(i:Int):=by
  have h:=HKk.out
  unfold Ad7 at h
  rcases hk23 with rfl|rfl
  ·simp at h
   obtain⟨⟨i,hi,h2⟩,-⟩:=Amc.1 h.1
   exact⟨i,hi,h2⟩
  ·simp at h
   obtain⟨⟨i,hi,h2⟩,-⟩:=Amc.1 h.1
   exact⟨i,hi,h2⟩
 obtain⟨i,hi,rfl⟩:=hat
 rcases hk23 with rfl|rfl
 ·have HLS:=Hd (show Abg K j={ K with pipes:=K.pipes.set i (Aak K.pipes[i] true),opens:=K.opens.set j ⟨0,0,0,0,0⟩ } by
   unfold Abg
   rw[Abx _ j hj,HKL.out]
   simp only
   rw[HRR.out,if_pos hr1]
   simp only[Int.toNat_natCast]
   rw[Abx _ i hi]
   rfl)
  obtain⟨gp,hpa,hgp,hpp⟩:=HKW.out.pip hi
  have HPA:=Hd hpa
  have HC:=Hd (fun W=>Auq K.pipes[i] (HFP.out i hi) true W)
  have hgl:gp < w.heap.size:=(HLT.out.1 _ hpa).2
  have q3:=bC HX.out 3
  rw[hpa]at q3
  have p0:=hpp.data
  have p1:=hpp.rd
  have p2:=hpp.wr
  have p3:=hpp.cap
  have bi1:(0:Int)<=(i:Int):=by omega
  have bi2:(i:Int) < (K.pipes.length:Int):=by omega
  clear hpp hpa
  go_upto_region 9 with fail
  clear d2 d3 d4
  refine wp_region_held_drew (S:=fun W=>W.cell? ⟨w.heap.size,3,none⟩=some (.slice (some ⟨gp,0,none⟩) K.pipes.length A.pc)/\W.cell? ⟨w.heap.size+3,0,none⟩=some (.int .i64 2)/\W.cell? ⟨w.heap.size+3,1,none⟩=some (.int .i64 (i:Int))) (by kernel_rfl) ⟨q3,d0,d1⟩ (fun hHeld=>?_)
  refine wpAnyH_take (i:=0) (v:=?_) rfl (by kernel_rfl) (by kernel_rfl) (by kernel_rfl) (fun _ _ _ h=>h) (Or.inl ⟨by rfl,?hy0t⟩) hHeld ?rest0t
  case hy0t=>intro W' hSw;(try dsimp only at hSw);obtain⟨q3,d0,d1⟩:=hSw;go_simp <;> with_reducible rfl
  try simp only[Act.put,Zaa,Zab,Zac]
  refine wpAnyH_take (i:=1) (v:=?_) rfl (by kernel_rfl) (by kernel_rfl) (by kernel_rfl) (fun _ _ _ h=>h) (Or.inl ⟨by rfl,?hy1t⟩) hHeld ?rest1t
  case hy1t=>intro W' hSw;(try dsimp only at hSw);obtain⟨q3,d0,d1⟩:=hSw;go_simp <;> with_reducible rfl
  try simp only[Act.put,Zaa,Zab,Zac]
  refine wpAnyH_take (i:=2) (v:=?_) rfl (by kernel_rfl) (by kernel_rfl) (by kernel_rfl) (fun _ _ _ h=>h) (Or.inl ⟨by rfl,?hy2t⟩) hHeld ?rest2t
  case hy2t=>intro W' hSw;(try dsimp only at hSw);obtain⟨q3,d0,d1⟩:=hSw;go_simp <;> with_reducible rfl
  try simp only[Act.put,Zaa,Zab,Zac]
  refine wpAnyH_take (i:=3) (v:=?_) rfl (by kernel_rfl) (by kernel_rfl) (by kernel_rfl) (fun _ _ _ h=>h) (Or.inl ⟨by rfl,?hy3t⟩) hHeld ?rest3t
  case hy3t=>intro W' hSw;(try dsimp only at hSw);obtain⟨q3,d0,d1⟩:=hSw;go_simp <;> with_reducible rfl
  try simp only[Act.put,Zaa,Zab,Zac]
  refine wpAnyH_take (i:=4) (v:=?_) rfl (by kernel_rfl) (by kernel_rfl) (by kernel_rfl) (fun _ _ _ h=>h) (Or.inl ⟨by rfl,?hy4t⟩) hHeld ?rest4t
  case hy4t=>intro W' hSw;(try dsimp only at hSw);obtain⟨q3,d0,d1⟩:=hSw;go_simp <;> with_reducible rfl
  try simp only[Act.put,Zaa,Zab,Zac]
  refine wpAnyH_take (i:=5) (v:=?_) rfl (by kernel_rfl) (by kernel_rfl) (by kernel_rfl) (fun _ _ _ h=>h) (Or.inl ⟨by rfl,?hy5t⟩) hHeld ?rest5t
  case hy5t=>intro W' hSw;(try dsimp only at hSw);obtain⟨q3,d0,d1⟩:=hSw;go_simp <;> with_reducible rfl
  try simp only[Act.put,Zaa,Zab,Zac]
  refine wpAnyH_take (i:=6) (v:=?_) rfl (by kernel_rfl) (by kernel_rfl) (by kernel_rfl) (fun _ _ _ h=>h) (Or.inl ⟨by rfl,?hy6t⟩) hHeld ?rest6t
  case hy6t=>intro W' hSw;(try dsimp only at hSw);obtain⟨q3,d0,d1⟩:=hSw;go_simp <;> with_reducible rfl
  try simp only[Act.put,Zaa,Zab,Zac]
  refine wpAnyH_take (i:=7) (v:=?_) rfl (by kernel_rfl) (by kernel_rfl) (by kernel_rfl) (fun _ _ _ h=>h) (Or.inl ⟨by rfl,?hy7t⟩) hHeld ?rest7t
  case hy7t=>intro W' hSw;(try dsimp only at hSw);obtain⟨q3,d0,d1⟩:=hSw;go_simp <;> with_reducible rfl
  try simp only[Act.put,Zaa,Zab,Zac]
  refine wpAnyH_take (i:=8) (v:=?_) rfl (by kernel_rfl) (by kernel_rfl) (by kernel_rfl) (fun _ _ _ h=>h) (Or.inl ⟨by rfl,?hy8t⟩) hHeld ?rest8t
  case hy8t=>intro W' hSw;(try dsimp only at hSw);obtain⟨q3,d0,d1⟩:=hSw;go_simp <;> with_reducible rfl
  try simp only[Act.put,Zaa,Zab,Zac]
  refine wpAnyH_take (i:=10) (v:=?_) rfl (by kernel_rfl) (by kernel_rfl) (by kernel_rfl) (fun _ _ _ h=>h) (Or.inl ⟨by rfl,?hy10t⟩) hHeld ?rest10t
  case hy10t=>intro W' hSw;(try dsimp only at hSw);obtain⟨q3,d0,d1⟩:=hSw;go_simp <;> with_reducible rfl
  try simp only[Act.put,Zaa,Zab,Zac]
  refine wpAnyH_take (i:=11) (v:=?_) rfl (by kernel_rfl) (by kernel_rfl) (by kernel_rfl) (fun _ _ _ h=>h) (Or.inl ⟨by rfl,?hy11t⟩) hHeld ?rest11t
  case hy11t=>intro W' hSw;(try dsimp only at hSw);obtain⟨q3,d0,d1⟩:=hSw;go_simp <;> with_reducible rfl
  try simp only[Act.put,Zaa,Zab,Zac]
  refine wpAnyH_take (i:=12) (v:=?_) rfl (by kernel_rfl) (by kernel_rfl) (by kernel_rfl) (fun _ _ _ h=>h) (Or.inl ⟨by rfl,?hy12t⟩) hHeld ?rest12t
  case hy12t=>intro W' hSw;(try dsimp only at hSw);obtain⟨q3,d0,d1⟩:=hSw;go_simp <;> with_reducible rfl
  try simp only[Act.put,Zaa,Zab,Zac]
  refine wpAnyH_ready (rs:=[9]) (by kernel_rfl) (by simp) ?_
  refine AllReadyH.cons rfl (fun K' hK=>?_) AllReadyH.nil
  go_simp
  refine hK.out _ _ ⟨q3,d0,d1⟩ (fun hHeld=>?_)
  clear hK K'
  try simp only[Act.put,Zaa,Zab,Zac]
  refine wpAnyH_ready (rs:=[13]) (by kernel_rfl) (by simp) ?_
  refine AllReadyH.cons rfl (fun K' hK=>?_) AllReadyH.nil
  go_simp
  refine(HC.out _).mono ?_
  rintro e wn ⟨rfl,hbn⟩
  have hbw:Below w5.heap.size w5 wn:=Aaz (Below.refl _ _) hbn (Nat.le_refl _) ⟨rfl,rfl,rfl,rfl⟩
  have HX:=Hd ((hbw.block _ (lt_of_block HX.out)).trans HX.out)
  have HY:=Hd ((hbw.block _ (lt_of_block HY.out)).trans HY.out)
  have HZ:=Hd ((hbw.block _ (lt_of_block HZ.out)).trans HZ.out)
  have HD:=Hd ((hbw.block _ (lt_of_block HD.out)).trans HD.out)
  have HKW:=Hd (HKW.out.below hbw)
  have HOF:=Hd (HOF.out.below hbw)
  clear q3 d0 d1 dl p0 p1 p2 p3 hbn hbw
  have q3:=bC HX.out 3
  rw[HPA.out]at q3
  have d0:=bC HD.out 0
  have d1:=bC HD.out 1
  refine hK.out _ _ ⟨q3,d0,d1⟩ (fun hHeld=>?_)
  clear hK K'
  try simp only[Act.put,Zaa,Zab,Zac]
  obtain⟨gp',hpa',-,hpp⟩:=HKW.out.pip hi
  obtain rfl:gp=gp':=by have e:=HPA.out.symm.trans hpa';simpa using e
  have p0:=hpp.data
  have p1:=hpp.rd
  have p2:=hpp.wr
  have p3:=hpp.cap
  have f0:=hpp.free (i * 4)
  have f1:=hpp.free (i * 4+1)
  have f2:=hpp.free (i * 4+2)
  have f3:=hpp.free (i * 4+3)
  have pl:=hpp.lt
  refine wpAnyH_take (i:=14) (v:=?_) rfl (by kernel_rfl) (by kernel_rfl) (by kernel_rfl) (fun _ _ _ h=>h) (Or.inl ⟨by rfl,?hy14t⟩) hHeld ?rest14t
  case hy14t=>intro W' hSw;(try dsimp only at hSw);obtain⟨q3,d0,d1⟩:=hSw;go_simp <;> with_reducible rfl
  try simp only[Act.put,Zaa,Zab,Zac]
  obtain⟨hk6,ho6⟩:=HKW.out.storePip HPA.out hi (Aak K.pipes[i] true)
  have hS6:(fun W=>W.cell? ⟨w.heap.size,3,none⟩=some (.slice (some ⟨gp,0,none⟩) K.pipes.length A.pc)/\W.cell? ⟨w.heap.size+3,0,none⟩=some (.int .i64 2)/\W.cell? ⟨w.heap.size+3,1,none⟩=some (.int .i64 (i:Int))) (Acc wn gp (i * 4) (.string ⟨(Aak K.pipes[i] true).data.toArray⟩) (.int .i64 (Aak K.pipes[i] true).rd) (.int .i64 (Aak K.pipes[i] true).wr) (.int .i64 (Aak K.pipes[i] true).cap)):=by
   have hbt:=Adh wn gp (i * 4) (.string ⟨(Aak K.pipes[i] true).data.toArray⟩) (.int .i64 (Aak K.pipes[i] true).rd) (.int .i64 (Aak K.pipes[i] true).wr) (.int .i64 (Aak K.pipes[i] true).cap)
   exact⟨(World.cell?_of_block (a:=⟨w.heap.size,3,none⟩) (hbt.block w.heap.size (by omega))).trans q3,(World.cell?_of_block (a:=⟨w.heap.size+3,0,none⟩) (hbt.block (w.heap.size+3) (by omega))).trans d0,(World.cell?_of_block (a:=⟨w.heap.size+3,1,none⟩) (hbt.block (w.heap.size+3) (by omega))).trans d1⟩
  clear hpp hpa'
  refine wpAnyH_ready (rs:=[15]) (by kernel_rfl) (by simp) ?_
  refine AllReadyH.cons rfl (fun K' hK=>?_) AllReadyH.nil
  go_simp
  refine hK.out _ _ hS6 (fun hHeld=>?_)
  clear hK K'
  try simp only[Act.put,Zaa,Zab,Zac]
  refine wpAnyH_done (by kernel_rfl) ?_ _
  clear hHeld hS6 p0 p1 p2 p3 f0 f1 f2 f3 pl q3 d0 d1
  obtain⟨w6,hw6⟩:∃ z,z=Acc wn gp (i * 4) (.string ⟨(Aak K.pipes[i] true).data.toArray⟩) (.int .i64 (Aak K.pipes[i] true).rd) (.int .i64 (Aak K.pipes[i] true).wr) (.int .i64 (Aak K.pipes[i] true).cap):=⟨_,rfl⟩
  change Exit.then _ _ _ _ (Acc wn gp (i * 4) (.string ⟨(Aak K.pipes[i] true).data.toArray⟩) (.int .i64 (Aak K.pipes[i] true).rd) (.int .i64 (Aak K.pipes[i] true).wr) (.int .i64 (Aak K.pipes[i] true).cap))
  rw[<-hw6]at hk6 ho6 ⊢
  have HKW:=Hd hk6
  have HD:=Hd (ho6.box (fun x hx e=>by have:=HLT.out.1 x hx;omega) (fun x hx e=>by have:=HLT.out.2 x hx;omega) HD.out)
  have HX:=Hd (ho6.box (fun x hx e=>by have:=HLT.out.1 x hx;omega) (fun x hx e=>by have:=HLT.out.2 x hx;omega) HX.out)
  have HY:=Hd (ho6.box (fun x hx e=>by have:=HLT.out.1 x hx;omega) (fun x hx e=>by have:=HLT.out.2 x hx;omega) HY.out)
  have HZ:=Hd (ho6.box (fun x hx e=>by have:=HLT.out.1 x hx;omega) (fun x hx e=>by have:=HLT.out.2 x hx;omega) HZ.out)
  have HOF:=Hd (HOF.out.trans ho6)
  clear hk6 ho6 hw6 hgl
  go_upto_region 10 with fail
  have hb7:=Ad0 w6 (w.heap.size+3) 0 (.int .i64 0) (.int .i64 0) (.int .i64 0) (.int .i64 0) (.int .i64 0)
  have hd7:=Ah6 HD.out (.int .i64 0) (.int .i64 0) (.int .i64 0) (.int .i64 0) (.int .i64 0)
  obtain⟨w7,hw7⟩:∃ z,z=Acz w6 (w.heap.size+3) 0 (.int .i64 0) (.int .i64 0) (.int .i64 0) (.int .i64 0) (.int .i64 0):=⟨_,rfl⟩
  rw[<-hw7]at hb7 hd7
  have d0:=bC HD.out 0
  have d1:=bC HD.out 1
  have d2:=bC HD.out 2
  have d3:=bC HD.out 3
  have d4:=bC HD.out 4
  have g0:=bF HD.out 0
  have g1:=bF HD.out 1
  have g2:=bF HD.out 2
  have g3:=bF HD.out 3
  have g4:=bF HD.out 4
  have dl:=lt_of_block HD.out
  have HX:=Hd ((hb7.block w.heap.size (by omega)).trans HX.out)
  have HY:=Hd ((hb7.block (w.heap.size+1) (by omega)).trans HY.out)
  have HZ:=Hd ((hb7.block (w.heap.size+2) (by omega)).trans HZ.out)
  have HD:=Hd hd7
  have HKW:=Hd (HKW.out.but hb7 (fun x hx e=>by have:=HLT.out.1 x hx;omega) (fun x hx e=>by have:=HLT.out.2 x hx;omega))
  have HOF:=Hd (HOF.out.but hb7 (by omega))
  clear hb7 hd7
  go_upto_region 11 with fail
  change Code.wp _ _ _ _ (Acz w6 (w.heap.size+3) 0 (.int .i64 0) (.int .i64 0) (.int .i64 0) (.int .i64 0) (.int .i64 0))
  rw[<-hw7]
  clear hw7 d0 d1 d2 d3 d4 g0 g1 g2 g3 g4 dl
  obtain⟨go,ha,hgo,hoa⟩:=HKW.out.opn hj
  have x0:=hoa.kind
  have x1:=hoa.at_
  have x2:=hoa.off
  have x3:=hoa.flags
  have x4:=hoa.refs
  have f0:=hoa.free (j * 5)
  have f1:=hoa.free (j * 5+1)
  have f2:=hoa.free (j * 5+2)
  have f3:=hoa.free (j * 5+3)
  have f4:=hoa.free (j * 5+4)
  have xl:=hoa.lt
  have q4:=bC HX.out 4
  rw[ha]at q4
  have ql:=lt_of_block HX.out
  have d0:=bC HD.out 0
  have d1:=bC HD.out 1
  have d2:=bC HD.out 2
  have d3:=bC HD.out 3
  have d4:=bC HD.out 4
  have dl:=lt_of_block HD.out
  have hgl:go < w.heap.size:=(HLT.out.2 _ ha).2
  obtain⟨hk6,ho6⟩:=HKW.out.storeOpn ha hj ⟨0,0,0,0,0⟩
  obtain⟨w8,hw8⟩:∃ z,z=Acz w7 go (j * 5) (.int .i64 0) (.int .i64 0) (.int .i64 0) (.int .i64 0) (.int .i64 0):=⟨_,rfl⟩
  rw[<-hw8]at hk6 ho6
  have HKW:=Hd hk6
  have HX:=Hd (ho6.box (fun x hx e=>by have:=HLT.out.1 x hx;omega) (fun x hx e=>by have:=HLT.out.2 x hx;omega) HX.out)
  have HY:=Hd (ho6.box (fun x hx e=>by have:=HLT.out.1 x hx;omega) (fun x hx e=>by have:=HLT.out.2 x hx;omega) HY.out)
  have HZ:=Hd (ho6.box (fun x hx e=>by have:=HLT.out.1 x hx;omega) (fun x hx e=>by have:=HLT.out.2 x hx;omega) HZ.out)
  have HOF:=Hd (HOF.out.trans ho6)
  clear hoa hk6 ho6
  go_upto_region 12 with fail
  change Code.wp _ _ _ _ (Acz w7 go (j * 5) (.int .i64 0) (.int .i64 0) (.int .i64 0) (.int .i64 0) (.int .i64 0))
  rw[<-hw8]
  clear hw8 x0 x1 x2 x3 x4 f0 f1 f2 f3 f4 xl q4 ql d0 d1 d2 d3 d4 dl
  have c0:=bC HY.out 0
  have c1:=bC HY.out 1
  have c2:=bC HY.out 2
  have c3:=bC HY.out 3
  have c4:=bC HY.out 4
  have c5:=bC HY.out 5
  have c6:=bC HY.out 6
  have c7:=bC HY.out 7
  have c8:=bC HY.out 8
  have c9:=bC HY.out 9
  have z0:=bC HZ.out 0
  have z1:=bC HZ.out 1
  have z2:=bC HZ.out 2
  have z3:=bC HZ.out 3
  have z4:=bC HZ.out 4
  have z5:=bC HZ.out 5
  have z6:=bC HZ.out 6
  have z7:=bC HZ.out 7
  have z8:=bC HZ.out 8
  have z9:=bC HZ.out 9
  have y0:=bF HZ.out 0
  have y1:=bF HZ.out 1
  have y2:=bF HZ.out 2
  have y3:=bF HZ.out 3
  have y4:=bF HZ.out 4
  have y5:=bF HZ.out 5
  have y6:=bF HZ.out 6
  have y7:=bF HZ.out 7
  have y8:=bF HZ.out 8
  have y9:=bF HZ.out 9
  have cl:=lt_of_block HY.out
  have yl:=lt_of_block HZ.out
  go_wp2_with fail
  have t0:=Afk HZ.out (f.set n 0)
  have t1:But (w.heap.size+2) w8 (w8.setCells (w.heap.size+2) 0 [.int .i64 (fdA (f.set n 0) 0),.int .i64 (fdA (f.set n 0) 1),.int .i64 (fdA (f.set n 0) 2),.int .i64 (fdA (f.set n 0) 3),.int .i64 (fdA (f.set n 0) 4),.int .i64 (fdA (f.set n 0) 5),.int .i64 (fdA (f.set n 0) 6),.int .i64 (fdA (f.set n 0) 7),.int .i64 (fdA (f.set n 0) 8),.int .i64 (fdA (f.set n 0) 9)]):=Abq _ _ _
  obtain⟨wz,hwz⟩:∃ z,z=w8.setCells (w.heap.size+2) 0 [.int .i64 (fdA (f.set n 0) 0),.int .i64 (fdA (f.set n 0) 1),.int .i64 (fdA (f.set n 0) 2),.int .i64 (fdA (f.set n 0) 3),.int .i64 (fdA (f.set n 0) 4),.int .i64 (fdA (f.set n 0) 5),.int .i64 (fdA (f.set n 0) 6),.int .i64 (fdA (f.set n 0) 7),.int .i64 (fdA (f.set n 0) 8),.int .i64 (fdA (f.set n 0) 9)]:=⟨_,rfl⟩
  change bodyPost _ _ _ _ _ (w8.setCells (w.heap.size+2) 0 [.int .i64 (fdA (f.set n 0) 0),.int .i64 (fdA (f.set n 0) 1),.int .i64 (fdA (f.set n 0) 2),.int .i64 (fdA (f.set n 0) 3),.int .i64 (fdA (f.set n 0) 4),.int .i64 (fdA (f.set n 0) 5),.int .i64 (fdA (f.set n 0) 6),.int .i64 (fdA (f.set n 0) 7),.int .i64 (fdA (f.set n 0) 8),.int .i64 (fdA (f.set n 0) 9)])
  rw[<-hwz]at t0 t1 ⊢
  have e0:=bC t0 0
  have e1:=bC t0 1
  have e2:=bC t0 2
  have e3:=bC t0 3
  have e4:=bC t0 4
  have e5:=bC t0 5
  have e6:=bC t0 6
  have e7:=bC t0 7
  have e8:=bC t0 8
  have e9:=bC t0 9
  rw[HLS.out]
  exact bodyPost_ret (v:=.agg #[.int .i64 (fdA (f.set n 0) 0),.int .i64 (fdA (f.set n 0) 1),.int .i64 (fdA (f.set n 0) 2),.int .i64 (fdA (f.set n 0) 3),.int .i64 (fdA (f.set n 0) 4),.int .i64 (fdA (f.set n 0) 5),.int .i64 (fdA (f.set n 0) 6),.int .i64 (fdA (f.set n 0) 7),.int .i64 (fdA (f.set n 0) 8),.int .i64 (fdA (f.set n 0) 9)]) (by simp[results,Tryz.results44,go_sem,e0,e1,e2,e3,e4,e5,e6,e7,e8,e9]) rfl ⟨rfl,HKW.out.but t1 (fun x hx e=>by have:=HLT.out.1 x hx;omega) (fun x hx e=>by have:=HLT.out.2 x hx;omega),HOF.out.but t1 (by omega)⟩
 ·have HLS:=Hd (show Abg K j={ K with pipes:=K.pipes.set i (Aak K.pipes[i] false),opens:=K.opens.set j ⟨0,0,0,0,0⟩ } by
   unfold Abg
   rw[Abx _ j hj,HKL.out]
   simp only
   rw[HRR.out,if_pos hr1]
   simp only[Int.toNat_natCast]
   rw[Abx _ i hi]
   rfl)
  obtain⟨gp,hpa,hgp,hpp⟩:=HKW.out.pip hi
  have HPA:=Hd hpa
  have HC:=Hd (fun W=>Auq K.pipes[i] (HFP.out i hi) false W)
  have hgl:gp < w.heap.size:=(HLT.out.1 _ hpa).2
  have q3:=bC HX.out 3
  rw[hpa]at q3
  have p0:=hpp.data
  have p1:=hpp.rd
  have p2:=hpp.wr
  have p3:=hpp.cap
  have bi1:(0:Int)<=(i:Int):=by omega
  have bi2:(i:Int) < (K.pipes.length:Int):=by omega
  clear hpp hpa
  go_upto_region 9 with fail
  clear d2 d3 d4
  refine wp_region_held_drew (S:=fun W=>W.cell? ⟨w.heap.size,3,none⟩=some (.slice (some ⟨gp,0,none⟩) K.pipes.length A.pc)/\W.cell? ⟨w.heap.size+3,0,none⟩=some (.int .i64 3)/\W.cell? ⟨w.heap.size+3,1,none⟩=some (.int .i64 (i:Int))) (by kernel_rfl) ⟨q3,d0,d1⟩ (fun hHeld=>?_)
  refine wpAnyH_take (i:=0) (v:=?_) rfl (by kernel_rfl) (by kernel_rfl) (by kernel_rfl) (fun _ _ _ h=>h) (Or.inl ⟨by rfl,?hy0f⟩) hHeld ?rest0f
  case hy0f=>intro W' hSw;(try dsimp only at hSw);obtain⟨q3,d0,d1⟩:=hSw;go_simp <;> with_reducible rfl
  try simp only[Act.put,Zaa,Zab,Zac]
  refine wpAnyH_take (i:=1) (v:=?_) rfl (by kernel_rfl) (by kernel_rfl) (by kernel_rfl) (fun _ _ _ h=>h) (Or.inl ⟨by rfl,?hy1f⟩) hHeld ?rest1f
  case hy1f=>intro W' hSw;(try dsimp only at hSw);obtain⟨q3,d0,d1⟩:=hSw;go_simp <;> with_reducible rfl
  try simp only[Act.put,Zaa,Zab,Zac]
  refine wpAnyH_take (i:=2) (v:=?_) rfl (by kernel_rfl) (by kernel_rfl) (by kernel_rfl) (fun _ _ _ h=>h) (Or.inl ⟨by rfl,?hy2f⟩) hHeld ?rest2f
  case hy2f=>intro W' hSw;(try dsimp only at hSw);obtain⟨q3,d0,d1⟩:=hSw;go_simp <;> with_reducible rfl
  try simp only[Act.put,Zaa,Zab,Zac]
  refine wpAnyH_take (i:=3) (v:=?_) rfl (by kernel_rfl) (by kernel_rfl) (by kernel_rfl) (fun _ _ _ h=>h) (Or.inl ⟨by rfl,?hy3f⟩) hHeld ?rest3f
  case hy3f=>intro W' hSw;(try dsimp only at hSw);obtain⟨q3,d0,d1⟩:=hSw;go_simp <;> with_reducible rfl
  try simp only[Act.put,Zaa,Zab,Zac]
  refine wpAnyH_take (i:=4) (v:=?_) rfl (by kernel_rfl) (by kernel_rfl) (by kernel_rfl) (fun _ _ _ h=>h) (Or.inl ⟨by rfl,?hy4f⟩) hHeld ?rest4f
  case hy4f=>intro W' hSw;(try dsimp only at hSw);obtain⟨q3,d0,d1⟩:=hSw;go_simp <;> with_reducible rfl
  try simp only[Act.put,Zaa,Zab,Zac]
  refine wpAnyH_take (i:=5) (v:=?_) rfl (by kernel_rfl) (by kernel_rfl) (by kernel_rfl) (fun _ _ _ h=>h) (Or.inl ⟨by rfl,?hy5f⟩) hHeld ?rest5f
  case hy5f=>intro W' hSw;(try dsimp only at hSw);obtain⟨q3,d0,d1⟩:=hSw;go_simp <;> with_reducible rfl
  try simp only[Act.put,Zaa,Zab,Zac]
  refine wpAnyH_take (i:=6) (v:=?_) rfl (by kernel_rfl) (by kernel_rfl) (by kernel_rfl) (fun _ _ _ h=>h) (Or.inl ⟨by rfl,?hy6f⟩) hHeld ?rest6f
  case hy6f=>intro W' hSw;(try dsimp only at hSw);obtain⟨q3,d0,d1⟩:=hSw;go_simp <;> with_reducible rfl
  try simp only[Act.put,Zaa,Zab,Zac]
  refine wpAnyH_take (i:=7) (v:=?_) rfl (by kernel_rfl) (by kernel_rfl) (by kernel_rfl) (fun _ _ _ h=>h) (Or.inl ⟨by rfl,?hy7f⟩) hHeld ?rest7f
  case hy7f=>intro W' hSw;(try dsimp only at hSw);obtain⟨q3,d0,d1⟩:=hSw;go_simp <;> with_reducible rfl
  try simp only[Act.put,Zaa,Zab,Zac]
  refine wpAnyH_take (i:=8) (v:=?_) rfl (by kernel_rfl) (by kernel_rfl) (by kernel_rfl) (fun _ _ _ h=>h) (Or.inl ⟨by rfl,?hy8f⟩) hHeld ?rest8f
  case hy8f=>intro W' hSw;(try dsimp only at hSw);obtain⟨q3,d0,d1⟩:=hSw;go_simp <;> with_reducible rfl
  try simp only[Act.put,Zaa,Zab,Zac]
  refine wpAnyH_take (i:=10) (v:=?_) rfl (by kernel_rfl) (by kernel_rfl) (by kernel_rfl) (fun _ _ _ h=>h) (Or.inl ⟨by rfl,?hy10f⟩) hHeld ?rest10f
  case hy10f=>intro W' hSw;(try dsimp only at hSw);obtain⟨q3,d0,d1⟩:=hSw;go_simp <;> with_reducible rfl
  try simp only[Act.put,Zaa,Zab,Zac]
  refine wpAnyH_take (i:=11) (v:=?_) rfl (by kernel_rfl) (by kernel_rfl) (by kernel_rfl) (fun _ _ _ h=>h) (Or.inl ⟨by rfl,?hy11f⟩) hHeld ?rest11f
  case hy11f=>intro W' hSw;(try dsimp only at hSw);obtain⟨q3,d0,d1⟩:=hSw;go_simp <;> with_reducible rfl
  try simp only[Act.put,Zaa,Zab,Zac]
  refine wpAnyH_take (i:=12) (v:=?_) rfl (by kernel_rfl) (by kernel_rfl) (by kernel_rfl) (fun _ _ _ h=>h) (Or.inl ⟨by rfl,?hy12f⟩) hHeld ?rest12f
  case hy12f=>intro W' hSw;(try dsimp only at hSw);obtain⟨q3,d0,d1⟩:=hSw;go_simp <;> with_reducible rfl
  try simp only[Act.put,Zaa,Zab,Zac]
  refine wpAnyH_ready (rs:=[9]) (by kernel_rfl) (by simp) ?_
  refine AllReadyH.cons rfl (fun K' hK=>?_) AllReadyH.nil
  go_simp
  refine hK.out _ _ ⟨q3,d0,d1⟩ (fun hHeld=>?_)
  clear hK K'
  try simp only[Act.put,Zaa,Zab,Zac]
  refine wpAnyH_ready (rs:=[13]) (by kernel_rfl) (by simp) ?_
  refine AllReadyH.cons rfl (fun K' hK=>?_) AllReadyH.nil
  go_simp
  refine(HC.out _).mono ?_
  rintro e wn ⟨rfl,hbn⟩
  have hbw:Below w5.heap.size w5 wn:=Aaz (Below.refl _ _) hbn (Nat.le_refl _) ⟨rfl,rfl,rfl,rfl⟩
  have HX:=Hd ((hbw.block _ (lt_of_block HX.out)).trans HX.out)
  have HY:=Hd ((hbw.block _ (lt_of_block HY.out)).trans HY.out)
  have HZ:=Hd ((hbw.block _ (lt_of_block HZ.out)).trans HZ.out)
  have HD:=Hd ((hbw.block _ (lt_of_block HD.out)).trans HD.out)
  have HKW:=Hd (HKW.out.below hbw)
  have HOF:=Hd (HOF.out.below hbw)
  clear q3 d0 d1 dl p0 p1 p2 p3 hbn hbw
  have q3:=bC HX.out 3
  rw[HPA.out]at q3
  have d0:=bC HD.out 0
  have d1:=bC HD.out 1
  refine hK.out _ _ ⟨q3,d0,d1⟩ (fun hHeld=>?_)
  clear hK K'
  try simp only[Act.put,Zaa,Zab,Zac]
  obtain⟨gp',hpa',-,hpp⟩:=HKW.out.pip hi
  obtain rfl:gp=gp':=by have e:=HPA.out.symm.trans hpa';simpa using e
  have p0:=hpp.data
  have p1:=hpp.rd
  have p2:=hpp.wr
  have p3:=hpp.cap
  have f0:=hpp.free (i * 4)
  have f1:=hpp.free (i * 4+1)
  have f2:=hpp.free (i * 4+2)
  have f3:=hpp.free (i * 4+3)
  have pl:=hpp.lt
  refine wpAnyH_take (i:=14) (v:=?_) rfl (by kernel_rfl) (by kernel_rfl) (by kernel_rfl) (fun _ _ _ h=>h) (Or.inl ⟨by rfl,?hy14f⟩) hHeld ?rest14f
  case hy14f=>intro W' hSw;(try dsimp only at hSw);obtain⟨q3,d0,d1⟩:=hSw;go_simp <;> with_reducible rfl
  try simp only[Act.put,Zaa,Zab,Zac]
  obtain⟨hk6,ho6⟩:=HKW.out.storePip HPA.out hi (Aak K.pipes[i] false)
  have hS6:(fun W=>W.cell? ⟨w.heap.size,3,none⟩=some (.slice (some ⟨gp,0,none⟩) K.pipes.length A.pc)/\W.cell? ⟨w.heap.size+3,0,none⟩=some (.int .i64 3)/\W.cell? ⟨w.heap.size+3,1,none⟩=some (.int .i64 (i:Int))) (Acc wn gp (i * 4) (.string ⟨(Aak K.pipes[i] false).data.toArray⟩) (.int .i64 (Aak K.pipes[i] false).rd) (.int .i64 (Aak K.pipes[i] false).wr) (.int .i64 (Aak K.pipes[i] false).cap)):=by
   have hbt:=Adh wn gp (i * 4) (.string ⟨(Aak K.pipes[i] false).data.toArray⟩) (.int .i64 (Aak K.pipes[i] false).rd) (.int .i64 (Aak K.pipes[i] false).wr) (.int .i64 (Aak K.pipes[i] false).cap)
   exact⟨(World.cell?_of_block (a:=⟨w.heap.size,3,none⟩) (hbt.block w.heap.size (by omega))).trans q3,(World.cell?_of_block (a:=⟨w.heap.size+3,0,none⟩) (hbt.block (w.heap.size+3) (by omega))).trans d0,(World.cell?_of_block (a:=⟨w.heap.size+3,1,none⟩) (hbt.block (w.heap.size+3) (by omega))).trans d1⟩
  clear hpp hpa'
  refine wpAnyH_ready (rs:=[15]) (by kernel_rfl) (by simp) ?_
  refine AllReadyH.cons rfl (fun K' hK=>?_) AllReadyH.nil
  go_simp
  refine hK.out _ _ hS6 (fun hHeld=>?_)
  clear hK K'
  try simp only[Act.put,Zaa,Zab,Zac]
  refine wpAnyH_done (by kernel_rfl) ?_ _
  clear hHeld hS6 p0 p1 p2 p3 f0 f1 f2 f3 pl q3 d0 d1
  obtain⟨w6,hw6⟩:∃ z,z=Acc wn gp (i * 4) (.string ⟨(Aak K.pipes[i] false).data.toArray⟩) (.int .i64 (Aak K.pipes[i] false).rd) (.int .i64 (Aak K.pipes[i] false).wr) (.int .i64 (Aak K.pipes[i] false).cap):=⟨_,rfl⟩
  change Exit.then _ _ _ _ (Acc wn gp (i * 4) (.string ⟨(Aak K.pipes[i] false).data.toArray⟩) (.int .i64 (Aak K.pipes[i] false).rd) (.int .i64 (Aak K.pipes[i] false).wr) (.int .i64 (Aak K.pipes[i] false).cap))
  rw[<-hw6]at hk6 ho6 ⊢
  have HKW:=Hd hk6
  have HD:=Hd (ho6.box (fun x hx e=>by have:=HLT.out.1 x hx;omega) (fun x hx e=>by have:=HLT.out.2 x hx;omega) HD.out)
  have HX:=Hd (ho6.box (fun x hx e=>by have:=HLT.out.1 x hx;omega) (fun x hx e=>by have:=HLT.out.2 x hx;omega) HX.out)
  have HY:=Hd (ho6.box (fun x hx e=>by have:=HLT.out.1 x hx;omega) (fun x hx e=>by have:=HLT.out.2 x hx;omega) HY.out)
  have HZ:=Hd (ho6.box (fun x hx e=>by have:=HLT.out.1 x hx;omega) (fun x hx e=>by have:=HLT.out.2 x hx;omega) HZ.out)
  have HOF:=Hd (HOF.out.trans ho6)
  clear hk6 ho6 hw6 hgl
  go_upto_region 10 with fail
  have hb7:=Ad0 w6 (w.heap.size+3) 0 (.int .i64 0) (.int .i64 0) (.int .i64 0) (.int .i64 0) (.int .i64 0)
  have hd7:=Ah6 HD.out (.int .i64 0) (.int .i64 0) (.int .i64 0) (.int .i64 0) (.int .i64 0)
  obtain⟨w7,hw7⟩:∃ z,z=Acz w6 (w.heap.size+3) 0 (.int .i64 0) (.int .i64 0) (.int .i64 0) (.int .i64 0) (.int .i64 0):=⟨_,rfl⟩
  rw[<-hw7]at hb7 hd7
  have d0:=bC HD.out 0
  have d1:=bC HD.out 1
  have d2:=bC HD.out 2
  have d3:=bC HD.out 3
  have d4:=bC HD.out 4
  have g0:=bF HD.out 0
  have g1:=bF HD.out 1
  have g2:=bF HD.out 2
  have g3:=bF HD.out 3
  have g4:=bF HD.out 4
  have dl:=lt_of_block HD.out
  have HX:=Hd ((hb7.block w.heap.size (by omega)).trans HX.out)
  have HY:=Hd ((hb7.block (w.heap.size+1) (by omega)).trans HY.out)
  have HZ:=Hd ((hb7.block (w.heap.size+2) (by omega)).trans HZ.out)
  have HD:=Hd hd7
  have HKW:=Hd (HKW.out.but hb7 (fun x hx e=>by have:=HLT.out.1 x hx;omega) (fun x hx e=>by have:=HLT.out.2 x hx;omega))
  have HOF:=Hd (HOF.out.but hb7 (by omega))
  clear hb7 hd7
  go_upto_region 11 with fail
  change Code.wp _ _ _ _ (Acz w6 (w.heap.size+3) 0 (.int .i64 0) (.int .i64 0) (.int .i64 0) (.int .i64 0) (.int .i64 0))
  rw[<-hw7]
  clear hw7 d0 d1 d2 d3 d4 g0 g1 g2 g3 g4 dl
  obtain⟨go,ha,hgo,hoa⟩:=HKW.out.opn hj
  have x0:=hoa.kind
  have x1:=hoa.at_
  have x2:=hoa.off
  have x3:=hoa.flags
  have x4:=hoa.refs
  have f0:=hoa.free (j * 5)
  have f1:=hoa.free (j * 5+1)
  have f2:=hoa.free (j * 5+2)
  have f3:=hoa.free (j * 5+3)
  have f4:=hoa.free (j * 5+4)
  have xl:=hoa.lt
  have q4:=bC HX.out 4
  rw[ha]at q4
  have ql:=lt_of_block HX.out
  have d0:=bC HD.out 0
  have d1:=bC HD.out 1
  have d2:=bC HD.out 2
  have d3:=bC HD.out 3
  have d4:=bC HD.out 4
  have dl:=lt_of_block HD.out
  have hgl:go < w.heap.size:=(HLT.out.2 _ ha).2
  obtain⟨hk6,ho6⟩:=HKW.out.storeOpn ha hj ⟨0,0,0,0,0⟩
  obtain⟨w8,hw8⟩:∃ z,z=Acz w7 go (j * 5) (.int .i64 0) (.int .i64 0) (.int .i64 0) (.int .i64 0) (.int .i64 0):=⟨_,rfl⟩
  rw[<-hw8]at hk6 ho6
  have HKW:=Hd hk6
  have HX:=Hd (ho6.box (fun x hx e=>by have:=HLT.out.1 x hx;omega) (fun x hx e=>by have:=HLT.out.2 x hx;omega) HX.out)
  have HY:=Hd (ho6.box (fun x hx e=>by have:=HLT.out.1 x hx;omega) (fun x hx e=>by have:=HLT.out.2 x hx;omega) HY.out)
  have HZ:=Hd (ho6.box (fun x hx e=>by have:=HLT.out.1 x hx;omega) (fun x hx e=>by have:=HLT.out.2 x hx;omega) HZ.out)
  have HOF:=Hd (HOF.out.trans ho6)
  clear hoa hk6 ho6
  go_upto_region 12 with fail
  change Code.wp _ _ _ _ (Acz w7 go (j * 5) (.int .i64 0) (.int .i64 0) (.int .i64 0) (.int .i64 0) (.int .i64 0))
  rw[<-hw8]
  clear hw8 x0 x1 x2 x3 x4 f0 f1 f2 f3 f4 xl q4 ql d0 d1 d2 d3 d4 dl
  have c0:=bC HY.out 0
  have c1:=bC HY.out 1
  have c2:=bC HY.out 2
  have c3:=bC HY.out 3
  have c4:=bC HY.out 4
  have c5:=bC HY.out 5
  have c6:=bC HY.out 6
  have c7:=bC HY.out 7
  have c8:=bC HY.out 8
  have c9:=bC HY.out 9
  have z0:=bC HZ.out 0
  have z1:=bC HZ.out 1
  have z2:=bC HZ.out 2
  have z3:=bC HZ.out 3
  have z4:=bC HZ.out 4
  have z5:=bC HZ.out 5
  have z6:=bC HZ.out 6
  have z7:=bC HZ.out 7
  have z8:=bC HZ.out 8
  have z9:=bC HZ.out 9
  have y0:=bF HZ.out 0
  have y1:=bF HZ.out 1
  have y2:=bF HZ.out 2
  have y3:=bF HZ.out 3
  have y4:=bF HZ.out 4
  have y5:=bF HZ.out 5
  have y6:=bF HZ.out 6
  have y7:=bF HZ.out 7
  have y8:=bF HZ.out 8
  have y9:=bF HZ.out 9
  have cl:=lt_of_block HY.out
  have yl:=lt_of_block HZ.out
  go_wp2_with fail
  have t0:=Afk HZ.out (f.set n 0)
  have t1:But (w.heap.size+2) w8 (w8.setCells (w.heap.size+2) 0 [.int .i64 (fdA (f.set n 0) 0),.int .i64 (fdA (f.set n 0) 1),.int .i64 (fdA (f.set n 0) 2),.int .i64 (fdA (f.set n 0) 3),.int .i64 (fdA (f.set n 0) 4),.int .i64 (fdA (f.set n 0) 5),.int .i64 (fdA (f.set n 0) 6),.int .i64 (fdA (f.set n 0) 7),.int .i64 (fdA (f.set n 0) 8),.int .i64 (fdA (f.set n 0) 9)]):=Abq _ _ _
  obtain⟨wz,hwz⟩:∃ z,z=w8.setCells (w.heap.size+2) 0 [.int .i64 (fdA (f.set n 0) 0),.int .i64 (fdA (f.set n 0) 1),.int .i64 (fdA (f.set n 0) 2),.int .i64 (fdA (f.set n 0) 3),.int .i64 (fdA (f.set n 0) 4),.int .i64 (fdA (f.set n 0) 5),.int .i64 (fdA (f.set n 0) 6),.int .i64 (fdA (f.set n 0) 7),.int .i64 (fdA (f.set n 0) 8),.int .i64 (fdA (f.set n 0) 9)]:=⟨_,rfl⟩
  change bodyPost _ _ _ _ _ (w8.setCells (w.heap.size+2) 0 [.int .i64 (fdA (f.set n 0) 0),.int .i64 (fdA (f.set n 0) 1),.int .i64 (fdA (f.set n 0) 2),.int .i64 (fdA (f.set n 0) 3),.int .i64 (fdA (f.set n 0) 4),.int .i64 (fdA (f.set n 0) 5),.int .i64 (fdA (f.set n 0) 6),.int .i64 (fdA (f.set n 0) 7),.int .i64 (fdA (f.set n 0) 8),.int .i64 (fdA (f.set n 0) 9)])
  rw[<-hwz]at t0 t1 ⊢
  have e0:=bC t0 0
  have e1:=bC t0 1
  have e2:=bC t0 2
  have e3:=bC t0 3
  have e4:=bC t0 4
  have e5:=bC t0 5
  have e6:=bC t0 6
  have e7:=bC t0 7
  have e8:=bC t0 8
  have e9:=bC t0 9
  rw[HLS.out]
  exact bodyPost_ret (v:=.agg #[.int .i64 (fdA (f.set n 0) 0),.int .i64 (fdA (f.set n 0) 1),.int .i64 (fdA (f.set n 0) 2),.int .i64 (fdA (f.set n 0) 3),.int .i64 (fdA (f.set n 0) 4),.int .i64 (fdA (f.set n 0) 5),.int .i64 (fdA (f.set n 0) 6),.int .i64 (fdA (f.set n 0) 7),.int .i64 (fdA (f.set n 0) 8),.int .i64 (fdA (f.set n 0) 9)]) (by simp[results,Tryz.results44,go_sem,e0,e1,e2,e3,e4,e5,e6,e7,e8,e9]) rfl ⟨rfl,HKW.out.but t1 (fun x hx e=>by have:=HLT.out.1 x hx;omega) (fun x hx e=>by have:=HLT.out.2 x hx;omega),HOF.out.but t1 (by omega)⟩
end Go.Proofs.YtkdfbliiblojoaaGreatDoor
