import Derived.Shelf.SlicesE.Clone
import Derived.Test.YtkdfbliiblojoaaGreatDoorK16
import Derived.Deep.RegionHeld3
import Derived.Deep.RegionWith
import Derived.Deep.DrawnRows
import Derived.Test.YtkdfbliiblojoaaGreatDoorK12
import Derived.Shelf.Spec.SlicesInsertGrow
set_option linter.all false
set_option maxRecDepth 100000
set_option maxHeartbeats 64000000
namespace Go.Proofs.YtkdfbliiblojoaaGreatDoor
open Go Go.RowKit
theorem As8 : (Tryz.prog.info? 139).map (fun i=>(i.zero,i.size,i.bytes))=some (some (.agg #[.string ⟨#[]⟩,.int .i64 0]),2,24):=by kernel_rfl
theorem Ax8 : (Tryz.prog.info? 66).map (fun i=>(i.zero,i.size,i.bytes))=some (some (.agg #[.int .i64 0,.int .i64 0,.int .i64 0,.string ⟨#[]⟩,.slice none 0 0,.int .i64 0]),6,72):=by kernel_rfl
theorem Ajn (v:Value)(K:List (List UInt8×Int))(hb:K.length * 24<=140737488355328)(w:World)(hK:Abn w v K) :
  Calls Tryz.prog 91 #[v] w fun e w'=>∃ v',e=.returned v'/\Aa4 w' w.heap.size v' K/\Below w.heap.size w w':=by
 obtain⟨i0,hi,hz0,hz1,hz2⟩:=info_parts As8
 obtain⟨a,cap,rfl,h1,h2,h3⟩:=hK
 have hm:K.length<=maxLen:=by unfold maxLen;omega
 have q22:∀ (w:World) (a:Option Addr) (n c n' c':Nat),(binOp .eql 64 (.slice a n c) (.slice none n' c')).run Tryz.prog w=.ok (.bool a.isNone) w:=fun w a n c n' c'=>Lib.run_eql_slice_nil w _ _ a n c n' c' Tryz.underlying64
 cases a with
 | none=>
  have hnil:K=[]:=by
   cases K with
   | nil=>rfl
   | cons e r=>obtain⟨b,o,e,-⟩:=h3 0 (Nat.zero_lt_succ _);cases e
  subst hnil
  go_enter Tryz.func91,Tryz.ntmps91
  go_wp2_with fail
  go_ret
  exact⟨_,rfl,Aa4.nil _ _,Below.refl _ _⟩
 | some a=>
  have A:Aside (∀ j u,(kidC K)[j]?=some u->w.cell? (a.add j)=some u):=fun j u hj=>by
   have hj':j < K.length * 2:=by rw[<-Abe];exact(List.getElem?_eq_some_iff.1 hj).1
   obtain⟨b,o,e,-⟩:=h3 0 (by omega)
   cases e
   have:(⟨b,o,none⟩:Addr).add j=⟨b,o+j,none⟩:=Addr.add_lit ..
   rw[this]
   refine Aq3 (fun i hi=>?_) j u hj
   obtain⟨b',o',e,c1,c2⟩:=h3 i hi
   cases e
   exact⟨c1,c2⟩
  clear h3
  obtain⟨ab,ao,asp⟩:=a
  go_enter Tryz.func91,Tryz.ntmps91
  go_wp2_with (at_builtin;refine wpList_append_own _ rfl _ _ 64 rfl w.heap.size 139 i0 _ 2 24 Tryz.underlying64 hi hz0 hz1 hz2 rfl (by decide) _ _ _ rfl (World.ownsRow_made w #[] 0 (Nat.le_refl _) (Nat.zero_le _) (by simp)) ⟨ab,ao,asp⟩ K.length cap (kidC K) rfl ?qc1 ?qc2 ?qc3 ?qc4 ?qc5 ?qc6 ?_)
  case qc1=>exact Abe K
  case qc2=>
   intro j u hj
   exact Lib.cell?_alloc_some _ (A.out j u hj)
  case qc3=>exact Ait K
  case qc4=>rw[Nat.zero_add];exact hm
  case qc5=>rw[Nat.zero_add];exact hb
  case qc6=>simp
  intro v' w1 hown hgrow hnil
  go_wp2_with fail
  go_ret
  refine⟨v',rfl,by simpa[Aa4] using hown,?_⟩
  exact((Below.refl _ w).alloc (Nat.le_refl _) _).grown hgrow (by simp) (by intro k hk;simp[Value.ownBlock]at hk;omega)
def Afr : List Ino->List Value->List Value
 | x :: L,v :: vs=>inoC x v ++ Afr L vs
 | _,_=>[]
theorem Ahl : ∀ (L:List Ino) (vs:List Value),vs.length=L.length->(Afr L vs).length=L.length * 6
 | [],[],_=>rfl
 | x :: L,v :: vs,h=>by
  have:=Ahl L vs (Nat.succ.inj h)
  simp only[Afr,List.length_append,List.length_cons,this]
  show 6+L.length * 6=_
  omega
theorem Ajv : ∀ (L:List Ino) (vs:List Value) (i:Nat) (hi:i < L.length) (hv:i < vs.length) (j:Nat),j < 6->(Afr L vs)[i * 6+j]?=(inoC L[i] vs[i])[j]?
 | x :: L,v :: vs,0,_,_,j,hj=>by
  rw[Nat.zero_mul,Nat.zero_add,Afr,List.getElem?_append_left (by show j < 6;exact hj)]
  rfl
 | x :: L,v :: vs,i+1,hi,hv,j,hj=>by
  have h:=Ajv L vs i (Nat.lt_of_succ_lt_succ hi) (Nat.lt_of_succ_lt_succ hv) j hj
  rw[Afr,List.getElem?_append_right (by show 6<=_;omega)]
  rw[show (i+1) * 6+j - (inoC x v).length=i * 6+j by show (i+1) * 6+j - 6=_;omega,h]
  rfl
theorem Am4 {L:List Ino}{vs:List Value}(hone:∀ v∈vs,v.oneCell'=true):∀ u∈Afr L vs,u.oneCell'=true:=by
 induction L generalizing vs with
 | nil=>intro u h;cases h
 | cons x L ih=>
  cases vs with
  | nil=>intro u h;cases h
  | cons v vs=>
   intro u h
   rw[Afr,List.mem_append]at h
   rcases h with h|h
   ·simp only[inoC,List.mem_cons,List.not_mem_nil,or_false]at h
    rcases h with rfl|rfl|rfl|rfl|rfl|rfl
    ·rfl
    ·rfl
    ·rfl
    ·rfl
    ·exact hone _ List.mem_cons_self
    ·rfl
   ·exact ih (fun v hv=>hone v (List.mem_cons_of_mem _ hv)) u h
theorem Ah3 {w:World}{a:Option Addr}{cap:Nat}{L:List Ino}(hN:Aad w a cap L):∃ vs:List Value,vs.length=L.length/\(∀ v∈vs,v.oneCell'=true)/\(∀ i (hi:i < L.length) (hv:i < vs.length),Abn w vs[i] L[i].kids) /\
  ∀ j u,(Afr L vs)[j]?=some u->∃ b o,a=some ⟨b,o,none⟩/\w.cell? ⟨b,o+j,none⟩=some u:=by
 have hone:∀ i,i < L.length->∃ v,v.oneCell'=true/\∀ hi:i < L.length,Abn w v L[i].kids/\∃ b o,a=some ⟨b,o,none⟩/\NodeAt w b (o+i * 6) L[i] v:=fun i hi=>by
  obtain⟨b,o,e,hn⟩:=hN.2.2 i hi
  obtain⟨v,hv,hk⟩:=hn.kids
  refine⟨v,?_,fun hi=>⟨hk,b,o,e,⟨hn.kind,hn.mode,hn.links,hn.data,hv,hn.up⟩⟩⟩
  obtain⟨ka,kc,rfl,-⟩:=hk
  rfl
 obtain⟨vs,hl,hvs⟩:∃ vs:List Value,vs.length=L.length/\∀ i (_:i < L.length) (hv:i < vs.length),vs[i].oneCell'=true/\∀ hi:i < L.length,Abn w vs[i] L[i].kids/\∃ b o,a=some ⟨b,o,none⟩/\NodeAt w b (o+i * 6) L[i] vs[i]:=by
  have:∀ n,n<=L.length->∃ vs:List Value,vs.length=n/\∀ i (_:i < n) (hv:i < vs.length),vs[i].oneCell'=true/\∀ hi:i < L.length,Abn w vs[i] L[i].kids/\∃ b o,a=some ⟨b,o,none⟩/\NodeAt w b (o+i * 6) L[i] vs[i]:=by
   intro n
   induction n with
   | zero=>exact fun _=>⟨[],rfl,fun i hi=>absurd hi (Nat.not_lt_zero _)⟩
   | succ n ih=>
    intro hn
    obtain⟨vs,h1,h2⟩:=ih (by omega)
    obtain⟨v,h3,h4⟩:=hone n (by omega)
    refine⟨vs ++ [v],by simp[h1],fun i hi hv=>?_⟩
    by_cases e:i < vs.length
    ·rw[List.getElem_append_left e]
     exact h2 i (by omega) e
    ·have e2:i=vs.length:=by omega
     subst e2
     rw[List.getElem_concat_length rfl]
     refine⟨h3,fun hi2=>?_⟩
     subst h1
     exact h4 hi2
  exact this L.length (Nat.le_refl _)
 refine⟨vs,hl,fun v hv=>?_,fun i hi hv=>((hvs i hi hv).2 hi).1,fun j u hu=>?_⟩
 ·obtain⟨i,hi,rfl⟩:=List.getElem_of_mem hv
  exact(hvs i (by omega) hi).1
 ·have hj:j < L.length * 6:=by rw[<-Ahl L vs hl];exact(List.getElem?_eq_some_iff.1 hu).1
  obtain⟨i,t,rfl,ht⟩:∃ i t,j=i * 6+t/\t < 6:=⟨j / 6,j % 6,by omega,by omega⟩
  have hi:i < L.length:=by omega
  rw[Ajv L vs i hi (by omega) t ht]at hu
  obtain⟨b,o,e,hn⟩:=((hvs i hi (by omega)).2 hi).2
  refine⟨b,o,e,?_⟩
  rw[<-Nat.add_assoc]
  match t,ht,hu with
  | 0,_,hu=>cases hu;exact hn.kind
  | 1,_,hu=>cases hu;exact hn.mode
  | 2,_,hu=>cases hu;exact hn.links
  | 3,_,hu=>cases hu;exact hn.data
  | 4,_,hu=>cases hu;exact hn.kids
  | 5,_,hu=>cases hu;exact hn.up
theorem Aie {w:World}{base cap g:Nat}{L:List Ino}{vs:List Value}(hl:vs.length=L.length)(h:w.ownsRow base 66 6 (.slice (some ⟨g,0,none⟩) L.length cap) L.length (Afr L vs)):NodesOwn w g cap L vs/\base<=g:=by
 have hc:∀ j u,(Afr L vs)[j]?=some u->w.cell? ⟨g,j,none⟩=some u:=fun j u hu=>by
  have:=h.cells rfl j u hu
  rw[Abj]at this
  exact this
 have hlt:=h.lt g rfl
 rcases h.2 with ⟨e,-⟩|⟨g',cap',cur,e,hb,hg,hn,hm,hs,ht⟩
 ·cases e
 ·cases e
  refine⟨⟨hl,hn,hm,hlt.2,fun j=>by simp[World.frozen?,hg],fun i hi hv=>?_⟩,hb⟩
  have hh:∀ t,t < 6->∀ u,(inoC L[i] vs[i])[t]?=some u->w.cell? ⟨g,i * 6+t,none⟩=some u:=fun t ht u hu=>hc _ _ ((Ajv L vs i hi hv t ht).trans hu)
  exact⟨hh 0 (by decide) _ rfl,hh 1 (by decide) _ rfl,hh 2 (by decide) _ rfl,hh 3 (by decide) _ rfl,hh 4 (by decide) _ rfl,hh 5 (by decide) _ rfl⟩
theorem Ams (a:Option Addr)(cap:Nat)(L:List Ino)(hL:0 < L.length)(hb:L.length * 72<=140737488355328)(w0 w:World)(hw:Below w0.heap.size w0 w)(hN:Aad w0 a cap L) :
  Calls Tryz.prog 90 #[.slice a L.length cap] w fun e w'=>∃ g cap' vs,e=.returned (.slice (some ⟨g,0,none⟩) L.length cap')/\NodesOwn w' g cap' L vs/\w.heap.size<=g/\(∀ i (hi:i < L.length) (hv:i < vs.length),Abn w0 vs[i] L[i].kids)/\Below w.heap.size w w':=by
 obtain⟨i0,hi,hz0,hz1,hz2⟩:=info_parts Ax8
 obtain⟨vs,hl,hone,hk,hcell⟩:=Ah3 hN
 have hm:L.length<=maxLen:=by unfold maxLen;omega
 have q22:∀ (w:World) (a:Option Addr) (n c n' c':Nat),(binOp .eql 22 (.slice a n c) (.slice none n' c')).run Tryz.prog w=.ok (.bool a.isNone) w:=fun w a n c n' c'=>Lib.run_eql_slice_nil w _ _ a n c n' c' Tryz.underlying22
 obtain⟨b,o,rfl,-⟩:=hN.2.2 0 hL
 have A:Aside (∀ j u,(Afr L vs)[j]?=some u->w.cell? ⟨b,o+j,none⟩=some u):=fun j u hj=>by
  obtain⟨b',o',e,hc⟩:=hcell j u hj
  cases e
  exact Aaa hw hc
 have HK:=Hd hk
 have HL:=Hd hl
 clear hcell hk hN hl
 go_enter Tryz.func90,Tryz.ntmps90
 go_wp2_with (at_builtin;refine wpList_append_own _ rfl _ _ 22 rfl w.heap.size 66 i0 _ 6 72 Tryz.underlying22 hi hz0 hz1 hz2 rfl (by decide) _ _ _ rfl (World.ownsRow_made w #[] 0 (Nat.le_refl _) (Nat.zero_le _) (by simp)) ⟨b,o,none⟩ L.length cap (Afr L vs) rfl ?qc1 ?qc2 ?qc3 ?qc4 ?qc5 ?qc6 ?_)
 case qc1=>exact Ahl L vs HL.out
 case qc2=>
  intro j u hj
  rw[Addr.add_lit]
  exact Lib.cell?_alloc_some _ (A.out j u hj)
 case qc3=>exact Am4 hone
 case qc4=>rw[Nat.zero_add];exact hm
 case qc5=>rw[Nat.zero_add];exact hb
 case qc6=>simp
 intro v' w1 hown hgrow hnil
 have hbel:=((Below.refl _ w).alloc (Nat.le_refl _) (.cells #[] 66)).grown hgrow (by simp) (by intro k hk;simp[Value.ownBlock]at hk;omega)
 rcases hown.2 with ⟨rfl,h0⟩|⟨g,cap',cur,rfl,-⟩
 ·omega
 obtain⟨hown',hgb⟩:=Aie HL.out hown
 have HO:=Hd hown'
 have HB:=Hd hbel
 clear hown hown' hgrow hnil hbel
 go_wp2_with fail
 go_ret
 exact⟨g,cap',vs,rfl,HO.out,hgb,HK.out,HB.out⟩
structure CRel (w3:World)(B g cap:Nat)(L:List Ino)(vs0:List Value)(K:Nat)(vs:List Value)(wr:World):Prop where
 nodes:NodesOwn wr g cap L vs
 own:∀ i (hi:i < L.length) (hv:i < vs.length),i < K->Aa4 wr B vs[i] L[i].kids
 apart:∀ i j (hi:i < vs.length) (hj:j < vs.length),i < K->j < K->i≠j->vs[i].ownBlock=none∨vs[i].ownBlock≠vs[j].ownBlock
 off:∀ i (hi:i < vs.length),i < K->vs[i].ownBlock≠some g
 rest:∀ i,K<=i->vs[i]?=vs0[i]?
 below:Below B w3 wr
 size:B<=wr.heap.size
section
variable {w3 wr wn : World} {B g cap K : Nat} {L : List Ino} {vs0 vs : List Value}
theorem CRel.step (h:CRel w3 B g cap L vs0 K vs wr)(hg:B<=g)(hK:K < L.length){v:Value}(ho:Aa4 wn wr.heap.size v L[K].kids)(hb:Below wr.heap.size wr wn):CRel w3 B g cap L vs0 (K+1) (vs.set K v) (wn.setCell ⟨g,K * 6+4,none⟩ v):=by
 have hKv:K < vs.length:=by rw[h.nodes.len];exact hK
 have hN:=(h.nodes.below hb).setKids hK hKv v L[K].kids
 have e1:L.set K { L[K]with kids:=L[K].kids }=L:=List.set_getElem_self ..
 rw[e1]at hN
 have hst:∀ k,k≠g->(wn.setCell ⟨g,K * 6+4,none⟩ v).heap[k]?=wn.heap[k]?:=fun k hk=>Below.heap_setCell _ _ _ _ hk
 have hnew:∀ k,v.ownBlock=some k->wr.heap.size<=k:=fun k hk=>(ho.lt k hk).1
 have hgl:=h.nodes.lt
 refine⟨hN,fun i hi hv hiK=>?_,fun i j hi hj hiK hjK hij=>?_,fun i hi hiK=>?_,fun i hi=>?_,?_,?_⟩
 ·rw[List.length_set]at hv
  by_cases e:K=i
  ·subst e
   rw[List.getElem_set_self]
   refine Aa4.same (W:=wn) ?_ fun k hk=>hst k (by have:=hnew k hk;omega)
   have:=h.size
   exact ho.lower this
  ·rw[List.getElem_set_ne e]
   have hk:=h.own i hi hv (by omega)
   refine hk.same fun k hkb=>?_
   rw[hst k (fun e3=>h.off i hv (by omega) (hkb.trans (congrArg some e3)))]
   exact hb.block k (hk.lt k hkb).2
 ·rw[List.length_set]at hi hj
  rw[List.getElem_set,List.getElem_set]
  have hx:∀ t (ht:t < vs.length),t < K->∀ k,vs[t].ownBlock=some k->k < wr.heap.size:=fun t ht htK k hk=>((h.own t (by rw[<-h.nodes.len];exact ht) ht htK).lt k hk).2
  by_cases e:K=i
  ·rw[if_pos e,if_neg (fun e2=>hij (e.symm.trans e2))]
   cases hq:v.ownBlock with
   | none=>exact Or.inl rfl
   | some k=>
    refine Or.inr fun e3=>?_
    have h1:=hx j hj (by omega) k e3.symm
    have h2:=hnew k hq
    omega
  ·rw[if_neg e]
   by_cases e2:K=j
   ·rw[if_pos e2]
    cases hq:vs[i].ownBlock with
    | none=>exact Or.inl rfl
    | some k=>
     refine Or.inr fun e3=>?_
     have h1:=hx i hi (by omega) k hq
     have h2:=hnew k e3.symm
     omega
   ·rw[if_neg e2]
    exact h.apart i j hi hj (by omega) (by omega) hij
 ·rw[List.length_set]at hi
  rw[List.getElem_set]
  by_cases e:K=i
  ·rw[if_pos e]
   exact fun e3=>by have:=hnew g e3;omega
  ·rw[if_neg e]
   exact h.off i hi (by omega)
 ·rw[List.getElem?_set_ne (by omega)]
  exact h.rest i (by omega)
 ·exact(h.below.trans (hb.mono h.size)).setCell hg v
 ·rw[Afv]
  exact Nat.le_trans h.size hb.size
theorem CRel.done (h:CRel w3 B g cap L vs0 L.length vs wr)(hg:B<=g):OwnT wr B g cap L vs:=
 ⟨h.nodes,hg,fun i hi hv=>h.own i hi hv hi,fun i j hi hj hij=>h.apart i j hi hj (by rw[<-h.nodes.len];exact hi) (by rw[<-h.nodes.len];exact hj) hij,fun i hi=>h.off i hi (by rw[<-h.nodes.len];exact hi)⟩
end
theorem Adu (a:Option Addr)(cap:Nat)(m b:Int)(L:List Ino)(hL:0 < L.length)(hL2:L.length<=1000)(hk:∀ x∈L,x.kids.length<=4096)(w:World)(hN:Aad w a cap L) :
  Calls Tryz.prog 52 #[.agg #[.slice a L.length cap,.int .i64 m,.int .i64 b]] w fun e w'=>∃ g cap' vs,e=.returned (.agg #[.slice (some ⟨g,0,none⟩) L.length cap',.int .i64 m,.int .i64 b])/\OwnT w' w.heap.size g cap' L vs/\Below w.heap.size w w':=by
 have HN:=Hd hN
 have HK:=Hd hk
 clear hN hk
 go_enter Tryz.func52,Tryz.ntmps52
 go_wp2_with fail
 obtain⟨w2,hw2⟩:∃ w2,w2=(w.alloc (.cells #[.slice a L.length cap,.int .i64 m,.int .i64 b] 24)).alloc (.cells #[.slice none 0 0,.int .i64 0,.int .i64 0] 24):=⟨_,rfl⟩
 have hb2:Below w.heap.size w w2:=by rw[hw2];exact(Aab w _).alloc (by simp) _
 have hs2:w2.heap.size=w.heap.size+2:=by rw[hw2];simp
 have hA:w2.heap[w.heap.size]?=some (.cells #[.slice a L.length cap,.int .i64 m,.int .i64 b] 24 (0,0)):=by rw[hw2,Below.heap_alloc _ _ _ (by simp)];exact Aag _ _
 have hB:w2.heap[w.heap.size+1]?=some (.cells #[.slice none 0 0,.int .i64 0,.int .i64 0] 24 (0,0)):=by
  rw[hw2]
  have:=Aag (w.alloc (.cells #[.slice a L.length cap,.int .i64 m,.int .i64 b] 24)) (.cells #[.slice none 0 0,.int .i64 0,.int .i64 0] 24)
  rw[World.size_alloc]at this
  exact this
 rw[<-hw2]
 have HB2:=Hd hb2
 have HA:=Hd hA
 have HBB:=Hd hB
 clear hw2 hb2 hA hB
 refine(Ams a cap L hL (by omega) w _ HB2.out HN.out).mono ?_
 rintro e w3 ⟨g,cap',vs,rfl,hO,hg,hkids,hb3⟩
 rw[hs2]at hg
 have hA3:w3.heap[w.heap.size]?=_:=(hb3.block _ (by omega)).trans HA.out
 have hB3:w3.heap[w.heap.size+1]?=_:=(hb3.block _ (by omega)).trans HBB.out
 have a0:=bC hA3 0
 have f0:=bF hA3 0
 obtain⟨w4,hw4⟩:∃ w4,w4=w3.setCell ⟨w.heap.size,0,none⟩ (.slice (some ⟨g,0,none⟩) L.length cap'):=⟨_,rfl⟩
 have hA4:w4.heap[w.heap.size]?=some (.cells #[.slice (some ⟨g,0,none⟩) L.length cap',.int .i64 m,.int .i64 b] 24 (0,0)):=by rw[hw4];exact Aar hA3 0 _
 have hB4:w4.heap[w.heap.size+1]?=some (.cells #[.slice none 0 0,.int .i64 0,.int .i64 0] 24 (0,0)):=by rw[hw4,Below.heap_setCell _ _ _ _ (show w.heap.size+1≠w.heap.size by omega)];exact hB3
 have hb4:Below w.heap.size w w4:=by
  rw[hw4]
  exact(HB2.out.trans (hb3.mono (by omega))).setCell (show w.heap.size<=w.heap.size from Nat.le_refl _) _
 have hO4:NodesOwn w4 g cap' L vs:=hO.same (by rw[hw4];exact Below.heap_setCell _ _ _ _ (show g≠w.heap.size by omega))
 have hs4:w.heap.size+2<=w4.heap.size:=by rw[hw4,Afv];have:=hb3.size;omega
 have HA4:=Hd hA4
 have HB4:=Hd hB4
 have HBel:=Hd hb4
 have HO4:=Hd hO4
 have HKIDS:=Hd hkids
 have HG:=Hd hg
 have HS4:=Hd hs4
 clear hO hkids hb3 hA4 hB4 hb4 hO4 hs4 hA3 hB3
 go_wp2_with fail
 rw[<-hw4]
 clear hw4
 go_loopw [3,11] (fun _ iv wr=>∃ K vs',K<=L.length/\iv=.int .i64 K/\Hid (CRel w4 (w.heap.size+2) g cap' L vs K vs' wr)) (fun _ iv _=>L.length - (intOf iv).toNat)
 case atStart=>exact⟨0,vs,Nat.zero_le _,rfl,HO4.out,fun _ _ _ h=>absurd h (Nat.not_lt_zero _),fun _ _ _ _ h=>absurd h (Nat.not_lt_zero _),fun _ _ h=>absurd h (Nat.not_lt_zero _),fun _ _=>rfl,Below.refl _ _,HS4.out⟩
 case round=>
  obtain⟨K,vs',hK,rfl,HR⟩:=hrel
  by_cases hlt:K < L.length
  ·have hv:K < vs'.length:=by rw[HR.out.nodes.len];exact hlt
   have hn:=HR.out.nodes.node K hlt hv
   obtain⟨kv,hkv⟩:∃ kv,kv=vs'[K]:=⟨_,rfl⟩
   have hki:Abn wr kv L[K].kids:=by
    have e:=HR.out.rest K (Nat.le_refl _)
    rw[List.getElem?_eq_getElem hv,List.getElem?_eq_getElem (by rw[HO4.out.len];exact hlt)]at e
    rw[hkv,Option.some.inj e]
    exact(HKIDS.out K hlt (by rw[HO4.out.len];exact hlt)).below (HBel.out.trans (HR.out.below.mono (by omega)))
   have HKI:=Hd hki
   have hc4:=hn.kids
   rw[<-hkv]at hc4
   have hf4:=HR.out.nodes.free (K * 6+4)
   have hgl:=HR.out.nodes.lt
   have q0:wr.cell? ⟨w.heap.size,0,none⟩=some (.slice (some ⟨g,0,none⟩) L.length cap'):=bC ((HR.out.below.block _ (by omega)).trans HA4.out) 0
   have hq0l:w.heap.size < wr.heap.size:=Aaf q0
   have hne:(⟨g,K * 6+4,none⟩:Addr)≠⟨w.heap.size,0,none⟩:=fun e=>by have:=(Addr.mk.inj e).1;omega
   have hlt':(K:Int) < (L.length:Int):=by omega
   have hk0:(0:Int)<=(K:Int):=by omega
   clear hn hki hkv
   go_wp2_with fail
   go_region_with
    (first
     | (go_at_call 91;refine(Ajn kv L[K].kids (by have:=HK.out _ (List.getElem_mem hlt);omega) wr.drew (show Abn wr.drew kv L[K].kids from HKI.out)).mono ?_;rintro e wn ⟨v',rfl,hO',hbn⟩;obtain⟨va,vc,rfl⟩:=Aa4.form hO';have HO':Hid (Aa4 wn wr.heap.size (.slice va L[K].kids.length vc) L[K].kids):=Hd hO';have hb0:Below wr.heap.size wr wn:=⟨hbn.os,hbn.tape,hbn.output,hbn.size,hbn.block⟩;have q0:=Aaa hb0 q0;have hc4:=Aaa hb0 hc4;have hf4:wn.frozen? ⟨g,K * 6+4,none⟩=false:=(Below.frozen hb0 (p:=⟨g,K * 6+4,none⟩) hgl).trans hf4;have HBN:=Hd hb0;clear hbn hO' hb0))
   all_goals
    have hst:=HR.out.step (B:=w.heap.size+2) (by have:=HG.out;omega) hlt HO'.out HBN.out
    have HST:=Hd hst
    clear hst q0 hc4 hf4
    go_wp2_with fail
    go_roundw
    case rel=>exact⟨K+1,_,by omega,by go_num,HST.out⟩
    case measure=>simp[intOf] <;> omega
  ·have hKL:K=L.length:=by omega
   subst hKL
   have hAr:=(HR.out.below.block w.heap.size (by omega)).trans HA4.out
   have hBr:=(HR.out.below.block (w.heap.size+1) (by omega)).trans HB4.out
   have p0:=bC hAr 0
   have p1:=bC hAr 1
   have p2:=bC hAr 2
   have r0:=bC hBr 0
   have r1:=bC hBr 1
   have r2:=bC hBr 2
   have s0:=bF hBr 0
   have s1:=bF hBr 1
   have s2:=bF hBr 2
   have hgl:=HR.out.nodes.lt
   have HOT:=Hd (HR.out.done HG.out)
   have HBE:=Hd (HBel.out.trans (HR.out.below.mono (show w.heap.size<=w.heap.size+2 by omega)))
   have HBR:=Hd hBr
   clear hAr hBr
   go_wp2_with fail
   change bodyPost _ _ _ _ _ (put3 wr (w.heap.size+1) (.slice (some ⟨g,0,none⟩) L.length cap') (.int .i64 m) (.int .i64 b))
   obtain⟨c0,c1,c2⟩:=Aam HBR.out (.slice (some ⟨g,0,none⟩) L.length cap') (.int .i64 m) (.int .i64 b)
   have HOF:=Hd ((HOT.out.low (W':=put3 wr (w.heap.size+1) (.slice (some ⟨g,0,none⟩) L.length cap') (.int .i64 m) (.int .i64 b)) fun k hk=>Aa9 (by omega) _ _ _).lower (show w.heap.size<=w.heap.size+2 by omega))
   have HBF:=Hd (Aao HBE.out (show w.heap.size<=w.heap.size+1 by omega) (.slice (some ⟨g,0,none⟩) L.length cap') (.int .i64 m) (.int .i64 b))
   generalize put3 wr (w.heap.size+1) (.slice (some ⟨g,0,none⟩) L.length cap') (.int .i64 m) (.int .i64 b)=wF at *
   refine bodyPost_ret (v:=.agg #[.slice (some ⟨g,0,none⟩) L.length cap',.int .i64 m,.int .i64 b]) (by simp[results,Tryz.results52,go_sem,c0,c1,c2]) rfl ⟨g,cap',vs',rfl,HOF.out,HBF.out⟩
theorem Aub (l:List UInt8)(c:UInt8):decide (Lib.indexByte l c < 0)=l.all (fun x=>x != c):=by
 induction l with
 | nil=>rfl
 | cons b r ih=>
  have hge:=Lib.indexByte_ge r c
  unfold Lib.indexByte
  by_cases hb:b=c
  ·simp[hb]
  ·have e1:(b == c)=false:=by simpa using hb
   rw[e1]
   simp only[List.all_cons,bne,e1,Bool.not_false,Bool.true_and]
   rw[show (r.all fun x=>!(x == c))=r.all (fun x=>x != c)from rfl,<-ih]
   by_cases hr:Lib.indexByte r c=-1
   ·simp[hr]
   ·have:¬ Lib.indexByte r c+1 < 0:=by omega
    have h2:¬ Lib.indexByte r c < 0:=by omega
    simp[hr,this,h2]
theorem Azr (l:List UInt8):Abd l=(!l.isEmpty && decide (l.length<=64) && !(l == [46]) && !(l == [46,46]) && decide (Lib.indexByte l 47 < 0) && decide (Lib.indexByte l 0 < 0)):=by
 unfold Abd
 rw[Aub,Aub]
 have:l.all (fun c=>c != 47 && c != 0)=(l.all (fun x=>x != 47) && l.all (fun x=>x != 0)):=by
  induction l with
  | nil=>rfl
  | cons b r ih=>
   simp only[List.all_cons,ih]
   cases (b != 47) <;> cases (b != 0) <;> simp
 rw[this]
 cases (l.all fun x=>x != 47) <;> cases (l.all fun x=>x != 0) <;> simp
theorem Anv (s:ByteArray)(c:Int)(i:Int)(h:Lib.indexByte s.data.toList c.toNat.toUInt8=i)(w:World) :
  Calls Tryz.prog 186 #[.string s,.int .u8 c] w fun e w'=>e=.returned (.int .i64 i)/\w=w':=by
 subst h
 exact As7 s c w
theorem Awy (s:ByteArray)(w:World):Calls Tryz.prog 187 #[.string s] w fun e w'=>e=.returned (.bool (Abd s.data.toList))/\w=w':=by
 have hlen:=Aas s
 obtain⟨i1,hi1⟩:∃ i,Lib.indexByte s.data.toList (47:Int).toNat.toUInt8=i:=⟨_,rfl⟩
 obtain⟨i0,hi0⟩:∃ i,Lib.indexByte s.data.toList (0:Int).toNat.toUInt8=i:=⟨_,rfl⟩
 have hfin:Abd s.data.toList=(!s.toList.isEmpty && decide (s.size<=64) && !(s.toList == [46]) && !(s.toList == [46,46]) && decide (i1 < 0) && decide (i0 < 0)):=by
  rw[Azr,hlen,ByteArray.toList_eq,<-hi1,<-hi0]
  rfl
 have H1:=Hd hi1
 have H0:=Hd hi0
 have HF:=Hd hfin
 clear hi1 hi0 hfin hlen
 cases he:s.toList.isEmpty <;> cases h1:(s.toList == [46]) <;> cases h2:(s.toList == [46,46]) <;> by_cases h64:s.size<=64 <;> by_cases hn1:i1 < 0 <;> by_cases hn0:i0 < 0
 all_goals
  go_enter Tryz.func187,Tryz.ntmps187
  go_wp2_with (first|(go_at_call 186;refine(Anv _ _ _ (by first|exact H1.out|exact H0.out) _).mono ?_;rintro e w' ⟨rfl,rfl⟩)|fail)
  go_ret
  exact⟨by rw[HF.out,he,h1,h2];simp[h64,hn1,hn0],rfl⟩
theorem Agy (s:List UInt8)(v:Bool)(h:Abd s=v)(w:World):Calls Tryz.prog 187 #[.string ⟨s.toArray⟩] w fun e w'=>e=.returned (.bool v)/\w=w':=by
 subst h
 exact Awy ⟨s.toArray⟩ w
theorem Ae3 {n:Nat}{A B B' C:World}(h:Below n A B)(k:Below B'.heap.size B' C)(hn:n<=B.heap.size)(e:B'.os=B.os/\B'.tape=B.tape/\B'.output=B.output/\B'.heap=B.heap):Below n A C:=by
 have h':Below n A B':=⟨e.1.trans h.os,e.2.1.trans h.tape,e.2.2.1.trans h.output,by rw[e.2.2.2];exact h.size,by rw[e.2.2.2];exact h.block⟩
 exact h'.trans (k.mono (by rw[e.2.2.2];exact hn))
theorem Adf (a:Option Addr)(cap:Nat)(m b cwd:Int)(pb:ByteArray)(hp:pb.size<=1073741824)(L:List Ino)(z:Int)(hz:badW L cwd pb.data.toList=z)(w:World)(hN:Aad w a cap L) :
  Calls Tryz.prog 76 #[.agg #[.slice a L.length cap,.int .i64 m,.int .i64 b],.int .i64 cwd,.string pb] w fun e w'=>e=.returned (.int .i64 z)/\Below w.heap.size w w':=by
 subst hz
 exact Avu a cap m b cwd pb.data.toList (by rw[Aas];exact hp) L w hN
theorem Ad5 (cwd:Int)(pb:ByteArray)(z:Int)(hz:Adi cwd pb.data.toList=z)(w:World) :
  Calls Tryz.prog 78 #[.int .i64 cwd,.string pb] w fun e w'=>e=.returned (.int .i64 z)/\w=w':=by
 subst hz
 exact Aqr cwd pb.data.toList w
theorem Av5 (pb:ByteArray)(h:0 < pb.size):endL pb.data.toList=(((pb[pb.size - 1]'(by omega)).toNat:Int) == 47):=by
 unfold endL
 rw[Atf pb h,Bool.eq_iff_iff,beq_iff_eq,beq_iff_eq,Option.some.injEq,<-UInt8.toNat_inj]
 show _=47↔_
 omega
theorem Avk (a:Option Addr)(cap:Nat)(m b cwd:Int)(pb:ByteArray)(hp:pb.size<=1073741824)(follow:Bool)(L:List Ino)(hF:FitP L m b)(w:World)(hN:Aad w a cap L) :
  Calls Tryz.prog 34 #[.agg #[.slice a L.length cap,.int .i64 m,.int .i64 b],.int .i64 cwd,.string pb,.bool follow] w fun e w'=>e=.returned (.tuple #[.int .i64 (Acp L cwd pb.data.toList follow).1,.int .i64 (Acp L cwd pb.data.toList follow).2])/\Below w.heap.size w w':=by
 obtain⟨w1,hw1⟩:∃ w1,w1=w.alloc (.cells #[.slice a L.length cap,.int .i64 m,.int .i64 b] 24):=⟨_,rfl⟩
 have hb1:=Aab w (.cells #[.slice a L.length cap,.int .i64 m,.int .i64 b] 24)
 have hM:=hN.below hb1
 have hsz:w1.heap.size=w.heap.size+1:=by rw[hw1];simp
 have hbox:∀ W',Below w1.heap.size w1 W'->W'.cell? ⟨w.heap.size,0,none⟩=some (.slice a L.length cap)/\W'.cell? ⟨w.heap.size,1,none⟩=some (.int .i64 m)/\W'.cell? ⟨w.heap.size,2,none⟩=some (.int .i64 b):=fun W' h=>box3 (by rw[<-hw1];exact h)
 rw[<-hw1]at hM hb1
 have HM:=Hd hM
 have HB:=Hd hb1
 have HX:=Hd hbox
 have HEND:=Hd (show ∀ W',Below w1.heap.size w1 W'->Below w.heap.size w W' from fun W' h=>HB.out.trans (h.mono (by rw[hsz];omega)))
 have HF:=Hd hF
 obtain⟨R,hR⟩:∃ R,R=Acp L cwd pb.data.toList follow:=⟨_,rfl⟩
 rw[<-hR]
 have HR:=Hd hR
 obtain⟨z,hz⟩:∃ z,badW L cwd pb.data.toList=z:=⟨_,rfl⟩
 have HZ:=Hd hz
 clear hM hN hb1 hbox hsz hF hR
 by_cases hbad:z≠0
 ·have hzb:(z != 0)=true:=by simpa using hbad
  have HW:=Hd (show R=(0,z) by rw[HR.out];unfold Acp;rw[hz,if_pos hbad])
  clear hbad hz
  go_enter Tryz.func34,Tryz.ntmps34
  go_wp2_with fail
  rw[<-hw1]
  refine(Adf _ _ _ _ _ _ hp L z HZ.out _ HM.out).mono ?_
  rintro e w2 ⟨rfl,hb2⟩
  go_wp2_with fail
  go_ret2
  exact⟨by rw[HW.out];rfl,HEND.out _ hb2⟩
 ·obtain rfl:z=0:=by simpa using hbad
  have hpne:pb.data.toList≠[]:=fun e=>by
   unfold badW at hz
   rw[if_pos (Or.inl e)]at hz
   cases hz
  have hp0:0 < pb.size:=by
   rcases Nat.eq_zero_or_pos pb.size with h|h
   ·exact absurd (List.length_eq_zero_iff.1 (by rw[Aas];exact h)) hpne
   ·exact h
  have heb:=Av5 pb hp0
  obtain⟨st,hst⟩:∃ st,Adi cwd pb.data.toList=st:=⟨_,rfl⟩
  have HST:=Hd hst
  obtain⟨N,hNe⟩:∃ N,N=Aaq pb.data.toList:=⟨_,rfl⟩
  have hlong:pb.size<=1024:=by
   unfold badW at hz
   rw[if_neg (fun h=>by rcases h with h|h;exact hpne h;rw[if_pos (Or.inr h)]at hz;cases hz)]at hz
   by_cases hl:Agz pb.data.toList=true
   ·rw[if_pos hl]at hz;cases hz
   ·unfold Agz at hl
    rw[Bool.or_eq_true,decide_eq_true_eq,Aas]at hl
    omega
  have HNL:=Hd (show N.length<=5000 by rw[hNe];have:=Aca pb.data.toList;rw[Aas]at this;omega)
  have hpa:=Agj pb hp
  rw[<-hNe]at hpa
  have HPA:=Hd (show ∀ W,Calls Tryz.prog 79 #[.string pb] W fun e w'=>∃ v,e=.returned v/\View w' v N/\Below W.heap.size W w' from fun W=>(hpa W).mono fun e w' ⟨v,h1,h2,h3⟩=>⟨v,h1,h2.view,h3⟩)
  obtain⟨s,hsl⟩:∃ s,(((pb[pb.size - 1]'(by omega)).toNat:Int) == 47)=s:=⟨_,rfl⟩
  rw[hsl]at heb
  obtain⟨kz,hkz⟩:∃ kz,kz=(wayW L (follow || s) 8 N st).1:=⟨_,rfl⟩
  obtain⟨ez,hez⟩:∃ ez,ez=(wayW L (follow || s) 8 N st).2:=⟨_,rfl⟩
  have HWAY:=Hd (show ∀ lb,lb=(follow || s)->∀ W v,Below w1.heap.size w1 W->View W v N->Calls Tryz.prog 77 #[.agg #[.slice a L.length cap,.int .i64 m,.int .i64 b],.int .i64 st,v,.bool lb] W fun e w'=>e=.returned (.tuple #[.int .i64 kz,.int .i64 ez])/\Below W.heap.size W w' from fun lb hlb W v hW hv=>by
   subst hlb
   rw[hkz,hez]
   exact Aqh a cap m b st _ N HNL.out v L HF.out W (HM.out.below hW) hv)
  have HW:=Hd (show R=if ez≠0 then(0,ez)else if s=true/\dirB L kz=false then(0,20)else(kz,0) by
   rw[HR.out]
   unfold Acp
   rw[hz,if_neg (by simp),hst,<-hNe,heb,<-hez,<-hkz])
  obtain⟨dz,hdz⟩:∃ dz,dirB L kz=dz:=⟨_,rfl⟩
  have HDZ:=Hd hdz
  rw[hdz]at HW
  clear hz hpne heb hst hNe hpa hkz hez hdz hbad HR
  cases follow
  case false=>
   cases s
   case false=>
    go_enter Tryz.func34,Tryz.ntmps34
    go_wp2_with fail
    rw[<-hw1]
    refine(Adf _ _ _ _ _ _ hp L 0 HZ.out _ HM.out).mono ?_
    rintro e w2 ⟨rfl,hb2⟩
    have HBB:=Hd hb2
    obtain⟨q0,q1,q2⟩:=HX.out _ hb2
    clear hb2
    go_wp2_with fail
    go_region_held3 (fun W=>W.cell? ⟨w.heap.size,0,none⟩=some (.slice a L.length cap)/\W.cell? ⟨w.heap.size,1,none⟩=some (.int .i64 m)/\W.cell? ⟨w.heap.size,2,none⟩=some (.int .i64 b)) (exact⟨q0,q1,q2⟩) (first|(go_at_call 78;refine(Ad5 _ _ _ HST.out _).mono ?_;rintro e wn ⟨rfl,rfl⟩)|(go_at_call 79;refine(HPA.out _).mono ?_;rintro e wn ⟨vn,rfl,hvn,hbn⟩;have HVN:=Hd hvn;have HBB:Hid (Below w1.heap.size w1 wn):=Hd (Ae3 HBB.out hbn HBB.out.size ⟨rfl,rfl,rfl,rfl⟩);obtain⟨q0,q1,q2⟩:=HX.out _ HBB.out)|(go_at_call 77;refine(HWAY.out _ rfl _ _ ?_ HVN.out).mono ?_;(exact⟨HBB.out.os,HBB.out.tape,HBB.out.output,HBB.out.size,HBB.out.block⟩);rintro e wn ⟨rfl,hbn⟩;have HBB:Hid (Below w1.heap.size w1 wn):=Hd (Ae3 HBB.out hbn HBB.out.size ⟨rfl,rfl,rfl,rfl⟩);obtain⟨q0,q1,q2⟩:=HX.out _ HBB.out))
    cases he:(ez != 0)with
    | true=>
     have HW2:=Hd (show R=(0,ez) by rw[HW.out,if_pos (by simpa using he)])
     go_wp2_with fail
     go_ret2
     exact⟨by rw[HW2.out];rfl,HEND.out _ HBB.out⟩
    | false=>
     have hz0:ez=0:=by simpa using he
     subst hz0
     have HW2:=Hd (show R=(kz,0) by rw[HW.out,if_neg (by simp),if_neg (by simp)])
     go_wp2_with fail
     go_ret2
     exact⟨by rw[HW2.out];rfl,HEND.out _ HBB.out⟩
   case true=>
    go_enter Tryz.func34,Tryz.ntmps34
    go_wp2_with fail
    rw[<-hw1]
    refine(Adf _ _ _ _ _ _ hp L 0 HZ.out _ HM.out).mono ?_
    rintro e w2 ⟨rfl,hb2⟩
    have HBB:=Hd hb2
    obtain⟨q0,q1,q2⟩:=HX.out _ hb2
    clear hb2
    go_wp2_with fail
    go_region_held3 (fun W=>W.cell? ⟨w.heap.size,0,none⟩=some (.slice a L.length cap)/\W.cell? ⟨w.heap.size,1,none⟩=some (.int .i64 m)/\W.cell? ⟨w.heap.size,2,none⟩=some (.int .i64 b)) (exact⟨q0,q1,q2⟩) (first|(go_at_call 78;refine(Ad5 _ _ _ HST.out _).mono ?_;rintro e wn ⟨rfl,rfl⟩)|(go_at_call 79;refine(HPA.out _).mono ?_;rintro e wn ⟨vn,rfl,hvn,hbn⟩;have HVN:=Hd hvn;have HBB:Hid (Below w1.heap.size w1 wn):=Hd (Ae3 HBB.out hbn HBB.out.size ⟨rfl,rfl,rfl,rfl⟩);obtain⟨q0,q1,q2⟩:=HX.out _ HBB.out)|(go_at_call 77;refine(HWAY.out _ rfl _ _ ?_ HVN.out).mono ?_;(exact⟨HBB.out.os,HBB.out.tape,HBB.out.output,HBB.out.size,HBB.out.block⟩);rintro e wn ⟨rfl,hbn⟩;have HBB:Hid (Below w1.heap.size w1 wn):=Hd (Ae3 HBB.out hbn HBB.out.size ⟨rfl,rfl,rfl,rfl⟩);obtain⟨q0,q1,q2⟩:=HX.out _ HBB.out))
    cases he:(ez != 0)with
    | true=>
     have HW2:=Hd (show R=(0,ez) by rw[HW.out,if_pos (by simpa using he)])
     go_wp2_with fail
     go_ret2
     exact⟨by rw[HW2.out];rfl,HEND.out _ HBB.out⟩
    | false=>
     have hz0:ez=0:=by simpa using he
     subst hz0
     cases dz with
     | false=>
      have HW2:=Hd (show R=(0,20) by rw[HW.out,if_neg (by simp),if_pos (by simp)])
      go_wp2_with (first|(go_at_call 80;refine(Ab2 _ _ _ _ _ L _ HDZ.out _ (HM.out.below HBB.out)).mono ?_;rintro e w7 ⟨rfl,hb7⟩;have HB7:=Hd (HBB.out.trans (hb7.mono HBB.out.size)))|fail)
      go_ret2
      exact⟨by rw[HW2.out];rfl,HEND.out _ HB7.out⟩
     | true=>
      have HW2:=Hd (show R=(kz,0) by rw[HW.out,if_neg (by simp),if_neg (by simp)])
      go_wp2_with (first|(go_at_call 80;refine(Ab2 _ _ _ _ _ L _ HDZ.out _ (HM.out.below HBB.out)).mono ?_;rintro e w7 ⟨rfl,hb7⟩;have HB7:=Hd (HBB.out.trans (hb7.mono HBB.out.size)))|fail)
      go_ret2
      exact⟨by rw[HW2.out];rfl,HEND.out _ HB7.out⟩
  case true=>
   cases s
   case false=>
    go_enter Tryz.func34,Tryz.ntmps34
    go_wp2_with fail
    rw[<-hw1]
    refine(Adf _ _ _ _ _ _ hp L 0 HZ.out _ HM.out).mono ?_
    rintro e w2 ⟨rfl,hb2⟩
    have HBB:=Hd hb2
    obtain⟨q0,q1,q2⟩:=HX.out _ hb2
    clear hb2
    go_wp2_with fail
    refine wp_region_held_drew (S:=fun W=>W.cell? ⟨w.heap.size,0,none⟩=some (.slice a L.length cap)/\W.cell? ⟨w.heap.size,1,none⟩=some (.int .i64 m)/\W.cell? ⟨w.heap.size,2,none⟩=some (.int .i64 b)) (by kernel_rfl) ⟨q0,q1,q2⟩ (fun hHeld=>?_)
    refine wpAnyH_take (i:=0) (v:=?_) rfl (by kernel_rfl) (by kernel_rfl) (by kernel_rfl) (fun _ _ _ h=>h) (Or.inl ⟨by rfl,?hy0⟩) (by assumption) ?rest0
    case hy0=>intro W hSw;obtain⟨s0,s1,s2⟩:=hSw;go_simp <;> with_reducible rfl
    try simp only[Act.put,Zaa]
    refine wpAnyH_take (i:=1) (v:=?_) rfl (by kernel_rfl) (by kernel_rfl) (by kernel_rfl) (fun _ _ _ h=>h) (Or.inl ⟨by rfl,?hy1⟩) (by assumption) ?rest1
    case hy1=>intro W hSw;obtain⟨s0,s1,s2⟩:=hSw;go_simp <;> with_reducible rfl
    try simp only[Act.put]
    refine wpAnyH_take (i:=2) (v:=?_) rfl (by kernel_rfl) (by kernel_rfl) (by kernel_rfl) (fun _ _ _ h=>h) (Or.inl ⟨by rfl,?hy2⟩) (by assumption) ?rest2
    case hy2=>intro W hSw;obtain⟨s0,s1,s2⟩:=hSw;go_simp <;> with_reducible rfl
    try simp only[Act.put]
    refine wpAnyH_take (i:=4) (v:=?_) rfl (by kernel_rfl) (by kernel_rfl) (by kernel_rfl) (fun _ _ _ h=>h) (Or.inl ⟨by rfl,?hy4⟩) (by assumption) ?rest4
    case hy4=>intro W hSw;obtain⟨s0,s1,s2⟩:=hSw;go_simp <;> with_reducible rfl
    try simp only[Act.put]
    refine wpAnyH_take (i:=6) (v:=?_) rfl (by kernel_rfl) (by kernel_rfl) (by kernel_rfl) (fun _ _ _ h=>h) (Or.inl ⟨by rfl,?hy6⟩) (by assumption) ?rest6
    case hy6=>intro W hSw;obtain⟨s0,s1,s2⟩:=hSw;go_simp <;> with_reducible rfl
    try simp only[Act.put]
    refine wpAnyH_ready (rs:=[3]) (by kernel_rfl) (by simp) ?_
    refine AllReadyH.cons rfl (fun K hK=>?_) AllReadyH.nil
    go_simp
    refine(Ad5 _ _ _ HST.out _).mono ?_
    rintro e wn ⟨rfl,rfl⟩
    refine hK.out _ _ ⟨q0,q1,q2⟩ (fun hHeld=>?_)
    clear hK K
    try simp only[Act.put,Zaa,Zab,Zac]
    refine wpAnyH_ready (rs:=[5]) (by kernel_rfl) (by simp) ?_
    refine AllReadyH.cons rfl (fun K hK=>?_) AllReadyH.nil
    go_simp
    refine(HPA.out _).mono ?_
    rintro e wn ⟨vn,rfl,hvn,hbn⟩
    have HVN:=Hd hvn
    have HBB:Hid (Below w1.heap.size w1 wn):=Hd (Ae3 HBB.out hbn HBB.out.size ⟨rfl,rfl,rfl,rfl⟩)
    obtain⟨q0,q1,q2⟩:=HX.out _ HBB.out
    refine hK.out _ _ ⟨q0,q1,q2⟩ (fun hHeld=>?_)
    clear hK K
    try simp only[Act.put,Zaa,Zab,Zac]
    refine wpAnyH_take (i:=7) (v:=?_) rfl (by kernel_rfl) (by kernel_rfl) (by kernel_rfl) (fun _ _ _ h=>h) (Or.inl ⟨by rfl,?hy7⟩) (by assumption) ?rest7
    case hy7=>intro W hSw;obtain⟨s0,s1,s2⟩:=hSw;go_simp <;> with_reducible rfl
    try simp only[Act.put,Zaa]
    refine wpAnyH_take (i:=8) rfl (by kernel_rfl) (by kernel_rfl) (by kernel_rfl) (fun _ _ _ h=>h) (Or.inr ⟨by rfl,rfl⟩) (by assumption) ?_
    try simp only[Act.put]
    refine wpAnyH_take (i:=9) (v:=?_) rfl (by kernel_rfl) (by kernel_rfl) (by kernel_rfl) (fun _ _ _ h=>h) (Or.inl ⟨by rfl,?hy9⟩) (by assumption) ?rest9
    case hy9=>intro W hSw;obtain⟨s0,s1,s2⟩:=hSw;go_simp <;> with_reducible rfl
    try simp only[Act.put]
    refine wpAnyH_ready (rs:=[10]) (by kernel_rfl) (by simp) ?_
    refine AllReadyH.cons rfl (fun K hK=>?_) AllReadyH.nil
    go_simp
    refine(HWAY.out _ rfl _ _ ?_ HVN.out).mono ?_
    (exact⟨HBB.out.os,HBB.out.tape,HBB.out.output,HBB.out.size,HBB.out.block⟩)
    rintro e wn ⟨rfl,hbn⟩
    have HBB:Hid (Below w1.heap.size w1 wn):=Hd (Ae3 HBB.out hbn HBB.out.size ⟨rfl,rfl,rfl,rfl⟩)
    obtain⟨q0,q1,q2⟩:=HX.out _ HBB.out
    refine hK.out _ _ ⟨q0,q1,q2⟩ (fun hHeld=>?_)
    clear hK K
    try simp only[Act.put,Zaa,Zab,Zac]
    refine wpAnyH_take (i:=11) (v:=?_) rfl (by kernel_rfl) (by kernel_rfl) (by kernel_rfl) (fun _ _ _ h=>h) (Or.inl ⟨by rfl,?hy11⟩) (by assumption) ?rest11
    case hy11=>intro W hSw;obtain⟨s0,s1,s2⟩:=hSw;go_simp <;> with_reducible rfl
    try simp only[Act.put,Zaa]
    refine wpAnyH_take (i:=12) (v:=?_) rfl (by kernel_rfl) (by kernel_rfl) (by kernel_rfl) (fun _ _ _ h=>h) (Or.inl ⟨by rfl,?hy12⟩) (by assumption) ?rest12
    case hy12=>intro W hSw;obtain⟨s0,s1,s2⟩:=hSw;go_simp <;> with_reducible rfl
    try simp only[Act.put]
    refine wpAnyH_take (i:=13) (v:=?_) rfl (by kernel_rfl) (by kernel_rfl) (by kernel_rfl) (fun _ _ _ h=>h) (Or.inl ⟨by rfl,?hy13⟩) (by assumption) ?rest13
    case hy13=>intro W hSw;obtain⟨s0,s1,s2⟩:=hSw;go_simp <;> with_reducible rfl
    try simp only[Act.put]
    refine wpAnyH_take (i:=14) (v:=?_) rfl (by kernel_rfl) (by kernel_rfl) (by kernel_rfl) (fun _ _ _ h=>h) (Or.inl ⟨by rfl,?hy14⟩) (by assumption) ?rest14
    case hy14=>intro W hSw;obtain⟨s0,s1,s2⟩:=hSw;go_simp <;> with_reducible rfl
    try simp only[Act.put]
    refine wpAnyH_take (i:=15) (v:=?_) rfl (by kernel_rfl) (by kernel_rfl) (by kernel_rfl) (fun _ _ _ h=>h) (Or.inl ⟨by rfl,?hy15⟩) (by assumption) ?rest15
    case hy15=>intro W hSw;obtain⟨s0,s1,s2⟩:=hSw;go_simp <;> with_reducible rfl
    try simp only[Act.put]
    refine wpAnyH_done (by kernel_rfl) ?_ _
    clear hHeld
    cases he:(ez != 0)with
    | true=>
     have HW2:=Hd (show R=(0,ez) by rw[HW.out,if_pos (by simpa using he)])
     go_wp2_with fail
     go_ret2
     exact⟨by rw[HW2.out];rfl,HEND.out _ HBB.out⟩
    | false=>
     have hz0:ez=0:=by simpa using he
     subst hz0
     have HW2:=Hd (show R=(kz,0) by rw[HW.out,if_neg (by simp),if_neg (by simp)])
     go_wp2_with fail
     go_ret2
     exact⟨by rw[HW2.out];rfl,HEND.out _ HBB.out⟩
   case true=>
    go_enter Tryz.func34,Tryz.ntmps34
    go_wp2_with fail
    rw[<-hw1]
    refine(Adf _ _ _ _ _ _ hp L 0 HZ.out _ HM.out).mono ?_
    rintro e w2 ⟨rfl,hb2⟩
    have HBB:=Hd hb2
    obtain⟨q0,q1,q2⟩:=HX.out _ hb2
    clear hb2
    go_wp2_with fail
    refine wp_region_held_drew (S:=fun W=>W.cell? ⟨w.heap.size,0,none⟩=some (.slice a L.length cap)/\W.cell? ⟨w.heap.size,1,none⟩=some (.int .i64 m)/\W.cell? ⟨w.heap.size,2,none⟩=some (.int .i64 b)) (by kernel_rfl) ⟨q0,q1,q2⟩ (fun hHeld=>?_)
    refine wpAnyH_take (i:=0) (v:=?_) rfl (by kernel_rfl) (by kernel_rfl) (by kernel_rfl) (fun _ _ _ h=>h) (Or.inl ⟨by rfl,?hx0⟩) (by assumption) ?more0
    case hx0=>intro W hSw;obtain⟨s0,s1,s2⟩:=hSw;go_simp <;> with_reducible rfl
    try simp only[Act.put,Zaa]
    refine wpAnyH_take (i:=1) (v:=?_) rfl (by kernel_rfl) (by kernel_rfl) (by kernel_rfl) (fun _ _ _ h=>h) (Or.inl ⟨by rfl,?hx1⟩) (by assumption) ?more1
    case hx1=>intro W hSw;obtain⟨s0,s1,s2⟩:=hSw;go_simp <;> with_reducible rfl
    try simp only[Act.put]
    refine wpAnyH_take (i:=2) (v:=?_) rfl (by kernel_rfl) (by kernel_rfl) (by kernel_rfl) (fun _ _ _ h=>h) (Or.inl ⟨by rfl,?hx2⟩) (by assumption) ?more2
    case hx2=>intro W hSw;obtain⟨s0,s1,s2⟩:=hSw;go_simp <;> with_reducible rfl
    try simp only[Act.put]
    refine wpAnyH_take (i:=4) (v:=?_) rfl (by kernel_rfl) (by kernel_rfl) (by kernel_rfl) (fun _ _ _ h=>h) (Or.inl ⟨by rfl,?hx4⟩) (by assumption) ?more4
    case hx4=>intro W hSw;obtain⟨s0,s1,s2⟩:=hSw;go_simp <;> with_reducible rfl
    try simp only[Act.put]
    refine wpAnyH_take (i:=6) (v:=?_) rfl (by kernel_rfl) (by kernel_rfl) (by kernel_rfl) (fun _ _ _ h=>h) (Or.inl ⟨by rfl,?hx6⟩) (by assumption) ?more6
    case hx6=>intro W hSw;obtain⟨s0,s1,s2⟩:=hSw;go_simp <;> with_reducible rfl
    try simp only[Act.put]
    refine wpAnyH_ready (rs:=[3]) (by kernel_rfl) (by simp) ?_
    refine AllReadyH.cons rfl (fun K hK=>?_) AllReadyH.nil
    go_simp
    refine(Ad5 _ _ _ HST.out _).mono ?_
    rintro e wn ⟨rfl,rfl⟩
    refine hK.out _ _ ⟨q0,q1,q2⟩ (fun hHeld=>?_)
    clear hK K
    try simp only[Act.put,Zaa,Zab,Zac]
    refine wpAnyH_ready (rs:=[5]) (by kernel_rfl) (by simp) ?_
    refine AllReadyH.cons rfl (fun K hK=>?_) AllReadyH.nil
    go_simp
    refine(HPA.out _).mono ?_
    rintro e wn ⟨vn,rfl,hvn,hbn⟩
    have HVN:=Hd hvn
    have HBB:Hid (Below w1.heap.size w1 wn):=Hd (Ae3 HBB.out hbn HBB.out.size ⟨rfl,rfl,rfl,rfl⟩)
    obtain⟨q0,q1,q2⟩:=HX.out _ HBB.out
    refine hK.out _ _ ⟨q0,q1,q2⟩ (fun hHeld=>?_)
    clear hK K
    try simp only[Act.put,Zaa,Zab,Zac]
    refine wpAnyH_take (i:=7) (v:=?_) rfl (by kernel_rfl) (by kernel_rfl) (by kernel_rfl) (fun _ _ _ h=>h) (Or.inl ⟨by rfl,?hx7⟩) (by assumption) ?more7
    case hx7=>intro W hSw;obtain⟨s0,s1,s2⟩:=hSw;go_simp <;> with_reducible rfl
    try simp only[Act.put,Zaa]
    refine wpAnyH_take (i:=8) rfl (by kernel_rfl) (by kernel_rfl) (by kernel_rfl) (fun _ _ _ h=>h) (Or.inr ⟨by rfl,rfl⟩) (by assumption) ?_
    try simp only[Act.put]
    refine wpAnyH_take (i:=9) (v:=?_) rfl (by kernel_rfl) (by kernel_rfl) (by kernel_rfl) (fun _ _ _ h=>h) (Or.inl ⟨by rfl,?hx9⟩) (by assumption) ?more9
    case hx9=>intro W hSw;obtain⟨s0,s1,s2⟩:=hSw;go_simp <;> with_reducible rfl
    try simp only[Act.put]
    refine wpAnyH_ready (rs:=[10]) (by kernel_rfl) (by simp) ?_
    refine AllReadyH.cons rfl (fun K hK=>?_) AllReadyH.nil
    go_simp
    refine(HWAY.out _ rfl _ _ ?_ HVN.out).mono ?_
    (exact⟨HBB.out.os,HBB.out.tape,HBB.out.output,HBB.out.size,HBB.out.block⟩)
    rintro e wn ⟨rfl,hbn⟩
    have HBB:Hid (Below w1.heap.size w1 wn):=Hd (Ae3 HBB.out hbn HBB.out.size ⟨rfl,rfl,rfl,rfl⟩)
    obtain⟨q0,q1,q2⟩:=HX.out _ HBB.out
    refine hK.out _ _ ⟨q0,q1,q2⟩ (fun hHeld=>?_)
    clear hK K
    try simp only[Act.put,Zaa,Zab,Zac]
    refine wpAnyH_take (i:=11) (v:=?_) rfl (by kernel_rfl) (by kernel_rfl) (by kernel_rfl) (fun _ _ _ h=>h) (Or.inl ⟨by rfl,?hx11⟩) (by assumption) ?more11
    case hx11=>intro W hSw;obtain⟨s0,s1,s2⟩:=hSw;go_simp <;> with_reducible rfl
    try simp only[Act.put,Zaa]
    refine wpAnyH_take (i:=12) (v:=?_) rfl (by kernel_rfl) (by kernel_rfl) (by kernel_rfl) (fun _ _ _ h=>h) (Or.inl ⟨by rfl,?hx12⟩) (by assumption) ?more12
    case hx12=>intro W hSw;obtain⟨s0,s1,s2⟩:=hSw;go_simp <;> with_reducible rfl
    try simp only[Act.put]
    refine wpAnyH_take (i:=13) (v:=?_) rfl (by kernel_rfl) (by kernel_rfl) (by kernel_rfl) (fun _ _ _ h=>h) (Or.inl ⟨by rfl,?hx13⟩) (by assumption) ?more13
    case hx13=>intro W hSw;obtain⟨s0,s1,s2⟩:=hSw;go_simp <;> with_reducible rfl
    try simp only[Act.put]
    refine wpAnyH_take (i:=14) (v:=?_) rfl (by kernel_rfl) (by kernel_rfl) (by kernel_rfl) (fun _ _ _ h=>h) (Or.inl ⟨by rfl,?hx14⟩) (by assumption) ?more14
    case hx14=>intro W hSw;obtain⟨s0,s1,s2⟩:=hSw;go_simp <;> with_reducible rfl
    try simp only[Act.put]
    refine wpAnyH_take (i:=15) (v:=?_) rfl (by kernel_rfl) (by kernel_rfl) (by kernel_rfl) (fun _ _ _ h=>h) (Or.inl ⟨by rfl,?hx15⟩) (by assumption) ?more15
    case hx15=>intro W hSw;obtain⟨s0,s1,s2⟩:=hSw;go_simp <;> with_reducible rfl
    try simp only[Act.put]
    refine wpAnyH_done (by kernel_rfl) ?_ _
    clear hHeld
    cases he:(ez != 0)with
    | true=>
     have HW2:=Hd (show R=(0,ez) by rw[HW.out,if_pos (by simpa using he)])
     go_wp2_with fail
     go_ret2
     exact⟨by rw[HW2.out];rfl,HEND.out _ HBB.out⟩
    | false=>
     have hz0:ez=0:=by simpa using he
     subst hz0
     cases dz with
     | false=>
      have HW2:=Hd (show R=(0,20) by rw[HW.out,if_neg (by simp),if_pos (by simp)])
      go_wp2_with (first|(go_at_call 80;refine(Ab2 _ _ _ _ _ L _ HDZ.out _ (HM.out.below HBB.out)).mono ?_;rintro e w7 ⟨rfl,hb7⟩;have HB7:=Hd (HBB.out.trans (hb7.mono HBB.out.size)))|fail)
      go_ret2
      exact⟨by rw[HW2.out];rfl,HEND.out _ HB7.out⟩
     | true=>
      have HW2:=Hd (show R=(kz,0) by rw[HW.out,if_neg (by simp),if_neg (by simp)])
      go_wp2_with (first|(go_at_call 80;refine(Ab2 _ _ _ _ _ L _ HDZ.out _ (HM.out.below HBB.out)).mono ?_;rintro e w7 ⟨rfl,hb7⟩;have HB7:=Hd (HBB.out.trans (hb7.mono HBB.out.size)))|fail)
      go_ret2
      exact⟨by rw[HW2.out];rfl,HEND.out _ HB7.out⟩
section
variable {P : Program}
theorem Agk (w:World)(dT sT ty elem:TypeId)(b o dLen dCap:Nat)(a:Addr)(sLen sCap k n:Nat)(cs:List Value)
  (hu:P.underlying dT=some (.slice elem)) (hs:(P.info? elem).map (·.size)=some k) (hn:n=Nat.min sLen dLen) (hl:cs.length=n * k)
  (hsrc:∀ j v,cs[j]?=some v->w.cell? (a.add j)=some v) (hc:∀ j,j < cs.length->(w.cell? ⟨b,o+j,none⟩).isSome=true) (hf:∀ j,j < cs.length->w.frozen? ⟨b,o+j,none⟩=false) (h1:∀ v∈cs,v.oneCell'=true) :
  (Builtin.copy_ #[dT,sT] ty #[.slice (some ⟨b,o,none⟩) dLen dCap,.slice (some a) sLen sCap]).run P w=.ok (goInt n) (w.setCells b o cs):=by
 have hld:=run_loadCells_list (P:=P) w a cs hsrc
 have hst:=run_storeCells_cells (P:=P) b o cs 0 w (by simpa using hc) (by simpa using hf) h1
 rw[hl]at hld
 cases hq:P.info? elem with
 | none=>simp[hq]at hs
 | some i=>
  have hi:i.size=k:=by simpa[hq] using hs
  simp[Builtin.copy_,run_underlying hu,Builtin.lenOf,Builtin.firstCells,sizeOf,typeInfo,hq,hi,<-hn,hld,hst]
end
def layA (cur:Array Value):Nat->List Value->Array Value
 | _,[]=>cur
 | o,v :: r=>layA (cur.setIfInBounds o v) (o+1) r
theorem Adl : ∀ (vs:List Value) (cur:Array Value) (o:Nat),(layA cur o vs).size=cur.size
 | [],_,_=>rfl
 | v :: r,cur,o=>by rw[layA,Adl r];simp
theorem Afq : ∀ (vs:List Value) (cur:Array Value) (o:Nat),o+vs.length<=cur.size->∀ j,(layA cur o vs)[j]?=if o<=j/\j < o+vs.length then vs[j - o]? else cur[j]?
 | [],cur,o,_,j=>by rw[if_neg (by simp)];rfl
 | v :: r,cur,o,h,j=>by
  have hl:(v :: r).length=r.length+1:=rfl
  rw[layA,Afq r _ (o+1) (by simp;omega) j]
  by_cases e:j=o
  ·subst e
   rw[if_neg (by omega),if_pos (by omega),Nat.sub_self,Array.getElem?_setIfInBounds,if_pos rfl,if_pos (by omega)]
   rfl
  ·by_cases h2:o+1<=j/\j < o+1+r.length
   ·rw[if_pos h2,if_pos (by omega),show j - o=j - (o+1)+1 by omega,List.getElem?_cons_succ]
   ·rw[if_neg h2,if_neg (by omega),Array.getElem?_setIfInBounds_ne (by omega)]
theorem Ag6 {k:Nat}{t:TypeId}:∀ (vs:List Value) (o:Nat) {W:World} {cs:Array Value},W.heap[k]?=some (.cells cs t (0,0))->(W.setCells k o vs).heap[k]?=some (.cells (layA cs o vs) t (0,0))
 | [],_,_,_,h=>h
 | v :: r,o,_W,_cs,h=>Ag6 r (o+1) (Aar h o v)
def insK (K:List (List UInt8×Int))(i:Nat)(x:List UInt8×Int):List (List UInt8×Int):=K.take i ++ x :: K.drop i
theorem Ais {K:List (List UInt8×Int)}{i:Nat}(h:i<=K.length)(x:List UInt8×Int):(insK K i x).length=K.length+1:=by
 unfold insK
 rw[List.length_append,List.length_cons,List.length_take,List.length_drop]
 omega
theorem Amo : ∀ (K:List (List UInt8×Int)) (i:Nat),kidC (K.take i)=(kidC K).take (i * 2)
 | [],i=>by simp[kidC]
 | e :: r,0=>by simp[kidC]
 | e :: r,i+1=>by rw[List.take_succ_cons,kidC,kidC,Amo r i,show (i+1) * 2=i * 2+1+1 by omega,List.take_succ_cons,List.take_succ_cons]
theorem Amn : ∀ (K:List (List UInt8×Int)) (i:Nat),kidC (K.drop i)=(kidC K).drop (i * 2)
 | [],i=>by simp[kidC]
 | e :: r,0=>by simp
 | e :: r,i+1=>by rw[List.drop_succ_cons,Amn r i,kidC,show (i+1) * 2=i * 2+1+1 by omega,List.drop_succ_cons,List.drop_succ_cons]
def entC (x:List UInt8×Int):List Value:=[.string ⟨x.1.toArray⟩,.int .i64 x.2]
theorem Alb (K:List (List UInt8×Int))(i:Nat)(x:List UInt8×Int):kidC (insK K i x)=(kidC K).take (i * 2) ++ (entC x ++ (kidC K).drop (i * 2)):=by
 unfold insK
 rw[Afp,Amo]
 show _ ++ (.string ⟨x.1.toArray⟩ :: .int .i64 x.2 :: kidC (K.drop i))=_
 rw[Amn]
 rfl
theorem Aib {K:List (List UInt8×Int)}{i:Nat}(h:i<=K.length)(x:List UInt8×Int)(j:Nat):(kidC (insK K i x))[j]?=if j < i * 2 then(kidC K)[j]? else if j < i * 2+2 then(entC x)[j - i * 2]? else(kidC K)[j - 2]?:=by
 have hl:=Abe K
 have ht:((kidC K).take (i * 2)).length=i * 2:=by rw[List.length_take];omega
 rw[Alb]
 by_cases h1:j < i * 2
 ·rw[if_pos h1,List.getElem?_append_left (by omega),List.getElem?_take,if_pos h1]
 ·rw[if_neg h1,List.getElem?_append_right (by omega),ht]
  by_cases h2:j < i * 2+2
  ·rw[if_pos h2,List.getElem?_append_left (by show _ < 2;omega)]
  ·rw[if_neg h2,List.getElem?_append_right (by show 2<=_;omega),List.getElem?_drop]
   show (kidC K)[i * 2+(j - i * 2 - 2)]?=_
   rw[show i * 2+(j - i * 2 - 2)=j - 2 by omega]
theorem Aif {W:World}{base g cap:Nat}{cur:Array Value}{K:List (List UInt8×Int)}(hb:base<=g)(hg:W.heap[g]?=some (.cells cur 139 (0,0)))(hn:K.length<=cap)(hm:cap<=maxLen)(hs:cur.size=cap * 2)
  (hc:∀ j,j < K.length * 2->cur[j]?=(kidC K)[j]?):Aa4 W base (.slice (some ⟨g,0,none⟩) K.length cap) K:=by
 refine⟨Abe K,.inr ⟨g,cap,cur,rfl,hb,hg,hn,hm,hs,?_⟩⟩
 refine List.ext_getElem? fun j=>?_
 rw[List.getElem?_take]
 by_cases h:j < K.length * 2
 ·rw[if_pos h,<-hc j h]
  simp
 ·rw[if_neg h,List.getElem?_eq_none (by rw[Abe];omega)]
end Go.Proofs.YtkdfbliiblojoaaGreatDoor
