import Derived.OneCell
import Derived.Laws.IdiomCopy
import Derived.Lib.BufferWrite
import Derived.Laws.OwnMore
import Derived.Test.YtkdfbliiblojoaaGreatDoorK11
set_option linter.all false
set_option maxRecDepth 100000
set_option maxHeartbeats 64000000
namespace Go.Proofs.YtkdfbliiblojoaaGreatDoor
open Go Go.RowKit
structure NodeAt (W:World)(g o:Nat)(x:Ino)(v:Value):Prop where
 kind:W.cell? ⟨g,o,none⟩=some (.int .i64 x.kind)
 mode:W.cell? ⟨g,o+1,none⟩=some (.int .i64 x.mode)
 links:W.cell? ⟨g,o+2,none⟩=some (.int .i64 x.links)
 data:W.cell? ⟨g,o+3,none⟩=some (.string ⟨x.data.toArray⟩)
 kids:W.cell? ⟨g,o+4,none⟩=some v
 up:W.cell? ⟨g,o+5,none⟩=some (.int .i64 x.up)
structure NodesOwn (W:World)(g cap:Nat)(L:List Ino)(vs:List Value):Prop where
 len:vs.length=L.length
 le:L.length<=cap
 max:cap<=maxLen
 lt:g < W.heap.size
 free:∀ j,W.frozen? ⟨g,j,none⟩=false
 node:∀ i (hi:i < L.length) (hv:i < vs.length),NodeAt W g (i * 6) L[i] vs[i]
section
variable {W W' : World} {g cap : Nat} {L : List Ino} {vs : List Value}
theorem NodeAt.same {o:Nat}{x:Ino}{v:Value}(h:NodeAt W g o x v)(he:W'.heap[g]?=W.heap[g]?):NodeAt W' g o x v:=by
 have hc:∀ j,W'.cell? ⟨g,j,none⟩=W.cell? ⟨g,j,none⟩:=fun j=>World.cell?_of_block (a:=⟨g,j,none⟩) he
 exact⟨(hc _).trans h.kind,(hc _).trans h.mode,(hc _).trans h.links,(hc _).trans h.data,(hc _).trans h.kids,(hc _).trans h.up⟩
theorem Aq6 (hl:g < W.heap.size)(he:W'.heap[g]?=W.heap[g]?):g < W'.heap.size:=by
 rw[Array.getElem?_eq_getElem hl]at he
 exact(Array.getElem?_eq_some_iff.1 he).1
theorem NodesOwn.same (h:NodesOwn W g cap L vs)(he:W'.heap[g]?=W.heap[g]?):NodesOwn W' g cap L vs:=
 ⟨h.len,h.le,h.max,Aq6 h.lt he,fun j=>(World.frozen?_of_block (a:=⟨g,j,none⟩) he).trans (h.free j),fun i hi hv=>(h.node i hi hv).same he⟩
theorem NodesOwn.below (h:NodesOwn W g cap L vs)(hb:Below W.heap.size W W'):NodesOwn W' g cap L vs:=h.same (hb.block g h.lt)
theorem NodesOwn.nodesIn (h:NodesOwn W g cap L vs)(hk:∀ i (hi:i < L.length) (hv:i < vs.length),Abn W vs[i] L[i].kids):Aad W (some ⟨g,0,none⟩) cap L:=
 ⟨h.le,h.max,fun i hi=>⟨g,0,rfl,by
  rw[Nat.zero_add]
  have hv:i < vs.length:=by rw[h.len];exact hi
  have hn:=h.node i hi hv
  exact⟨hn.kind,hn.mode,hn.links,hn.data,⟨_,hn.kids,hk i hi hv⟩,hn.up⟩⟩⟩
theorem Ak7 {a:Nat}{u old:Value}(h:W.cell? ⟨g,a,none⟩=some old)(j:Nat):(W.setCell ⟨g,a,none⟩ u).cell? ⟨g,j,none⟩=if j=a then some u else W.cell? ⟨g,j,none⟩:=by
 by_cases e:j=a
 ·subst e
  rw[if_pos rfl]
  exact World.cell?_setCell_same W ⟨g,j,none⟩ u h
 ·rw[if_neg e]
  exact World.cell?_setCell_other W ⟨g,a,none⟩ ⟨g,j,none⟩ u (fun e2=>e (Addr.mk.inj e2).2.1.symm)
theorem Afv (a:Addr)(u:Value):(W.setCell a u).heap.size=W.heap.size:=by simp[World.setCell]
theorem NodesOwn.put (h:NodesOwn W g cap L vs){i:Nat}(_hi:i < L.length){x:Ino}{v:Value}(hs:W'.heap.size=W.heap.size)(hf:∀ j,W'.frozen? ⟨g,j,none⟩=W.frozen? ⟨g,j,none⟩)
  (hout:∀ j,j < i * 6∨i * 6+6<=j->W'.cell? ⟨g,j,none⟩=W.cell? ⟨g,j,none⟩) (hin:NodeAt W' g (i * 6) x v):NodesOwn W' g cap (L.set i x) (vs.set i v):=by
 refine⟨by rw[List.length_set,List.length_set,h.len],by rw[List.length_set];exact h.le,h.max,by rw[hs];exact h.lt,fun j=>(hf j).trans (h.free j),fun j hj hv=>?_⟩
 rw[List.length_set]at hj hv
 by_cases e:i=j
 ·subst e
  rw[List.getElem_set_self,List.getElem_set_self]
  exact hin
 ·rw[List.getElem_set_ne e,List.getElem_set_ne e]
  have hn:=h.node j hj hv
  have ho:∀ t,t < 6->W'.cell? ⟨g,j * 6+t,none⟩=W.cell? ⟨g,j * 6+t,none⟩:=fun t ht=>hout _ (by omega)
  exact⟨(ho 0 (by decide)).trans hn.kind,(ho 1 (by decide)).trans hn.mode,(ho 2 (by decide)).trans hn.links,(ho 3 (by decide)).trans hn.data,(ho 4 (by decide)).trans hn.kids,(ho 5 (by decide)).trans hn.up⟩
theorem NodesOwn.setKids (h:NodesOwn W g cap L vs){i:Nat}(hi:i < L.length)(hv:i < vs.length)(v:Value)(M:List (List UInt8×Int)):NodesOwn (W.setCell ⟨g,i * 6+4,none⟩ v) g cap (L.set i { L[i]with kids:=M }) (vs.set i v):=by
 have hn:=h.node i hi hv
 have hc:=Ak7 (u:=v) hn.kids
 refine h.put hi (Afv _ _) (fun j=>World.frozen?_setCell ..) (fun j hj=>by rw[hc,if_neg (by omega)]) ⟨?_,?_,?_,?_,?_,?_⟩
 ·rw[hc,if_neg (by omega)];exact hn.kind
 ·rw[hc,if_neg (by omega)];exact hn.mode
 ·rw[hc,if_neg (by omega)];exact hn.links
 ·rw[hc,if_neg (by omega)];exact hn.data
 ·rw[hc,if_pos rfl]
 ·rw[hc,if_neg (by omega)];exact hn.up
theorem NodesOwn.setLinks (h:NodesOwn W g cap L vs){i:Nat}(hi:i < L.length)(hv:i < vs.length)(z:Int):NodesOwn (W.setCell ⟨g,i * 6+2,none⟩ (.int .i64 z)) g cap (L.set i { L[i]with links:=z }) (vs.set i vs[i]):=by
 have hn:=h.node i hi hv
 have hc:=Ak7 (u:=.int .i64 z) hn.links
 refine h.put hi (Afv _ _) (fun j=>World.frozen?_setCell ..) (fun j hj=>by rw[hc,if_neg (by omega)]) ⟨?_,?_,?_,?_,?_,?_⟩
 ·rw[hc,if_neg (by omega)];exact hn.kind
 ·rw[hc,if_neg (by omega)];exact hn.mode
 ·rw[hc,if_pos rfl]
 ·rw[hc,if_neg (by omega)];exact hn.data
 ·rw[hc,if_neg (by omega)];exact hn.kids
 ·rw[hc,if_neg (by omega)];exact hn.up
def inoC (x:Ino)(v:Value):List Value:=[.int .i64 x.kind,.int .i64 x.mode,.int .i64 x.links,.string ⟨x.data.toArray⟩,v,.int .i64 x.up]
theorem Aez (b:Nat):∀ (l:List Value) (o:Nat) (w:World),(w.setCells b o l).heap.size=w.heap.size
 | [],_,_=>rfl
 | v :: r,o,w=>by
  show ((w.setCell ⟨b,o,none⟩ v).setCells b (o+1) r).heap.size=_
  rw[Aez b r,Afv]
theorem NodesOwn.setNode (h:NodesOwn W g cap L vs){i:Nat}(hi:i < L.length)(hv:i < vs.length)(x:Ino)(v:Value):NodesOwn (W.setCells g (i * 6) (inoC x v)) g cap (L.set i x) (vs.set i v):=by
 have hn:=h.node i hi hv
 have hin:=World.cell?_setCells_in g (inoC x v) (i * 6) W (fun j hj=>by
  have hj':j < 6:=hj
  match j,hj' with
  | 0,_=>exact Option.isSome_of_eq_some hn.kind
  | 1,_=>exact Option.isSome_of_eq_some hn.mode
  | 2,_=>exact Option.isSome_of_eq_some hn.links
  | 3,_=>exact Option.isSome_of_eq_some hn.data
  | 4,_=>exact Option.isSome_of_eq_some hn.kids
  | 5,_=>exact Option.isSome_of_eq_some hn.up)
 refine h.put hi (Aez _ _ _ _) (fun j=>World.frozen?_setCells ..) (fun j hj=>World.cell?_setCells_out _ _ _ _ _ (fun _ _=>hj)) ⟨?_,?_,?_,?_,?_,?_⟩
 ·exact hin 0 (show 0 < 6 by decide)
 ·exact hin 1 (show 1 < 6 by decide)
 ·exact hin 2 (show 2 < 6 by decide)
 ·exact hin 3 (show 3 < 6 by decide)
 ·exact hin 4 (show 4 < 6 by decide)
 ·exact hin 5 (show 5 < 6 by decide)
end
def kidC : List (List UInt8×Int)->List Value
 | []=>[]
 | e :: r=>.string ⟨e.1.toArray⟩ :: .int .i64 e.2 :: kidC r
theorem Abe : ∀ K,(kidC K).length=K.length * 2
 | []=>rfl
 | e :: r=>by simp only[kidC,List.length_cons,Abe r];omega
theorem Afp : ∀ A B,kidC (A ++ B)=kidC A ++ kidC B
 | [],B=>rfl
 | e :: r,B=>by simp only[List.cons_append,kidC,Afp r B]
theorem Aji : ∀ (K:List (List UInt8×Int)) (i:Nat) (h:i < K.length),(kidC K)[i * 2]?=some (.string ⟨K[i].1.toArray⟩)
 | e :: r,0,_=>rfl
 | e :: r,i+1,h=>by
  have:=Aji r i (Nat.lt_of_succ_lt_succ h)
  rw[show (i+1) * 2=i * 2+1+1 by omega,kidC,List.getElem?_cons_succ,List.getElem?_cons_succ,this]
  rfl
theorem Ajj : ∀ (K:List (List UInt8×Int)) (i:Nat) (h:i < K.length),(kidC K)[i * 2+1]?=some (.int .i64 K[i].2)
 | e :: r,0,_=>rfl
 | e :: r,i+1,h=>by
  have:=Ajj r i (Nat.lt_of_succ_lt_succ h)
  rw[show (i+1) * 2+1=i * 2+1+1+1 by omega,kidC,List.getElem?_cons_succ,List.getElem?_cons_succ,this]
  rfl
theorem Ait : ∀ (K:List (List UInt8×Int)),∀ u∈kidC K,u.oneCell'=true
 | [],_,h=>by cases h
 | e :: r,u,h=>by
  rcases List.mem_cons.1 h with rfl|h
  ·rfl
  ·rcases List.mem_cons.1 h with rfl|h
   ·rfl
   ·exact Ait r u h
theorem Aq3 {W:World}{K:List (List UInt8×Int)}{b o:Nat}(h:∀ i (hi:i < K.length),W.cell? ⟨b,o+i * 2,none⟩=some (.string ⟨K[i].1.toArray⟩)/\W.cell? ⟨b,o+i * 2+1,none⟩=some (.int .i64 K[i].2))(j:Nat)(u:Value)(hu:(kidC K)[j]?=some u):W.cell? ⟨b,o+j,none⟩=some u:=by
 have hj:j < K.length * 2:=by rw[<-Abe];exact(List.getElem?_eq_some_iff.1 hu).1
 have hi:j / 2 < K.length:=by omega
 rcases Nat.mod_two_eq_zero_or_one j with e|e
 ·obtain⟨i,rfl⟩:∃ i,j=i * 2:=⟨j / 2,by omega⟩
  have hi':i < K.length:=by omega
  rw[Aji K i hi']at hu
  cases hu
  exact(h i hi').1
 ·obtain⟨i,rfl⟩:∃ i,j=i * 2+1:=⟨j / 2,by omega⟩
  have hi':i < K.length:=by omega
  rw[Ajj K i hi']at hu
  cases hu
  rw[<-Nat.add_assoc]
  exact(h i hi').2
def Aa4 (W:World)(base:Nat)(v:Value)(K:List (List UInt8×Int)):Prop:=W.ownsRow base 139 2 v K.length (kidC K)
theorem Abj (g j:Nat):(⟨g,0,none⟩:Addr).add j=⟨g,j,none⟩:=by
 unfold Addr.add
 split
 ·rename_i h;rw[h]
 ·show (⟨g,0+j,none⟩:Addr)=_;rw[Nat.zero_add]
theorem Aa4.kidsIn {W:World}{base:Nat}{v:Value}{K:List (List UInt8×Int)}(h:Aa4 W base v K):Abn W v K:=by
 rcases h.2 with ⟨rfl,h0⟩|⟨g,cap,cur,rfl,hb,hg,hn,hc,hs,ht⟩
 ·have e:K=[]:=List.length_eq_zero_iff.1 h0
  subst e
  exact⟨none,0,rfl,Nat.le_refl _,Nat.zero_le _,fun i hi=>absurd hi (Nat.not_lt_zero _)⟩
 ·refine⟨some ⟨g,0,none⟩,cap,rfl,hn,hc,fun i hi=>⟨g,0,rfl,?_,?_⟩⟩
  ·have:=h.cells rfl _ _ (Aji K i hi)
   rw[Abj]at this
   rw[Nat.zero_add]
   exact this
  ·have:=h.cells rfl _ _ (Ajj K i hi)
   rw[Abj]at this
   rw[Nat.zero_add]
   exact this
theorem Aa4.form {W:World}{B:Nat}{v:Value}{K:List (List UInt8×Int)}(h:Aa4 W B v K):∃ a c,v=.slice a K.length c:=by
 rcases h.2 with ⟨rfl,h0⟩|⟨g,cap,cur,e,-⟩
 ·exact⟨none,0,by rw[h0]⟩
 ·exact⟨_,_,e⟩
theorem Aa4.lower {W:World}{B B':Nat}{v:Value}{K:List (List UInt8×Int)}(h:Aa4 W B v K)(hb:B'<=B):Aa4 W B' v K:=by
 refine⟨h.1,?_⟩
 rcases h.2 with hn|⟨g,cap,cur,e,hg,rest⟩
 ·exact .inl hn
 ·exact .inr ⟨g,cap,cur,e,Nat.le_trans hb hg,rest⟩
theorem Aa4.nil (W:World)(base:Nat):Aa4 W base (.slice none 0 0) []:=World.ownsRow_nil W base _ 2
theorem Aa4.same {W W':World}{base:Nat}{v:Value}{K:List (List UInt8×Int)}(h:Aa4 W base v K)(he:∀ k,v.ownBlock=some k->W'.heap[k]?=W.heap[k]?):Aa4 W' base v K:=by
 refine⟨h.1,?_⟩
 rcases h.2 with hn|⟨g,cap,cur,rfl,hb,hg,rest⟩
 ·exact .inl hn
 ·exact .inr ⟨g,cap,cur,rfl,hb,(he g rfl).trans hg,rest⟩
structure OwnT (W:World)(base g cap:Nat)(L:List Ino)(vs:List Value):Prop where
 nodes:NodesOwn W g cap L vs
 hbase:base<=g
 kids:∀ i (hi:i < L.length) (hv:i < vs.length),Aa4 W base vs[i] L[i].kids
 apart:∀ i j (hi:i < vs.length) (hj:j < vs.length),i≠j->vs[i].ownBlock=none∨vs[i].ownBlock≠vs[j].ownBlock
 off:∀ i (hi:i < vs.length),vs[i].ownBlock≠some g
section
variable {W W' : World} {base g cap : Nat} {L : List Ino} {vs : List Value}
theorem OwnT.nodesIn (h:OwnT W base g cap L vs):Aad W (some ⟨g,0,none⟩) cap L:=h.nodes.nodesIn fun i hi hv=>(h.kids i hi hv).kidsIn
theorem OwnT.below (h:OwnT W base g cap L vs)(hb:Below W.heap.size W W'):OwnT W' base g cap L vs:=
 ⟨h.nodes.below hb,h.hbase,fun i hi hv=>(h.kids i hi hv).same fun k hk=>hb.block k ((h.kids i hi hv).lt k hk).2,h.apart,h.off⟩
theorem OwnT.low (h:OwnT W base g cap L vs)(hb:∀ k,base<=k->W'.heap[k]?=W.heap[k]?):OwnT W' base g cap L vs:=
 ⟨h.nodes.same (hb g h.hbase),h.hbase,fun i hi hv=>(h.kids i hi hv).same fun k hk=>hb k ((h.kids i hi hv).lt k hk).1,h.apart,h.off⟩
theorem OwnT.lower {base':Nat}(h:OwnT W base g cap L vs)(hb:base'<=base):OwnT W base' g cap L vs:=
 ⟨h.nodes,Nat.le_trans hb h.hbase,fun i hi hv=>(h.kids i hi hv).lower hb,h.apart,h.off⟩
theorem OwnT.setKids (h:OwnT W base g cap L vs){d:Nat}(hd:d < L.length)(hv:d < vs.length){v:Value}{M:List (List UInt8×Int)}(hg:W.grownBy W' vs[d].ownBlock)(ho:Aa4 W' base v M)(hb:∀ k,v.ownBlock=some k->vs[d].ownBlock=some k∨W.heap.size<=k) :
  OwnT (W'.setCell ⟨g,d * 6+4,none⟩ v) base g cap (L.set d { L[d]with kids:=M }) (vs.set d v):=by
 have hsame:W'.heap[g]?=W.heap[g]?:=hg.block g h.nodes.lt (fun e=>h.off d hv e.symm)
 have hN:=(h.nodes.same hsame).setKids hd hv v M
 have hoff:∀ k,v.ownBlock=some k->k≠g:=fun k hk e=>by
  subst e
  rcases hb k hk with h1|h1
  ·exact h.off d hv h1
  ·have:=h.nodes.lt;omega
 have hap:∀ j (hj:j < vs.length),j≠d->∀ k,vs[j].ownBlock=some k->v.ownBlock≠some k:=fun j hj hjd k hk e=>by
  rcases hb k e with h1|h1
  ·rcases h.apart j d hj hv hjd with h2|h2
   ·rw[h2]at hk;cases hk
   ·exact h2 (hk.trans h1.symm)
  ·have:=((h.kids j (by rw[<-h.nodes.len];exact hj) hj).lt k hk).2
   omega
 have hst:∀ k,k≠g->(W'.setCell ⟨g,d * 6+4,none⟩ v).heap[k]?=W'.heap[k]?:=fun k hk=>Below.heap_setCell _ _ _ _ hk
 refine⟨hN,h.hbase,fun i hi hvi=>?_,fun i j hi hj hij=>?_,fun i hi=>?_⟩
 ·rw[List.length_set]at hi hvi
  by_cases e:d=i
  ·subst e
   rw[List.getElem_set_self]
   have e2:(L.set d { L[d]with kids:=M })[d]'(by rw[List.length_set];exact hi)={ L[d]with kids:=M }:=List.getElem_set_self ..
   rw[e2]
   exact ho.same fun k hk=>hst k (hoff k hk)
  ·rw[List.getElem_set_ne e,List.getElem_set_ne e]
   have hki:=h.kids i hi hvi
   refine hki.same fun k hk=>?_
   rw[hst k (fun e3=>h.off i hvi (e3 ▸ hk))]
   refine hg.block k (hki.lt k hk).2 (fun e3=>?_)
   rcases h.apart i d hvi hv (fun e4=>e e4.symm)with h2|h2
   ·rw[h2]at hk;cases hk
   ·exact h2 (hk.trans e3)
 ·rw[List.length_set]at hi hj
  rw[List.getElem_set,List.getElem_set]
  by_cases e1:d=i
  ·rw[if_pos e1]
   rw[if_neg (fun e2=>hij (e1.symm.trans e2))]
   cases hq:v.ownBlock with
   | none=>exact Or.inl rfl
   | some k=>exact Or.inr fun e3=>hap j hj (fun e2=>hij (e1.symm.trans e2.symm)) k e3.symm hq
  ·rw[if_neg e1]
   by_cases e2:d=j
   ·rw[if_pos e2]
    cases hq:vs[i].ownBlock with
    | none=>exact Or.inl rfl
    | some k=>exact Or.inr fun e3=>hap i hi (fun e4=>e1 e4.symm) k hq e3.symm
   ·rw[if_neg e2]
    exact h.apart i j hi hj hij
 ·rw[List.length_set]at hi
  rw[List.getElem_set]
  by_cases e:d=i
  ·rw[if_pos e]
   exact fun e3=>hoff g e3 rfl
  ·rw[if_neg e]
   exact h.off i hi
theorem Alu {vs:List Value}{i:Nat}(hi:i < vs.length):vs.set i vs[i]=vs:=List.set_getElem_self ..
theorem OwnT.setLinks (h:OwnT W base g cap L vs){i:Nat}(hi:i < L.length)(z:Int):OwnT (W.setCell ⟨g,i * 6+2,none⟩ (.int .i64 z)) base g cap (L.set i { L[i]with links:=z }) vs:=by
 have hv:i < vs.length:=by rw[h.nodes.len];exact hi
 have hN:=h.nodes.setLinks hi hv z
 rw[Alu]at hN
 refine⟨hN,h.hbase,fun j hj hvj=>?_,h.apart,h.off⟩
 rw[List.length_set]at hj
 have hk:=(h.kids j hj hvj).same (W':=W.setCell ⟨g,i * 6+2,none⟩ (.int .i64 z)) fun k hk=>Below.heap_setCell _ _ _ _ (fun e=>h.off j hvj (hk.trans (congrArg some (show k=g from e))))
 rw[List.getElem_set]
 split
 ·rename_i e;subst e;exact hk
 ·exact hk
theorem Aeu (b:Nat):∀ (l:List Value) (o:Nat) (w:World) (k:Nat),k≠b->(w.setCells b o l).heap[k]?=w.heap[k]?
 | [],_,_,_,_=>rfl
 | v :: r,o,w,k,h=>by
  show ((w.setCell ⟨b,o,none⟩ v).setCells b (o+1) r).heap[k]?=_
  rw[Aeu b r _ _ k h]
  exact Below.heap_setCell _ _ _ _ h
theorem OwnT.setNode (h:OwnT W base g cap L vs){i:Nat}(hi:i < L.length)(x:Ino)(hx:x.kids=[]):OwnT (W.setCells g (i * 6) (inoC x (.slice none 0 0))) base g cap (L.set i x) (vs.set i (.slice none 0 0)):=by
 have hv:i < vs.length:=by rw[h.nodes.len];exact hi
 refine⟨h.nodes.setNode hi hv x _,h.hbase,fun j hj hvj=>?_,fun j k hj hk hjk=>?_,fun j hj=>?_⟩
 ·rw[List.length_set]at hj hvj
  by_cases e:i=j
  ·subst e
   rw[List.getElem_set_self,List.getElem_set_self,hx]
   exact Aa4.nil _ _
  ·rw[List.getElem_set_ne e,List.getElem_set_ne e]
   exact(h.kids j hj hvj).same fun k hk=>Aeu _ _ _ _ _ (fun e=>h.off j hvj (e ▸ hk))
 ·rw[List.length_set]at hj hk
  rw[List.getElem_set,List.getElem_set]
  by_cases e1:i=j
  ·rw[if_pos e1]
   exact Or.inl rfl
  ·rw[if_neg e1]
   by_cases e2:i=k
   ·rw[if_pos e2]
    cases hq:vs[j].ownBlock with
    | none=>exact Or.inl rfl
    | some k=>exact Or.inr fun e3=>by cases e3
   ·rw[if_neg e2]
    exact h.apart j k hj hk hjk
 ·rw[List.length_set]at hj
  rw[List.getElem_set]
  split
  ·exact fun e=>by cases e
  ·exact h.off j hj
end
def rowB (l:List UInt8):Array Value:=(Lib.byteCells l).toArray
theorem Axu (l:List UInt8)(j:Nat)(hj:j < l.length):(rowB l)[j]?=some (.int .u8 (l[j].toNat:Int)):=by simp[rowB,Lib.byteCells,hj]
theorem Au5 (l:List UInt8):(rowB l).size=l.length:=by simp[rowB,Lib.byteCells]
theorem Aza : (Tryz.prog.info? 5).map (fun i=>(i.zero,i.size,i.bytes))=some (some (.int .u8 0),1,1):=by kernel_rfl
theorem Arb (n:Nat):madeCells #[.int .u8 0] n=rowB (List.replicate n 0):=by
 apply Array.ext'
 rw[toList_madeCells_one]
 simp[rowB,Lib.byteCells]
theorem Agr (W:World)(c:Int)(n:Nat)(hc:c=(n:Int))(hn:n<=1000000):(Instr.makeSlice 175 (.int .i64 c) (.int .i64 c)).run Tryz.prog W=.ok (.slice (some ⟨W.heap.size,0,none⟩) n n) (W.alloc (.cells (rowB (List.replicate n 0)) 5)):=by
 subst hc
 obtain⟨i0,hi,hz0,hz1,hz2⟩:=info_parts Aza
 have h:=run_makeSlice (P:=Tryz.prog) W 175 5 i0 (.int .u8 0) Tryz.underlying175 hi hz0 .i64 .i64 (n:Int) (n:Int) (by omega) (Int.le_refl _) (by rw[hz1];simp;omega) (by rw[hz2];omega) (by omega)
 rw[hz1,Int.toNat_natCast,Nat.mul_one]at h
 rw[<-Arb]
 exact h
theorem Aoy (W:World)(g cap:Nat)(l:List UInt8)(t:TypeId)(hg:W.heap[g]?=some (.cells (rowB l) t (0,0))):(convert 175 9 (.slice (some ⟨g,0,none⟩) l.length cap)).run Tryz.prog W=.ok (.string ⟨l.toArray⟩) W:=
 run_convert_bytes_back W 175 9 5 ⟨g,0,none⟩ cap l Tryz.underlying175 Tryz.underlying5 Tryz.underlying9 (fun j hj=>by
  rw[Abj,bC hg j]
  exact Axu l j hj)
theorem Agq (W:World)(g o dLen dCap:Nat)(s:ByteArray)(l:List UInt8)(t:TypeId)(hg:W.heap[g]?=some (.cells (rowB l) t (0,0)))(hfit:o+min s.size dLen<=l.length)(ty:TypeId) :
  (Builtin.copy_ #[175,9] ty #[.slice (some ⟨g,o,none⟩) dLen dCap,.string s]).run Tryz.prog W=.ok (goInt ((min s.size dLen:Nat):Int)) (W.setRow g (rowB (l.take o ++ s.data.toList.take dLen ++ l.drop (o+min s.size dLen)))):=by
 obtain⟨i0,hi,hz0,hz1,hz2⟩:=info_parts Aza
 have hl:s.data.toList.length=s.size:=Array.length_toList
 have hlen:(Lib.byteCells (s.data.toList.take dLen)).length=min s.size dLen:=by rw[Lib.byteCells_length,List.length_take,hl];omega
 have hst:=run_storeCells_at Tryz.prog g o t (Lib.byteCells (s.data.toList.take dLen)) 0 (rowB l) W hg (by rw[hlen,Au5];omega) (Lib.byteCells_one _)
 rw[hlen]at hst
 have htk:List.take (Nat.min s.size dLen) (List.map (fun b:UInt8=>Value.int IntKind.u8 (b.toNat:Int)) s.data.toList)=Lib.byteCells (s.data.toList.take dLen):=by
  unfold Lib.byteCells
  rw[<-List.map_take]
  congr 1
  have h2:s.data.toList.take (Nat.min s.size dLen)=s.data.toList.take dLen:=by
   rw[List.take_eq_take_iff,hl]
   show min (min s.size dLen) s.size=min dLen s.size
   omega
  exact h2
 have hrow:((rowB l).toList.take o ++ Lib.byteCells (s.data.toList.take dLen) ++ (rowB l).toList.drop (o+min s.size dLen)).toArray=rowB (l.take o ++ s.data.toList.take dLen ++ l.drop (o+min s.size dLen)):=by
  unfold rowB
  rw[Lib.byteCells_append,Lib.byteCells_append]
  simp[Lib.byteCells]
 simp only[Nat.add_zero]at hst
 rw[hrow]at hst
 simp[Builtin.copy_,run_underlying Tryz.underlying175,Builtin.lenOf,Builtin.firstCells,sizeOf,typeInfo,hi]
 rw[htk,hst,List.append_assoc]
 rfl
theorem Az5 (k:Int)(hk:k<=1000000)(w:World):Calls Tryz.prog 113 #[.int .i64 k] w fun e w'=>e=.returned (.string ⟨(List.replicate k.toNat (0:UInt8)).toArray⟩)/\Below w.heap.size w w':=by
 have hmk:=Agr w (max k 0) k.toNat (by omega) (by omega)
 have hcv:=Aoy (w.alloc (.cells (rowB (List.replicate k.toNat 0)) 5)) w.heap.size k.toNat (List.replicate k.toNat 0) 5 (Aag w _)
 rw[List.length_replicate]at hcv
 have HB:=Hd (Aab w (.cells (rowB (List.replicate k.toNat 0)) 5))
 go_enter Tryz.func113,Tryz.ntmps113
 go_wp2_with fail
 go_ret
 exact⟨rfl,HB.out⟩
theorem Ba2 (p:Pip)(hw0:0<=p.wr)(n:Int)(q:Pip)(t:List UInt8)(er:Int)(hz:Ack p n=(q,t,er))(w:World) :
  Calls Tryz.prog 133 #[.agg #[.string ⟨p.data.toArray⟩,.int .i64 p.rd,.int .i64 p.wr,.int .i64 p.cap],.int .i64 n] w fun e w'=>e=.returned (.tuple #[.agg #[.string ⟨q.data.toArray⟩,.int .i64 q.rd,.int .i64 q.wr,.int .i64 q.cap],.string ⟨t.toArray⟩,.int .i64 er])/\Below w.heap.size w w':=by
 obtain⟨D,hD⟩:∃ D:ByteArray,D=⟨p.data.toArray⟩:=⟨_,rfl⟩
 obtain⟨hDl,hDs⟩:=Af4 hD
 have HD:=Hd hD
 rw[<-hD]
 clear hD
 have HEND:=Hd (Af8 w)
 unfold Ack at hz
 by_cases h1:n < 1
 ·rw[if_pos h1]at hz
  simp only[Prod.mk.injEq]at hz
  obtain⟨rfl,rfl,rfl⟩:=hz
  have hd1:decide (n < 1)=true:=decide_eq_true h1
  rw[<-HD.out]
  clear hDl hDs
  go_enter Tryz.func133,Tryz.ntmps133
  go_wp2_with fail
  exact bodyPost_ret (v:=(.tuple #[.agg #[.string D,.int .i64 p.rd,.int .i64 p.wr,.int .i64 p.cap],.string ⟨#[]⟩,.int .i64 22])) (by simp[results,Tryz.results133,go_sem]) rfl ⟨rfl,HEND.out _ _⟩
 have hd1:decide (n < 1)=false:=decide_eq_false h1
 rw[if_neg h1]at hz
 by_cases he:p.data=[]
 ·rw[if_pos he]at hz
  have hD0:D=⟨#[]⟩:=by rw[HD.out,he]
  subst hD0
  by_cases hr:p.wr=0
  ·rw[if_pos hr]at hz
   simp only[Prod.mk.injEq]at hz
   obtain⟨rfl,rfl,rfl⟩:=hz
   rw[<-HD.out]
   have hd2:decide (0 < p.wr)=false:=decide_eq_false (by omega)
   have hd3:(p.wr == 0)=true:=by simpa using hr
   have hm:min n 0=0:=by omega
   clear hr
   clear hDl hDs
   go_enter Tryz.func133,Tryz.ntmps133
   go_wp2_with fail
   exact bodyPost_ret (v:=(.tuple #[.agg #[.string ⟨#[]⟩,.int .i64 p.rd,.int .i64 p.wr,.int .i64 p.cap],.string ⟨#[]⟩,.int .i64 0])) (by simp[results,Tryz.results133,go_sem] <;> first|rfl|exact⟨rfl,rfl⟩) rfl ⟨rfl,HEND.out _ _⟩
  ·rw[if_neg hr]at hz
   simp only[Prod.mk.injEq]at hz
   obtain⟨rfl,rfl,rfl⟩:=hz
   rw[<-HD.out]
   have hd2:decide (0 < p.wr)=true:=decide_eq_true (by omega)
   have hd3:(p.wr == 0)=false:=by simpa using hr
   clear hDl hDs
   go_enter Tryz.func133,Tryz.ntmps133
   go_wp2_with fail
   exact bodyPost_ret (v:=(.tuple #[.agg #[.string ⟨#[]⟩,.int .i64 p.rd,.int .i64 p.wr,.int .i64 p.cap],.string ⟨#[]⟩,.int .i64 11])) (by simp[results,Tryz.results133,go_sem]) rfl ⟨rfl,HEND.out _ _⟩
 ·rw[if_neg he]at hz
  simp only[Prod.mk.injEq]at hz
  obtain⟨rfl,rfl,rfl⟩:=hz
  obtain⟨hpl,hpe⟩:=Avf (D:=D) (by rw[hDl];exact he)
  obtain⟨n1,rfl⟩:∃ n1:Nat,n=(n1:Int):=⟨n.toNat,by omega⟩
  obtain⟨E1,hE1⟩:∃ E:ByteArray,E=⟨(D.data.toList.drop (min n1 D.size)).toArray⟩:=⟨_,rfl⟩
  obtain⟨E2,hE2⟩:∃ E:ByteArray,E=⟨(D.data.toList.take (min n1 D.size)).toArray⟩:=⟨_,rfl⟩
  have c1:=fun W=>Ap9 D (min (n1:Int) (D.size:Int)) (min n1 D.size) (by omega) (by omega) W
  rw[<-hE1]at c1
  have c2:=fun W=>Aiy D (min (n1:Int) (D.size:Int)) (min n1 D.size) (by omega) (by omega) W
  rw[<-hE2]at c2
  have hf1:E1=⟨(p.data.drop n1).toArray⟩:=by rw[hE1,hDl,hDs,Apj]
  have hf2:E2=⟨(p.data.take n1).toArray⟩:=by rw[hE2,hDl,hDs,Aqb]
  have HF:=Hd (And.intro hf1 hf2)
  clear hDl hDs hE1 hE2 hf1 hf2 he h1
  go_enter Tryz.func133,Tryz.ntmps133
  go_wp2_with fail
  exact bodyPost_ret (v:=(.tuple #[.agg #[.string E1,.int .i64 p.rd,.int .i64 p.wr,.int .i64 p.cap],.string E2,.int .i64 0])) (by simp[results,Tryz.results133,go_sem]) rfl ⟨by rw[HF.out.1,HF.out.2];rfl,HEND.out _ _⟩
end Go.Proofs.YtkdfbliiblojoaaGreatDoor
