import Derived.Deep.AppendSrc
import Derived.RangeFuncBox
import Derived.RangeFuncWrites
import Derived.Test.YtkdfbliiblojoaaGreatDoorK5
set_option linter.all false
set_option maxRecDepth 100000
set_option maxHeartbeats 64000000
namespace Go.Proofs.YtkdfbliiblojoaaGreatDoor
open Go Go.RowKit
def View (w:World)(v:Value)(L:List (List UInt8)):Prop:=
 ∃ a cap,v=.slice a L.length cap/\L.length<=cap/\cap<=maxLen/\∀ i (hi:i < L.length),∃ b o,a=some ⟨b,o,none⟩/\w.cell? ⟨b,o+i,none⟩=some (strv L[i])
def Held (B:Nat)(w:World)(v:Value)(L:List (List UInt8)):Prop:=
 (v=.slice none 0 0/\L=[])∨∃ g o cap cur,v=.slice (some ⟨g,o,none⟩) L.length cap/\B<=g/\L.length<=cap/\cap<=maxLen/\w.heap[g]?=some (.cells cur 9 (0,0))/\o+cap<=cur.size/\∀ i (hi:i < L.length),cur[o+i]?=some (strv L[i])
theorem Aap {w:World}{g i:Nat}{cur:Array Value}{t:TypeId}{fr:Nat×Nat}{u:Value}(h:w.heap[g]?=some (.cells cur t fr))(hi:cur[i]?=some u):w.cell? ⟨g,i,none⟩=some u:=by
 simp only[World.cell?,h]
 simpa using hi
theorem Held.view {B:Nat}{w:World}{v:Value}{L:List (List UInt8)}(h:Held B w v L):View w v L:=by
 rcases h with ⟨rfl,rfl⟩|⟨g,o,cap,cur,rfl,-,h2,h3,h4,-,h6⟩
 ·exact⟨none,0,rfl,Nat.le_refl _,Nat.zero_le _,fun i hi=>absurd hi (Nat.not_lt_zero _)⟩
 ·exact⟨_,cap,rfl,h2,h3,fun i hi=>⟨g,o,rfl,Aap h4 (h6 i hi)⟩⟩
theorem Ags.held {B:Nat}{w:World}{v:Value}{L:List (List UInt8)}(h:Ags B w v L):Held B w v L:=by
 obtain⟨h1,h2|⟨g,cap,cur,rfl,hg,hh,hn,hm,hs,ht⟩⟩:=h
 ·obtain⟨rfl,hn⟩:=h2
  exact Or.inl ⟨rfl,List.length_eq_zero_iff.1 hn⟩
 ·refine Or.inr ⟨g,0,cap,cur,rfl,hg,hn,hm,hh,by omega,fun i hi=>?_⟩
  have e1:(cur.toList.take (L.length * 1))[i]?=(L.map strv)[i]?:=by rw[ht]
  rw[List.getElem?_take,if_pos (by omega),List.getElem?_map,List.getElem?_eq_getElem hi]at e1
  rw[Nat.zero_add,<-Array.getElem?_toList]
  exact e1
theorem Ags.view {B:Nat}{w:World}{v:Value}{L:List (List UInt8)}(h:Ags B w v L):View w v L:=h.held.view
theorem View.below {w w':World}{v:Value}{L:List (List UInt8)}(h:View w v L)(hb:Below w.heap.size w w'):View w' v L:=by
 obtain⟨a,cap,h1,h2,h3,h4⟩:=h
 refine⟨a,cap,h1,h2,h3,fun i hi=>?_⟩
 obtain⟨b,o,e1,e2⟩:=h4 i hi
 exact⟨b,o,e1,Aaa hb e2⟩
theorem Held.kept {B:Nat}{w w':World}{v:Value}{L:List (List UInt8)}(h:Held B w v L)(hk:∀ g,v.ownBlock=some g->w'.heap[g]?=w.heap[g]?):Held B w' v L:=by
 rcases h with h|⟨g,o,cap,cur,rfl,h1,h2,h3,h4,h5,h6⟩
 ·exact Or.inl h
 ·exact Or.inr ⟨g,o,cap,cur,rfl,h1,h2,h3,(hk g rfl).trans h4,h5,h6⟩
theorem Held.own {B:Nat}{w:World}{v:Value}{L:List (List UInt8)}(h:Held B w v L){g:Nat}(hg:v.ownBlock=some g):B<=g/\∃ cur,w.heap[g]?=some (.cells cur 9 (0,0)):=by
 rcases h with ⟨rfl,-⟩|⟨g',o,cap,cur,rfl,h1,-,-,h4,-⟩
 ·cases hg
 ·obtain rfl:g'=g:=by simpa[Value.ownBlock] using hg
  exact⟨h1,cur,h4⟩
theorem Held.tail {B:Nat}{w:World}{x:List UInt8}{L:List (List UInt8)}{g o cap:Nat}(h:Held B w (.slice (some ⟨g,o,none⟩) (L.length+1) cap) (x :: L)):Held B w (.slice (if cap=1 then some ⟨g,o,none⟩else some ⟨g,o+1,none⟩) L.length (cap - 1)) L:=by
 rcases h with ⟨h,-⟩|⟨g',o',cap',cur,e,h1,h2,h3,h4,h5,h6⟩
 ·cases h
 ·simp only[Value.slice.injEq,Option.some.injEq,Addr.mk.injEq,List.length_cons]at e h2
  obtain⟨⟨rfl,rfl,-⟩,-,rfl⟩:=e
  by_cases hc:cap=1
  ·rw[if_pos hc]
   have h0:L=[]:=List.length_eq_zero_iff.1 (by omega)
   subst h0
   exact Or.inr ⟨g,o,cap - 1,cur,rfl,h1,by simp,by unfold maxLen at *;omega,h4,by omega,fun i hi=>absurd hi (Nat.not_lt_zero _)⟩
  ·rw[if_neg hc]
   refine Or.inr ⟨g,o+1,cap - 1,cur,rfl,h1,by omega,by unfold maxLen at *;omega,h4,by omega,fun i hi=>?_⟩
   have:=h6 (i+1) (by simp only[List.length_cons];omega)
   rw[show o+1+i=o+(i+1) by omega,this]
   rfl
theorem Held.init {B:Nat}{w:World}{x:List UInt8}{L:List (List UInt8)}{g o cap:Nat}(h:Held B w (.slice (some ⟨g,o,none⟩) (L.length+1) cap) (L ++ [x])):Held B w (.slice (some ⟨g,o,none⟩) L.length cap) L:=by
 rcases h with ⟨h,-⟩|⟨g',o',cap',cur,e,h1,h2,h3,h4,h5,h6⟩
 ·cases h
 ·simp only[Value.slice.injEq,Option.some.injEq,Addr.mk.injEq,List.length_append,List.length_cons,List.length_nil]at e h2
  obtain⟨⟨rfl,rfl,-⟩,-,rfl⟩:=e
  refine Or.inr ⟨g,o,cap,cur,rfl,h1,by omega,h3,h4,h5,fun i hi=>?_⟩
  have:=h6 i (by simp only[List.length_append,List.length_cons,List.length_nil];omega)
  rw[this,List.getElem_append_left hi]
theorem View.tail {w:World}{x:List UInt8}{L:List (List UInt8)}{b o cap:Nat}(h:View w (.slice (some ⟨b,o,none⟩) (L.length+1) cap) (x :: L)):View w (.slice (if cap=1 then some ⟨b,o,none⟩else some ⟨b,o+1,none⟩) L.length (cap - 1)) L:=by
 obtain⟨a,cap',e,h1,h2,h3⟩:=h
 simp only[Value.slice.injEq,List.length_cons]at e h1
 obtain⟨rfl,-,rfl⟩:=e
 refine⟨_,cap - 1,rfl,by omega,by unfold maxLen at *;omega,fun i hi=>?_⟩
 obtain⟨b',o',e1,e2⟩:=h3 (i+1) (by simp only[List.length_cons];omega)
 simp only[Option.some.injEq,Addr.mk.injEq]at e1
 obtain⟨rfl,rfl,-⟩:=e1
 refine⟨b,o+1,by rw[if_neg (by omega)],?_⟩
 rw[show o+1+i=o+(i+1) by omega,e2]
 rfl
theorem View.init {w:World}{x:List UInt8}{L:List (List UInt8)}{b o cap:Nat}(h:View w (.slice (some ⟨b,o,none⟩) (L.length+1) cap) (L ++ [x])):View w (.slice (some ⟨b,o,none⟩) L.length cap) L:=by
 obtain⟨a,cap',e,h1,h2,h3⟩:=h
 simp only[Value.slice.injEq,List.length_append,List.length_cons,List.length_nil]at e h1
 obtain⟨rfl,-,rfl⟩:=e
 refine⟨_,cap,rfl,by omega,h2,fun i hi=>?_⟩
 obtain⟨b',o',e1,e2⟩:=h3 i (by simp only[List.length_append,List.length_cons,List.length_nil];omega)
 refine⟨b',o',e1,?_⟩
 rw[e2,List.getElem_append_left hi]
theorem Bag (b o n:Nat):(⟨b,o,none⟩:Addr).add n=⟨b,o+n,none⟩:=by
 unfold Addr.add
 split
 ·rename_i h
  rw[h]
  rfl
 ·rfl
theorem View.src {w:World}{x:Value}{L:List (List UInt8)}(h:View w x L):Src Tryz.prog 1 61 x L.length (L.map strv) w:=by
 obtain⟨a,cap,rfl,h1,h2,h3⟩:=h
 cases a with
 | none=>
  have h0:L=[]:=by
   cases L with
   | nil=>rfl
   | cons y r=>
    obtain⟨b,o,e,-⟩:=h3 0 (by simp)
    cases e
  subst h0
  exact Src.ofNil w Tryz.underlying61 cap
 | some a=>
  refine Src.ofSlice w Tryz.underlying61 a L.length cap _ (by simp) (fun j u hu=>?_) (fun u hu=>?_)
  ·rw[List.getElem?_map]at hu
   by_cases hj:j < L.length
   ·rw[List.getElem?_eq_getElem hj]at hu
    obtain⟨b,o,e,hc⟩:=h3 j hj
    simp only[Option.some.injEq]at e
    subst e
    rw[Bag,hc]
    exact hu
   ·rw[List.getElem?_eq_none (by omega)]at hu
    cases hu
  ·obtain⟨z,-,rfl⟩:=List.mem_map.1 hu
   rfl
theorem Awe : ∃ i,Tryz.prog.info? 9=some i/\i.zero=some (.string ByteArray.empty)/\i.size=1/\i.bytes=16:=info_parts Ay9
theorem Af7 {B:Nat}{w:World}{v x:Value}{L L2:List (List UInt8)}(h:Held B w v L)(hx:View w x L2)(hn:L.length+L2.length<=1048576)(hB:B<=w.heap.size)(ty:TypeId) :
  ∃ v' w',(Builtin.append_ #[61,61] ty #[v,x]).run Tryz.prog w=.ok v' w'/\Held B w' v' (L ++ L2)/\w.grownBy w' v.ownBlock/\∀ k,v'.ownBlock=some k->v.ownBlock=some k∨w.heap.size<=k:=by
 obtain⟨i0,hi,hz0,hz1,hz2⟩:=Awe
 have hs:=hx.src
 rw[<-hz1]at hs
 have hlen:(L2.map strv).length=L2.length:=by simp
 have hcell:∀ i (hi:i < (L ++ L2).length),(L.map strv ++ L2.map strv)[i]?=some (strv (L ++ L2)[i]):=fun i hi=>by
  rw[<-List.map_append,List.getElem?_map,List.getElem?_eq_getElem hi]
  rfl
 have grow:∀ (base:Option Addr) (sCap:Nat) (row:Option Nat),sCap < L.length+L2.length->(Builtin.firstCells i0.size L.length (.slice base L.length sCap)).run Tryz.prog w.drew=.ok (L.map strv).toArray w.drew ->
   ∃ v' w',(Builtin.append_ #[61,61] ty #[.slice base L.length sCap,x]).run Tryz.prog w=.ok v' w'/\Held B w' v' (L ++ L2)/\w.grownBy w' row/\∀ k,v'.ownBlock=some k->row=some k∨w.heap.size<=k:=by
  intro base sCap row hlt hold
  have hr:=run_append_grow_src w 61 61 ty 9 i0 (.string ByteArray.empty) Tryz.underlying61 hi hz0 base L.length sCap (L.map strv) hold x L2.length (L2.map strv) hs hlt (by omega) (growslice_fits (by omega) (by rw[hz2];omega))
  refine⟨_,_,hr,Or.inr ⟨w.heap.size,0,_,_,by rw[List.length_append],hB,?_,?_,heap_alloc_new w.drew _,?_,fun i hi=>?_⟩,⟨rfl,rfl,rfl,by simp,fun k hk _=>Below.heap_alloc w.drew _ k hk⟩,fun k hk=>Or.inr (by simp only[Value.ownBlock,Option.some.injEq]at hk;omega)⟩
  ·rw[List.length_append];exact grownCap_ge w _ sCap _
  ·exact grownCap_le_maxLen w _ sCap _ (by unfold maxLen;omega)
  ·have hge:=grownCap_ge w (L.length+L2.length) sCap 9
   simp only[Array.size_append,List.size_toArray,List.length_append,List.length_map,size_zeroCells]
   show _<=_+_ * 1
   omega
  ·have h1:=hcell i hi
   have hi':i < (L.map strv ++ L2.map strv).length:=by simpa using hi
   rw[Nat.zero_add,Array.getElem?_append_left (by simpa using hi')]
   rw[List.getElem?_toArray]
   exact h1
 rcases h with ⟨rfl,rfl⟩|⟨g,o,cap,cur,rfl,h1,h2,h3,h4,h5,h6⟩
 ·by_cases hm:L2=[]
  ·subst hm
   refine⟨.slice none 0 0,w,?_,Or.inl ⟨rfl,rfl⟩,⟨rfl,rfl,rfl,Nat.le_refl _,fun _ _ _=>rfl⟩,fun k hk=>by cases hk⟩
   have hc:=hs.cells
   have hl:=hs.len
   simp only[List.length_nil,List.map_nil]at hc hl
   have hl0:∀ w',(Builtin.lenOf (.slice none 0 0)).run Tryz.prog w'=.ok 0 w':=fun _=>rfl
   simp[Builtin.append_,run_underlying Tryz.underlying61,sizeOf,typeInfo,hi,hl,hc]
  ·have hpos:0 < L2.length:=by
    cases L2 with
    | nil=>exact absurd rfl hm
    | cons y r=>simp
   exact grow none 0 _ (by simpa using hpos) (run_firstCells_none w.drew i0.size 0 0 0)
 ·by_cases hroom:L.length+L2.length<=cap
  ·have hst:=run_storeCells_at Tryz.prog g (o+L.length) 9 (L2.map strv) 0 cur w h4 (by rw[hlen];omega) hs.one
   simp only[Nat.add_zero]at hst
   have hc:=hs.cells
   have hl:=hs.len
   have hrun:(Builtin.append_ #[61,61] ty #[.slice (some ⟨g,o,none⟩) L.length cap,x]).run Tryz.prog w=.ok (.slice (some ⟨g,o,none⟩) (L.length+L2.length) cap)
     (w.setRow g (cur.toList.take (o+L.length) ++ L2.map strv ++ cur.toList.drop (o+L.length+(L2.map strv).length)).toArray):=by
    rw[hz1]at hc
    simp[Builtin.append_,run_underlying Tryz.underlying61,sizeOf,typeInfo,hi,hz1,hl,hc,hroom,Addr.add_lit,hst]
   refine⟨_,_,hrun,Or.inr ⟨g,o,cap,_,by rw[List.length_append],h1,by rw[List.length_append];omega,h3,setRow_heap w g cur _ 9 _ h4,?_,fun i hi=>?_⟩,⟨rfl,rfl,rfl,by simp,fun k _ hk=>setRow_other w g k _ (fun e=>hk (by simp[Value.ownBlock,e]))⟩,fun k hk=>Or.inl hk⟩
   ·simp only[List.size_toArray,List.length_append,List.length_take,List.length_drop,List.length_map,Array.length_toList]
    omega
   ·have hci:=hcell i hi
    rw[List.length_append]at hi
    rw[List.getElem?_toArray]
    have hz:(cur.toList.take (o+L.length)).length=o+L.length:=by
     rw[List.length_take,Array.length_toList]
     exact Nat.min_eq_left (show o+L.length<=cur.size by omega)
    by_cases hiL:i < L.length
    ·have hlt:o+i < (cur.toList.take (o+L.length)).length:=by omega
     rw[List.append_assoc,List.getElem?_append_left hlt,List.getElem?_take,if_pos (show o+i < o+L.length by omega),Array.getElem?_toList,h6 i hiL,List.getElem_append_left hiL]
    ·have hge:(cur.toList.take (o+L.length)).length<=o+i:=by omega
     have hlt:i - L.length < (L2.map strv).length:=by omega
     rw[List.append_assoc,List.getElem?_append_right hge,hz,show o+i - (o+L.length)=i - L.length by omega,List.getElem?_append_left hlt]
     rw[List.getElem?_append_right (by rw[List.length_map];omega),List.length_map]at hci
     exact hci
  ·refine grow _ cap _ (by omega) ?_
   have hf:=run_firstCells_some (P:=Tryz.prog) w.drew i0.size L.length ⟨g,o,none⟩ L.length cap (L.map strv) (by rw[hz1];simp) (fun j u hu=>by
    rw[List.getElem?_map]at hu
    by_cases hj:j < L.length
    ·rw[List.getElem?_eq_getElem hj]at hu
     rw[Bag]
     show w.cell? ⟨g,o+j,none⟩=some u
     rw[Aap h4 (h6 j hj)]
     exact hu
    ·rw[List.getElem?_eq_none (by omega)]at hu
     cases hu)
   exact hf
theorem Ai7 {B:Nat}{w:World}{v x:Value}{L L2:List (List UInt8)}(hT:Held B w v L)(hS:View w x L2)(hn:L.length+L2.length<=1048576)(hB:B<=w.heap.size)
  {ops:Array Oper} {rest:List Oper} {o:Oper} {a:Act} {Q:Exit->Act->World->Prop} (hgd:o.guard=none) (s y:Operand)
  (ho:o.op=.call { callee:=.builtin .append,args:=#[s,y],argTypes:=#[61,61] }) (hs:a.eval s=v) (hx:a.eval y=x)
  (h:∀ v' w',Held B w' v' (L ++ L2)->w.grownBy w' v.ownBlock->wpList Tryz.prog ops Q rest (a.put o.dst v') w'):wpList Tryz.prog ops Q (o :: rest) a w:=by
 obtain⟨v',w',hrun,h1,h2,-⟩:=Af7 hT hS hn hB o.type
 refine wpList_plain hgd fun K hK=>?_
 unfold Oper.wp
 simp[execOp,ho,resolve,invoke,builtin,hs,hx,hrun,Result.andThen]
 exact hK _ _ (h v' w' h1 h2)
theorem Adc {B:Nat}{w:World}{v x:Value}{L L2:List (List UInt8)}(hT:Held B w v L)(hS:View w x L2)(hn:L.length+L2.length<=1048576)(hB:B<=w.heap.size)
  {ops:Array Oper} {o:Oper} {a:Act} {K:Act->World->Prop} {Q:Exit->Act->World->Prop} {E:Prop} (hgd:o.guard=none) (s y:Operand)
  (ho:o.op=Op.call { callee:=Callee.builtin Builtin.append,args:=#[s,y],argTypes:=#[61,61] }) (hs:a.eval s=v) (hx:a.eval y=x)
  (hK:∀ v' w',Held B w' v' (L ++ L2)->w.grownBy w' v.ownBlock->(∀ k,v'.ownBlock=some k->v.ownBlock=some k∨w.heap.size<=k)->K (a.put o.dst v') w') :
  if Region.wanted o (yielded ops a.tmps)=true then Oper.wp Tryz.prog o a w K Q else E:=by
 have hw:Region.wanted o (yielded ops a.tmps)=true:=by simp[Region.wanted,hgd]
 rw[if_pos hw]
 obtain⟨v',w',hrun,h1,h2,h3⟩:=Af7 hT hS hn hB o.type
 unfold Oper.wp
 simp[execOp,ho,resolve,invoke,builtin,hs,hx,hrun,Result.andThen]
 exact hK _ _ h1 h2 h3
def Alo : Obj->Bool
 | .cells _ t _=>t != 9
 | _=>true
def Abr (n₀ g:Nat)(T:Value×Value×Value)(W:World)(p:Int)(st:List (List UInt8))(links:Int):Prop:=
 g < n₀/\∃ v,W.heap[g]?=some (.cells #[T.1,T.2.1,T.2.2,.int .i64 p,v,.int .i64 links] 180 (0,0))/\Held n₀ W v st
structure Moved (g:Nat)(W W':World):Prop where
 below:Below g W W'
 kept:∀ (k:Nat) (o:Obj),W.heap[k]?=some o->k≠g->Alo o=true->W'.heap[k]?=some o
theorem Moved.trans {g:Nat}{A B C:World}(h:Moved g A B)(k:Moved g B C):Moved g A C:=⟨h.below.trans k.below,fun i o hi hg ho=>k.kept i o (h.kept i o hi hg ho) hg ho⟩
theorem Moved.of_below {g:Nat}{W W':World}(h:Below W.heap.size W W')(hg:g<=W.heap.size):Moved g W W':=⟨h.mono hg,fun k _o hk _ _=>(h.block k (Array.getElem?_eq_some_iff.1 hk).1).trans hk⟩
theorem Axb {o:Obj}(h:o.isCells=false):Alo o=true:=by cases o <;> first|rfl|cases h
theorem Moved.set {g:Nat}(W:World)(i:Nat)(u:Value):Moved g W (W.setCell ⟨g,i,none⟩ u):=
 ⟨(Below.refl _ _).setCell (p:=⟨g,i,none⟩) (Nat.le_refl _) _,fun k _o hk hg _=>(Below.heap_setCell W ⟨g,i,none⟩ u k hg).trans hk⟩
theorem Ahq {W:World}{g:Nat}{cs:Array Value}{t:TypeId}{fr:Nat×Nat}(h:W.heap[g]?=some (.cells cs t fr))(i:Nat)(u:Value):(W.setCell ⟨g,i,none⟩ u).heap[g]?=some (.cells (cs.setIfInBounds i u) t fr):=by
 obtain⟨hlt,hk⟩:=Array.getElem?_eq_some_iff.1 h
 show (W.heap.modify g _)[g]?=_
 rw[Array.getElem?_eq_getElem (by rw[Array.size_modify];exact hlt),Array.getElem_modify_self,hk]
 rfl
theorem Aiq {n₀ g:Nat}{W:World}{v:Value}{st:List (List UInt8)}(h:Held n₀ W v st)(hg:g < n₀)(i:Nat)(u:Value):Held n₀ (W.setCell ⟨g,i,none⟩ u) v st:=
 h.kept fun k hk=>Below.heap_setCell W ⟨g,i,none⟩ u k (by have:=(h.own hk).1;show k≠g;omega)
theorem Abr.lt {n₀ g:Nat}{T:Value×Value×Value}{W:World}{p:Int}{st:List (List UInt8)}{links:Int}(h:Abr n₀ g T W p st links):g < W.heap.size:=by
 obtain⟨_,v,h,-⟩:=h
 exact(Array.getElem?_eq_some_iff.1 h).1
theorem Abr.below {n₀ g:Nat}{T:Value×Value×Value}{W W':World}{p:Int}{st:List (List UInt8)}{links:Int}(h:Abr n₀ g T W p st links)(hb:Below W.heap.size W W'):Abr n₀ g T W' p st links:=by
 have hlt:=h.lt
 obtain⟨hg,v,h1,h2⟩:=h
 refine⟨hg,v,(hb.block g hlt).trans h1,h2.kept fun k hk=>?_⟩
 obtain⟨-,cur,hc⟩:=h2.own hk
 exact hb.block k (Array.getElem?_eq_some_iff.1 hc).1
theorem Abr.drew {n₀ g:Nat}{T:Value×Value×Value}{W:World}{p:Int}{st:List (List UInt8)}{links:Int}(h:Abr n₀ g T W p st links):Abr n₀ g T W.drew p st links:=h
theorem Abr.own {n₀ g:Nat}{T:Value×Value×Value}{W W':World}{p:Int}{st:List (List UInt8)}{links:Int}(h:Abr n₀ g T W p st links){row:Option Nat}(hg:W.grownBy W' row)(hr:∀ r,row=some r->∃ o:Obj,W.heap[r]?=some o/\o.isCells=false):Abr n₀ g T W' p st links:=by
 obtain⟨h0,v,h1,h2⟩:=h
 refine⟨h0,v,(grownBy_keeps_cells hg hr h1 rfl).trans h1,h2.kept fun k hk=>?_⟩
 obtain⟨-,cur,hc⟩:=h2.own hk
 exact grownBy_keeps_cells hg hr hc rfl
theorem Ath (p:Pip)(hF:Ace p=true)(reads:Bool)(w:World) :
  Calls Tryz.prog 134 #[.agg #[.string ⟨p.data.toArray⟩,.int .i64 p.rd,.int .i64 p.wr,.int .i64 p.cap],.bool reads] w fun e w'=>e=.returned (.agg #[.string ⟨(Aak p reads).data.toArray⟩,.int .i64 (Aak p reads).rd,.int .i64 (Aak p reads).wr,.int .i64 (Aak p reads).cap])/\Below w.heap.size w w':=by
 have HC:=Hd (fun W=>Atj p hF reads (-1) (by decide) W)
 rw[<-Aqu hF reads]
 obtain⟨q,hq⟩:∃ q,q=Agv p reads (-1):=⟨_,rfl⟩
 rw[<-hq]at HC ⊢
 obtain⟨D,hD⟩:∃ D:ByteArray,D=⟨p.data.toArray⟩:=⟨_,rfl⟩
 obtain⟨hDl,hDs⟩:=Af4 hD
 obtain⟨w2,hw2,hb2,hs2,hA,hB⟩:=Aan w #[.string D,.int .i64 p.rd,.int .i64 p.wr,.int .i64 p.cap] #[.string ⟨#[]⟩,.int .i64 0,.int .i64 0,.int .i64 0] 87 87
 have HA:=Hd hA
 have HBK:=Hd hB
 have HB2:=Hd hb2
 have HD:=Hd hD
 rw[<-hD]
 have hl:=lt_of_block hB
 have q0:=bC hA 0
 have q1:=bC hA 1
 have q2:=bC hA 2
 have q3:=bC hA 3
 have f0:=bF hA 0
 have f1:=bF hA 1
 have f2:=bF hA 2
 have r0:=bC hB 0
 have r1:=bC hB 1
 have r2:=bC hB 2
 have r3:=bC hB 3
 have s0:=bF hB 0
 have s1:=bF hB 1
 have s2:=bF hB 2
 have s3:=bF hB 3
 clear hA hB hb2 hD
 have HCD:=Hd (show ∀ W,Calls Tryz.prog 164 #[.agg #[.string D,.int .i64 p.rd,.int .i64 p.wr,.int .i64 p.cap],.bool reads,.int .i64 (-1)] W fun e w'=>e=.returned (.agg #[.string ⟨q.data.toArray⟩,.int .i64 q.rd,.int .i64 q.wr,.int .i64 q.cap])/\Below W.heap.size W w' from fun W=>by rw[HD.out];exact HC.out W)
 clear hDl hDs hF hq r0 r1 r2 r3 s0 s1 s2 s3 f0 f1 f2
 rw[hw2]at q0 q1 q2 q3 hl
 go_enter Tryz.func134,Tryz.ntmps134
 go_wp2_with fail
 rw[<-hw2]
 clear hw2 q0 q1 q2 q3 hl
 refine(HCD.out _).mono ?_
 rintro e w3 ⟨rfl,hb3⟩
 have hB3:=(hb3.block (w.heap.size+1) (by omega)).trans HBK.out
 have HB3:=Hd (HB2.out.trans (hb3.mono (by omega)))
 have hs3:=hb3.size
 have r0:=bC hB3 0
 have r1:=bC hB3 1
 have r2:=bC hB3 2
 have r3:=bC hB3 3
 have s0:=bF hB3 0
 have s1:=bF hB3 1
 have s2:=bF hB3 2
 have s3:=bF hB3 3
 have hl:=lt_of_block hB3
 have HB4:=Hd hB3
 clear hB3 hb3
 go_wp2_with fail
 change bodyPost _ _ _ _ _ (put4 w3 (w.heap.size+1) (.string ⟨q.data.toArray⟩) (.int .i64 q.rd) (.int .i64 q.wr) (.int .i64 q.cap))
 obtain⟨c0,c1,c2,c3⟩:=Ah5 HB4.out (.string ⟨q.data.toArray⟩) (.int .i64 q.rd) (.int .i64 q.wr) (.int .i64 q.cap)
 exact bodyPost_ret (v:=.agg #[.string ⟨q.data.toArray⟩,.int .i64 q.rd,.int .i64 q.wr,.int .i64 q.cap]) (by simp[results,Tryz.results134,go_sem,c0,c1,c2,c3]) rfl ⟨rfl,Ac3 HB3.out (by omega) (.string ⟨q.data.toArray⟩) (.int .i64 q.rd) (.int .i64 q.wr) (.int .i64 q.cap)⟩
theorem Auq (p:Pip)(hF:Ace p=true)(reads:Bool)(w:World) :
  Calls Tryz.prog 88 #[.agg #[.string ⟨p.data.toArray⟩,.int .i64 p.rd,.int .i64 p.wr,.int .i64 p.cap],.bool reads] w fun e w'=>e=.returned (.agg #[.string ⟨(Aak p reads).data.toArray⟩,.int .i64 (Aak p reads).rd,.int .i64 (Aak p reads).wr,.int .i64 (Aak p reads).cap])/\Below w.heap.size w w':=by
 obtain⟨g1,g2,g3,g4,g5,g6,g7⟩:=Adt.1 hF
 obtain⟨D,hD⟩:∃ D:ByteArray,D=⟨p.data.toArray⟩:=⟨_,rfl⟩
 have HEND:=Hd (Af8 w)
 unfold Aak
 cases reads with
 | true=>
  rw[if_pos rfl]
  have hwr:IntKind.i64.wrap (p.rd - 1)=p.rd - 1:=by rw[IntKind.wrap_i64];omega
  by_cases h:0 < p.rd
  ·rw[if_pos h]
   have hd:decide (0 < p.rd)=true:=decide_eq_true h
   rw[<-hD]
   clear hD g1 g2 g3 g4 h
   go_enter Tryz.func88,Tryz.ntmps88
   go_wp2_with fail
   exact bodyPost_ret (v:=(.agg #[.string D,.int .i64 (p.rd - 1),.int .i64 p.wr,.int .i64 p.cap])) (by simp[results,Tryz.results88,go_sem]) rfl ⟨rfl,HEND.out _ _⟩
  ·rw[if_neg h]
   have hd:decide (0 < p.rd)=false:=decide_eq_false h
   rw[<-hD]
   clear hD g1 g2 g3 g4 h
   go_enter Tryz.func88,Tryz.ntmps88
   go_wp2_with fail
   exact bodyPost_ret (v:=(.agg #[.string D,.int .i64 p.rd,.int .i64 p.wr,.int .i64 p.cap])) (by simp[results,Tryz.results88,go_sem]) rfl ⟨rfl,HEND.out _ _⟩
 | false=>
  rw[if_neg (by decide)]
  have hwr:IntKind.i64.wrap (p.wr - 1)=p.wr - 1:=by rw[IntKind.wrap_i64];omega
  by_cases h:0 < p.wr
  ·rw[if_pos h]
   have hd:decide (0 < p.wr)=true:=decide_eq_true h
   rw[<-hD]
   clear hD g1 g2 g3 g4 h
   go_enter Tryz.func88,Tryz.ntmps88
   go_wp2_with fail
   exact bodyPost_ret (v:=(.agg #[.string D,.int .i64 p.rd,.int .i64 (p.wr - 1),.int .i64 p.cap])) (by simp[results,Tryz.results88,go_sem]) rfl ⟨rfl,HEND.out _ _⟩
  ·rw[if_neg h]
   have hd:decide (0 < p.wr)=false:=decide_eq_false h
   rw[<-hD]
   clear hD g1 g2 g3 g4 h
   go_enter Tryz.func88,Tryz.ntmps88
   go_wp2_with fail
   exact bodyPost_ret (v:=(.agg #[.string D,.int .i64 p.rd,.int .i64 p.wr,.int .i64 p.cap])) (by simp[results,Tryz.results88,go_sem]) rfl ⟨rfl,HEND.out _ _⟩
end Go.Proofs.YtkdfbliiblojoaaGreatDoor
