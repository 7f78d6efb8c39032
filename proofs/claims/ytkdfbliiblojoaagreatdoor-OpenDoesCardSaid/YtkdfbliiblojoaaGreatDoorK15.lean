import Derived.Laws.OwnMore
import Derived.Laws.StructEq
import Derived.ChangeKeysEq
import Derived.Laws.AppendOwn
import Derived.Deep.Cut
import Derived.Test.YtkdfbliiblojoaaGreatDoorK14
import Derived.Deep.RegionHeld3
import Derived.Test.YtkdfbliiblojoaaGreatDoorK8
set_option linter.all false
set_option maxRecDepth 100000
set_option maxHeartbeats 64000000
namespace Go.Proofs.YtkdfbliiblojoaaGreatDoor
open Go Go.RowKit
section
variable {T : Type} {F : T -> List Value} {k : Nat}
def rowC (F:T->List Value):List T->List Value
 | []=>[]
 | x :: r=>F x ++ rowC F r
theorem Agi (hF:∀ x,(F x).length=k):∀ L:List T,(rowC F L).length=L.length * k
 | []=>by simp[rowC]
 | x :: r=>by rw[rowC,List.length_append,hF,Agi hF r,List.length_cons,Nat.succ_mul];omega
theorem Aiw (hF:∀ x,(F x).length=k):∀ (L:List T) (i:Nat) (hi:i < L.length) (f:Nat),f < k->(rowC F L)[i * k+f]?=(F L[i])[f]?
 | [],i,hi,_,_=>absurd hi (Nat.not_lt_zero _)
 | x :: r,0,_,f,hf=>by
  rw[rowC,Nat.zero_mul,Nat.zero_add,List.getElem?_append_left (by rw[hF];exact hf)]
  rfl
 | x :: r,i+1,hi,f,hf=>by
  have h:=Aiw hF r i (Nat.lt_of_succ_lt_succ hi) f hf
  rw[rowC,List.getElem?_append_right (by rw[hF,Nat.succ_mul];omega),hF,show (i+1) * k+f - k=i * k+f by rw[Nat.succ_mul];omega]
  exact h
theorem Alq : ∀ (L M:List T),rowC F (L ++ M)=rowC F L ++ rowC F M
 | [],_=>rfl
 | x :: r,M=>by rw[List.cons_append,rowC,rowC,Alq r M,List.append_assoc]
theorem Ado (hF:∀ x,(F x).length=k):∀ (L:List T) (i:Nat) (hi:i < L.length) (y:T) (f:Nat) (v:Value),f < k->F y=(F L[i]).set f v->rowC F (L.set i y)=(rowC F L).set (i * k+f) v
 | [],i,hi,_,_,_,_,_=>absurd hi (Nat.not_lt_zero _)
 | x :: r,0,_,y,f,v,hf,h=>by
  rw[Zab,rowC,rowC,Nat.zero_mul,Nat.zero_add,List.set_append_left _ _ (by rw[hF];exact hf)]
  rw[show F y=(F x).set f v from h]
 | x :: r,i+1,hi,y,f,v,hf,h=>by
  have h2:=Ado hF r i (Nat.lt_of_succ_lt_succ hi) y f v hf h
  rw[Zac,rowC,rowC,List.set_append_right _ _ (by rw[hF,Nat.succ_mul];omega),hF,show (i+1) * k+f - k=i * k+f by rw[Nat.succ_mul];omega,h2]
theorem Alr : ∀ (L:List T) (v:Value),v∈rowC F L->∃ x,v∈F x
 | [],_,h=>by cases h
 | x :: r,v,h=>by
  rw[rowC,List.mem_append]at h
  rcases h with h|h
  ·exact⟨x,h⟩
  ·exact Alr r v h
end
def pipF (p:Pip):List Value:=[.string ⟨p.data.toArray⟩,.int .i64 p.rd,.int .i64 p.wr,.int .i64 p.cap]
def opnF (o:Opn):List Value:=[.int .i64 o.kind,.int .i64 o.at_,.int .i64 o.off,.int .i64 o.flags,.int .i64 o.refs]
theorem Aej (p:Pip):(pipF p).length=4:=rfl
theorem Adn (o:Opn):(opnF o).length=5:=rfl
theorem Ap4 : ∀ (P:List Pip),∀ u∈rowC pipF P,u.oneCell'=true:=fun P u h=>by
 obtain⟨x,hx⟩:=Alr P u h
 simp only[pipF,List.mem_cons,List.not_mem_nil,or_false]at hx
 rcases hx with rfl|rfl|rfl|rfl <;> rfl
theorem Ahn : ∀ (P:List Opn),∀ u∈rowC opnF P,u.oneCell'=true:=fun P u h=>by
 obtain⟨x,hx⟩:=Alr P u h
 simp only[opnF,List.mem_cons,List.not_mem_nil,or_false]at hx
 rcases hx with rfl|rfl|rfl|rfl|rfl <;> rfl
def SlIn (W:World)(a:Option Addr)(n cap k:Nat)(xs:List Value):Prop:=
 n<=cap/\cap<=maxLen/\xs.length=n * k/\∀ j,j < n * k->∃ b o,a=some ⟨b,o,none⟩/\W.cell? ⟨b,o+j,none⟩=xs[j]?
theorem SlIn.below {W W':World}{a:Option Addr}{n cap k:Nat}{xs:List Value}(h:SlIn W a n cap k xs)(hb:Below W.heap.size W W'):SlIn W' a n cap k xs:=by
 refine⟨h.1,h.2.1,h.2.2.1,fun j hj=>?_⟩
 obtain⟨b,o,e1,e2⟩:=h.2.2.2 j hj
 have h3:=h.2.2.1
 rw[List.getElem?_eq_getElem (by omega)]at e2 ⊢
 exact⟨b,o,e1,Aaa hb e2⟩
theorem SlIn.addr {W:World}{a:Option Addr}{n cap k:Nat}{xs:List Value}(h:SlIn W a n cap k xs)(hn:0 < n)(hk:0 < k):∃ b o,a=some ⟨b,o,none⟩/\b < W.heap.size/\∀ j u,xs[j]?=some u->W.cell? ⟨b,o+j,none⟩=some u:=by
 have hm:=Nat.mul_pos hn hk
 obtain⟨b,o,e1,e2⟩:=h.2.2.2 0 hm
 have h3:=h.2.2.1
 refine⟨b,o,e1,?_,fun j u hj=>?_⟩
 ·rw[List.getElem?_eq_getElem (by omega)]at e2
  exact Aaf e2
 ·have hlt:=(List.getElem?_eq_some_iff.1 hj).1
  obtain⟨b',o',e3,e4⟩:=h.2.2.2 j (by omega)
  rw[e1]at e3
  obtain⟨rfl,rfl⟩:b=b'/\o=o':=by simpa using e3
  rw[e4,hj]
structure KAd where
 ta:Option Addr
 tc:Nat
 pa:Option Addr
 pc:Nat
 oa:Option Addr
 oc:Nat
structure KernIn (W:World)(A:KAd)(K:Krn):Prop where
 tree:Aad W A.ta A.tc K.tree
 pipes:SlIn W A.pa K.pipes.length A.pc 4 (rowC pipF K.pipes)
 opens:SlIn W A.oa K.opens.length A.oc 5 (rowC opnF K.opens)
theorem KernIn.below {W W':World}{A:KAd}{K:Krn}(h:KernIn W A K)(hb:Below W.heap.size W W'):KernIn W' A K:=⟨h.tree.below hb,h.pipes.below hb,h.opens.below hb⟩
def Aei (f:List Int):Array Value:=(f.map (Value.int .i64)).toArray
theorem SlIn.of_row {W:World}{B:Nat}{e:TypeId}{k:Nat}{a:Option Addr}{n cap:Nat}{xs:List Value}(h:W.ownsRow B e k (.slice a n cap) n xs):SlIn W a n cap k xs:=by
 rcases h.2 with ⟨hv,h0⟩|⟨g,cap',cur,hv,hg,hc,h1,h2,h3,h4⟩
 ·simp only[Value.slice.injEq]at hv
  obtain⟨rfl,rfl,rfl⟩:=hv
  exact⟨Nat.le_refl _,Nat.zero_le _,h.1,fun j hj=>by simp at hj⟩
 ·simp only[Value.slice.injEq]at hv
  obtain⟨rfl,-,rfl⟩:=hv
  exact⟨h1,h2,h.1,fun j hj=>⟨g,0,rfl,by rw[Nat.zero_add];exact h.cellAt j hj⟩⟩
theorem SlIn.pip {W:World}{a:Option Addr}{cap:Nat}{P:List Pip}(h:SlIn W a P.length cap 4 (rowC pipF P))(i:Nat)(hi:i < P.length):∃ b o,a=some ⟨b,o,none⟩/\W.cell? ⟨b,o+i * 4,none⟩=some (.string ⟨P[i].data.toArray⟩)/\W.cell? ⟨b,o+i * 4+1,none⟩=some (.int .i64 P[i].rd)/\W.cell? ⟨b,o+i * 4+2,none⟩=some (.int .i64 P[i].wr)/\W.cell? ⟨b,o+i * 4+3,none⟩=some (.int .i64 P[i].cap):=by
 obtain⟨b,o,ha,-,hc⟩:=h.addr (by omega) (by decide)
 have hg:=fun f hf=>Aiw Aej P i hi f hf
 exact⟨b,o,ha,hc _ _ (hg 0 (by decide)),hc _ _ (hg 1 (by decide)),hc _ _ (hg 2 (by decide)),hc _ _ (hg 3 (by decide))⟩
theorem SlIn.opn {W:World}{a:Option Addr}{cap:Nat}{P:List Opn}(h:SlIn W a P.length cap 5 (rowC opnF P))(i:Nat)(hi:i < P.length):∃ b o,a=some ⟨b,o,none⟩/\W.cell? ⟨b,o+i * 5,none⟩=some (.int .i64 P[i].kind)/\W.cell? ⟨b,o+i * 5+1,none⟩=some (.int .i64 P[i].at_)/\W.cell? ⟨b,o+i * 5+2,none⟩=some (.int .i64 P[i].off)/\W.cell? ⟨b,o+i * 5+3,none⟩=some (.int .i64 P[i].flags)/\W.cell? ⟨b,o+i * 5+4,none⟩=some (.int .i64 P[i].refs):=by
 obtain⟨b,o,ha,-,hc⟩:=h.addr (by omega) (by decide)
 have hg:=fun f hf=>Aiw Adn P i hi f hf
 exact⟨b,o,ha,hc _ _ (hg 0 (by decide)),hc _ _ (hg 1 (by decide)),hc _ _ (hg 2 (by decide)),hc _ _ (hg 3 (by decide)),hc _ _ (hg 4 (by decide))⟩
theorem Al5 (b o n:Nat):(⟨b,o,none⟩:Addr).add n=⟨b,o+n,none⟩:=by
 unfold Addr.add
 split
 ·rename_i h
  rw[h]
  rfl
 ·rfl
theorem Aec (w:World)(A B C:Array Value)(s t u:TypeId):∃ w3,w3=((w.alloc (.cells A s)).alloc (.cells B t)).alloc (.cells C u)/\Below w.heap.size w w3/\w3.heap.size=w.heap.size+3/\w3.heap[w.heap.size]?=some (.cells A s (0,0))/\w3.heap[w.heap.size+1]?=some (.cells B t (0,0))/\w3.heap[w.heap.size+2]?=some (.cells C u (0,0)):=by
 obtain⟨w2,hw2,h1,h2,h3,h4⟩:=Aan w A B s t
 refine⟨_,rfl,?_,?_,?_,?_,?_⟩ <;> rw[<-hw2]
 ·exact h1.alloc h1.size _
 ·rw[World.size_alloc,h2]
 ·rw[Below.heap_alloc _ _ _ (by omega)];exact h3
 ·rw[Below.heap_alloc _ _ _ (by omega)];exact h4
 ·have:=Aag w2 (.cells C u)
  rw[h2]at this
  exact this
theorem Agc (f:List Int)(n:Nat)(h:n < f.length):(Aei f)[n]?=some (.int .i64 (f.getD n 0)):=by
 simp[Aei,h]
theorem Akg (f:List Int)(n:Nat)(x:Int):(Aei f).setIfInBounds n (.int .i64 x)=Aei (f.set n x):=by
 apply Array.ext'
 simp[Aei,List.map_set]
def put7 (W:World)(k:Nat)(x0 x1 x2 x3 x4 x5 x6:Value):World:=((((((W.setCell ⟨k,0,none⟩ x0).setCell ⟨k,1,none⟩ x1).setCell ⟨k,2,none⟩ x2).setCell ⟨k,3,none⟩ x3).setCell ⟨k,4,none⟩ x4).setCell ⟨k,5,none⟩ x5).setCell ⟨k,6,none⟩ x6
theorem Ac4 {W:World}{k:Nat}{a b c d e f g:Value}{t:TypeId}(h:W.heap[k]?=some (.cells #[a,b,c,d,e,f,g] t (0,0)))(x0 x1 x2 x3 x4 x5 x6:Value):(put7 W k x0 x1 x2 x3 x4 x5 x6).heap[k]?=some (.cells #[x0,x1,x2,x3,x4,x5,x6] t (0,0)):=by
 have h0:(W.setCell ⟨k,0,none⟩ x0).heap[k]?=some (.cells #[x0,b,c,d,e,f,g] t (0,0)):=Aar h 0 x0
 have h1:((W.setCell ⟨k,0,none⟩ x0).setCell ⟨k,1,none⟩ x1).heap[k]?=some (.cells #[x0,x1,c,d,e,f,g] t (0,0)):=Aar h0 1 x1
 have h2:(((W.setCell ⟨k,0,none⟩ x0).setCell ⟨k,1,none⟩ x1).setCell ⟨k,2,none⟩ x2).heap[k]?=some (.cells #[x0,x1,x2,d,e,f,g] t (0,0)):=Aar h1 2 x2
 have h3:((((W.setCell ⟨k,0,none⟩ x0).setCell ⟨k,1,none⟩ x1).setCell ⟨k,2,none⟩ x2).setCell ⟨k,3,none⟩ x3).heap[k]?=some (.cells #[x0,x1,x2,x3,e,f,g] t (0,0)):=Aar h2 3 x3
 have h4:(((((W.setCell ⟨k,0,none⟩ x0).setCell ⟨k,1,none⟩ x1).setCell ⟨k,2,none⟩ x2).setCell ⟨k,3,none⟩ x3).setCell ⟨k,4,none⟩ x4).heap[k]?=some (.cells #[x0,x1,x2,x3,x4,f,g] t (0,0)):=Aar h3 4 x4
 have h5:((((((W.setCell ⟨k,0,none⟩ x0).setCell ⟨k,1,none⟩ x1).setCell ⟨k,2,none⟩ x2).setCell ⟨k,3,none⟩ x3).setCell ⟨k,4,none⟩ x4).setCell ⟨k,5,none⟩ x5).heap[k]?=some (.cells #[x0,x1,x2,x3,x4,x5,g] t (0,0)):=Aar h4 5 x5
 have h6:(((((((W.setCell ⟨k,0,none⟩ x0).setCell ⟨k,1,none⟩ x1).setCell ⟨k,2,none⟩ x2).setCell ⟨k,3,none⟩ x3).setCell ⟨k,4,none⟩ x4).setCell ⟨k,5,none⟩ x5).setCell ⟨k,6,none⟩ x6).heap[k]?=some (.cells #[x0,x1,x2,x3,x4,x5,x6] t (0,0)):=Aar h5 6 x6
 exact h6
theorem Acg {W:World}{k j:Nat}(h:j≠k)(x0 x1 x2 x3 x4 x5 x6:Value):(put7 W k x0 x1 x2 x3 x4 x5 x6).heap[j]?=W.heap[j]?:=by
 unfold put7
 rw[Below.heap_setCell _ _ _ _ h,Below.heap_setCell _ _ _ _ h,Below.heap_setCell _ _ _ _ h,Below.heap_setCell _ _ _ _ h,Below.heap_setCell _ _ _ _ h,Below.heap_setCell _ _ _ _ h,Below.heap_setCell _ _ _ _ h]
theorem Afh {B:Nat}{w W:World}{k:Nat}(h:Below B w W)(hk:B<=k)(x0 x1 x2 x3 x4 x5 x6:Value):Below B w (put7 W k x0 x1 x2 x3 x4 x5 x6):=((((((h.setCell hk _).setCell hk _).setCell hk _).setCell hk _).setCell hk _).setCell hk _).setCell hk _
theorem Aal {W:World}{g:Nat}{c0 c1 c2 c3 c4 c5 c6:Value}{t:TypeId}(h:W.heap[g]?=some (.cells #[c0,c1,c2,c3,c4,c5,c6] t (0,0))) :
  W.cell? ⟨g,0,none⟩=some c0/\W.cell? ⟨g,1,none⟩=some c1/\W.cell? ⟨g,2,none⟩=some c2/\W.cell? ⟨g,3,none⟩=some c3/\W.cell? ⟨g,4,none⟩=some c4/\W.cell? ⟨g,5,none⟩=some c5/\W.cell? ⟨g,6,none⟩=some c6:=
 ⟨bC h 0,bC h 1,bC h 2,bC h 3,bC h 4,bC h 5,bC h 6⟩
theorem Awd : (Tryz.prog.info? 9).map (fun i=>(i.zero,i.size,i.bytes))=some (some (.string ByteArray.empty),1,16):=by kernel_rfl
theorem Ajw : Tryz.prog.eqGuardType Tryz.prog.depth 70=false:=by kernel_rfl
theorem Arj : Tryz.prog.eqGuardType Tryz.prog.depth 27=false:=by kernel_rfl
theorem Aqw (a a':ByteArray)(i j k i' j' k':Int)(v:Bool)(hv:v=true↔a.data.toList=a'.data.toList/\i=i'/\j=j'/\k=k')(W:World) :
  (Op.equalIn 10000 87 (.agg #[.string a,.int .i64 i,.int .i64 j,.int .i64 k]) (.agg #[.string a',.int .i64 i',.int .i64 j',.int .i64 k'])).run Tryz.prog W=.ok v W:=by
 have hS:Tryz.prog.underlying 87=some (.struct (Tryz.prog.fieldsOf 87)):=by kernel_rfl
 have hp:Tryz.prog.stoodInHeld 87=false:=by kernel_rfl
 have u3:=Tryz.underlying3
 have u9:=Tryz.underlying9
 have a3:=Tryz.isAgg3
 have z3:=Tryz.sizeOf3
 have a9:=Tryz.isAgg9
 have z9:=Tryz.sizeOf9
 rw[show (10000:Nat)=9999+1 from rfl,run_equalIn_agg W 9999 87 _ _ hS hp]
 simp only[Program.fieldsOf,Tryz.underlying87]
 go_simp
 rw[ByteArray.toList_eq,ByteArray.toList_eq]
 by_cases h1:a.data.toList=a'.data.toList <;> by_cases h2:i=i' <;> by_cases h3:j=j' <;> by_cases h4:k=k' <;> cases v <;> simp_all
theorem Aw2 (a a':ByteArray)(i j k i' j' k':Int)(v:Bool)(hv:v=true↔a.data.toList=a'.data.toList/\i=i'/\j=j'/\k=k')(W:World) :
  (binOp .neq 87 (.agg #[.string a,.int .i64 i,.int .i64 j,.int .i64 k]) (.agg #[.string a',.int .i64 i',.int .i64 j',.int .i64 k'])).run Tryz.prog W=.ok (.bool (!v)) W:=by
 rw[run_neq_struct,Aqw a a' i j k i' j' k' v hv]
 rfl
theorem Akf (i j k l m i' j' k' l' m':Int)(v:Bool)(hv:v=true↔i=i'/\j=j'/\k=k'/\l=l'/\m=m')(W:World) :
  (Op.equalIn 10000 70 (.agg #[.int .i64 i,.int .i64 j,.int .i64 k,.int .i64 l,.int .i64 m]) (.agg #[.int .i64 i',.int .i64 j',.int .i64 k',.int .i64 l',.int .i64 m'])).run Tryz.prog W=.ok v W:=by
 have hS:Tryz.prog.underlying 70=some (.struct (Tryz.prog.fieldsOf 70)):=by kernel_rfl
 have hp:Tryz.prog.stoodInHeld 70=false:=by kernel_rfl
 have u3:=Tryz.underlying3
 have a3:=Tryz.isAgg3
 have z3:=Tryz.sizeOf3
 rw[show (10000:Nat)=9999+1 from rfl,run_equalIn_agg W 9999 70 _ _ hS hp]
 simp only[Program.fieldsOf,Tryz.underlying70]
 go_simp
 by_cases h1:i=i' <;> by_cases h2:j=j' <;> by_cases h3:k=k' <;> by_cases h4:l=l' <;> by_cases h5:m=m' <;> cases v <;> simp_all
theorem Aw0 (i j k l m i' j' k' l' m':Int)(v:Bool)(hv:v=true↔i=i'/\j=j'/\k=k'/\l=l'/\m=m')(W:World) :
  (binOp .neq 70 (.agg #[.int .i64 i,.int .i64 j,.int .i64 k,.int .i64 l,.int .i64 m]) (.agg #[.int .i64 i',.int .i64 j',.int .i64 k',.int .i64 l',.int .i64 m'])).run Tryz.prog W=.ok (.bool (!v)) W:=by
 rw[run_neq_struct,Akf i j k l m i' j' k' l' m' v hv]
 rfl
theorem Asv (i j k l m i' j' k' l' m':Int)(v:Bool)(hv:v=true↔i=i'/\j=j'/\k=k'/\l=l'/\m=m')(W:World) :
  (binOp .eql 70 (.agg #[.int .i64 i,.int .i64 j,.int .i64 k,.int .i64 l,.int .i64 m]) (.agg #[.int .i64 i',.int .i64 j',.int .i64 k',.int .i64 l',.int .i64 m'])).run Tryz.prog W=.ok (.bool v) W:=by
 rw[run_eql_struct,Akf i j k l m i' j' k' l' m' v hv]
 rfl
theorem Aw1 (a b a' b':ByteArray)(v:Bool)(hv:v=true↔a.data.toList=a'.data.toList/\b.data.toList=b'.data.toList)(W:World) :
  (binOp .neq 27 (.agg #[.string a,.string b]) (.agg #[.string a',.string b'])).run Tryz.prog W=.ok (.bool (!v)) W:=by
 have u9:=Tryz.underlying9
 have a9:=Tryz.isAgg9
 have z9:=Tryz.sizeOf9
 obtain⟨i0,hi,hz0,hz1,hz2⟩:=info_parts Awd
 have hc:Tryz.prog.cellsOf 9=1:=by kernel_rfl
 rw[run_neq_struct,show (10000:Nat)=9999+1 from rfl,run_equalIn_array W 9999 _ _ Tryz.underlying27 hi,hc,show List.range 2=[0,1]from rfl]
 simp only[Op.eqItems]
 go_simp
 rw[ByteArray.toList_eq,ByteArray.toList_eq,ByteArray.toList_eq,ByteArray.toList_eq]
 by_cases h1:a.data.toList=a'.data.toList <;> by_cases h2:b.data.toList=b'.data.toList <;> cases v <;> simp_all [Result.andThen]
theorem Apo : (Tryz.prog.info? 87).map (fun i=>(i.zero,i.size,i.bytes))=some (some (.agg #[.string ByteArray.empty,.int .i64 0,.int .i64 0,.int .i64 0]),4,40):=by kernel_rfl
theorem Air : (Tryz.prog.info? 70).map (fun i=>(i.zero,i.size,i.bytes))=some (some (.agg #[.int .i64 0,.int .i64 0,.int .i64 0,.int .i64 0,.int .i64 0]),5,40):=by kernel_rfl
structure KOwn (W:World)(B:Nat)(A:KAd)(P:List Pip)(O:List Opn):Prop where
 pipes:W.ownsRow B 87 4 (.slice A.pa P.length A.pc) P.length (rowC pipF P)
 opens:W.ownsRow B 70 5 (.slice A.oa O.length A.oc) O.length (rowC opnF O)
 apart:∀ a b,A.pa=some a->A.oa=some b->a.block≠b.block
theorem Acn {W:World}{B B':Nat}{e:TypeId}{k:Nat}{v:Value}{n:Nat}{xs:List Value}(h:W.ownsRow B e k v n xs)(hb:B'<=B):W.ownsRow B' e k v n xs:=by
 refine⟨h.1,?_⟩
 rcases h.2 with h|⟨g,cap,cur,h1,h2,h3⟩
 ·exact .inl h
 ·exact .inr ⟨g,cap,cur,h1,Nat.le_trans hb h2,h3⟩
theorem KOwn.kern {W:World}{B:Nat}{A:KAd}{K:Krn}(h:KOwn W B A K.pipes K.opens)(ht:Aad W A.ta A.tc K.tree):KernIn W A K:=⟨ht,.of_row h.pipes,.of_row h.opens⟩
theorem Aea {W:World}{B:Nat}{e:TypeId}{k:Nat}{v:Value}{n:Nat}{xs:List Value}(h:W.ownsRow B e k v n xs):∃ a cap,v=.slice a n cap/\(∀ x,a=some x->∃ g,x=⟨g,0,none⟩/\B<=g/\g < W.heap.size):=by
 rcases h.2 with ⟨h1,h2⟩|⟨g,cap,cur,h1,h2,h3,-⟩
 ·subst h2
  exact⟨none,0,h1,fun x hx=>by cases hx⟩
 ·exact⟨_,cap,h1,fun x hx=>by cases hx;exact⟨g,rfl,h2,lt_of_block h3⟩⟩
theorem Aeb {W W':World}{B B':Nat}{e:TypeId}{k:Nat}{v:Value}{n:Nat}{xs:List Value}(h:W.ownsRow B e k v n xs)(hb:Below B' W W')(hB:W.heap.size<=B'):W'.ownsRow B e k v n xs:=by
 refine⟨h.1,?_⟩
 rcases h.2 with h|⟨g,cap,cur,h1,h2,h3,h4⟩
 ·exact .inl h
 ·exact .inr ⟨g,cap,cur,h1,h2,(hb.block g (Nat.lt_of_lt_of_le (lt_of_block h3) hB)).trans h3,h4⟩
theorem Aci {W W':World}{B:Nat}{e:TypeId}{k:Nat}{v:Value}{n:Nat}{xs:List Value}(h:W.ownsRow B e k v n xs)(hg:∀ g,B<=g->W'.heap[g]?=W.heap[g]?):W'.ownsRow B e k v n xs:=by
 refine⟨h.1,?_⟩
 rcases h.2 with h|⟨g,cap,cur,h1,h2,h3,h4⟩
 ·exact .inl h
 ·exact .inr ⟨g,cap,cur,h1,h2,(hg g h2).trans h3,h4⟩
theorem Ak3 {W:World}{a:Option Addr}{n cap k:Nat}{xs:List Value}(h:SlIn W a n cap k xs)(hk:0 < k):∀ ad,a=some ad->∀ j u,xs[j]?=some u->W.cell? (ad.add j)=some u:=by
 intro ad had j u hj
 by_cases h0:n=0
 ·have h1:=h.2.2.1
  rw[h0,Nat.zero_mul]at h1
  rw[List.length_eq_zero_iff.1 h1]at hj
  cases hj
 ·obtain⟨b,o,ha,-,hc⟩:=h.addr (by omega) hk
  rw[had]at ha
  obtain rfl:ad=⟨b,o,none⟩:=by simpa using ha
  rw[Al5]
  exact hc j u hj
structure KernRows (w W:World)(ta:Option Addr)(tc:Nat)(K:Krn)(pa:Option Addr)(pc:Nat):Prop where
 below:Below w.heap.size w W
 size:w.heap.size+2<=W.heap.size
 row:W.ownsRow (w.heap.size+2) 87 4 (.slice pa K.pipes.length pc) K.pipes.length (rowC pipF K.pipes)
theorem Ahs {W:World}{n cap k:Nat}{xs:List Value}(h:SlIn W none n cap k xs)(hk:0 < k):n=0/\xs=[]:=by
 have h0:n=0:=by
  rcases Nat.eq_zero_or_pos n with h0|h0
  ·exact h0
  ·obtain⟨b,o,ha,-⟩:=h.addr h0 hk
   cases ha
 have h1:=h.2.2.1
 rw[h0,Nat.zero_mul]at h1
 exact⟨h0,List.length_eq_zero_iff.1 h1⟩
theorem Bbx (A:KAd)(K:Krn)(hp:K.pipes.length<=1000)(ho:K.opens.length<=1000)(w:World)(hA:KernIn w A K) :
  Calls Tryz.prog 42 #[.agg #[.slice A.ta K.tree.length A.tc,.int .i64 K.m,.int .i64 K.b,.slice A.pa K.pipes.length A.pc,.slice A.oa K.opens.length A.oc,.string ⟨K.out0.toArray⟩,.string ⟨K.out1.toArray⟩]] w fun e w'=>∃ A':KAd,A'.ta=A.ta/\A'.tc=A.tc/\e=.returned (.agg #[.slice A'.ta K.tree.length A'.tc,.int .i64 K.m,.int .i64 K.b,.slice A'.pa K.pipes.length A'.pc,.slice A'.oa K.opens.length A'.oc,.string ⟨K.out0.toArray⟩,.string ⟨K.out1.toArray⟩])/\KOwn w' w.heap.size A' K.pipes K.opens/\Below w.heap.size w w':=by
 obtain⟨ta,tc,pa,pc,oa,oc⟩:=A
 have hAt:Aad w ta tc K.tree:=hA.tree
 have hAp:SlIn w pa K.pipes.length pc 4 (rowC pipF K.pipes):=hA.pipes
 have hAo:SlIn w oa K.opens.length oc 5 (rowC opnF K.opens):=hA.opens
 clear hA hAt
 show Calls Tryz.prog 42 #[.agg #[.slice ta K.tree.length tc,.int .i64 K.m,.int .i64 K.b,.slice pa K.pipes.length pc,.slice oa K.opens.length oc,.string ⟨K.out0.toArray⟩,.string ⟨K.out1.toArray⟩]] w _
 obtain⟨i1,hi1,hy0,hy1,hy2⟩:=info_parts Apo
 obtain⟨i2,hi2,hz0,hz1,hz2⟩:=info_parts Air
 obtain⟨D0,hD0⟩:∃ D:ByteArray,D=⟨K.out0.toArray⟩:=⟨_,rfl⟩
 obtain⟨D1,hD1⟩:∃ D:ByteArray,D=⟨K.out1.toArray⟩:=⟨_,rfl⟩
 rw[<-hD0,<-hD1]
 have HD:=Hd (And.intro hD0 hD1)
 clear hD0 hD1
 obtain⟨w2,hw2,hb2,hs2,hX,hY⟩:=Aan w #[.slice ta K.tree.length tc,.int .i64 K.m,.int .i64 K.b,.slice pa K.pipes.length pc,.slice oa K.opens.length oc,.string D0,.string D1] #[.slice none 0 0,.int .i64 0,.int .i64 0,.slice none 0 0,.slice none 0 0,.string ⟨#[]⟩,.string ⟨#[]⟩] 29 29
 have HX:=Hd hX
 have HY:=Hd hY
 have HB2:=Hd hb2
 have HAP:=Hd (hAp.below hb2)
 have HAO:=Hd (hAo.below hb2)
 have HPL:=Hd (Agi Aej K.pipes)
 have HOL:=Hd (Agi Adn K.opens)
 have PS:=Hd (Ak3 HAP.out (by decide))
 have OS:=Hd (Ak3 HAO.out (by decide))
 have hAo0:=Hd hAo
 clear hAp hAo
 obtain⟨q0,q1,q2,q3,q4,q5,q6⟩:=Aal hX
 have f3:=bF hX 3
 have ql:=lt_of_block hX
 rw[hw2]at q0 q1 q2 q3 q4 q5 q6 ql f3
 clear hX hY hb2
 go_enter Tryz.func42,Tryz.ntmps42
 rcases pa with _|pad
 ·obtain⟨h0,-⟩:=Ahs HAP.out (by decide)
  have HP2:=Hd (show ∀ W:World,W.ownsRow (w.heap.size+2) 87 4 (.slice none K.pipes.length 0) K.pipes.length (rowC pipF K.pipes)from fun W=>⟨HPL.out,.inl ⟨by rw[h0],h0⟩⟩)
  go_upto_region 4 with fail
  obtain⟨w4,hw4⟩:∃ z,z=(w.alloc (.cells #[.slice ta K.tree.length tc,.int .i64 K.m,.int .i64 K.b,.slice none 0 0,.slice oa K.opens.length oc,.string D0,.string D1] 29)).alloc (.cells #[.slice none 0 0,.int .i64 0,.int .i64 0,.slice none 0 0,.slice none 0 0,.string ⟨#[]⟩,.string ⟨#[]⟩] 29):=⟨_,rfl⟩
  rw[<-hw4]
  have HB4:=Hd (show Below w.heap.size w w4 by rw[hw4];exact Af8 w _ _)
  have hs4:w.heap.size+2<=w4.heap.size:=by rw[hw4];simp
  obtain⟨wd,hwd,-,-,hX4,hY4⟩:=Aan w #[.slice ta K.tree.length tc,.int .i64 K.m,.int .i64 K.b,.slice none 0 0,.slice oa K.opens.length oc,.string D0,.string D1] #[.slice none 0 0,.int .i64 0,.int .i64 0,.slice none 0 0,.slice none 0 0,.string ⟨#[]⟩,.string ⟨#[]⟩] 29 29
  rw[<-hw4]at hwd
  rw[hwd]at hX4 hY4
  have HX4:=Hd (show w4.heap[w.heap.size]?=some (.cells #[.slice ta K.tree.length tc,.int .i64 K.m,.int .i64 K.b,.slice none K.pipes.length 0,.slice oa K.opens.length oc,.string D0,.string D1] 29 (0,0)) by rw[h0];exact hX4)
  clear h0
  have HY4:=Hd hY4
  have HP4:=Hd (HP2.out w4)
  obtain⟨pa',pc',hpa⟩:∃ (pa':Option Addr) (pc':Nat),pa'=none/\pc'=0:=⟨_,_,rfl,rfl⟩
  clear hX4 hY4 hwd hw4 hw2 q0 q1 q2 q3 q4 q5 q6 ql f3
  obtain⟨rfl,rfl⟩:=hpa
  have HK:=Hd (show KernRows w w4 ta tc K none 0 from⟨HB4.out,hs4,HP4.out⟩)
  rcases oa with _|oad
  ·obtain⟨h0,-⟩:=Ahs hAo0.out (by decide)
   have HO6:=Hd (show ∀ W:World,W.ownsRow (w.heap.size+2) 70 5 (.slice none K.opens.length 0) K.opens.length (rowC opnF K.opens)from fun W=>⟨HOL.out,.inl ⟨by rw[h0],h0⟩⟩)
   have HZ:=Hd h0
   obtain⟨q0,q1,q2,q3,q4,q5,q6⟩:=Aal HX4.out
   have f4:=bF HX4.out 4
   have ql:=lt_of_block HX4.out
   go_upto_region 5 with fail
   have HX5:=HX4
   have HY5:=HY4
   have HB5:=HB4
   have HP5:=HP4
   have HO5:=Hd (HO6.out w4)
   have HAPT:=Hd (show ∀ a b:Addr,none=some a->(none:Option Addr)=some b->a.block≠b.block from fun _ _ _ h=>by cases h)
   clear q0 q1 q2 q3 q4 q5 q6 f4 ql HO6
   obtain⟨w6,hw6⟩:∃ z,z=w4.setCell ⟨w.heap.size,4,none⟩ (.slice none 0 0):=⟨_,rfl⟩
   rw[<-hw6]
   have HX6:=Hd (show w6.heap[w.heap.size]?=some (.cells #[.slice ta K.tree.length tc,.int .i64 K.m,.int .i64 K.b,.slice none K.pipes.length 0,.slice none K.opens.length 0,.string D0,.string D1] 29 (0,0)) by rw[hw6];rw[h0];exact Aar HX5.out 4 _)
   have HY6:=Hd (show w6.heap[w.heap.size+1]?=some (.cells #[.slice none 0 0,.int .i64 0,.int .i64 0,.slice none 0 0,.slice none 0 0,.string ⟨#[]⟩,.string ⟨#[]⟩] 29 (0,0)) by rw[hw6];exact(Below.heap_setCell _ _ _ _ (show w.heap.size+1≠w.heap.size by omega)).trans HY5.out)
   have HB6:=Hd (show Below w.heap.size w w6 by rw[hw6];exact HB5.out.setCell (Nat.le_refl _) _)
   have HP6:=Hd (show w6.ownsRow (w.heap.size+2) 87 4 (.slice none K.pipes.length 0) K.pipes.length (rowC pipF K.pipes) by rw[hw6];exact Aci HP5.out (fun g hg=>Below.heap_setCell _ _ _ _ (show g≠w.heap.size by omega)))
   have HO6:=Hd (show w6.ownsRow (w.heap.size+2) 70 5 (.slice none K.opens.length 0) K.opens.length (rowC opnF K.opens) by rw[hw6];exact Aci HO5.out (fun g hg=>Below.heap_setCell _ _ _ _ (show g≠w.heap.size by omega)))
   clear h0
   clear hw6
   obtain⟨q0,q1,q2,q3,q4,q5,q6⟩:=Aal HX6.out
   obtain⟨r0,r1,r2,r3,r4,r5,r6⟩:=Aal HY6.out
   have s0:=bF HY6.out 0
   have s1:=bF HY6.out 1
   have s2:=bF HY6.out 2
   have s3:=bF HY6.out 3
   have s4:=bF HY6.out 4
   have s5:=bF HY6.out 5
   have s6:=bF HY6.out 6
   have yl:=lt_of_block HY6.out
   go_wp2_with fail
   change bodyPost _ _ _ _ _ (put7 w6 (w.heap.size+1) (.slice ta K.tree.length tc) (.int .i64 K.m) (.int .i64 K.b) (.slice none K.pipes.length 0) (.slice none K.opens.length 0) (.string D0) (.string D1))
   obtain⟨c0,c1,c2,c3,c4,c5,c6⟩:=Aal (Ac4 HY6.out (.slice ta K.tree.length tc) (.int .i64 K.m) (.int .i64 K.b) (.slice none K.pipes.length 0) (.slice none K.opens.length 0) (.string D0) (.string D1))
   exact bodyPost_ret (v:=.agg #[.slice ta K.tree.length tc,.int .i64 K.m,.int .i64 K.b,.slice none K.pipes.length 0,.slice none K.opens.length 0,.string D0,.string D1]) (by simp[results,Tryz.results42,go_sem,c0,c1,c2,c3,c4,c5,c6]) rfl ⟨⟨ta,tc,none,0,none,0⟩,rfl,rfl,rfl,⟨Acn (Aci HP6.out (fun g hg=>Acg (show g≠w.heap.size+1 by omega) _ _ _ _ _ _ _)) (by omega),Acn (Aci HO6.out (fun g hg=>Acg (show g≠w.heap.size+1 by omega) _ _ _ _ _ _ _)) (by omega),HAPT.out⟩,Afh HB6.out (by omega) _ _ _ _ _ _ _⟩
  ·obtain⟨q0,q1,q2,q3,q4,q5,q6⟩:=Aal HX4.out
   have ql:=lt_of_block HX4.out
   have OS4:=Hd (Ak3 (hAo0.out.below HB4.out) (by decide))
   have hs4':=hs4
   go_wp2_with (first|(at_builtin;refine wpList_append_own _ rfl _ _ 26 rfl w4.heap.size 70 i2 _ 5 40 Tryz.underlying26 hi2 hz0 hz1 hz2 rfl (by decide) (.slice none 0 0) 0 [] rfl (World.ownsRow_nil _ _ _ _) oad K.opens.length oc (rowC opnF K.opens) rfl HOL.out (fun j u hj=>OS4.out _ rfl j u hj) (Ahn _) (by unfold maxLen;omega) (by omega) (Nat.le_refl _) ?_)|fail)
   intro v2 w5 hown5 hgrow5 hnil5
   clear q0 q1 q2 q3 q4 q5 q6 ql hnil5
   have hb5:Below w4.heap.size w4 w5:=(Below.refl _ _).grown hgrow5 (Nat.le_refl _) (fun k hk=>by cases hk)
   have hown6:w5.ownsRow w4.heap.size 70 5 v2 K.opens.length (rowC opnF K.opens):=by simpa using hown5
   obtain⟨oa',oc',rfl,hoa⟩:=Aea hown6
   have HX5:=Hd ((hb5.block w.heap.size (by omega)).trans HX4.out)
   have HY5:=Hd ((hb5.block (w.heap.size+1) (by omega)).trans HY4.out)
   have HB5:=Hd (HB4.out.trans (hb5.mono HB4.out.size))
   have HP5:=Hd (Aeb HP4.out hb5 (Nat.le_refl _))
   have HO5:=Hd (Acn hown6 hs4)
   have HAPT:=Hd (show ∀ a b:Addr,none=some a->oa'=some b->a.block≠b.block from fun a b ha hb=>by
    obtain⟨x,c,hx,hxl⟩:=Aea HP4.out
    simp only[Value.slice.injEq]at hx
    obtain⟨rfl,-,-⟩:=hx
    obtain⟨g,rfl,-,h1⟩:=hxl a ha
    obtain⟨g2,rfl,h2,-⟩:=hoa b hb
    show g≠g2
    omega)
   clear hown5 hgrow5 hown6 hb5
   obtain⟨q0,q1,q2,q3,q4,q5,q6⟩:=Aal HX5.out
   have f4:=bF HX5.out 4
   have ql:=lt_of_block HX5.out
   go_upto_region 5 with fail
   clear q0 q1 q2 q3 q4 q5 q6 f4 ql
   obtain⟨w6,hw6⟩:∃ z,z=w5.setCell ⟨w.heap.size,4,none⟩ (.slice oa' K.opens.length oc'):=⟨_,rfl⟩
   rw[<-hw6]
   have HX6:=Hd (show w6.heap[w.heap.size]?=some (.cells #[.slice ta K.tree.length tc,.int .i64 K.m,.int .i64 K.b,.slice none K.pipes.length 0,.slice oa' K.opens.length oc',.string D0,.string D1] 29 (0,0)) by rw[hw6];exact Aar HX5.out 4 _)
   have HY6:=Hd (show w6.heap[w.heap.size+1]?=some (.cells #[.slice none 0 0,.int .i64 0,.int .i64 0,.slice none 0 0,.slice none 0 0,.string ⟨#[]⟩,.string ⟨#[]⟩] 29 (0,0)) by rw[hw6];exact(Below.heap_setCell _ _ _ _ (show w.heap.size+1≠w.heap.size by omega)).trans HY5.out)
   have HB6:=Hd (show Below w.heap.size w w6 by rw[hw6];exact HB5.out.setCell (Nat.le_refl _) _)
   have HP6:=Hd (show w6.ownsRow (w.heap.size+2) 87 4 (.slice none K.pipes.length 0) K.pipes.length (rowC pipF K.pipes) by rw[hw6];exact Aci HP5.out (fun g hg=>Below.heap_setCell _ _ _ _ (show g≠w.heap.size by omega)))
   have HO6:=Hd (show w6.ownsRow (w.heap.size+2) 70 5 (.slice oa' K.opens.length oc') K.opens.length (rowC opnF K.opens) by rw[hw6];exact Aci HO5.out (fun g hg=>Below.heap_setCell _ _ _ _ (show g≠w.heap.size by omega)))
   skip
   clear hw6
   obtain⟨q0,q1,q2,q3,q4,q5,q6⟩:=Aal HX6.out
   obtain⟨r0,r1,r2,r3,r4,r5,r6⟩:=Aal HY6.out
   have s0:=bF HY6.out 0
   have s1:=bF HY6.out 1
   have s2:=bF HY6.out 2
   have s3:=bF HY6.out 3
   have s4:=bF HY6.out 4
   have s5:=bF HY6.out 5
   have s6:=bF HY6.out 6
   have yl:=lt_of_block HY6.out
   go_wp2_with fail
   change bodyPost _ _ _ _ _ (put7 w6 (w.heap.size+1) (.slice ta K.tree.length tc) (.int .i64 K.m) (.int .i64 K.b) (.slice none K.pipes.length 0) (.slice oa' K.opens.length oc') (.string D0) (.string D1))
   obtain⟨c0,c1,c2,c3,c4,c5,c6⟩:=Aal (Ac4 HY6.out (.slice ta K.tree.length tc) (.int .i64 K.m) (.int .i64 K.b) (.slice none K.pipes.length 0) (.slice oa' K.opens.length oc') (.string D0) (.string D1))
   exact bodyPost_ret (v:=.agg #[.slice ta K.tree.length tc,.int .i64 K.m,.int .i64 K.b,.slice none K.pipes.length 0,.slice oa' K.opens.length oc',.string D0,.string D1]) (by simp[results,Tryz.results42,go_sem,c0,c1,c2,c3,c4,c5,c6]) rfl ⟨⟨ta,tc,none,0,oa',oc'⟩,rfl,rfl,rfl,⟨Acn (Aci HP6.out (fun g hg=>Acg (show g≠w.heap.size+1 by omega) _ _ _ _ _ _ _)) (by omega),Acn (Aci HO6.out (fun g hg=>Acg (show g≠w.heap.size+1 by omega) _ _ _ _ _ _ _)) (by omega),HAPT.out⟩,Afh HB6.out (by omega) _ _ _ _ _ _ _⟩
 ·go_wp2_with (first|(at_builtin;refine wpList_append_own _ rfl _ _ 25 rfl (w.heap.size+2) 87 i1 _ 4 40 Tryz.underlying25 hi1 hy0 hy1 hy2 rfl (by decide) (.slice none 0 0) 0 [] rfl (World.ownsRow_nil _ _ _ _) pad K.pipes.length pc (rowC pipF K.pipes) rfl HPL.out (fun j u hj=>by rw[<-hw2];exact PS.out _ rfl j u hj) (Ap4 _) (by unfold maxLen;omega) (by omega) (by rw[<-hw2];omega) ?_)|fail)
  intro v' w3 hown hgrow hnil
  rw[<-hw2]at hgrow
  clear hw2 q0 q1 q2 q3 q4 q5 q6 ql f3 hnil
  have hb3:Below w2.heap.size w2 w3:=(Below.refl _ _).grown hgrow (Nat.le_refl _) (fun k hk=>by cases hk)
  have hown2:w3.ownsRow (w.heap.size+2) 87 4 v' K.pipes.length (rowC pipF K.pipes):=by simpa using hown
  obtain⟨pa',pc',rfl,hpa⟩:=Aea hown2
  clear hown hgrow
  have hX3:=(hb3.block w.heap.size (by omega)).trans HX.out
  have hY3:=(hb3.block (w.heap.size+1) (by omega)).trans HY.out
  obtain⟨q0,q1,q2,q3,q4,q5,q6⟩:=Aal hX3
  have f3:=bF hX3 3
  have ql:=lt_of_block hX3
  go_upto_region 4 with fail
  obtain⟨w4,hw4⟩:∃ z,z=w3.setCell ⟨w.heap.size,3,none⟩ (.slice pa' K.pipes.length pc'):=⟨_,rfl⟩
  rw[<-hw4]
  have HB4:=Hd (show Below w.heap.size w w4 by rw[hw4];exact(HB2.out.trans (hb3.mono (by omega))).setCell (Nat.le_refl _) _)
  have hs4:w.heap.size+2<=w4.heap.size:=by have:=hb3.size;rw[hw4];simp[World.setCell];omega
  have HX4:=Hd (show w4.heap[w.heap.size]?=some (.cells #[.slice ta K.tree.length tc,.int .i64 K.m,.int .i64 K.b,.slice pa' K.pipes.length pc',.slice oa K.opens.length oc,.string D0,.string D1] 29 (0,0)) by rw[hw4];exact Aar hX3 3 _)
  have HY4:=Hd (show w4.heap[w.heap.size+1]?=some (.cells #[.slice none 0 0,.int .i64 0,.int .i64 0,.slice none 0 0,.slice none 0 0,.string ⟨#[]⟩,.string ⟨#[]⟩] 29 (0,0)) by rw[hw4];exact(Below.heap_setCell _ _ _ _ (show w.heap.size+1≠w.heap.size by omega)).trans hY3)
  have HP4:=Hd (show w4.ownsRow (w.heap.size+2) 87 4 (.slice pa' K.pipes.length pc') K.pipes.length (rowC pipF K.pipes) by rw[hw4];exact Aci hown2 (fun g hg=>Below.heap_setCell _ _ _ _ (show g≠w.heap.size by omega)))
  clear hX3 hY3 hb3 hown2 hw4 q0 q1 q2 q3 q4 q5 q6 ql f3
  have HK:=Hd (show KernRows w w4 ta tc K pa' pc' from⟨HB4.out,hs4,HP4.out⟩)
  rcases oa with _|oad
  ·obtain⟨h0,-⟩:=Ahs hAo0.out (by decide)
   have HO6:=Hd (show ∀ W:World,W.ownsRow (w.heap.size+2) 70 5 (.slice none K.opens.length 0) K.opens.length (rowC opnF K.opens)from fun W=>⟨HOL.out,.inl ⟨by rw[h0],h0⟩⟩)
   have HZ:=Hd h0
   obtain⟨q0,q1,q2,q3,q4,q5,q6⟩:=Aal HX4.out
   have f4:=bF HX4.out 4
   have ql:=lt_of_block HX4.out
   go_upto_region 5 with fail
   have HX5:=HX4
   have HY5:=HY4
   have HB5:=HB4
   have HP5:=HP4
   have HO5:=Hd (HO6.out w4)
   have HAPT:=Hd (show ∀ a b:Addr,pa'=some a->(none:Option Addr)=some b->a.block≠b.block from fun _ _ _ h=>by cases h)
   clear q0 q1 q2 q3 q4 q5 q6 f4 ql HO6
   obtain⟨w6,hw6⟩:∃ z,z=w4.setCell ⟨w.heap.size,4,none⟩ (.slice none 0 0):=⟨_,rfl⟩
   rw[<-hw6]
   have HX6:=Hd (show w6.heap[w.heap.size]?=some (.cells #[.slice ta K.tree.length tc,.int .i64 K.m,.int .i64 K.b,.slice pa' K.pipes.length pc',.slice none K.opens.length 0,.string D0,.string D1] 29 (0,0)) by rw[hw6];rw[h0];exact Aar HX5.out 4 _)
   have HY6:=Hd (show w6.heap[w.heap.size+1]?=some (.cells #[.slice none 0 0,.int .i64 0,.int .i64 0,.slice none 0 0,.slice none 0 0,.string ⟨#[]⟩,.string ⟨#[]⟩] 29 (0,0)) by rw[hw6];exact(Below.heap_setCell _ _ _ _ (show w.heap.size+1≠w.heap.size by omega)).trans HY5.out)
   have HB6:=Hd (show Below w.heap.size w w6 by rw[hw6];exact HB5.out.setCell (Nat.le_refl _) _)
   have HP6:=Hd (show w6.ownsRow (w.heap.size+2) 87 4 (.slice pa' K.pipes.length pc') K.pipes.length (rowC pipF K.pipes) by rw[hw6];exact Aci HP5.out (fun g hg=>Below.heap_setCell _ _ _ _ (show g≠w.heap.size by omega)))
   have HO6:=Hd (show w6.ownsRow (w.heap.size+2) 70 5 (.slice none K.opens.length 0) K.opens.length (rowC opnF K.opens) by rw[hw6];exact Aci HO5.out (fun g hg=>Below.heap_setCell _ _ _ _ (show g≠w.heap.size by omega)))
   clear h0
   clear hw6
   obtain⟨q0,q1,q2,q3,q4,q5,q6⟩:=Aal HX6.out
   obtain⟨r0,r1,r2,r3,r4,r5,r6⟩:=Aal HY6.out
   have s0:=bF HY6.out 0
   have s1:=bF HY6.out 1
   have s2:=bF HY6.out 2
   have s3:=bF HY6.out 3
   have s4:=bF HY6.out 4
   have s5:=bF HY6.out 5
   have s6:=bF HY6.out 6
   have yl:=lt_of_block HY6.out
   go_wp2_with fail
   change bodyPost _ _ _ _ _ (put7 w6 (w.heap.size+1) (.slice ta K.tree.length tc) (.int .i64 K.m) (.int .i64 K.b) (.slice pa' K.pipes.length pc') (.slice none K.opens.length 0) (.string D0) (.string D1))
   obtain⟨c0,c1,c2,c3,c4,c5,c6⟩:=Aal (Ac4 HY6.out (.slice ta K.tree.length tc) (.int .i64 K.m) (.int .i64 K.b) (.slice pa' K.pipes.length pc') (.slice none K.opens.length 0) (.string D0) (.string D1))
   exact bodyPost_ret (v:=.agg #[.slice ta K.tree.length tc,.int .i64 K.m,.int .i64 K.b,.slice pa' K.pipes.length pc',.slice none K.opens.length 0,.string D0,.string D1]) (by simp[results,Tryz.results42,go_sem,c0,c1,c2,c3,c4,c5,c6]) rfl ⟨⟨ta,tc,pa',pc',none,0⟩,rfl,rfl,rfl,⟨Acn (Aci HP6.out (fun g hg=>Acg (show g≠w.heap.size+1 by omega) _ _ _ _ _ _ _)) (by omega),Acn (Aci HO6.out (fun g hg=>Acg (show g≠w.heap.size+1 by omega) _ _ _ _ _ _ _)) (by omega),HAPT.out⟩,Afh HB6.out (by omega) _ _ _ _ _ _ _⟩
  ·obtain⟨q0,q1,q2,q3,q4,q5,q6⟩:=Aal HX4.out
   have ql:=lt_of_block HX4.out
   have OS4:=Hd (Ak3 (hAo0.out.below HB4.out) (by decide))
   have hs4':=hs4
   go_wp2_with (first|(at_builtin;refine wpList_append_own _ rfl _ _ 26 rfl w4.heap.size 70 i2 _ 5 40 Tryz.underlying26 hi2 hz0 hz1 hz2 rfl (by decide) (.slice none 0 0) 0 [] rfl (World.ownsRow_nil _ _ _ _) oad K.opens.length oc (rowC opnF K.opens) rfl HOL.out (fun j u hj=>OS4.out _ rfl j u hj) (Ahn _) (by unfold maxLen;omega) (by omega) (Nat.le_refl _) ?_)|fail)
   intro v2 w5 hown5 hgrow5 hnil5
   clear q0 q1 q2 q3 q4 q5 q6 ql hnil5
   have hb5:Below w4.heap.size w4 w5:=(Below.refl _ _).grown hgrow5 (Nat.le_refl _) (fun k hk=>by cases hk)
   have hown6:w5.ownsRow w4.heap.size 70 5 v2 K.opens.length (rowC opnF K.opens):=by simpa using hown5
   obtain⟨oa',oc',rfl,hoa⟩:=Aea hown6
   have HX5:=Hd ((hb5.block w.heap.size (by omega)).trans HX4.out)
   have HY5:=Hd ((hb5.block (w.heap.size+1) (by omega)).trans HY4.out)
   have HB5:=Hd (HB4.out.trans (hb5.mono HB4.out.size))
   have HP5:=Hd (Aeb HP4.out hb5 (Nat.le_refl _))
   have HO5:=Hd (Acn hown6 hs4)
   have HAPT:=Hd (show ∀ a b:Addr,pa'=some a->oa'=some b->a.block≠b.block from fun a b ha hb=>by
    obtain⟨x,c,hx,hxl⟩:=Aea HP4.out
    simp only[Value.slice.injEq]at hx
    obtain⟨rfl,-,-⟩:=hx
    obtain⟨g,rfl,-,h1⟩:=hxl a ha
    obtain⟨g2,rfl,h2,-⟩:=hoa b hb
    show g≠g2
    omega)
   clear hown5 hgrow5 hown6 hb5
   obtain⟨q0,q1,q2,q3,q4,q5,q6⟩:=Aal HX5.out
   have f4:=bF HX5.out 4
   have ql:=lt_of_block HX5.out
   go_upto_region 5 with fail
   clear q0 q1 q2 q3 q4 q5 q6 f4 ql
   obtain⟨w6,hw6⟩:∃ z,z=w5.setCell ⟨w.heap.size,4,none⟩ (.slice oa' K.opens.length oc'):=⟨_,rfl⟩
   rw[<-hw6]
   have HX6:=Hd (show w6.heap[w.heap.size]?=some (.cells #[.slice ta K.tree.length tc,.int .i64 K.m,.int .i64 K.b,.slice pa' K.pipes.length pc',.slice oa' K.opens.length oc',.string D0,.string D1] 29 (0,0)) by rw[hw6];exact Aar HX5.out 4 _)
   have HY6:=Hd (show w6.heap[w.heap.size+1]?=some (.cells #[.slice none 0 0,.int .i64 0,.int .i64 0,.slice none 0 0,.slice none 0 0,.string ⟨#[]⟩,.string ⟨#[]⟩] 29 (0,0)) by rw[hw6];exact(Below.heap_setCell _ _ _ _ (show w.heap.size+1≠w.heap.size by omega)).trans HY5.out)
   have HB6:=Hd (show Below w.heap.size w w6 by rw[hw6];exact HB5.out.setCell (Nat.le_refl _) _)
   have HP6:=Hd (show w6.ownsRow (w.heap.size+2) 87 4 (.slice pa' K.pipes.length pc') K.pipes.length (rowC pipF K.pipes) by rw[hw6];exact Aci HP5.out (fun g hg=>Below.heap_setCell _ _ _ _ (show g≠w.heap.size by omega)))
   have HO6:=Hd (show w6.ownsRow (w.heap.size+2) 70 5 (.slice oa' K.opens.length oc') K.opens.length (rowC opnF K.opens) by rw[hw6];exact Aci HO5.out (fun g hg=>Below.heap_setCell _ _ _ _ (show g≠w.heap.size by omega)))
   skip
   clear hw6
   obtain⟨q0,q1,q2,q3,q4,q5,q6⟩:=Aal HX6.out
   obtain⟨r0,r1,r2,r3,r4,r5,r6⟩:=Aal HY6.out
   have s0:=bF HY6.out 0
   have s1:=bF HY6.out 1
   have s2:=bF HY6.out 2
   have s3:=bF HY6.out 3
   have s4:=bF HY6.out 4
   have s5:=bF HY6.out 5
   have s6:=bF HY6.out 6
   have yl:=lt_of_block HY6.out
   go_wp2_with fail
   change bodyPost _ _ _ _ _ (put7 w6 (w.heap.size+1) (.slice ta K.tree.length tc) (.int .i64 K.m) (.int .i64 K.b) (.slice pa' K.pipes.length pc') (.slice oa' K.opens.length oc') (.string D0) (.string D1))
   obtain⟨c0,c1,c2,c3,c4,c5,c6⟩:=Aal (Ac4 HY6.out (.slice ta K.tree.length tc) (.int .i64 K.m) (.int .i64 K.b) (.slice pa' K.pipes.length pc') (.slice oa' K.opens.length oc') (.string D0) (.string D1))
   exact bodyPost_ret (v:=.agg #[.slice ta K.tree.length tc,.int .i64 K.m,.int .i64 K.b,.slice pa' K.pipes.length pc',.slice oa' K.opens.length oc',.string D0,.string D1]) (by simp[results,Tryz.results42,go_sem,c0,c1,c2,c3,c4,c5,c6]) rfl ⟨⟨ta,tc,pa',pc',oa',oc'⟩,rfl,rfl,rfl,⟨Acn (Aci HP6.out (fun g hg=>Acg (show g≠w.heap.size+1 by omega) _ _ _ _ _ _ _)) (by omega),Acn (Aci HO6.out (fun g hg=>Acg (show g≠w.heap.size+1 by omega) _ _ _ _ _ _ _)) (by omega),HAPT.out⟩,Afh HB6.out (by omega) _ _ _ _ _ _ _⟩
def fdA (g:List Int)(j:Nat):Int:=g.getD j 0
theorem Ajd (g:List Int)(n:Nat)(hn:n < 10):(#[.int .i64 (fdA g 0),.int .i64 (fdA g 1),.int .i64 (fdA g 2),.int .i64 (fdA g 3),.int .i64 (fdA g 4),.int .i64 (fdA g 5),.int .i64 (fdA g 6),.int .i64 (fdA g 7),.int .i64 (fdA g 8),.int .i64 (fdA g 9)]:Array Value)[n]?=some (.int .i64 (fdA g n)):=by
 match n,hn with
 | 0,_=>rfl
 | 1,_=>rfl
 | 2,_=>rfl
 | 3,_=>rfl
 | 4,_=>rfl
 | 5,_=>rfl
 | 6,_=>rfl
 | 7,_=>rfl
 | 8,_=>rfl
 | 9,_=>rfl
theorem Asx (g:List Int)(hg:g.length=10)(n:Nat)(hn:n < 10)(x:Int)(j:Nat):fdA (g.set n x) j=if n=j then x else fdA g j:=by
 unfold fdA
 rw[List.getD_eq_getElem?_getD,List.getD_eq_getElem?_getD,List.getElem?_set]
 by_cases h:n=j
 ·subst h
  rw[if_pos rfl,if_pos rfl,if_pos (by omega)]
  rfl
 ·rw[if_neg h,if_neg h]
theorem Ax7 (g:List Int)(hg:g.length=10)(n:Nat)(hn:n < 10)(x:Int):(#[.int .i64 (fdA g 0),.int .i64 (fdA g 1),.int .i64 (fdA g 2),.int .i64 (fdA g 3),.int .i64 (fdA g 4),.int .i64 (fdA g 5),.int .i64 (fdA g 6),.int .i64 (fdA g 7),.int .i64 (fdA g 8),.int .i64 (fdA g 9)]:Array Value).setIfInBounds n (.int .i64 x)=#[.int .i64 (fdA (g.set n x) 0),.int .i64 (fdA (g.set n x) 1),.int .i64 (fdA (g.set n x) 2),.int .i64 (fdA (g.set n x) 3),.int .i64 (fdA (g.set n x) 4),.int .i64 (fdA (g.set n x) 5),.int .i64 (fdA (g.set n x) 6),.int .i64 (fdA (g.set n x) 7),.int .i64 (fdA (g.set n x) 8),.int .i64 (fdA (g.set n x) 9)]:=by
 simp only[Asx g hg n hn x]
 match n,hn with
 | 0,_=>rfl
 | 1,_=>rfl
 | 2,_=>rfl
 | 3,_=>rfl
 | 4,_=>rfl
 | 5,_=>rfl
 | 6,_=>rfl
 | 7,_=>rfl
 | 8,_=>rfl
 | 9,_=>rfl
structure But (g:Nat)(W W':World):Prop where
 os:W'.os=W.os
 tape:W'.tape=W.tape
 output:W'.output=W.output
 size:W'.heap.size=W.heap.size
 block:∀ k,k≠g->W'.heap[k]?=W.heap[k]?
theorem But.set (W:World)(g j:Nat)(u:Value):But g W (W.setCell ⟨g,j,none⟩ u):=⟨rfl,rfl,rfl,by simp[World.setCell],fun _ h=>Below.heap_setCell _ _ _ _ h⟩
theorem But.trans {g:Nat}{A B C:World}(h:But g A B)(k:But g B C):But g A C:=⟨k.os.trans h.os,k.tape.trans h.tape,k.output.trans h.output,k.size.trans h.size,fun j hj=>(k.block j hj).trans (h.block j hj)⟩
theorem But.below {g n:Nat}{A B C:World}(h:Below n A B)(k:But g B C)(hg:n<=g):Below n A C:=⟨k.os.trans h.os,k.tape.trans h.tape,k.output.trans h.output,Nat.le_trans h.size (Nat.le_of_eq k.size.symm),fun j hj=>(k.block j (by omega)).trans (h.block j hj)⟩
def Acc (W:World)(g o:Nat)(x y z u:Value):World:=(((W.setCell ⟨g,o,none⟩ x).setCell ⟨g,o+1,none⟩ y).setCell ⟨g,o+2,none⟩ z).setCell ⟨g,o+3,none⟩ u
def Acz (W:World)(g o:Nat)(x y z u v:Value):World:=((((W.setCell ⟨g,o,none⟩ x).setCell ⟨g,o+1,none⟩ y).setCell ⟨g,o+2,none⟩ z).setCell ⟨g,o+3,none⟩ u).setCell ⟨g,o+4,none⟩ v
theorem Adh (W:World)(g o:Nat)(x y z u:Value):But g W (Acc W g o x y z u):=(((But.set W g o x).trans (But.set _ g _ y)).trans (But.set _ g _ z)).trans (But.set _ g _ u)
theorem Ad0 (W:World)(g o:Nat)(x y z u v:Value):But g W (Acz W g o x y z u v):=((((But.set W g o x).trans (But.set _ g _ y)).trans (But.set _ g _ z)).trans (But.set _ g _ u)).trans (But.set _ g _ v)
theorem Akx {W:World}{B g cap:Nat}{P:List Pip}{e:TypeId}(h:W.ownsRow B e 4 (.slice (some ⟨g,0,none⟩) P.length cap) P.length (rowC pipF P))(i:Nat)(hi:i < P.length)(q:Pip) :
  (Acc W g (i * 4) (.string ⟨q.data.toArray⟩) (.int .i64 q.rd) (.int .i64 q.wr) (.int .i64 q.cap)).ownsRow B e 4 (.slice (some ⟨g,0,none⟩) P.length cap) P.length (rowC pipF (P.set i q)):=by
 have h0:=(h.stored (i * 4+0) (.string ⟨q.data.toArray⟩)).1
 rw[<-Ado Aej P i hi { P[i]with data:=q.data } 0 _ (by decide) rfl]at h0
 have h1:=(h0.stored (i * 4+1) (.int .i64 q.rd)).1
 rw[<-Ado Aej _ i (by simpa using hi) { P[i]with data:=q.data,rd:=q.rd } 1 _ (by decide) (by simp[pipF]),List.set_set]at h1
 have h2:=(h1.stored (i * 4+2) (.int .i64 q.wr)).1
 rw[<-Ado Aej _ i (by simpa using hi) { P[i]with data:=q.data,rd:=q.rd,wr:=q.wr } 2 _ (by decide) (by simp[pipF]),List.set_set]at h2
 have h3:=(h2.stored (i * 4+3) (.int .i64 q.cap)).1
 rw[<-Ado Aej _ i (by simpa using hi) q 3 _ (by decide) (by simp[pipF]),List.set_set]at h3
 exact h3
theorem Ah4 {W:World}{B g cap:Nat}{P:List Opn}{e:TypeId}(h:W.ownsRow B e 5 (.slice (some ⟨g,0,none⟩) P.length cap) P.length (rowC opnF P))(i:Nat)(hi:i < P.length)(q:Opn) :
  (Acz W g (i * 5) (.int .i64 q.kind) (.int .i64 q.at_) (.int .i64 q.off) (.int .i64 q.flags) (.int .i64 q.refs)).ownsRow B e 5 (.slice (some ⟨g,0,none⟩) P.length cap) P.length (rowC opnF (P.set i q)):=by
 have h0:=(h.stored (i * 5+0) (.int .i64 q.kind)).1
 rw[<-Ado Adn P i hi { P[i]with kind:=q.kind } 0 _ (by decide) rfl]at h0
 have h1:=(h0.stored (i * 5+1) (.int .i64 q.at_)).1
 rw[<-Ado Adn _ i (by simpa using hi) { P[i]with kind:=q.kind,at_:=q.at_ } 1 _ (by decide) (by simp[opnF]),List.set_set]at h1
 have h2:=(h1.stored (i * 5+2) (.int .i64 q.off)).1
 rw[<-Ado Adn _ i (by simpa using hi) { P[i]with kind:=q.kind,at_:=q.at_,off:=q.off } 2 _ (by decide) (by simp[opnF]),List.set_set]at h2
 have h3:=(h2.stored (i * 5+3) (.int .i64 q.flags)).1
 rw[<-Ado Adn _ i (by simpa using hi) { P[i]with kind:=q.kind,at_:=q.at_,off:=q.off,flags:=q.flags } 3 _ (by decide) (by simp[opnF]),List.set_set]at h3
 have h4:=(h3.stored (i * 5+4) (.int .i64 q.refs)).1
 rw[<-Ado Adn _ i (by simpa using hi) q 4 _ (by decide) (by simp[opnF]),List.set_set]at h4
 exact h4
structure Offk (A:KAd)(W W':World):Prop where
 os:W'.os=W.os
 tape:W'.tape=W.tape
 output:W'.output=W.output
 size:W.heap.size<=W'.heap.size
 block:∀ k,k < W.heap.size->(∀ a,A.pa=some a->a.block≠k)->(∀ a,A.oa=some a->a.block≠k)->W'.heap[k]?=W.heap[k]?
theorem Offk.of_below {A:KAd}{W W':World}(h:Below W.heap.size W W'):Offk A W W':=⟨h.os,h.tape,h.output,h.size,fun k hk _ _=>h.block k hk⟩
theorem Offk.trans {A:KAd}{W W' W'':World}(h:Offk A W W')(k:Offk A W' W''):Offk A W W'':=⟨k.os.trans h.os,k.tape.trans h.tape,k.output.trans h.output,Nat.le_trans h.size k.size,fun j hj h1 h2=>(k.block j (Nat.lt_of_lt_of_le hj h.size) h1 h2).trans (h.block j hj h1 h2)⟩
def wrk (g:Nat)(A:KAd)(K:Krn)(f:List Int):Array Value:=#[(.slice A.ta K.tree.length A.tc),(.int .i64 K.m),(.int .i64 K.b),(.slice A.pa K.pipes.length A.pc),(.slice A.oa K.opens.length A.oc),(.string ⟨K.out0.toArray⟩),(.string ⟨K.out1.toArray⟩),(.int .i64 (fdA f 0)),(.int .i64 (fdA f 1)),(.int .i64 (fdA f 2)),(.int .i64 (fdA f 3)),(.int .i64 (fdA f 4)),(.int .i64 (fdA f 5)),(.int .i64 (fdA f 6)),(.int .i64 (fdA f 7)),(.int .i64 (fdA f 8)),(.int .i64 (fdA f 9)),(.func (.func 92) #[.pointer (some ⟨g,0,none⟩)] #[]),(.nilFunc),(.nilFunc),(.nilFunc),(.func (.func 93) #[.pointer (some ⟨g,0,none⟩)] #[]),(.func (.func 94) #[.pointer (some ⟨g,0,none⟩)] #[]),(.func (.func 95) #[.pointer (some ⟨g,0,none⟩)] #[]),(.func (.func 96) #[.pointer (some ⟨g,0,none⟩)] #[]),(.func (.func 97) #[.pointer (some ⟨g,0,none⟩)] #[]),(.func (.func 98) #[.pointer (some ⟨g,0,none⟩)] #[]),(.nilFunc),(.func (.func 99) #[.pointer (some ⟨g,0,none⟩)] #[]),(.func (.func 100) #[.pointer (some ⟨g,0,none⟩)] #[]),(.nilFunc),(.func (.func 101) #[.pointer (some ⟨g,0,none⟩)] #[]),(.func (.func 102) #[.pointer (some ⟨g,0,none⟩)] #[]),(.func (.func 103) #[.pointer (some ⟨g,0,none⟩)] #[]),(.nilFunc),(.func (.func 104) #[.pointer (some ⟨g,0,none⟩)] #[]),(.func (.func 96) #[.pointer (some ⟨g,0,none⟩)] #[])]
def Own3 (g:Nat)(A:KAd)(k:Nat):Prop:=k=g∨(∃ a,A.pa=some a/\a.block=k)∨(∃ a,A.oa=some a/\a.block=k)
structure Wk (W:World)(B g:Nat)(A:KAd)(K:Krn)(f:List Int):Prop where
 box:W.heap[g]?=some (.cells (wrk g A K f) 124 (0,0))
 base:B<=g
 own:KOwn W B A K.pipes K.opens
 gp:∀ a,A.pa=some a->a.block≠g
 go:∀ a,A.oa=some a->a.block≠g
 tree:∀ W',(∀ k,k < W.heap.size->¬ Own3 g A k->W'.heap[k]?=W.heap[k]?)->Aad W' A.ta A.tc K.tree
 flen:f.length=10
structure Offw (g:Nat)(A:KAd)(W W':World):Prop where
 os:W'.os=W.os
 tape:W'.tape=W.tape
 output:W'.output=W.output
 size:W.heap.size<=W'.heap.size
 block:∀ k,k < W.heap.size->¬ Own3 g A k->W'.heap[k]?=W.heap[k]?
def Near (W:World)(A A':KAd):Prop:=(∀ a,A'.pa=some a->(∃ b,A.pa=some b/\b.block=a.block)∨W.heap.size<=a.block)/\(∀ a,A'.oa=some a->(∃ b,A.oa=some b/\b.block=a.block)∨W.heap.size<=a.block)
structure Stepw (g:Nat)(A:KAd)(W:World)(A':KAd)(W':World):Prop where
 off:Offw g A W W'
 near:Near W A A'
theorem Near.refl (W:World)(A:KAd):Near W A A:=⟨fun a h=>.inl ⟨a,h,rfl⟩,fun a h=>.inl ⟨a,h,rfl⟩⟩
theorem Offw.of_below {g:Nat}{A:KAd}{W W':World}(h:Below W.heap.size W W'):Offw g A W W':=⟨h.os,h.tape,h.output,h.size,fun k hk _=>h.block k hk⟩
theorem Stepw.of_below {g:Nat}{A:KAd}{W W':World}(h:Below W.heap.size W W'):Stepw g A W A W':=⟨.of_below h,.refl _ _⟩
theorem Near.own3 {W:World}{A A':KAd}{g k:Nat}(h:Near W A A')(hk:k < W.heap.size)(h3:Own3 g A' k):Own3 g A k:=by
 rcases h3 with h3|⟨a,h1,h2⟩|⟨a,h1,h2⟩
 ·exact .inl h3
 ·rcases h.1 a h1 with ⟨b,h4,h5⟩|h4
  ·exact .inr (.inl ⟨b,h4,h5.trans h2⟩)
  ·omega
 ·rcases h.2 a h1 with ⟨b,h4,h5⟩|h4
  ·exact .inr (.inr ⟨b,h4,h5.trans h2⟩)
  ·omega
theorem Near.trans {W W':World}{A A' A'':KAd}(h:Near W A A')(k:Near W' A' A'')(hs:W.heap.size<=W'.heap.size):Near W A A'':=by
 refine⟨fun a ha=>?_,fun a ha=>?_⟩
 ·rcases k.1 a ha with ⟨b,h1,h2⟩|h1
  ·rcases h.1 b h1 with ⟨c,h3,h4⟩|h3
   ·exact .inl ⟨c,h3,h4.trans h2⟩
   ·exact .inr (by omega)
  ·exact .inr (by omega)
 ·rcases k.2 a ha with ⟨b,h1,h2⟩|h1
  ·rcases h.2 b h1 with ⟨c,h3,h4⟩|h3
   ·exact .inl ⟨c,h3,h4.trans h2⟩
   ·exact .inr (by omega)
  ·exact .inr (by omega)
theorem Stepw.trans {g:Nat}{A A' A'':KAd}{W W' W'':World}(h:Stepw g A W A' W')(k:Stepw g A' W' A'' W''):Stepw g A W A'' W'':=
 ⟨⟨k.off.os.trans h.off.os,k.off.tape.trans h.off.tape,k.off.output.trans h.off.output,Nat.le_trans h.off.size k.off.size,fun j hj hn=>(k.off.block j (Nat.lt_of_lt_of_le hj h.off.size) (fun h3=>hn (h.near.own3 hj h3))).trans (h.off.block j hj hn)⟩,h.near.trans k.near h.off.size⟩
theorem Stepw.below {g:Nat}{A A':KAd}{W W' W'':World}(h:Stepw g A W A' W')(k:Below W'.heap.size W' W''):Stepw g A W A' W'':=h.trans (.of_below k)
section
variable {W W' : World} {B g : Nat} {A : KAd} {K : Krn} {f : List Int}
theorem Wk.lt (h:Wk W B g A K f):g < W.heap.size:=lt_of_block h.box
theorem Wk.nodes (h:Wk W B g A K f):Aad W A.ta A.tc K.tree:=h.tree W fun _ _ _=>rfl
theorem Wk.kern (h:Wk W B g A K f):KernIn W A K:=h.own.kern h.nodes
theorem KOwn.below {P:List Pip}{O:List Opn}(h:KOwn W B A P O)(hb:Below W.heap.size W W'):KOwn W' B A P O:=⟨Aeb h.pipes hb (Nat.le_refl _),Aeb h.opens hb (Nat.le_refl _),h.apart⟩
theorem Wk.below (h:Wk W B g A K f)(hb:Below W.heap.size W W'):Wk W' B g A K f:=
 ⟨(hb.block g h.lt).trans h.box,h.base,h.own.below hb,h.gp,h.go,fun W'' hw=>h.tree W'' fun k hk hn=>(hw k (Nat.lt_of_lt_of_le hk hb.size) hn).trans (hb.block k hk),h.flen⟩
theorem Abf {e:TypeId}{k n:Nat}{a:Option Addr}{cap:Nat}{xs:List Value}(h:W.ownsRow B e k (.slice a n cap) n xs):∀ x,a=some x->∃ go,x=⟨go,0,none⟩/\B<=go/\go < W.heap.size:=by
 obtain⟨a',cap',e1,h2⟩:=Aea h
 simp only[Value.slice.injEq]at e1
 obtain⟨rfl,-,rfl⟩:=e1
 exact h2
theorem Wk.own3 (h:Wk W B g A K f){k:Nat}(hk:Own3 g A k):B<=k/\k < W.heap.size:=by
 rcases hk with rfl|⟨a,h1,h2⟩|⟨a,h1,h2⟩
 ·exact⟨h.base,h.lt⟩
 ·obtain⟨go,rfl,h3,h4⟩:=Abf h.own.pipes a h1
  have h2':go=k:=h2
  omega
 ·obtain⟨go,rfl,h3,h4⟩:=Abf h.own.opens a h1
  have h2':go=k:=h2
  omega
theorem Wk.low {A':KAd}(h:Wk W B g A K f)(hs:Stepw g A W A' W')(hB:B<=W.heap.size):Below B W W':=
 ⟨hs.off.os,hs.off.tape,hs.off.output,hs.off.size,fun k hk=>hs.off.block k (by omega) (fun h3=>by have:=(h.own3 h3).1;omega)⟩
theorem Wk.cell (h:Wk W B g A K f)(j:Nat):W.cell? ⟨g,j,none⟩=(wrk g A K f)[j]?:=bC h.box j
theorem Wk.free (h:Wk W B g A K f)(j:Nat):W.frozen? ⟨g,j,none⟩=false:=bF h.box j
theorem Wk.kcells (h:Wk W B g A K f):W.cell? ⟨g,0,none⟩=some (.slice A.ta K.tree.length A.tc)/\W.cell? ⟨g,1,none⟩=some (.int .i64 K.m)/\W.cell? ⟨g,2,none⟩=some (.int .i64 K.b)/\W.cell? ⟨g,3,none⟩=some (.slice A.pa K.pipes.length A.pc)/\W.cell? ⟨g,4,none⟩=some (.slice A.oa K.opens.length A.oc)/\W.cell? ⟨g,5,none⟩=some (.string ⟨K.out0.toArray⟩)/\W.cell? ⟨g,6,none⟩=some (.string ⟨K.out1.toArray⟩):=
 ⟨h.cell 0,h.cell 1,h.cell 2,h.cell 3,h.cell 4,h.cell 5,h.cell 6⟩
theorem Wk.fds (h:Wk W B g A K f):W.cell? ⟨g,7,none⟩=some (.int .i64 (fdA f 0))/\W.cell? ⟨g,8,none⟩=some (.int .i64 (fdA f 1))/\W.cell? ⟨g,9,none⟩=some (.int .i64 (fdA f 2))/\W.cell? ⟨g,10,none⟩=some (.int .i64 (fdA f 3))/\W.cell? ⟨g,11,none⟩=some (.int .i64 (fdA f 4))/\W.cell? ⟨g,12,none⟩=some (.int .i64 (fdA f 5))/\W.cell? ⟨g,13,none⟩=some (.int .i64 (fdA f 6))/\W.cell? ⟨g,14,none⟩=some (.int .i64 (fdA f 7))/\W.cell? ⟨g,15,none⟩=some (.int .i64 (fdA f 8))/\W.cell? ⟨g,16,none⟩=some (.int .i64 (fdA f 9)):=⟨h.cell 7,h.cell 8,h.cell 9,h.cell 10,h.cell 11,h.cell 12,h.cell 13,h.cell 14,h.cell 15,h.cell 16⟩
theorem Wk.fd (h:Wk W B g A K f)(n:Nat)(hn:n < 10):W.cell? ⟨g,7+n,none⟩=some (.int .i64 (fdA f n)):=by
 rw[h.cell]
 match n,hn with
 | 0,_=>rfl
 | 1,_=>rfl
 | 2,_=>rfl
 | 3,_=>rfl
 | 4,_=>rfl
 | 5,_=>rfl
 | 6,_=>rfl
 | 7,_=>rfl
 | 8,_=>rfl
 | 9,_=>rfl
theorem Bbl (g:Nat)(A:KAd)(K:Krn){f:List Int}(hf:f.length=10)(n:Nat)(hn:n < 10)(x:Int):(wrk g A K f).setIfInBounds (7+n) (.int .i64 x)=wrk g A K (f.set n x):=by
 unfold wrk
 simp only[Asx f hf n hn x]
 match n,hn with
 | 0,_=>rfl
 | 1,_=>rfl
 | 2,_=>rfl
 | 3,_=>rfl
 | 4,_=>rfl
 | 5,_=>rfl
 | 6,_=>rfl
 | 7,_=>rfl
 | 8,_=>rfl
 | 9,_=>rfl
theorem Wk.fits0 (h:Wk W B g A K f):W.cell? ⟨g,17,none⟩=some (.func (.func 92) #[.pointer (some ⟨g,0,none⟩)] #[]):=h.cell 17
theorem Wk.fits1 (h:Wk W B g A K f):W.cell? ⟨g,21,none⟩=some (.func (.func 93) #[.pointer (some ⟨g,0,none⟩)] #[]):=h.cell 21
theorem Wk.read1 (h:Wk W B g A K f):W.cell? ⟨g,22,none⟩=some (.func (.func 94) #[.pointer (some ⟨g,0,none⟩)] #[]):=h.cell 22
theorem Wk.write1 (h:Wk W B g A K f):W.cell? ⟨g,23,none⟩=some (.func (.func 95) #[.pointer (some ⟨g,0,none⟩)] #[]):=h.cell 23
theorem Wk.end_1 (h:Wk W B g A K f):W.cell? ⟨g,24,none⟩=some (.func (.func 96) #[.pointer (some ⟨g,0,none⟩)] #[]):=h.cell 24
theorem Wk.fits2 (h:Wk W B g A K f):W.cell? ⟨g,25,none⟩=some (.func (.func 97) #[.pointer (some ⟨g,0,none⟩)] #[]):=h.cell 25
theorem Wk.read2 (h:Wk W B g A K f):W.cell? ⟨g,26,none⟩=some (.func (.func 98) #[.pointer (some ⟨g,0,none⟩)] #[]):=h.cell 26
theorem Wk.end_2 (h:Wk W B g A K f):W.cell? ⟨g,28,none⟩=some (.func (.func 99) #[.pointer (some ⟨g,0,none⟩)] #[]):=h.cell 28
theorem Wk.fits3 (h:Wk W B g A K f):W.cell? ⟨g,29,none⟩=some (.func (.func 100) #[.pointer (some ⟨g,0,none⟩)] #[]):=h.cell 29
theorem Wk.write3 (h:Wk W B g A K f):W.cell? ⟨g,31,none⟩=some (.func (.func 101) #[.pointer (some ⟨g,0,none⟩)] #[]):=h.cell 31
theorem Wk.end_3 (h:Wk W B g A K f):W.cell? ⟨g,32,none⟩=some (.func (.func 102) #[.pointer (some ⟨g,0,none⟩)] #[]):=h.cell 32
theorem Wk.fits4 (h:Wk W B g A K f):W.cell? ⟨g,33,none⟩=some (.func (.func 103) #[.pointer (some ⟨g,0,none⟩)] #[]):=h.cell 33
theorem Wk.write4 (h:Wk W B g A K f):W.cell? ⟨g,35,none⟩=some (.func (.func 104) #[.pointer (some ⟨g,0,none⟩)] #[]):=h.cell 35
theorem Wk.end_4 (h:Wk W B g A K f):W.cell? ⟨g,36,none⟩=some (.func (.func 96) #[.pointer (some ⟨g,0,none⟩)] #[]):=h.cell 36
theorem Ab8 {W W':World}{B:Nat}{e:TypeId}{k n:Nat}{a:Option Addr}{cap:Nat}{xs:List Value}(h:W.ownsRow B e k (.slice a n cap) n xs)(hg:∀ x,a=some x->W'.heap[x.block]?=W.heap[x.block]?):W'.ownsRow B e k (.slice a n cap) n xs:=by
 refine⟨h.1,?_⟩
 rcases h.2 with h|⟨g,cap',cur,h1,h2,h3,h4⟩
 ·exact .inl h
 ·refine .inr ⟨g,cap',cur,h1,h2,?_,h4⟩
  simp only[Value.slice.injEq]at h1
  obtain⟨rfl,-,-⟩:=h1
  exact(hg _ rfl).trans h3
theorem Wk.setBox {K':Krn}{f':List Int}(h:Wk W B g A K f)(hb:W'.heap[g]?=some (.cells (wrk g A K' f') 124 (0,0)))(ho:But g W W')(hp:K'.pipes=K.pipes)(hop:K'.opens=K.opens)(ht:K'.tree=K.tree)(hf:f'.length=10):Wk W' B g A K' f':=by
 refine⟨hb,h.base,?_,h.gp,h.go,fun W'' hw=>?_,hf⟩
 ·rw[hp,hop]
  exact⟨Ab8 h.own.pipes fun x hx=>ho.block _ (h.gp x hx),Ab8 h.own.opens fun x hx=>ho.block _ (h.go x hx),h.own.apart⟩
 ·rw[ht]
  exact h.tree W'' fun k hk hn=>(hw k (by rw[ho.size];exact hk) hn).trans (ho.block k (fun e=>hn (.inl e)))
theorem Stepw.of_but {g:Nat}{A:KAd}{W W':World}{k:Nat}(h:But k W W')(h3:Own3 g A k):Stepw g A W A W':=
 ⟨⟨h.os,h.tape,h.output,Nat.le_of_eq h.size.symm,fun j _ hn=>h.block j (fun e=>hn (e ▸ h3))⟩,.refl _ _⟩
theorem Wk.setFd (h:Wk W B g A K f){n:Nat}(hn:n < 10)(x:Int):Wk (W.setCell ⟨g,7+n,none⟩ (.int .i64 x)) B g A K (f.set n x)/\Stepw g A W A (W.setCell ⟨g,7+n,none⟩ (.int .i64 x)):=by
 have hb:=Aar h.box (7+n) (.int .i64 x)
 rw[Bbl g A K h.flen n hn x]at hb
 exact⟨h.setBox hb (But.set ..) rfl rfl rfl (by rw[List.length_set];exact h.flen),.of_but (But.set ..) (.inl rfl)⟩
theorem Wk.setOpens {O':List Opn}{go:Nat}(h:Wk W B g A K f)(ha:A.oa=some ⟨go,0,none⟩)(hl:O'.length=K.opens.length)(hr:W'.ownsRow B 70 5 (.slice A.oa O'.length A.oc) O'.length (rowC opnF O'))(ho:But go W W'):Wk W' B g A { K with opens:=O' } f/\Stepw g A W A W':=by
 have h3:Own3 g A go:=.inr (.inr ⟨_,ha,rfl⟩)
 refine⟨⟨?_,h.base,⟨Ab8 h.own.pipes fun x hx=>ho.block _ (fun e=>h.own.apart x _ hx ha (e:x.block=go)),hr,h.own.apart⟩,h.gp,h.go,fun W'' hw=>?_,h.flen⟩,.of_but ho h3⟩
 ·rw[ho.block g (fun e=>h.go _ ha e.symm),h.box]
  unfold wrk
  rw[hl]
 ·exact h.tree W'' fun k hk hn=>(hw k (by rw[ho.size];exact hk) hn).trans (ho.block k (fun e=>hn (e ▸ h3)))
theorem Wk.setPipes {P':List Pip}{go:Nat}(h:Wk W B g A K f)(ha:A.pa=some ⟨go,0,none⟩)(hl:P'.length=K.pipes.length)(hr:W'.ownsRow B 87 4 (.slice A.pa P'.length A.pc) P'.length (rowC pipF P'))(ho:But go W W'):Wk W' B g A { K with pipes:=P' } f/\Stepw g A W A W':=by
 have h3:Own3 g A go:=.inr (.inl ⟨_,ha,rfl⟩)
 refine⟨⟨?_,h.base,⟨hr,Ab8 h.own.opens fun x hx=>ho.block _ (fun e=>h.own.apart _ x ha hx (e:x.block=go).symm),h.own.apart⟩,h.gp,h.go,fun W'' hw=>?_,h.flen⟩,.of_but ho h3⟩
 ·rw[ho.block g (fun e=>h.gp _ ha e.symm),h.box]
  unfold wrk
  rw[hl]
 ·exact h.tree W'' fun k hk hn=>(hw k (by rw[ho.size];exact hk) hn).trans (ho.block k (fun e=>hn (e ▸ h3)))
structure OpnAt (W:World)(go j:Nat)(o:Opn):Prop where
 kind:W.cell? ⟨go,j * 5,none⟩=some (.int .i64 o.kind)
 at_:W.cell? ⟨go,j * 5+1,none⟩=some (.int .i64 o.at_)
 off:W.cell? ⟨go,j * 5+2,none⟩=some (.int .i64 o.off)
 flags:W.cell? ⟨go,j * 5+3,none⟩=some (.int .i64 o.flags)
 refs:W.cell? ⟨go,j * 5+4,none⟩=some (.int .i64 o.refs)
 lt:go < W.heap.size
 free:∀ i,W.frozen? ⟨go,i,none⟩=false
theorem Ahp {e:TypeId}{k n:Nat}{a:Option Addr}{cap:Nat}{xs:List Value}(h:W.ownsRow B e k (.slice a n cap) n xs){go:Nat}(ha:a=some ⟨go,0,none⟩)(i:Nat):W.frozen? ⟨go,i,none⟩=false:=by
 rcases h.2 with ⟨h1,-⟩|⟨g,cap',cur,h1,h2,h3,h4⟩
 ·simp only[Value.slice.injEq]at h1
  rw[h1.1]at ha
  cases ha
 ·simp only[Value.slice.injEq]at h1
  rw[h1.1]at ha
  obtain rfl:g=go:=by simpa using ha
  exact bF h3 i
theorem Wk.opn (h:Wk W B g A K f){j:Nat}(hj:j < K.opens.length):∃ go,A.oa=some ⟨go,0,none⟩/\B<=go/\OpnAt W go j K.opens[j]:=by
 obtain⟨b,o,ha,c0,c1,c2,c3,c4⟩:=h.kern.opens.opn j hj
 obtain⟨go,e,h1,h2⟩:=Abf h.own.opens _ ha
 simp only[Addr.mk.injEq]at e
 obtain⟨rfl,rfl,-⟩:=e
 rw[Nat.zero_add]at c0 c1 c2 c3 c4
 exact⟨b,ha,h1,c0,c1,c2,c3,c4,h2,Ahp h.own.opens ha⟩
theorem Wk.storeOpn (h:Wk W B g A K f){go j:Nat}(ha:A.oa=some ⟨go,0,none⟩)(hj:j < K.opens.length)(q:Opn):Wk (Acz W go (j * 5) (.int .i64 q.kind) (.int .i64 q.at_) (.int .i64 q.off) (.int .i64 q.flags) (.int .i64 q.refs)) B g A { K with opens:=K.opens.set j q } f/\Stepw g A W A (Acz W go (j * 5) (.int .i64 q.kind) (.int .i64 q.at_) (.int .i64 q.off) (.int .i64 q.flags) (.int .i64 q.refs)):=by
 have h0:=h.own.opens
 rw[ha]at h0
 have h1:=Ah4 h0 j hj q
 rw[<-ha]at h1
 exact h.setOpens ha (List.length_set ..) (by rw[List.length_set];exact h1) (Ad0 ..)
theorem Wk.storeOpn1 (h:Wk W B g A K f){go j:Nat}(ha:A.oa=some ⟨go,0,none⟩)(hj:j < K.opens.length)(q:Opn)(c:Nat)(hc:c < 5)(v:Value)(hq:opnF q=(opnF K.opens[j]).set c v):Wk (W.setCell ⟨go,j * 5+c,none⟩ v) B g A { K with opens:=K.opens.set j q } f/\Stepw g A W A (W.setCell ⟨go,j * 5+c,none⟩ v):=by
 have h0:=h.own.opens
 rw[ha]at h0
 have h1:=(h0.stored (j * 5+c) v).1
 rw[<-Ado Adn K.opens j hj q c v hc hq,<-ha]at h1
 exact h.setOpens ha (List.length_set ..) (by rw[List.length_set];exact h1) (But.set ..)
theorem Wk.storeRefs (h:Wk W B g A K f){go j:Nat}(ha:A.oa=some ⟨go,0,none⟩)(hj:j < K.opens.length)(x:Int):Wk (W.setCell ⟨go,j * 5+4,none⟩ (.int .i64 x)) B g A { K with opens:=K.opens.set j { K.opens[j]with refs:=x } } f/\Stepw g A W A (W.setCell ⟨go,j * 5+4,none⟩ (.int .i64 x)):=h.storeOpn1 ha hj _ 4 (by decide) _ rfl
theorem Wk.storeOff (h:Wk W B g A K f){go j:Nat}(ha:A.oa=some ⟨go,0,none⟩)(hj:j < K.opens.length)(x:Int):Wk (W.setCell ⟨go,j * 5+2,none⟩ (.int .i64 x)) B g A { K with opens:=K.opens.set j { K.opens[j]with off:=x } } f/\Stepw g A W A (W.setCell ⟨go,j * 5+2,none⟩ (.int .i64 x)):=h.storeOpn1 ha hj _ 2 (by decide) _ rfl
structure PipAt (W:World)(go i:Nat)(p:Pip):Prop where
 data:W.cell? ⟨go,i * 4,none⟩=some (.string ⟨p.data.toArray⟩)
 rd:W.cell? ⟨go,i * 4+1,none⟩=some (.int .i64 p.rd)
 wr:W.cell? ⟨go,i * 4+2,none⟩=some (.int .i64 p.wr)
 cap:W.cell? ⟨go,i * 4+3,none⟩=some (.int .i64 p.cap)
 lt:go < W.heap.size
 free:∀ j,W.frozen? ⟨go,j,none⟩=false
theorem Wk.pip (h:Wk W B g A K f){i:Nat}(hi:i < K.pipes.length):∃ go,A.pa=some ⟨go,0,none⟩/\B<=go/\PipAt W go i K.pipes[i]:=by
 obtain⟨b,o,ha,c0,c1,c2,c3⟩:=h.kern.pipes.pip i hi
 obtain⟨go,e,h1,h2⟩:=Abf h.own.pipes _ ha
 simp only[Addr.mk.injEq]at e
 obtain⟨rfl,rfl,-⟩:=e
 rw[Nat.zero_add]at c0 c1 c2 c3
 exact⟨b,ha,h1,c0,c1,c2,c3,h2,Ahp h.own.pipes ha⟩
theorem Wk.storePip (h:Wk W B g A K f){go i:Nat}(ha:A.pa=some ⟨go,0,none⟩)(hi:i < K.pipes.length)(q:Pip):Wk (Acc W go (i * 4) (.string ⟨q.data.toArray⟩) (.int .i64 q.rd) (.int .i64 q.wr) (.int .i64 q.cap)) B g A { K with pipes:=K.pipes.set i q } f/\Stepw g A W A (Acc W go (i * 4) (.string ⟨q.data.toArray⟩) (.int .i64 q.rd) (.int .i64 q.wr) (.int .i64 q.cap)):=by
 have h0:=h.own.pipes
 rw[ha]at h0
 have h1:=Akx h0 i hi q
 rw[<-ha]at h1
 exact h.setPipes ha (List.length_set ..) (by rw[List.length_set];exact h1) (Adh ..)
end
theorem Aa2 {n:Nat}{w w':World}(h:Below n w w')(k:Nat):Below n w (w'.drewN k):=h.trans ⟨rfl,rfl,rfl,Nat.le_refl _,fun _ _=>rfl⟩
theorem Aii (fd:Int)(w:World):Calls Tryz.prog 81 #[.int .i64 fd] w fun e w'=>e=.returned (.bool (isFd fd))/\w'=w:=by
 unfold isFd
 by_cases h1:0<=fd
 ·by_cases h2:fd < 10
  ·go_enter Tryz.func81,Tryz.ntmps81
   go_wp2_with fail
   go_ret
   simp[h1,h2]
  ·go_enter Tryz.func81,Tryz.ntmps81
   go_wp2_with fail
   go_ret
   simp[h1,h2]
 ·go_enter Tryz.func81,Tryz.ntmps81
  go_wp2_with fail
  go_ret
  rw[decide_eq_false (show ¬ 0<=fd by omega)]
  exact⟨rfl,rfl⟩
section
variable {B g : Nat} {A : KAd} {K : Krn} {f : List Int}
theorem Azl (kd at_ off fl rf:Int)(w:World)(hW:Wk w B g A K f):Calls Tryz.prog 92 #[.pointer (some ⟨g,0,none⟩),.agg #[.int .i64 kd,.int .i64 at_,.int .i64 off,.int .i64 fl,.int .i64 rf]] w fun e w'=>e=.returned (.bool (Ao5 ⟨kd,at_,off,fl,rf⟩))/\Below w.heap.size w w':=by
 have HB:=Hd (Aab w (.cells #[.int .i64 kd,.int .i64 at_,.int .i64 off,.int .i64 fl,.int .i64 rf] 70))
 have heq:=fun W=>Asv kd at_ off fl rf 0 0 0 0 0 (Ao5 ⟨kd,at_,off,fl,rf⟩) (by rw[Ayh];simp[Aav]) W
 have hg:=Ajw
 clear hW
 go_enter Tryz.func92,Tryz.ntmps92
 go_wp2_with fail
 go_ret
 exact⟨by first|rfl|simp,by first|exact HB.out|exact Aa2 HB.out _⟩
theorem Apy (kd at_ off fl rf:Int)(w:World)(hW:Wk w B g A K f):Calls Tryz.prog 132 #[.pointer (some ⟨g,0,none⟩),.agg #[.int .i64 kd,.int .i64 at_,.int .i64 off,.int .i64 fl,.int .i64 rf]] w fun e w'=>e=.returned (.bool (endB K.pipes.length ⟨kd,at_,off,fl,rf⟩))/\Below w.heap.size w w':=by
 have HB:=Hd (Aab w (.cells #[.int .i64 kd,.int .i64 at_,.int .i64 off,.int .i64 fl,.int .i64 rf] 70))
 obtain⟨q0,q1,q2,q3,q4,q5,q6⟩:=hW.kcells
 have gl:=hW.lt
 have HE:=Hd (show endB K.pipes.length ⟨kd,at_,off,fl,rf⟩=((decide (0<=at_) && decide (at_ < (K.pipes.length:Int))) && decide (off=0)) by unfold endB;congr 1)
 rw[HE.out]
 clear hW
 cases h1:decide (0<=at_)with
 | false=>
  go_enter Tryz.func132,Tryz.ntmps132
  go_wp2_with fail
  go_quiet (fail)
  go_wp2_with fail
  go_ret
  exact⟨by first|rfl|simp,by first|exact HB.out|exact Aa2 HB.out _⟩
 | true=>
  cases h2:decide (at_ < (K.pipes.length:Int))with
  | false=>
   go_enter Tryz.func132,Tryz.ntmps132
   go_wp2_with fail
   go_quiet (fail)
   go_wp2_with fail
   go_ret
   exact⟨by first|rfl|simp,by first|exact HB.out|exact Aa2 HB.out _⟩
  | true=>
   go_enter Tryz.func132,Tryz.ntmps132
   go_wp2_with fail
   go_quiet (fail)
   go_wp2_with fail
   go_ret
   exact⟨by first|rfl|simp,by first|exact HB.out|exact Aa2 HB.out _⟩
theorem Aod (kd at_ off fl rf:Int)(w:World)(hW:Wk w B g A K f):Calls Tryz.prog 97 #[.pointer (some ⟨g,0,none⟩),.agg #[.int .i64 kd,.int .i64 at_,.int .i64 off,.int .i64 fl,.int .i64 rf]] w fun e w'=>e=.returned (.bool (endB K.pipes.length ⟨kd,at_,off,fl,rf⟩ && fl == 1))/\Below w.heap.size w w':=by
 have HB:=Hd (Aab w (.cells #[.int .i64 kd,.int .i64 at_,.int .i64 off,.int .i64 fl,.int .i64 rf] 70))
 have gl:=hW.lt
 have HW:=Hd hW
 clear hW
 cases h1:endB K.pipes.length ⟨kd,at_,off,fl,rf⟩with
 | false=>
  go_enter Tryz.func97,Tryz.ntmps97
  go_wp2_with fail
  refine(Apy kd at_ off fl rf _ (HW.out.below (Aab w _))).mono ?_
  rintro e w2 ⟨rfl,hb2⟩
  have HB2:=Hd (HB.out.trans (hb2.mono (by simp)))
  rw[h1]
  clear hb2
  go_wp2_with fail
  go_ret
  exact⟨by simp,HB2.out⟩
 | true=>
  have X3:=Hd (show (w.alloc (.cells #[.int .i64 kd,.int .i64 at_,.int .i64 off,.int .i64 fl,.int .i64 rf] 70)).cell? ⟨w.heap.size,3,none⟩=some (.int .i64 fl)from bC (Aag w _) 3)
  go_enter Tryz.func97,Tryz.ntmps97
  go_wp2_with fail
  refine(Apy kd at_ off fl rf _ (HW.out.below (Aab w _))).mono ?_
  rintro e w2 ⟨rfl,hb2⟩
  have HB2:=Hd (HB.out.trans (hb2.mono (by simp)))
  have x3:=Aaa hb2 X3.out
  rw[h1]
  clear hb2
  go_wp2_with fail
  go_ret
  exact⟨by simp,HB2.out⟩
theorem Aoi (kd at_ off fl rf:Int)(w:World)(hW:Wk w B g A K f):Calls Tryz.prog 100 #[.pointer (some ⟨g,0,none⟩),.agg #[.int .i64 kd,.int .i64 at_,.int .i64 off,.int .i64 fl,.int .i64 rf]] w fun e w'=>e=.returned (.bool (endB K.pipes.length ⟨kd,at_,off,fl,rf⟩ && fl == 2))/\Below w.heap.size w w':=by
 have HB:=Hd (Aab w (.cells #[.int .i64 kd,.int .i64 at_,.int .i64 off,.int .i64 fl,.int .i64 rf] 70))
 have gl:=hW.lt
 have HW:=Hd hW
 clear hW
 cases h1:endB K.pipes.length ⟨kd,at_,off,fl,rf⟩with
 | false=>
  go_enter Tryz.func100,Tryz.ntmps100
  go_wp2_with fail
  refine(Apy kd at_ off fl rf _ (HW.out.below (Aab w _))).mono ?_
  rintro e w2 ⟨rfl,hb2⟩
  have HB2:=Hd (HB.out.trans (hb2.mono (by simp)))
  rw[h1]
  clear hb2
  go_wp2_with fail
  go_ret
  exact⟨by simp,HB2.out⟩
 | true=>
  have X3:=Hd (show (w.alloc (.cells #[.int .i64 kd,.int .i64 at_,.int .i64 off,.int .i64 fl,.int .i64 rf] 70)).cell? ⟨w.heap.size,3,none⟩=some (.int .i64 fl)from bC (Aag w _) 3)
  go_enter Tryz.func100,Tryz.ntmps100
  go_wp2_with fail
  refine(Apy kd at_ off fl rf _ (HW.out.below (Aab w _))).mono ?_
  rintro e w2 ⟨rfl,hb2⟩
  have HB2:=Hd (HB.out.trans (hb2.mono (by simp)))
  have x3:=Aaa hb2 X3.out
  rw[h1]
  clear hb2
  go_wp2_with fail
  go_ret
  exact⟨by simp,HB2.out⟩
theorem Aws (kd at_ off fl rf:Int)(w:World)(hW:Wk w B g A K f):Calls Tryz.prog 103 #[.pointer (some ⟨g,0,none⟩),.agg #[.int .i64 kd,.int .i64 at_,.int .i64 off,.int .i64 fl,.int .i64 rf]] w fun e w'=>e=.returned (.bool (outB ⟨kd,at_,off,fl,rf⟩))/\Below w.heap.size w w':=by
 have HB:=Hd (Aab w (.cells #[.int .i64 kd,.int .i64 at_,.int .i64 off,.int .i64 fl,.int .i64 rf] 70))
 have HE:=Hd (show outB ⟨kd,at_,off,fl,rf⟩=(((decide (0<=at_) && decide (at_ < 2)) && decide (off=0)) && decide (fl=2)) by unfold outB;rfl)
 rw[HE.out]
 clear hW
 cases h1:decide (0<=at_)with
 | false=>
  go_enter Tryz.func103,Tryz.ntmps103
  go_wp2_with fail
  go_ret
  exact⟨by first|rfl|simp,by first|exact HB.out|exact Aa2 HB.out _⟩
 | true=>
  cases h2:decide (at_ < 2)with
  | false=>
   go_enter Tryz.func103,Tryz.ntmps103
   go_wp2_with fail
   go_ret
   exact⟨by first|rfl|simp,by first|exact HB.out|exact Aa2 HB.out _⟩
  | true=>
   cases h3:decide (off=0)with
   | false=>
    have h3b:(off == 0)=false:=by simpa using h3
    go_enter Tryz.func103,Tryz.ntmps103
    go_wp2_with fail
    go_ret
    exact⟨by first|rfl|simp,by first|exact HB.out|exact Aa2 HB.out _⟩
   | true=>
    have h3b:(off == 0)=true:=by simpa using h3
    go_enter Tryz.func103,Tryz.ntmps103
    go_wp2_with fail
    go_ret
    exact⟨by first|rfl|simp,by first|exact HB.out|exact Aa2 HB.out _⟩
theorem Atl (kd at_ off fl rf:Int)(w:World)(hW:Wk w B g A K f):Calls Tryz.prog 93 #[.pointer (some ⟨g,0,none⟩),.agg #[.int .i64 kd,.int .i64 at_,.int .i64 off,.int .i64 fl,.int .i64 rf]] w fun e w'=>e=.returned (.bool (Ahd K.tree ⟨kd,at_,off,fl,rf⟩))/\Below w.heap.size w w':=by
 have HB:=Hd (Aab w (.cells #[.int .i64 kd,.int .i64 at_,.int .i64 off,.int .i64 fl,.int .i64 rf] 70))
 obtain⟨q0,q1,q2,q3,q4,q5,q6⟩:=hW.kcells
 have gl:=hW.lt
 have HN:=Hd hW.nodes
 clear hW
 by_cases h1:at_ < 0
 ·have HE:=Hd (show Ahd K.tree ⟨kd,at_,off,fl,rf⟩=false by unfold Ahd;simp only[decide_eq_false (show ¬ 0<=at_ by omega),Bool.false_and])
  rw[HE.out]
  have h1b:decide (at_ < 0)=true:=decide_eq_true h1
  go_enter Tryz.func93,Tryz.ntmps93
  go_wp2_with fail
  go_quiet (fail)
  go_wp2_with fail
  go_ret
  exact⟨by first|rfl|simp,by first|exact HB.out|exact Aa2 HB.out _⟩
 by_cases h2:(K.tree.length:Int)<=at_
 ·have HE:=Hd (show Ahd K.tree ⟨kd,at_,off,fl,rf⟩=false by unfold Ahd;simp only[decide_eq_false (show ¬ at_ < (K.tree.length:Int) by omega),Bool.false_and,Bool.and_false])
  rw[HE.out]
  have h1b:decide (at_ < 0)=false:=decide_eq_false h1
  have h2b:decide (at_ ≥ (K.tree.length:Int))=true:=decide_eq_true h2
  have h2c:decide ((K.tree.length:Int)<=at_)=true:=decide_eq_true h2
  go_enter Tryz.func93,Tryz.ntmps93
  go_wp2_with fail
  go_quiet (fail)
  go_wp2_with fail
  go_ret
  exact⟨by first|rfl|simp,by first|exact HB.out|exact Aa2 HB.out _⟩
 obtain⟨n,rfl⟩:∃ n:Nat,at_=(n:Int):=⟨at_.toNat,by omega⟩
 have hn:n < K.tree.length:=by omega
 have h1b:decide ((n:Int) < 0)=false:=decide_eq_false h1
 have h2b:decide ((n:Int) ≥ (K.tree.length:Int))=false:=decide_eq_false h2
 have h2c:decide ((K.tree.length:Int)<=(n:Int))=false:=decide_eq_false h2
 have h2d:decide (K.tree.length<=n)=false:=decide_eq_false (by omega)
 have h2e:¬ K.tree.length<=n:=by omega
 have h0:(0:Int)<=(n:Int):=by omega
 have h3:(n:Int) < (K.tree.length:Int):=by omega
 obtain⟨b,o,hta,hx⟩:=HN.out.2.2 n hn
 have x0:=hx.kind
 have xl:=Aaf x0
 rw[hta]at q0
 have HF:=Hd (show Ahd K.tree ⟨kd,(n:Int),off,fl,rf⟩=((K.tree[n].kind == 1) && (fl == 1 || fl == 2 || fl == 3 || fl == 6 || fl == 7)) by unfold Ahd;simp only[Aae K.tree n hn,decide_eq_true h0,decide_eq_true h3,Bool.true_and])
 rw[HF.out]
 obtain⟨kn,hkn⟩:∃ kn,kn=K.tree[n].kind:=⟨_,rfl⟩
 rw[<-hkn]at x0 ⊢
 clear hx hta hkn h1 h2
 by_cases h4:kn=1
 ·subst h4
  by_cases f1:fl=1
  ·subst f1
   go_enter Tryz.func93,Tryz.ntmps93
   go_wp2_with fail
   go_quiet (fail)
   go_wp2_with fail
   go_ret
   exact⟨by first|rfl|simp,by first|exact HB.out|exact Aa2 HB.out _⟩
  have f1b:(fl == 1)=false:=by simpa using f1
  by_cases f2:fl=2
  ·subst f2
   go_enter Tryz.func93,Tryz.ntmps93
   go_wp2_with fail
   go_quiet (fail)
   go_wp2_with fail
   go_ret
   exact⟨by first|rfl|simp,by first|exact HB.out|exact Aa2 HB.out _⟩
  have f2b:(fl == 2)=false:=by simpa using f2
  by_cases f3:fl=3
  ·subst f3
   go_enter Tryz.func93,Tryz.ntmps93
   go_wp2_with fail
   go_quiet (fail)
   go_wp2_with fail
   go_ret
   exact⟨by first|rfl|simp,by first|exact HB.out|exact Aa2 HB.out _⟩
  have f3b:(fl == 3)=false:=by simpa using f3
  by_cases f6:fl=6
  ·subst f6
   go_enter Tryz.func93,Tryz.ntmps93
   go_wp2_with fail
   go_quiet (fail)
   go_wp2_with fail
   go_ret
   exact⟨by first|rfl|simp,by first|exact HB.out|exact Aa2 HB.out _⟩
  have f6b:(fl == 6)=false:=by simpa using f6
  by_cases f7:fl=7
  ·subst f7
   go_enter Tryz.func93,Tryz.ntmps93
   go_wp2_with fail
   go_quiet (fail)
   go_wp2_with fail
   go_ret
   exact⟨by first|rfl|simp,by first|exact HB.out|exact Aa2 HB.out _⟩
  have f7b:(fl == 7)=false:=by simpa using f7
  rw[f1b,f2b,f3b,f6b,f7b]
  go_enter Tryz.func93,Tryz.ntmps93
  go_wp2_with fail
  go_quiet (fail)
  go_wp2_with fail
  go_ret
  exact⟨by first|rfl|simp,by first|exact HB.out|exact Aa2 HB.out _⟩
 ·have h4b:(kn != 1)=true:=by simpa using h4
  have h4c:(kn == 1)=false:=by simpa using h4
  rw[h4c]
  go_enter Tryz.func93,Tryz.ntmps93
  go_wp2_with fail
  go_quiet (fail)
  go_wp2_with fail
  go_ret
  exact⟨by first|rfl|simp,by first|exact HB.out|exact Aa2 HB.out _⟩
theorem Ato (kd at_ off fl rf:Int)(w:World)(hW:Wk w B g A K f):Calls Tryz.prog 117 #[.pointer (some ⟨g,0,none⟩),.agg #[.int .i64 kd,.int .i64 at_,.int .i64 off,.int .i64 fl,.int .i64 rf]] w fun e w'=>e=.returned (.bool (Ad7 K.tree K.pipes.length ⟨kd,at_,off,fl,rf⟩))/\Below w.heap.size w w':=by
 have HB:=Hd (Aab w (.cells #[.int .i64 kd,.int .i64 at_,.int .i64 off,.int .i64 fl,.int .i64 rf] 70))
 obtain⟨w1,hw1⟩:∃ p,p=w.alloc (.cells #[.int .i64 kd,.int .i64 at_,.int .i64 off,.int .i64 fl,.int .i64 rf] 70):=⟨_,rfl⟩
 have hb1:Below w.heap.size w w1:=by rw[hw1];exact Aab w _
 have hX:w1.heap[w.heap.size]?=some (.cells #[.int .i64 kd,.int .i64 at_,.int .i64 off,.int .i64 fl,.int .i64 rf] 70 (0,0)):=by rw[hw1];exact Aag w _
 have HW1:=Hd (hW.below hb1)
 have HB1:=Hd hb1
 have HX:=Hd hX
 have gl:=hW.lt
 have xl:=lt_of_block hX
 have gl1:=HW1.out.lt
 clear hb1 hX hW
 have x0:=Aaj (bC HX.out 0)
 have x1:=Aaj (bC HX.out 1)
 have x2:=Aaj (bC HX.out 2)
 have x3:=Aaj (bC HX.out 3)
 have x4:=Aaj (bC HX.out 4)
 by_cases hlo:0<=kd
 rotate_left
 ·have HE:=Hd (show Ad7 K.tree K.pipes.length ⟨kd,at_,off,fl,rf⟩=false by unfold Ad7;simp only;rw[if_neg (by omega),if_neg (by omega),if_neg (by omega),if_neg (by omega),if_neg (by omega)])
  rw[HE.out]
  have e1:decide (0<=kd)=false:=decide_eq_false hlo
  go_enter Tryz.func117,Tryz.ntmps117
  go_upto_region 1 with fail
  rw[<-hw1]
  clear hw1
  refine Aah (by kernel_rfl) (by kernel_rfl) ?_
  repeat(first|go_big_quiet_skip|(go_big_quiet_want;go_big_quiet_op;(first|go_big_quiet_on)))
  refine wpQuiet_nil ?_
  intro w4 hw4
  have hbg:Below w1.heap.size w1 w4:=by obtain⟨x,rfl⟩:=hw4;exact x.below
  go_wp2_with fail
  go_ret
  exact⟨by first|rfl|simp,HB1.out.trans (hbg.mono HB1.out.size)⟩
 by_cases hhi:kd < 5
 rotate_left
 ·have HE:=Hd (show Ad7 K.tree K.pipes.length ⟨kd,at_,off,fl,rf⟩=false by unfold Ad7;simp only;rw[if_neg (by omega),if_neg (by omega),if_neg (by omega),if_neg (by omega),if_neg (by omega)])
  rw[HE.out]
  have e1:decide (0<=kd)=true:=decide_eq_true hlo
  have e2:decide (kd < 5)=false:=decide_eq_false hhi
  go_enter Tryz.func117,Tryz.ntmps117
  go_upto_region 1 with fail
  rw[<-hw1]
  clear hw1
  refine Aah (by kernel_rfl) (by kernel_rfl) ?_
  repeat(first|go_big_quiet_skip|(go_big_quiet_want;go_big_quiet_op;(first|go_big_quiet_on)))
  refine wpQuiet_nil ?_
  intro w4 hw4
  have hbg:Below w1.heap.size w1 w4:=by obtain⟨x,rfl⟩:=hw4;exact x.below
  go_wp2_with fail
  go_ret
  exact⟨by first|rfl|simp,HB1.out.trans (hbg.mono HB1.out.size)⟩
 by_cases h0:kd=0
 ·subst h0
  have HE:=Hd (show Ad7 K.tree K.pipes.length ⟨0,at_,off,fl,rf⟩=Ao5 ⟨0,at_,off,fl,rf⟩from rfl)
  rw[HE.out]
  have fx:=Aaj HW1.out.fits0
  have G1:=Aa0 (wb:=w1) (f:=92) (args:=#[.pointer (some ⟨g,0,none⟩),.agg #[.int .i64 0,.int .i64 at_,.int .i64 off,.int .i64 fl,.int .i64 rf]]) (v:=.bool (Ao5 ⟨0,at_,off,fl,rf⟩)) fun W hW=>Azl 0 at_ off fl rf W (HW1.out.below hW)
  go_enter Tryz.func117,Tryz.ntmps117
  go_upto_region 1 with fail
  rw[<-hw1]
  clear hw1
  refine Aah (by kernel_rfl) (by kernel_rfl) ?_
  repeat(first|go_big_quiet_skip|(go_big_quiet_want;go_big_quiet_op;(first|go_big_quiet_on|(refine⟨_,G1,?_⟩;go_big_quiet_on))))
  refine wpQuiet_nil ?_
  intro w4 hw4
  have hbg:Below w1.heap.size w1 w4:=by obtain⟨x,rfl⟩:=hw4;exact x.below
  go_wp2_with fail
  go_ret
  exact⟨by first|rfl|simp,HB1.out.trans (hbg.mono HB1.out.size)⟩
 by_cases h1:kd=1
 ·subst h1
  have HE:=Hd (show Ad7 K.tree K.pipes.length ⟨1,at_,off,fl,rf⟩=Ahd K.tree ⟨1,at_,off,fl,rf⟩from rfl)
  rw[HE.out]
  have fx:=Aaj HW1.out.fits1
  have G1:=Aa0 (wb:=w1) (f:=93) (args:=#[.pointer (some ⟨g,0,none⟩),.agg #[.int .i64 1,.int .i64 at_,.int .i64 off,.int .i64 fl,.int .i64 rf]]) (v:=.bool (Ahd K.tree ⟨1,at_,off,fl,rf⟩)) fun W hW=>Atl 1 at_ off fl rf W (HW1.out.below hW)
  go_enter Tryz.func117,Tryz.ntmps117
  go_upto_region 1 with fail
  rw[<-hw1]
  clear hw1
  refine Aah (by kernel_rfl) (by kernel_rfl) ?_
  repeat(first|go_big_quiet_skip|(go_big_quiet_want;go_big_quiet_op;(first|go_big_quiet_on|(refine⟨_,G1,?_⟩;go_big_quiet_on))))
  refine wpQuiet_nil ?_
  intro w4 hw4
  have hbg:Below w1.heap.size w1 w4:=by obtain⟨x,rfl⟩:=hw4;exact x.below
  go_wp2_with fail
  go_ret
  exact⟨by first|rfl|simp,HB1.out.trans (hbg.mono HB1.out.size)⟩
 by_cases h2:kd=2
 ·subst h2
  have HE:=Hd (show Ad7 K.tree K.pipes.length ⟨2,at_,off,fl,rf⟩=(endB K.pipes.length ⟨2,at_,off,fl,rf⟩ && fl == 1)from rfl)
  rw[HE.out]
  have fx:=Aaj HW1.out.fits2
  have G1:=Aa0 (wb:=w1) (f:=97) (args:=#[.pointer (some ⟨g,0,none⟩),.agg #[.int .i64 2,.int .i64 at_,.int .i64 off,.int .i64 fl,.int .i64 rf]]) (v:=.bool ((endB K.pipes.length ⟨2,at_,off,fl,rf⟩ && fl == 1))) fun W hW=>Aod 2 at_ off fl rf W (HW1.out.below hW)
  go_enter Tryz.func117,Tryz.ntmps117
  go_upto_region 1 with fail
  rw[<-hw1]
  clear hw1
  refine Aah (by kernel_rfl) (by kernel_rfl) ?_
  repeat(first|go_big_quiet_skip|(go_big_quiet_want;go_big_quiet_op;(first|go_big_quiet_on|(refine⟨_,G1,?_⟩;go_big_quiet_on))))
  refine wpQuiet_nil ?_
  intro w4 hw4
  have hbg:Below w1.heap.size w1 w4:=by obtain⟨x,rfl⟩:=hw4;exact x.below
  go_wp2_with fail
  go_ret
  exact⟨by first|rfl|simp,HB1.out.trans (hbg.mono HB1.out.size)⟩
 by_cases h3:kd=3
 ·subst h3
  have HE:=Hd (show Ad7 K.tree K.pipes.length ⟨3,at_,off,fl,rf⟩=(endB K.pipes.length ⟨3,at_,off,fl,rf⟩ && fl == 2)from rfl)
  rw[HE.out]
  have fx:=Aaj HW1.out.fits3
  have G1:=Aa0 (wb:=w1) (f:=100) (args:=#[.pointer (some ⟨g,0,none⟩),.agg #[.int .i64 3,.int .i64 at_,.int .i64 off,.int .i64 fl,.int .i64 rf]]) (v:=.bool ((endB K.pipes.length ⟨3,at_,off,fl,rf⟩ && fl == 2))) fun W hW=>Aoi 3 at_ off fl rf W (HW1.out.below hW)
  go_enter Tryz.func117,Tryz.ntmps117
  go_upto_region 1 with fail
  rw[<-hw1]
  clear hw1
  refine Aah (by kernel_rfl) (by kernel_rfl) ?_
  repeat(first|go_big_quiet_skip|(go_big_quiet_want;go_big_quiet_op;(first|go_big_quiet_on|(refine⟨_,G1,?_⟩;go_big_quiet_on))))
  refine wpQuiet_nil ?_
  intro w4 hw4
  have hbg:Below w1.heap.size w1 w4:=by obtain⟨x,rfl⟩:=hw4;exact x.below
  go_wp2_with fail
  go_ret
  exact⟨by first|rfl|simp,HB1.out.trans (hbg.mono HB1.out.size)⟩
 by_cases h4:kd=4
 ·subst h4
  have HE:=Hd (show Ad7 K.tree K.pipes.length ⟨4,at_,off,fl,rf⟩=outB ⟨4,at_,off,fl,rf⟩from rfl)
  rw[HE.out]
  have fx:=Aaj HW1.out.fits4
  have G1:=Aa0 (wb:=w1) (f:=103) (args:=#[.pointer (some ⟨g,0,none⟩),.agg #[.int .i64 4,.int .i64 at_,.int .i64 off,.int .i64 fl,.int .i64 rf]]) (v:=.bool (outB ⟨4,at_,off,fl,rf⟩)) fun W hW=>Aws 4 at_ off fl rf W (HW1.out.below hW)
  go_enter Tryz.func117,Tryz.ntmps117
  go_upto_region 1 with fail
  rw[<-hw1]
  clear hw1
  refine Aah (by kernel_rfl) (by kernel_rfl) ?_
  repeat(first|go_big_quiet_skip|(go_big_quiet_want;go_big_quiet_op;(first|go_big_quiet_on|(refine⟨_,G1,?_⟩;go_big_quiet_on))))
  refine wpQuiet_nil ?_
  intro w4 hw4
  have hbg:Below w1.heap.size w1 w4:=by obtain⟨x,rfl⟩:=hw4;exact x.below
  go_wp2_with fail
  go_ret
  exact⟨by first|rfl|simp,HB1.out.trans (hbg.mono HB1.out.size)⟩
 omega
end
section
variable {B g : Nat} {A : KAd} {K : Krn} {f : List Int}
theorem Amz (fd:Int)(w:World)(hW:Wk w B g A K f)(hol:K.opens.length<=1000)(hL:isFd fd=true->Led K f fd.toNat):Calls Tryz.prog 75 #[.pointer (some ⟨g,0,none⟩),.int .i64 fd] w fun e w'=>e=.returned (.tuple #[.int .i64 (Acv f fd).1,.bool (Acv f fd).2])/\Below w.heap.size w w':=by
 obtain⟨q0,q1,q2,q3,q4,q5,q6⟩:=hW.kcells
 have gl:=hW.lt
 have HW:=Hd hW
 cases hfd:isFd fd with
 | false=>
  have HE:=Hd (show Acv f fd=(0,false) by unfold Acv;rw[if_neg (by rw[hfd];simp)])
  rw[HE.out]
  clear hW
  go_enter Tryz.func75,Tryz.ntmps75
  go_wp2_with fail
  refine(Aii fd _).mono ?_
  rintro e w2 ⟨rfl,rfl⟩
  rw[hfd]
  go_wp2_with fail
  go_ret2
  exact⟨rfl,Below.refl _ _⟩
 | true=>
  obtain⟨n,rfl,hn⟩:=Ac9 hfd
  have cn:=hW.fd n hn
  have h0:(0:Int)<=(n:Int):=by omega
  have h1:(n:Int) < 10:=by omega
  have hl:=hL hfd
  rw[Int.toNat_natCast]at hl
  have hfA:f.getD n 0=fdA f n:=rfl
  unfold Led at hl
  rw[hfA]at hl
  clear hL
  rcases hl with hz|⟨j,hj,e1,e2,e3,e4,e5⟩
  ·have HE:=Hd (show Acv f (n:Int)=(0,false) by unfold Acv;rw[if_neg (by rw[Int.toNat_natCast,hfA,hz];simp)])
   rw[HE.out]
   rw[hz]at cn
   clear hW hz hfA
   go_enter Tryz.func75,Tryz.ntmps75
   go_wp2_with fail
   refine(Aii (n:Int) _).mono ?_
   rintro e w2 ⟨rfl,rfl⟩
   rw[hfd]
   go_wp2_with fail
   go_ret2
   exact⟨rfl,Below.refl _ _⟩
  ·have HE:=Hd (show Acv f (n:Int)=((j:Int),true) by unfold Acv;rw[if_pos ⟨hfd,by rw[Int.toNat_natCast,hfA,e1];omega⟩,Int.toNat_natCast,hfA,e1,show (j:Int)+1 - 1=(j:Int) by omega])
   rw[HE.out]
   rw[e1]at cn
   obtain⟨go,ha,hgo,hO⟩:=hW.opn hj
   obtain⟨x0,x1,x2,x3,x4,xl,xf⟩:=hO
   rw[ha]at q4
   have b1:decide (((j:Int)+1) < 1)=false:=decide_eq_false (by omega)
   have b2:decide (((j:Int)+1) > (K.opens.length:Int))=false:=decide_eq_false (by omega)
   have b3:(K.opens[j].kind == 0)=false:=by simpa using e2
   have b4:(0:Int)<=(j:Int):=by omega
   have b5:(j:Int) < (K.opens.length:Int):=by omega
   have b6:(j:Int)+1 - 1=(j:Int):=by omega
   have b7:(j:Int)<=1000:=by omega
   obtain⟨o,ho⟩:∃ o,o=K.opens[j]:=⟨_,rfl⟩
   rw[<-ho]at x0 x1 x2 x3 x4 b3
   have HKT:=Hd (show Ad7 K.tree K.pipes.length ⟨o.kind,o.at_,o.off,o.flags,o.refs⟩=true by rw[ho];exact e3)
   clear hW e1 e2 e3 e4 e5 hfA ha hgo xf ho
   go_enter Tryz.func75,Tryz.ntmps75
   go_wp2_with fail
   refine(Aii (n:Int) _).mono ?_
   rintro e w2 ⟨rfl,rfl⟩
   rw[hfd]
   go_wp2_with (first|(go_at_call 117;refine(Ato _ _ _ _ _ _ HW.out).mono ?_;rintro e w3 ⟨rfl,hb3⟩;rw[HKT.out])|fail)
   go_ret2
   exact⟨by first|rfl|simp|go_num,hb3⟩
end
theorem Aac {n:Nat}{A B:World}(h:Below n A B):Below n A B.drew:=⟨h.os,h.tape,h.output,h.size,h.block⟩
theorem Aaz {n:Nat}{A B B' C:World}(h:Below n A B)(k:Below B'.heap.size B' C)(hn:n<=B.heap.size)(e:B'.os=B.os/\B'.tape=B.tape/\B'.output=B.output/\B'.heap=B.heap):Below n A C:=by
 have h':Below n A B':=⟨e.1.trans h.os,e.2.1.trans h.tape,e.2.2.1.trans h.output,by rw[e.2.2.2];exact h.size,by rw[e.2.2.2];exact h.block⟩
 exact h'.trans (k.mono (by rw[e.2.2.2];exact hn))
section
variable {B g : Nat} {A : KAd} {K : Krn} {f : List Int}
theorem Ayb (r:Value)(kd at_ off fl rf:Int)(w:World):Calls Tryz.prog 96 #[r,.agg #[.int .i64 kd,.int .i64 at_,.int .i64 off,.int .i64 fl,.int .i64 rf]] w fun e w'=>e=.returned (.tuple #[])/\Below w.heap.size w w':=by
 have HB:=Hd (Aab w (.cells #[.int .i64 kd,.int .i64 at_,.int .i64 off,.int .i64 fl,.int .i64 rf] 70))
 go_enter Tryz.func96,Tryz.ntmps96
 go_wp2_with fail
 go_end0
 exact⟨rfl,HB.out⟩
theorem An2 (kd:Int)(i:Nat)(off fl rf:Int)(w:World)(hW:Wk w B g A K f)(hi:i < K.pipes.length)(hF:Ace K.pipes[i]=true):Calls Tryz.prog 99 #[.pointer (some ⟨g,0,none⟩),.agg #[.int .i64 kd,.int .i64 i,.int .i64 off,.int .i64 fl,.int .i64 rf]] w fun e w'=>e=.returned (.tuple #[])/\Wk w' B g A { K with pipes:=K.pipes.set i (Aak K.pipes[i] true) } f/\Stepw g A w A w':=by
 obtain⟨w1,hw1⟩:∃ p,p=w.alloc (.cells #[.int .i64 kd,.int .i64 i,.int .i64 off,.int .i64 fl,.int .i64 rf] 70):=⟨_,rfl⟩
 have hb1:Below w.heap.size w w1:=by rw[hw1];exact Aab w _
 have hX:w1.heap[w.heap.size]?=some (.cells #[.int .i64 kd,.int .i64 i,.int .i64 off,.int .i64 fl,.int .i64 rf] 70 (0,0)):=by rw[hw1];exact Aag w _
 have HW1:=Hd (hW.below hb1)
 have HST:=Hd (Stepw.of_below (g:=g) (A:=A) hb1)
 obtain⟨go,ha,hgo,hP⟩:=hW.pip hi
 have HA:=Hd ha
 have h0:(0:Int)<=(i:Int):=by omega
 have h1:(i:Int) < (K.pipes.length:Int):=by omega
 have hsS:∀ W,Below w1.heap.size w1 W->W.cell? ⟨g,3,none⟩=some (.slice (some ⟨go,0,none⟩) K.pipes.length A.pc)/\W.cell? ⟨w.heap.size,1,none⟩=some (.int .i64 i)/\W.cell? ⟨go,i * 4,none⟩=some (.string ⟨K.pipes[i].data.toArray⟩)/\W.cell? ⟨go,i * 4+1,none⟩=some (.int .i64 K.pipes[i].rd)/\W.cell? ⟨go,i * 4+2,none⟩=some (.int .i64 K.pipes[i].wr)/\W.cell? ⟨go,i * 4+3,none⟩=some (.int .i64 K.pipes[i].cap)/\(W.frozen? ⟨go,i * 4,none⟩=false/\W.frozen? ⟨go,i * 4+1,none⟩=false/\W.frozen? ⟨go,i * 4+2,none⟩=false/\W.frozen? ⟨go,i * 4+3,none⟩=false):=fun W hW2=>by
  have hk:=HW1.out.below hW2
  obtain⟨go',ha',-,hp'⟩:=hk.pip hi
  rw[HA.out]at ha'
  obtain rfl:go=go':=by simpa using ha'
  have q:=hk.kcells.2.2.2.1
  rw[HA.out]at q
  exact⟨q,Aaa hW2 (bC hX 1),hp'.data,hp'.rd,hp'.wr,hp'.cap,hp'.free _,hp'.free _,hp'.free _,hp'.free _⟩
 have HSS:=Hd hsS
 have HBB:=Hd (Below.refl w1.heap.size w1)
 have gl:g < w1.heap.size:=HW1.out.lt
 have gol:go < w1.heap.size:=by have:=hP.lt;have:=hb1.size;omega
 have hwl:w.heap.size < w1.heap.size:=lt_of_block hX
 obtain⟨q3,x1,p0,p1,p2,p3,z0,z1,z2,z3⟩:=HSS.out _ HBB.out
 have hgg:g≠go:=fun e=>HW1.out.gp _ HA.out e.symm
 have hwg:w.heap.size≠go:=by have:=hP.lt;omega
 have HPS:=Hd (show ∀ W,Below w1.heap.size w1 W->∀ x y z u,(Acc W go (i * 4) x y z u).cell? ⟨g,3,none⟩=some (.slice (some ⟨go,0,none⟩) K.pipes.length A.pc)/\(Acc W go (i * 4) x y z u).cell? ⟨w.heap.size,1,none⟩=some (.int .i64 i)from fun W hW2 x y z u=>by
  obtain⟨a1,a2,-⟩:=HSS.out W hW2
  have hbt:=Adh W go (i * 4) x y z u
  exact⟨(World.cell?_of_block (a:=⟨g,3,none⟩) (hbt.block g hgg)).trans a1,(World.cell?_of_block (a:=⟨w.heap.size,1,none⟩) (hbt.block _ hwg)).trans a2⟩)
 have HC:=Hd (fun W=>Ath K.pipes[i] hF true W)
 clear hb1 hX hW ha hP hsS
 go_enter Tryz.func99,Tryz.ntmps99
 go_upto_region 1 with fail
 rw[<-hw1]
 clear hw1
 refine wp_region_held_drew (S:=(fun W=>W.cell? ⟨g,3,none⟩=some (.slice (some ⟨go,0,none⟩) K.pipes.length A.pc)/\W.cell? ⟨w.heap.size,1,none⟩=some (.int .i64 i))) (by kernel_rfl) ⟨q3,x1⟩ (fun hHeld=>?_)
 refine wpAnyH_take (i:=0) (v:=?_) rfl (by kernel_rfl) (by kernel_rfl) (by kernel_rfl) (fun _ _ _ h=>h) (Or.inl ⟨by rfl,?hy0⟩) hHeld ?rest0
 case hy0=>intro W' hSw;(try dsimp only at hSw);obtain⟨q3,x1⟩:=hSw;go_simp <;> with_reducible rfl
 try simp only[Act.put,Zaa,Zab,Zac]
 refine wpAnyH_take (i:=1) (v:=?_) rfl (by kernel_rfl) (by kernel_rfl) (by kernel_rfl) (fun _ _ _ h=>h) (Or.inl ⟨by rfl,?hy1⟩) hHeld ?rest1
 case hy1=>intro W' hSw;(try dsimp only at hSw);obtain⟨q3,x1⟩:=hSw;go_simp <;> with_reducible rfl
 try simp only[Act.put,Zaa,Zab,Zac]
 refine wpAnyH_take (i:=2) (v:=?_) rfl (by kernel_rfl) (by kernel_rfl) (by kernel_rfl) (fun _ _ _ h=>h) (Or.inl ⟨by rfl,?hy2⟩) hHeld ?rest2
 case hy2=>intro W' hSw;(try dsimp only at hSw);obtain⟨q3,x1⟩:=hSw;go_simp <;> with_reducible rfl
 try simp only[Act.put,Zaa,Zab,Zac]
 refine wpAnyH_take (i:=3) (v:=?_) rfl (by kernel_rfl) (by kernel_rfl) (by kernel_rfl) (fun _ _ _ h=>h) (Or.inl ⟨by rfl,?hy3⟩) hHeld ?rest3
 case hy3=>intro W' hSw;(try dsimp only at hSw);obtain⟨q3,x1⟩:=hSw;go_simp <;> with_reducible rfl
 try simp only[Act.put,Zaa,Zab,Zac]
 refine wpAnyH_take (i:=4) (v:=?_) rfl (by kernel_rfl) (by kernel_rfl) (by kernel_rfl) (fun _ _ _ h=>h) (Or.inl ⟨by rfl,?hy4⟩) hHeld ?rest4
 case hy4=>intro W' hSw;(try dsimp only at hSw);obtain⟨q3,x1⟩:=hSw;go_simp <;> with_reducible rfl
 try simp only[Act.put,Zaa,Zab,Zac]
 refine wpAnyH_take (i:=5) (v:=?_) rfl (by kernel_rfl) (by kernel_rfl) (by kernel_rfl) (fun _ _ _ h=>h) (Or.inl ⟨by rfl,?hy5⟩) hHeld ?rest5
 case hy5=>intro W' hSw;(try dsimp only at hSw);obtain⟨q3,x1⟩:=hSw;go_simp <;> with_reducible rfl
 try simp only[Act.put,Zaa,Zab,Zac]
 refine wpAnyH_take (i:=6) (v:=?_) rfl (by kernel_rfl) (by kernel_rfl) (by kernel_rfl) (fun _ _ _ h=>h) (Or.inl ⟨by rfl,?hy6⟩) hHeld ?rest6
 case hy6=>intro W' hSw;(try dsimp only at hSw);obtain⟨q3,x1⟩:=hSw;go_simp <;> with_reducible rfl
 try simp only[Act.put,Zaa,Zab,Zac]
 refine wpAnyH_take (i:=7) (v:=?_) rfl (by kernel_rfl) (by kernel_rfl) (by kernel_rfl) (fun _ _ _ h=>h) (Or.inl ⟨by rfl,?hy7⟩) hHeld ?rest7
 case hy7=>intro W' hSw;(try dsimp only at hSw);obtain⟨q3,x1⟩:=hSw;go_simp <;> with_reducible rfl
 try simp only[Act.put,Zaa,Zab,Zac]
 refine wpAnyH_take (i:=8) (v:=?_) rfl (by kernel_rfl) (by kernel_rfl) (by kernel_rfl) (fun _ _ _ h=>h) (Or.inl ⟨by rfl,?hy8⟩) hHeld ?rest8
 case hy8=>intro W' hSw;(try dsimp only at hSw);obtain⟨q3,x1⟩:=hSw;go_simp <;> with_reducible rfl
 try simp only[Act.put,Zaa,Zab,Zac]
 refine wpAnyH_take (i:=9) (v:=?_) rfl (by kernel_rfl) (by kernel_rfl) (by kernel_rfl) (fun _ _ _ h=>h) (Or.inl ⟨by rfl,?hy9⟩) hHeld ?rest9
 case hy9=>intro W' hSw;(try dsimp only at hSw);obtain⟨q3,x1⟩:=hSw;go_simp <;> with_reducible rfl
 try simp only[Act.put,Zaa,Zab,Zac]
 refine wpAnyH_take (i:=10) (v:=?_) rfl (by kernel_rfl) (by kernel_rfl) (by kernel_rfl) (fun _ _ _ h=>h) (Or.inl ⟨by rfl,?hy10⟩) hHeld ?rest10
 case hy10=>intro W' hSw;(try dsimp only at hSw);obtain⟨q3,x1⟩:=hSw;go_simp <;> with_reducible rfl
 try simp only[Act.put,Zaa,Zab,Zac]
 refine wpAnyH_take (i:=11) (v:=?_) rfl (by kernel_rfl) (by kernel_rfl) (by kernel_rfl) (fun _ _ _ h=>h) (Or.inl ⟨by rfl,?hy11⟩) hHeld ?rest11
 case hy11=>intro W' hSw;(try dsimp only at hSw);obtain⟨q3,x1⟩:=hSw;go_simp <;> with_reducible rfl
 try simp only[Act.put,Zaa,Zab,Zac]
 refine wpAnyH_take (i:=12) (v:=?_) rfl (by kernel_rfl) (by kernel_rfl) (by kernel_rfl) (fun _ _ _ h=>h) (Or.inl ⟨by rfl,?hy12⟩) hHeld ?rest12
 case hy12=>intro W' hSw;(try dsimp only at hSw);obtain⟨q3,x1⟩:=hSw;go_simp <;> with_reducible rfl
 try simp only[Act.put,Zaa,Zab,Zac]
 refine wpAnyH_take (i:=13) (v:=?_) rfl (by kernel_rfl) (by kernel_rfl) (by kernel_rfl) (fun _ _ _ h=>h) (Or.inl ⟨by rfl,?hy13⟩) hHeld ?rest13
 case hy13=>intro W' hSw;(try dsimp only at hSw);obtain⟨q3,x1⟩:=hSw;go_simp <;> with_reducible rfl
 try simp only[Act.put,Zaa,Zab,Zac]
 refine wpAnyH_take (i:=14) (v:=?_) rfl (by kernel_rfl) (by kernel_rfl) (by kernel_rfl) (fun _ _ _ h=>h) (Or.inl ⟨by rfl,?hy14⟩) hHeld ?rest14
 case hy14=>intro W' hSw;(try dsimp only at hSw);obtain⟨q3,x1⟩:=hSw;go_simp <;> with_reducible rfl
 try simp only[Act.put,Zaa,Zab,Zac]
 refine wpAnyH_ready (rs:=[15]) (by kernel_rfl) (by simp) ?_
 refine AllReadyH.cons rfl (fun K' hK=>?_) AllReadyH.nil
 go_simp
 refine hK.out _ _ ⟨q3,x1⟩ (fun hHeld=>?_)
 clear hK K'
 try simp only[Act.put,Zaa,Zab,Zac]
 refine wpAnyH_ready (rs:=[16]) (by kernel_rfl) (by simp) ?_
 refine AllReadyH.cons rfl (fun K' hK=>?_) AllReadyH.nil
 go_simp
 refine(HC.out _).mono ?_;rintro e wn ⟨rfl,hbn⟩;have HBB:Hid (Below w1.heap.size w1 wn):=Hd (Aaz HBB.out hbn HBB.out.size ⟨rfl,rfl,rfl,rfl⟩);obtain⟨q3,x1,p0,p1,p2,p3,z0,z1,z2,z3⟩:=HSS.out _ HBB.out
 refine hK.out _ _ ⟨q3,x1⟩ (fun hHeld=>?_)
 clear hK K'
 try simp only[Act.put,Zaa,Zab,Zac]
 refine wpAnyH_take (i:=17) (v:=?_) rfl (by kernel_rfl) (by kernel_rfl) (by kernel_rfl) (fun _ _ _ h=>h) (Or.inl ⟨by rfl,?hy17⟩) hHeld ?rest17
 case hy17=>intro W' hSw;(try dsimp only at hSw);obtain⟨q3,x1⟩:=hSw;go_simp <;> with_reducible rfl
 try simp only[Act.put,Zaa,Zab,Zac]
 refine wpAnyH_ready (rs:=[18]) (by kernel_rfl) (by simp) ?_
 refine AllReadyH.cons rfl (fun K' hK=>?_) AllReadyH.nil
 go_simp
 refine hK.out _ _ (HPS.out _ HBB.out _ _ _ _) (fun hHeld=>?_)
 clear hK K'
 try simp only[Act.put,Zaa,Zab,Zac]
 refine wpAnyH_done (by kernel_rfl) ?_ _
 all_goals
  go_wp2_with fail
  go_end0
  obtain⟨a1,a2⟩:=(HW1.out.below HBB.out).storePip HA.out hi (Aak K.pipes[i] true)
  exact⟨rfl,a1,(HST.out.trans (.of_below HBB.out)).trans a2⟩
theorem An3 (kd:Int)(i:Nat)(off fl rf:Int)(w:World)(hW:Wk w B g A K f)(hi:i < K.pipes.length)(hF:Ace K.pipes[i]=true):Calls Tryz.prog 102 #[.pointer (some ⟨g,0,none⟩),.agg #[.int .i64 kd,.int .i64 i,.int .i64 off,.int .i64 fl,.int .i64 rf]] w fun e w'=>e=.returned (.tuple #[])/\Wk w' B g A { K with pipes:=K.pipes.set i (Aak K.pipes[i] false) } f/\Stepw g A w A w':=by
 obtain⟨w1,hw1⟩:∃ p,p=w.alloc (.cells #[.int .i64 kd,.int .i64 i,.int .i64 off,.int .i64 fl,.int .i64 rf] 70):=⟨_,rfl⟩
 have hb1:Below w.heap.size w w1:=by rw[hw1];exact Aab w _
 have hX:w1.heap[w.heap.size]?=some (.cells #[.int .i64 kd,.int .i64 i,.int .i64 off,.int .i64 fl,.int .i64 rf] 70 (0,0)):=by rw[hw1];exact Aag w _
 have HW1:=Hd (hW.below hb1)
 have HST:=Hd (Stepw.of_below (g:=g) (A:=A) hb1)
 obtain⟨go,ha,hgo,hP⟩:=hW.pip hi
 have HA:=Hd ha
 have h0:(0:Int)<=(i:Int):=by omega
 have h1:(i:Int) < (K.pipes.length:Int):=by omega
 have hsS:∀ W,Below w1.heap.size w1 W->W.cell? ⟨g,3,none⟩=some (.slice (some ⟨go,0,none⟩) K.pipes.length A.pc)/\W.cell? ⟨w.heap.size,1,none⟩=some (.int .i64 i)/\W.cell? ⟨go,i * 4,none⟩=some (.string ⟨K.pipes[i].data.toArray⟩)/\W.cell? ⟨go,i * 4+1,none⟩=some (.int .i64 K.pipes[i].rd)/\W.cell? ⟨go,i * 4+2,none⟩=some (.int .i64 K.pipes[i].wr)/\W.cell? ⟨go,i * 4+3,none⟩=some (.int .i64 K.pipes[i].cap)/\(W.frozen? ⟨go,i * 4,none⟩=false/\W.frozen? ⟨go,i * 4+1,none⟩=false/\W.frozen? ⟨go,i * 4+2,none⟩=false/\W.frozen? ⟨go,i * 4+3,none⟩=false):=fun W hW2=>by
  have hk:=HW1.out.below hW2
  obtain⟨go',ha',-,hp'⟩:=hk.pip hi
  rw[HA.out]at ha'
  obtain rfl:go=go':=by simpa using ha'
  have q:=hk.kcells.2.2.2.1
  rw[HA.out]at q
  exact⟨q,Aaa hW2 (bC hX 1),hp'.data,hp'.rd,hp'.wr,hp'.cap,hp'.free _,hp'.free _,hp'.free _,hp'.free _⟩
 have HSS:=Hd hsS
 have HBB:=Hd (Below.refl w1.heap.size w1)
 have gl:g < w1.heap.size:=HW1.out.lt
 have gol:go < w1.heap.size:=by have:=hP.lt;have:=hb1.size;omega
 have hwl:w.heap.size < w1.heap.size:=lt_of_block hX
 obtain⟨q3,x1,p0,p1,p2,p3,z0,z1,z2,z3⟩:=HSS.out _ HBB.out
 have hgg:g≠go:=fun e=>HW1.out.gp _ HA.out e.symm
 have hwg:w.heap.size≠go:=by have:=hP.lt;omega
 have HPS:=Hd (show ∀ W,Below w1.heap.size w1 W->∀ x y z u,(Acc W go (i * 4) x y z u).cell? ⟨g,3,none⟩=some (.slice (some ⟨go,0,none⟩) K.pipes.length A.pc)/\(Acc W go (i * 4) x y z u).cell? ⟨w.heap.size,1,none⟩=some (.int .i64 i)from fun W hW2 x y z u=>by
  obtain⟨a1,a2,-⟩:=HSS.out W hW2
  have hbt:=Adh W go (i * 4) x y z u
  exact⟨(World.cell?_of_block (a:=⟨g,3,none⟩) (hbt.block g hgg)).trans a1,(World.cell?_of_block (a:=⟨w.heap.size,1,none⟩) (hbt.block _ hwg)).trans a2⟩)
 have HC:=Hd (fun W=>Ath K.pipes[i] hF false W)
 clear hb1 hX hW ha hP hsS
 go_enter Tryz.func102,Tryz.ntmps102
 go_upto_region 1 with fail
 rw[<-hw1]
 clear hw1
 refine wp_region_held_drew (S:=(fun W=>W.cell? ⟨g,3,none⟩=some (.slice (some ⟨go,0,none⟩) K.pipes.length A.pc)/\W.cell? ⟨w.heap.size,1,none⟩=some (.int .i64 i))) (by kernel_rfl) ⟨q3,x1⟩ (fun hHeld=>?_)
 refine wpAnyH_take (i:=0) (v:=?_) rfl (by kernel_rfl) (by kernel_rfl) (by kernel_rfl) (fun _ _ _ h=>h) (Or.inl ⟨by rfl,?hy0⟩) hHeld ?rest0
 case hy0=>intro W' hSw;(try dsimp only at hSw);obtain⟨q3,x1⟩:=hSw;go_simp <;> with_reducible rfl
 try simp only[Act.put,Zaa,Zab,Zac]
 refine wpAnyH_take (i:=1) (v:=?_) rfl (by kernel_rfl) (by kernel_rfl) (by kernel_rfl) (fun _ _ _ h=>h) (Or.inl ⟨by rfl,?hy1⟩) hHeld ?rest1
 case hy1=>intro W' hSw;(try dsimp only at hSw);obtain⟨q3,x1⟩:=hSw;go_simp <;> with_reducible rfl
 try simp only[Act.put,Zaa,Zab,Zac]
 refine wpAnyH_take (i:=2) (v:=?_) rfl (by kernel_rfl) (by kernel_rfl) (by kernel_rfl) (fun _ _ _ h=>h) (Or.inl ⟨by rfl,?hy2⟩) hHeld ?rest2
 case hy2=>intro W' hSw;(try dsimp only at hSw);obtain⟨q3,x1⟩:=hSw;go_simp <;> with_reducible rfl
 try simp only[Act.put,Zaa,Zab,Zac]
 refine wpAnyH_take (i:=3) (v:=?_) rfl (by kernel_rfl) (by kernel_rfl) (by kernel_rfl) (fun _ _ _ h=>h) (Or.inl ⟨by rfl,?hy3⟩) hHeld ?rest3
 case hy3=>intro W' hSw;(try dsimp only at hSw);obtain⟨q3,x1⟩:=hSw;go_simp <;> with_reducible rfl
 try simp only[Act.put,Zaa,Zab,Zac]
 refine wpAnyH_take (i:=4) (v:=?_) rfl (by kernel_rfl) (by kernel_rfl) (by kernel_rfl) (fun _ _ _ h=>h) (Or.inl ⟨by rfl,?hy4⟩) hHeld ?rest4
 case hy4=>intro W' hSw;(try dsimp only at hSw);obtain⟨q3,x1⟩:=hSw;go_simp <;> with_reducible rfl
 try simp only[Act.put,Zaa,Zab,Zac]
 refine wpAnyH_take (i:=5) (v:=?_) rfl (by kernel_rfl) (by kernel_rfl) (by kernel_rfl) (fun _ _ _ h=>h) (Or.inl ⟨by rfl,?hy5⟩) hHeld ?rest5
 case hy5=>intro W' hSw;(try dsimp only at hSw);obtain⟨q3,x1⟩:=hSw;go_simp <;> with_reducible rfl
 try simp only[Act.put,Zaa,Zab,Zac]
 refine wpAnyH_take (i:=6) (v:=?_) rfl (by kernel_rfl) (by kernel_rfl) (by kernel_rfl) (fun _ _ _ h=>h) (Or.inl ⟨by rfl,?hy6⟩) hHeld ?rest6
 case hy6=>intro W' hSw;(try dsimp only at hSw);obtain⟨q3,x1⟩:=hSw;go_simp <;> with_reducible rfl
 try simp only[Act.put,Zaa,Zab,Zac]
 refine wpAnyH_take (i:=7) (v:=?_) rfl (by kernel_rfl) (by kernel_rfl) (by kernel_rfl) (fun _ _ _ h=>h) (Or.inl ⟨by rfl,?hy7⟩) hHeld ?rest7
 case hy7=>intro W' hSw;(try dsimp only at hSw);obtain⟨q3,x1⟩:=hSw;go_simp <;> with_reducible rfl
 try simp only[Act.put,Zaa,Zab,Zac]
 refine wpAnyH_take (i:=8) (v:=?_) rfl (by kernel_rfl) (by kernel_rfl) (by kernel_rfl) (fun _ _ _ h=>h) (Or.inl ⟨by rfl,?hy8⟩) hHeld ?rest8
 case hy8=>intro W' hSw;(try dsimp only at hSw);obtain⟨q3,x1⟩:=hSw;go_simp <;> with_reducible rfl
 try simp only[Act.put,Zaa,Zab,Zac]
 refine wpAnyH_take (i:=9) (v:=?_) rfl (by kernel_rfl) (by kernel_rfl) (by kernel_rfl) (fun _ _ _ h=>h) (Or.inl ⟨by rfl,?hy9⟩) hHeld ?rest9
 case hy9=>intro W' hSw;(try dsimp only at hSw);obtain⟨q3,x1⟩:=hSw;go_simp <;> with_reducible rfl
 try simp only[Act.put,Zaa,Zab,Zac]
 refine wpAnyH_take (i:=10) (v:=?_) rfl (by kernel_rfl) (by kernel_rfl) (by kernel_rfl) (fun _ _ _ h=>h) (Or.inl ⟨by rfl,?hy10⟩) hHeld ?rest10
 case hy10=>intro W' hSw;(try dsimp only at hSw);obtain⟨q3,x1⟩:=hSw;go_simp <;> with_reducible rfl
 try simp only[Act.put,Zaa,Zab,Zac]
 refine wpAnyH_take (i:=11) (v:=?_) rfl (by kernel_rfl) (by kernel_rfl) (by kernel_rfl) (fun _ _ _ h=>h) (Or.inl ⟨by rfl,?hy11⟩) hHeld ?rest11
 case hy11=>intro W' hSw;(try dsimp only at hSw);obtain⟨q3,x1⟩:=hSw;go_simp <;> with_reducible rfl
 try simp only[Act.put,Zaa,Zab,Zac]
 refine wpAnyH_take (i:=12) (v:=?_) rfl (by kernel_rfl) (by kernel_rfl) (by kernel_rfl) (fun _ _ _ h=>h) (Or.inl ⟨by rfl,?hy12⟩) hHeld ?rest12
 case hy12=>intro W' hSw;(try dsimp only at hSw);obtain⟨q3,x1⟩:=hSw;go_simp <;> with_reducible rfl
 try simp only[Act.put,Zaa,Zab,Zac]
 refine wpAnyH_take (i:=13) (v:=?_) rfl (by kernel_rfl) (by kernel_rfl) (by kernel_rfl) (fun _ _ _ h=>h) (Or.inl ⟨by rfl,?hy13⟩) hHeld ?rest13
 case hy13=>intro W' hSw;(try dsimp only at hSw);obtain⟨q3,x1⟩:=hSw;go_simp <;> with_reducible rfl
 try simp only[Act.put,Zaa,Zab,Zac]
 refine wpAnyH_take (i:=14) (v:=?_) rfl (by kernel_rfl) (by kernel_rfl) (by kernel_rfl) (fun _ _ _ h=>h) (Or.inl ⟨by rfl,?hy14⟩) hHeld ?rest14
 case hy14=>intro W' hSw;(try dsimp only at hSw);obtain⟨q3,x1⟩:=hSw;go_simp <;> with_reducible rfl
 try simp only[Act.put,Zaa,Zab,Zac]
 refine wpAnyH_ready (rs:=[15]) (by kernel_rfl) (by simp) ?_
 refine AllReadyH.cons rfl (fun K' hK=>?_) AllReadyH.nil
 go_simp
 refine hK.out _ _ ⟨q3,x1⟩ (fun hHeld=>?_)
 clear hK K'
 try simp only[Act.put,Zaa,Zab,Zac]
 refine wpAnyH_ready (rs:=[16]) (by kernel_rfl) (by simp) ?_
 refine AllReadyH.cons rfl (fun K' hK=>?_) AllReadyH.nil
 go_simp
 refine(HC.out _).mono ?_;rintro e wn ⟨rfl,hbn⟩;have HBB:Hid (Below w1.heap.size w1 wn):=Hd (Aaz HBB.out hbn HBB.out.size ⟨rfl,rfl,rfl,rfl⟩);obtain⟨q3,x1,p0,p1,p2,p3,z0,z1,z2,z3⟩:=HSS.out _ HBB.out
 refine hK.out _ _ ⟨q3,x1⟩ (fun hHeld=>?_)
 clear hK K'
 try simp only[Act.put,Zaa,Zab,Zac]
 refine wpAnyH_take (i:=17) (v:=?_) rfl (by kernel_rfl) (by kernel_rfl) (by kernel_rfl) (fun _ _ _ h=>h) (Or.inl ⟨by rfl,?hy17⟩) hHeld ?rest17
 case hy17=>intro W' hSw;(try dsimp only at hSw);obtain⟨q3,x1⟩:=hSw;go_simp <;> with_reducible rfl
 try simp only[Act.put,Zaa,Zab,Zac]
 refine wpAnyH_ready (rs:=[18]) (by kernel_rfl) (by simp) ?_
 refine AllReadyH.cons rfl (fun K' hK=>?_) AllReadyH.nil
 go_simp
 refine hK.out _ _ (HPS.out _ HBB.out _ _ _ _) (fun hHeld=>?_)
 clear hK K'
 try simp only[Act.put,Zaa,Zab,Zac]
 refine wpAnyH_done (by kernel_rfl) ?_ _
 all_goals
  go_wp2_with fail
  go_end0
  obtain⟨a1,a2⟩:=(HW1.out.below HBB.out).storePip HA.out hi (Aak K.pipes[i] false)
  exact⟨rfl,a1,(HST.out.trans (.of_below HBB.out)).trans a2⟩
end
end Go.Proofs.YtkdfbliiblojoaaGreatDoor
