import Derived.Test.YtkdfbliiblojoaaGreatDoorK15
import Derived.Deep.MidRow
import Derived.Shelf.SlicesE.Clone
import Derived.Test.YtkdfbliiblojoaaGreatDoorK17
set_option linter.all false
set_option maxRecDepth 100000
set_option maxHeartbeats 64000000
namespace Go.Proofs.YtkdfbliiblojoaaGreatDoor
open Go Go.RowKit
def Akb (W:World)(c:Nat):Prop:=∀ j s u,W.cell? ⟨c,j,none⟩=some (.string s)->W.cell? ⟨c,j+1,none⟩=some u->∃ s',u=.string s'
theorem Am6 {W W':World}{c:Nat}{a:Option Addr}{cap:Nat}{L:List Ino}(h:Aad W a cap L)(hc:Akb W c)(hb:∀ k,k≠c->W'.heap[k]?=W.heap[k]?):Aad W' a cap L:=by
 have hsame:∀ b j,b≠c->W'.cell? ⟨b,j,none⟩=W.cell? ⟨b,j,none⟩:=fun b j hn=>World.cell?_of_block (a:=⟨b,j,none⟩) (hb b hn)
 refine⟨h.1,h.2.1,fun i hi=>?_⟩
 obtain⟨b,o,e,hn⟩:=h.2.2 i hi
 obtain⟨v,hv,ka,kc,rfl,h1,h2,h3⟩:=hn.kids
 have hbc:b≠c:=fun e=>by
  subst e
  obtain⟨s',e'⟩:=hc _ _ _ hn.data hv
  cases e'
 exact⟨b,o,e,⟨(hsame b _ hbc).trans hn.kind,(hsame b _ hbc).trans hn.mode,(hsame b _ hbc).trans hn.links,(hsame b _ hbc).trans hn.data,⟨_,(hsame b _ hbc).trans hv,ka,kc,rfl,h1,h2,fun j hj=>by
  obtain⟨b',o',e',c0,c1⟩:=h3 j hj
  have hb':b'≠c:=fun e=>by
   subst e
   obtain⟨s',e2⟩:=hc _ _ _ c0 c1
   cases e2
  exact⟨b',o',e',(hsame b' _ hb').trans c0,(hsame b' _ hb').trans c1⟩⟩,(hsame b _ hbc).trans hn.up⟩⟩
theorem Af6 {W:World}{c:Nat}{t:TypeId}{a0 a3 a4:Option Addr}{n0 c0 n3 c3 n4 c4:Nat}{i1 i2:Int}{d0 d1:ByteArray}(h:W.heap[c]?=some (.cells #[.slice a0 n0 c0,.int .i64 i1,.int .i64 i2,.slice a3 n3 c3,.slice a4 n4 c4,.string d0,.string d1] t (0,0))):Akb W c:=by
 intro j s u h1 h2
 rw[bC h]at h1 h2
 match j,h1,h2 with
 | 0,h1,_=>cases h1
 | 1,h1,_=>cases h1
 | 2,h1,_=>cases h1
 | 3,h1,_=>cases h1
 | 4,h1,_=>cases h1
 | 5,_,h2=>exact⟨_,(Option.some.inj h2).symm⟩
 | 6,_,h2=>simp at h2
 | j+7,h1,_=>simp at h1
theorem Aid {W:World}{c:Nat}{t:TypeId}{cs:Array Value}(h:W.heap[c]?=some (.cells cs t (0,0)))(hi:∀ (j:Nat) (v:Value),cs[j]?=some v->∃ n:Int,v=.int .i64 n):Akb W c:=by
 intro j s u h1 _
 rw[bC h]at h1
 obtain⟨n,e⟩:=hi j _ h1
 cases e
theorem Age {W W':World}{c:Nat}{A:KAd}{K:Krn}(h:KernIn W A K)(hc:Akb W c)(hb:∀ k,k≠c->W'.heap[k]?=W.heap[k]?)(hp:∀ x,A.pa=some x->0 < K.pipes.length->x.block≠c)(ho:∀ x,A.oa=some x->0 < K.opens.length->x.block≠c):KernIn W' A K:=by
 refine⟨Am6 h.tree hc hb,?_,?_⟩
 ·refine⟨h.pipes.1,h.pipes.2.1,h.pipes.2.2.1,fun j hj=>?_⟩
  obtain⟨b,o,e1,e2⟩:=h.pipes.2.2.2 j hj
  have h0:0 < K.pipes.length:=by
   rcases Nat.eq_zero_or_pos K.pipes.length with e|e
   ·rw[e]at hj;omega
   ·exact e
  exact⟨b,o,e1,(World.cell?_of_block (a:=⟨b,o+j,none⟩) (hb b (hp _ e1 h0))).trans e2⟩
 ·refine⟨h.opens.1,h.opens.2.1,h.opens.2.2.1,fun j hj=>?_⟩
  obtain⟨b,o,e1,e2⟩:=h.opens.2.2.2 j hj
  have h0:0 < K.opens.length:=by
   rcases Nat.eq_zero_or_pos K.opens.length with e|e
   ·rw[e]at hj;omega
   ·exact e
  exact⟨b,o,e1,(World.cell?_of_block (a:=⟨b,o+j,none⟩) (hb b (ho _ e1 h0))).trans e2⟩
def Am9 (cur:Array Value)(o:Nat):List Value->Array Value
 | []=>cur
 | v :: r=>Am9 (cur.setIfInBounds o v) (o+1) r
theorem Aey {g:Nat}{t:TypeId}:∀ (l:List Value) (o:Nat) (W:World) (cur:Array Value),W.heap[g]?=some (.cells cur t (0,0))->(W.setCells g o l).heap[g]?=some (.cells (Am9 cur o l) t (0,0))
 | [],_,_,_,h=>h
 | v :: r,o,W,cur,h=>Aey r (o+1) _ _ (Aar h o v)
theorem Abq {g:Nat}:∀ (l:List Value) (o:Nat) (W:World),But g W (W.setCells g o l)
 | [],_,_=>⟨rfl,rfl,rfl,rfl,fun _ _=>rfl⟩
 | v :: r,o,W=>(But.set W g o v).trans (Abq r (o+1) _)
theorem Afk {W:World}{k:Nat}{t:TypeId}(h:W.heap[k]?=some (.cells #[.int .i64 0,.int .i64 0,.int .i64 0,.int .i64 0,.int .i64 0,.int .i64 0,.int .i64 0,.int .i64 0,.int .i64 0,.int .i64 0] t (0,0)))(f:List Int):(W.setCells k 0 [.int .i64 (fdA f 0),.int .i64 (fdA f 1),.int .i64 (fdA f 2),.int .i64 (fdA f 3),.int .i64 (fdA f 4),.int .i64 (fdA f 5),.int .i64 (fdA f 6),.int .i64 (fdA f 7),.int .i64 (fdA f 8),.int .i64 (fdA f 9)]).heap[k]?=some (.cells #[.int .i64 (fdA f 0),.int .i64 (fdA f 1),.int .i64 (fdA f 2),.int .i64 (fdA f 3),.int .i64 (fdA f 4),.int .i64 (fdA f 5),.int .i64 (fdA f 6),.int .i64 (fdA f 7),.int .i64 (fdA f 8),.int .i64 (fdA f 9)] t (0,0)):=by
 have e:=Aey [.int .i64 (fdA f 0),.int .i64 (fdA f 1),.int .i64 (fdA f 2),.int .i64 (fdA f 3),.int .i64 (fdA f 4),.int .i64 (fdA f 5),.int .i64 (fdA f 6),.int .i64 (fdA f 7),.int .i64 (fdA f 8),.int .i64 (fdA f 9)] 0 W _ h
 have e2:Am9 #[.int .i64 0,.int .i64 0,.int .i64 0,.int .i64 0,.int .i64 0,.int .i64 0,.int .i64 0,.int .i64 0,.int .i64 0,.int .i64 0] 0 [.int .i64 (fdA f 0),.int .i64 (fdA f 1),.int .i64 (fdA f 2),.int .i64 (fdA f 3),.int .i64 (fdA f 4),.int .i64 (fdA f 5),.int .i64 (fdA f 6),.int .i64 (fdA f 7),.int .i64 (fdA f 8),.int .i64 (fdA f 9)]=#[.int .i64 (fdA f 0),.int .i64 (fdA f 1),.int .i64 (fdA f 2),.int .i64 (fdA f 3),.int .i64 (fdA f 4),.int .i64 (fdA f 5),.int .i64 (fdA f 6),.int .i64 (fdA f 7),.int .i64 (fdA f 8),.int .i64 (fdA f 9)]:=by kernel_rfl
 rw[e2]at e
 exact e
theorem Aiv (W:World)(k:Nat)(x0 x1 x2 x3 x4 x5 x6:Value):But k W (put7 W k x0 x1 x2 x3 x4 x5 x6):=((((((But.set W k 0 x0).trans (But.set _ k _ x1)).trans (But.set _ k _ x2)).trans (But.set _ k _ x3)).trans (But.set _ k _ x4)).trans (But.set _ k _ x5)).trans (But.set _ k _ x6)
theorem Aeq {W:World}{u v:Nat}(huv:u≠v){A2:KAd}{Kz:Krn}(fz:List Int)(hU:W.heap[u]?=some (.cells #[.slice none 0 0,.int .i64 0,.int .i64 0,.slice none 0 0,.slice none 0 0,.string ⟨#[]⟩,.string ⟨#[]⟩] 29 (0,0)))(hV:W.heap[v]?=some (.cells #[.int .i64 0,.int .i64 0,.int .i64 0,.int .i64 0,.int .i64 0,.int .i64 0,.int .i64 0,.int .i64 0,.int .i64 0,.int .i64 0] 31 (0,0)))(hK:KernIn W A2 Kz)(hp:∀ x,A2.pa=some x->x.block≠u/\x.block≠v)(ho:∀ x,A2.oa=some x->x.block≠u/\x.block≠v) :
  ∃ wv,wv=(put7 W (u) (.slice A2.ta Kz.tree.length A2.tc) (.int .i64 Kz.m) (.int .i64 Kz.b) (.slice A2.pa Kz.pipes.length A2.pc) (.slice A2.oa Kz.opens.length A2.oc) (.string ⟨Kz.out0.toArray⟩) (.string ⟨Kz.out1.toArray⟩)).setCells (v) 0 [.int .i64 (fdA fz 0),.int .i64 (fdA fz 1),.int .i64 (fdA fz 2),.int .i64 (fdA fz 3),.int .i64 (fdA fz 4),.int .i64 (fdA fz 5),.int .i64 (fdA fz 6),.int .i64 (fdA fz 7),.int .i64 (fdA fz 8),.int .i64 (fdA fz 9)] /\
   wv.heap[u]?=some (.cells #[(.slice A2.ta Kz.tree.length A2.tc),(.int .i64 Kz.m),(.int .i64 Kz.b),(.slice A2.pa Kz.pipes.length A2.pc),(.slice A2.oa Kz.opens.length A2.oc),(.string ⟨Kz.out0.toArray⟩),(.string ⟨Kz.out1.toArray⟩)] 29 (0,0))/\wv.heap[v]?=some (.cells #[.int .i64 (fdA fz 0),.int .i64 (fdA fz 1),.int .i64 (fdA fz 2),.int .i64 (fdA fz 3),.int .i64 (fdA fz 4),.int .i64 (fdA fz 5),.int .i64 (fdA fz 6),.int .i64 (fdA fz 7),.int .i64 (fdA fz 8),.int .i64 (fdA fz 9)] 31 (0,0))/\KernIn wv A2 Kz/\(∀ k,k≠u->k≠v->wv.heap[k]?=W.heap[k]?)/\wv.heap.size=W.heap.size/\wv.os=W.os/\wv.tape=W.tape/\wv.output=W.output:=by
 obtain⟨wu,hwu⟩:∃ z,z=put7 W (u) (.slice A2.ta Kz.tree.length A2.tc) (.int .i64 Kz.m) (.int .i64 Kz.b) (.slice A2.pa Kz.pipes.length A2.pc) (.slice A2.oa Kz.opens.length A2.oc) (.string ⟨Kz.out0.toArray⟩) (.string ⟨Kz.out1.toArray⟩):=⟨_,rfl⟩
 have hU6:=Ac4 hU (.slice A2.ta Kz.tree.length A2.tc) (.int .i64 Kz.m) (.int .i64 Kz.b) (.slice A2.pa Kz.pipes.length A2.pc) (.slice A2.oa Kz.opens.length A2.oc) (.string ⟨Kz.out0.toArray⟩) (.string ⟨Kz.out1.toArray⟩)
 rw[<-hwu]at hU6
 have hV6:=(Acg (W:=W) huv.symm (.slice A2.ta Kz.tree.length A2.tc) (.int .i64 Kz.m) (.int .i64 Kz.b) (.slice A2.pa Kz.pipes.length A2.pc) (.slice A2.oa Kz.opens.length A2.oc) (.string ⟨Kz.out0.toArray⟩) (.string ⟨Kz.out1.toArray⟩)).trans hV
 rw[<-hwu]at hV6 ⊢
 have hbu:But (u) W wu:=by rw[hwu];exact Aiv _ _ _ _ _ _ _ _ _
 have hbv:But (v) wu (wu.setCells (v) 0 [.int .i64 (fdA fz 0),.int .i64 (fdA fz 1),.int .i64 (fdA fz 2),.int .i64 (fdA fz 3),.int .i64 (fdA fz 4),.int .i64 (fdA fz 5),.int .i64 (fdA fz 6),.int .i64 (fdA fz 7),.int .i64 (fdA fz 8),.int .i64 (fdA fz 9)]):=Abq _ _ _
 refine⟨_,rfl,(hbv.block u huv).trans hU6,Afk hV6 fz,?_,fun k h1 h2=>(hbv.block k h2).trans (hbu.block k h1),hbv.size.trans hbu.size,hbv.os.trans hbu.os,hbv.tape.trans hbu.tape,hbv.output.trans hbu.output⟩
 have h1:KernIn wu A2 Kz:=Age hK (Af6 hU) (fun k hk=>hbu.block k hk) (fun x hx _=>(hp x hx).1) (fun x hx _=>(ho x hx).1)
 exact Age h1 (Aid hV6 (fun j _ hj=>by
  match j,hj with
  | 0,hj=>exact⟨0,(Option.some.inj hj).symm⟩
  | 1,hj=>exact⟨0,(Option.some.inj hj).symm⟩
  | 2,hj=>exact⟨0,(Option.some.inj hj).symm⟩
  | 3,hj=>exact⟨0,(Option.some.inj hj).symm⟩
  | 4,hj=>exact⟨0,(Option.some.inj hj).symm⟩
  | 5,hj=>exact⟨0,(Option.some.inj hj).symm⟩
  | 6,hj=>exact⟨0,(Option.some.inj hj).symm⟩
  | 7,hj=>exact⟨0,(Option.some.inj hj).symm⟩
  | 8,hj=>exact⟨0,(Option.some.inj hj).symm⟩
  | 9,hj=>exact⟨0,(Option.some.inj hj).symm⟩
  | j+10,hj=>simp at hj)) (fun k hk=>hbv.block k hk) (fun x hx _=>(hp x hx).2) (fun x hx _=>(ho x hx).2)
theorem Akv {W:World}{u:Nat}{A2:KAd}{Kz:Krn}(hU:W.heap[u]?=some (.cells #[.slice none 0 0,.int .i64 0,.int .i64 0,.slice none 0 0,.slice none 0 0,.string ⟨#[]⟩,.string ⟨#[]⟩] 29 (0,0)))(hK:KernIn W A2 Kz)(hp:∀ x,A2.pa=some x->x.block≠u)(ho:∀ x,A2.oa=some x->x.block≠u) :
  ∃ wv,wv=put7 W u (.slice A2.ta Kz.tree.length A2.tc) (.int .i64 Kz.m) (.int .i64 Kz.b) (.slice A2.pa Kz.pipes.length A2.pc) (.slice A2.oa Kz.opens.length A2.oc) (.string ⟨Kz.out0.toArray⟩) (.string ⟨Kz.out1.toArray⟩)/\wv.heap[u]?=some (.cells #[.slice A2.ta Kz.tree.length A2.tc,.int .i64 Kz.m,.int .i64 Kz.b,.slice A2.pa Kz.pipes.length A2.pc,.slice A2.oa Kz.opens.length A2.oc,.string ⟨Kz.out0.toArray⟩,.string ⟨Kz.out1.toArray⟩] 29 (0,0))/\KernIn wv A2 Kz/\(∀ k,k≠u->wv.heap[k]?=W.heap[k]?)/\wv.heap.size=W.heap.size/\wv.os=W.os/\wv.tape=W.tape/\wv.output=W.output:=by
 have hbu:But u W (put7 W u (.slice A2.ta Kz.tree.length A2.tc) (.int .i64 Kz.m) (.int .i64 Kz.b) (.slice A2.pa Kz.pipes.length A2.pc) (.slice A2.oa Kz.opens.length A2.oc) (.string ⟨Kz.out0.toArray⟩) (.string ⟨Kz.out1.toArray⟩)):=Aiv _ _ _ _ _ _ _ _ _
 exact⟨_,rfl,Ac4 hU _ _ _ _ _ _ _,Age hK (Af6 hU) (fun k hk=>hbu.block k hk) (fun x hx _=>hp x hx) (fun x hx _=>ho x hx),fun k h=>hbu.block k h,hbu.size,hbu.os,hbu.tape,hbu.output⟩
theorem Ag2 {W:World}{g k o:Nat}{u:Value}(h:k≠g):(W.setCell ⟨g,o,none⟩ u).heap[k]?=W.heap[k]?:=Below.heap_setCell _ _ _ _ h
theorem Afj {W:World}{g k:Nat}{x0 x1 x2 x3 x4 x5 x6:Value}(h:k≠g):(((((((W.setCell ⟨g,0,none⟩ x0).setCell ⟨g,1,none⟩ x1).setCell ⟨g,2,none⟩ x2).setCell ⟨g,3,none⟩ x3).setCell ⟨g,4,none⟩ x4).setCell ⟨g,5,none⟩ x5).setCell ⟨g,6,none⟩ x6).heap[k]?=W.heap[k]?:=(Ag2 h).trans ((Ag2 h).trans ((Ag2 h).trans ((Ag2 h).trans ((Ag2 h).trans ((Ag2 h).trans (Ag2 h))))))
theorem Ap8 {W:World}{g k o:Nat}{l:List Value}(h:k≠g):(W.setCells g o l).heap[k]?=W.heap[k]?:=(Abq l o W).block k h
theorem Aih {W W':World}{b o n:Nat}(hb:W'.heap[b]?=W.heap[b]?)(h:W.there b o n):W'.there b o n:=fun j hj=>by
 obtain⟨h1,h2⟩:=h j hj
 refine⟨?_,?_⟩
 ·rw[World.cell?_of_block (a:=⟨b,o+j,none⟩) hb];exact h1
 ·unfold World.frozen? at h2 ⊢
  simp only at h2 ⊢
  rw[hb]
  exact h2
theorem Avh {W:World}{g:Nat}{t:TypeId}(h:W.heap[g]?=some (.cells #[.int .i64 0,.int .i64 0,.int .i64 0,.int .i64 0,.int .i64 0,.int .i64 0,.int .i64 0,.int .i64 0,.int .i64 0,.int .i64 0] t (0,0))):W.there g 0 10:=fun j hj=>by
 rw[Nat.zero_add]
 refine⟨?_,bF h j⟩
 rw[bC h,Array.getElem?_eq_getElem (show j < 10 from hj)]
 rfl
def Aj9 (n:Nat)(A:KAd):Prop:=(∀ x,A.pa=some x->n<=x.block)/\(∀ x,A.oa=some x->n<=x.block)
theorem Aj9.less {n m:Nat}{A:KAd}(h:Aj9 n A)(hm:m<=n):Aj9 m A:=⟨fun x hx=>Nat.le_trans hm (h.1 x hx),fun x hx=>Nat.le_trans hm (h.2 x hx)⟩
theorem An0 (a:Option Addr)(cap:Nat)(K:List Pip)(hb:K.length<=100000)(w:World)(hK:SlIn w a K.length cap 4 (rowC pipF K)) :
  Calls Tryz.prog 115 #[.slice a K.length cap] w fun e w'=>∃ a' cap',e=.returned (.slice a' K.length cap')/\w'.ownsRow w.heap.size 87 4 (.slice a' K.length cap') K.length (rowC pipF K)/\Below w.heap.size w w':=by
 obtain⟨i0,hi,hz0,hz1,hz2⟩:=info_parts Apo
 have hm:K.length<=maxLen:=by unfold maxLen;omega
 have q22:∀ (w:World) (a:Option Addr) (n c n' c':Nat),(binOp .eql 25 (.slice a n c) (.slice none n' c')).run Tryz.prog w=.ok (.bool a.isNone) w:=fun w a n c n' c'=>Lib.run_eql_slice_nil w _ _ a n c n' c' Tryz.underlying25
 cases a with
 | none=>
  obtain⟨h0,h1⟩:=Ahs hK (by decide)
  have HN:=Hd (And.intro h0 h1)
  clear h1
  rw[h0]
  go_enter Tryz.func115,Tryz.ntmps115
  go_wp2_with fail
  go_ret
  refine⟨none,0,rfl,?_,Below.refl _ _⟩
  rw[HN.out.2]
  exact World.ownsRow_nil _ _ _ _
 | some a=>
  have A:Aside (∀ j u,(rowC pipF K)[j]?=some u->w.cell? (a.add j)=some u):=fun j u hj=>Ak3 hK (by decide) a rfl j u hj
  clear hK
  obtain⟨ab,ao,asp⟩:=a
  go_enter Tryz.func115,Tryz.ntmps115
  go_wp2_with (at_builtin;refine wpList_append_own _ rfl _ _ 25 rfl w.heap.size 87 i0 _ 4 40 Tryz.underlying25 hi hz0 hz1 hz2 rfl (by decide) _ _ _ rfl (World.ownsRow_made w #[] 0 (Nat.le_refl _) (Nat.zero_le _) (by simp)) ⟨ab,ao,asp⟩ K.length cap (rowC pipF K) rfl ?qc1 ?qc2 ?qc3 ?qc4 ?qc5 ?qc6 ?_)
  case qc1=>exact Agi Aej K
  case qc2=>
   intro j u hj
   exact Lib.cell?_alloc_some _ (A.out j u hj)
  case qc3=>exact Ap4 K
  case qc4=>rw[Nat.zero_add];exact hm
  case qc5=>rw[Nat.zero_add];omega
  case qc6=>simp
  intro v' w1 hown hgrow hnil
  have hown2:w1.ownsRow w.heap.size 87 4 v' K.length (rowC pipF K):=by simpa using hown
  obtain⟨a',cap',rfl,-⟩:=Aea hown2
  go_wp2_with fail
  go_ret
  refine⟨a',cap',rfl,hown2,?_⟩
  exact((Below.refl _ w).alloc (Nat.le_refl _) _).grown hgrow (by simp) (by intro k hk;simp[Value.ownBlock]at hk;omega)
theorem Anz (a:Option Addr)(cap:Nat)(K:List Opn)(hb:K.length<=100000)(w:World)(hK:SlIn w a K.length cap 5 (rowC opnF K)) :
  Calls Tryz.prog 116 #[.slice a K.length cap] w fun e w'=>∃ a' cap',e=.returned (.slice a' K.length cap')/\w'.ownsRow w.heap.size 70 5 (.slice a' K.length cap') K.length (rowC opnF K)/\Below w.heap.size w w':=by
 obtain⟨i0,hi,hz0,hz1,hz2⟩:=info_parts Air
 have hm:K.length<=maxLen:=by unfold maxLen;omega
 have q22:∀ (w:World) (a:Option Addr) (n c n' c':Nat),(binOp .eql 26 (.slice a n c) (.slice none n' c')).run Tryz.prog w=.ok (.bool a.isNone) w:=fun w a n c n' c'=>Lib.run_eql_slice_nil w _ _ a n c n' c' Tryz.underlying26
 cases a with
 | none=>
  obtain⟨h0,h1⟩:=Ahs hK (by decide)
  have HN:=Hd (And.intro h0 h1)
  clear h1
  rw[h0]
  go_enter Tryz.func116,Tryz.ntmps116
  go_wp2_with fail
  go_ret
  refine⟨none,0,rfl,?_,Below.refl _ _⟩
  rw[HN.out.2]
  exact World.ownsRow_nil _ _ _ _
 | some a=>
  have A:Aside (∀ j u,(rowC opnF K)[j]?=some u->w.cell? (a.add j)=some u):=fun j u hj=>Ak3 hK (by decide) a rfl j u hj
  clear hK
  obtain⟨ab,ao,asp⟩:=a
  go_enter Tryz.func116,Tryz.ntmps116
  go_wp2_with (at_builtin;refine wpList_append_own _ rfl _ _ 26 rfl w.heap.size 70 i0 _ 5 40 Tryz.underlying26 hi hz0 hz1 hz2 rfl (by decide) _ _ _ rfl (World.ownsRow_made w #[] 0 (Nat.le_refl _) (Nat.zero_le _) (by simp)) ⟨ab,ao,asp⟩ K.length cap (rowC opnF K) rfl ?qc1 ?qc2 ?qc3 ?qc4 ?qc5 ?qc6 ?_)
  case qc1=>exact Agi Adn K
  case qc2=>
   intro j u hj
   exact Lib.cell?_alloc_some _ (A.out j u hj)
  case qc3=>exact Ahn K
  case qc4=>rw[Nat.zero_add];exact hm
  case qc5=>rw[Nat.zero_add];omega
  case qc6=>simp
  intro v' w1 hown hgrow hnil
  have hown2:w1.ownsRow w.heap.size 70 5 v' K.length (rowC opnF K):=by simpa using hown
  obtain⟨a',cap',rfl,-⟩:=Aea hown2
  go_wp2_with fail
  go_ret
  refine⟨a',cap',rfl,hown2,?_⟩
  exact((Below.refl _ w).alloc (Nat.le_refl _) _).grown hgrow (by simp) (by intro k hk;simp[Value.ownBlock]at hk;omega)
theorem Bbw (p:Pip)(w:World):Calls Tryz.prog 47 #[.agg #[.string ⟨p.data.toArray⟩,.int .i64 p.rd,.int .i64 p.wr,.int .i64 p.cap]] w fun e w'=>e=.returned (.bool (Ace p))/\Below w.heap.size w w':=by
 obtain⟨D,hD⟩:∃ D:ByteArray,D=⟨p.data.toArray⟩:=⟨_,rfl⟩
 obtain⟨hDl,hDs⟩:=Af4 hD
 rw[<-hD]
 clear hD
 have HB:=Hd (Aab w (.cells #[.string D,.int .i64 p.rd,.int .i64 p.wr,.int .i64 p.cap] 87))
 have hres:Ace p=(decide (0<=p.rd) && decide (p.rd<=1000) && decide (0<=p.wr) && decide (p.wr<=1000) && decide (1<=p.cap) && decide (p.cap<=65536) && decide ((D.size:Int)<=p.cap)):=by rw[hDs];rfl
 rw[hres]
 clear hDl hDs hres
 cases d1:decide (0<=p.rd)with
 | false=>
  go_enter Tryz.func47,Tryz.ntmps47
  go_wp2_with fail
  go_ret
  exact⟨rfl,HB.out⟩
 | true=>
  cases d2:decide (p.rd<=1000)with
  | false=>
   go_enter Tryz.func47,Tryz.ntmps47
   go_wp2_with fail
   go_ret
   exact⟨rfl,HB.out⟩
  | true=>
   cases d3:decide (0<=p.wr)with
   | false=>
    go_enter Tryz.func47,Tryz.ntmps47
    go_wp2_with fail
    go_ret
    exact⟨rfl,HB.out⟩
   | true=>
    cases d4:decide (p.wr<=1000)with
    | false=>
     go_enter Tryz.func47,Tryz.ntmps47
     go_wp2_with fail
     go_ret
     exact⟨rfl,HB.out⟩
    | true=>
     cases d5:decide (1<=p.cap)with
     | false=>
      go_enter Tryz.func47,Tryz.ntmps47
      go_wp2_with fail
      go_ret
      exact⟨rfl,HB.out⟩
     | true=>
      cases d6:decide (p.cap<=65536)with
      | false=>
       go_enter Tryz.func47,Tryz.ntmps47
       go_wp2_with fail
       go_ret
       exact⟨rfl,HB.out⟩
      | true=>
       cases d7:decide ((D.size:Int)<=p.cap)with
       | false=>
        go_enter Tryz.func47,Tryz.ntmps47
        go_wp2_with fail
        go_ret
        exact⟨rfl,HB.out⟩
       | true=>
        go_enter Tryz.func47,Tryz.ntmps47
        go_wp2_with fail
        go_ret
        exact⟨rfl,HB.out⟩
def Ano (K:Krn)(i:Nat):Prop:=∃ hi:i < K.pipes.length,Ace K.pipes[i]=true/\K.pipes[i].rd=(Abw K.opens 2 i:Int)/\(K.pipes[i].wr=(Abw K.opens 3 i:Int)∨(i=0/\K.pipes[i].wr<=(Abw K.opens 3 i:Int)))
def FdOk (K:Krn)(f:List Int)(i:Nat):Prop:=fdA f i=0∨∃ j:Nat,∃ hj:j < K.opens.length,fdA f i=(j:Int)+1/\K.opens[j].kind≠0/\(f.count (fdA f i):Int)<=K.opens[j].refs
theorem Av8 {K:Krn}{f:List Int}(hf:f.length=10):FitK K f↔FitP K.tree K.m K.b/\K.pipes.length<=32/\K.opens.length<=64/\K.out0.length<=65536/\K.out1.length<=65536/\(∀ i (hi:i < K.opens.length),Abb K.tree K.pipes.length K.opens[i])/\(∀ i,i < K.pipes.length->Ano K i)/\(∀ i,i < 10->FdOk K f i):=by
 constructor
 ·intro h
  refine⟨h.tree,h.np,h.no,h.o0,h.o1,h.opens,fun i hi=>?_,fun i hi=>?_⟩
  ·obtain⟨h1,h2,h3⟩:=h.pipes i hi
   unfold Am3 at h2 h3
   exact⟨hi,h1,by omega,by omega⟩
  ·have hi':i < f.length:=by omega
   have h1:=h.fds i hi'
   have e:fdA f i=f[i]:=Abx f i hi' 0
   unfold FdOk
   rw[e]
   exact h1
 ·rintro⟨h1,h2,h3,h4,h5,h6,h7,h8⟩
  refine⟨h1,h2,h3,h4,h5,h6,fun i hi=>?_,hf,fun i hi=>?_⟩
  ·obtain⟨_,k1,k2,k3⟩:=h7 i hi
   unfold Am3
   exact⟨k1,k2.trans (by omega),k3.imp (fun h=>h.trans (by omega)) (fun h=>⟨h.1,Int.le_trans h.2 (by omega)⟩)⟩
  ·have h9:=h8 i (by omega)
   have e:fdA f i=f[i]:=Abx f i hi 0
   unfold FdOk at h9
   rw[e]at h9
   exact h9
def cntK (O:List Opn)(kd:Int)(np:Nat):List Int:=(List.range np).map fun i=>(Abw O kd i:Int)
theorem Ae8 (O:List Opn)(kd:Int)(np:Nat):(cntK O kd np).length=np:=by simp[cntK]
theorem Asm (kd:Int)(np:Nat):cntK [] kd np=List.replicate np 0:=by
 apply List.ext_getElem (by simp[cntK])
 intro i h1 h2
 simp[cntK,Abw]
theorem Ahx (O:List Opn)(kd:Int)(np i:Nat)(hi:i < np):(cntK O kd np)[i]'(by rw[Ae8];exact hi)=(Abw O kd i:Int):=by simp[cntK]
theorem Ag8 (O:List Opn)(o:Opn)(kd:Int)(np:Nat)(h:o.kind≠kd):cntK (O ++ [o]) kd np=cntK O kd np:=by
 unfold cntK
 apply List.map_congr_left
 intro i _
 rw[Ain,if_neg (by unfold Acw;simp[h])]
 omega
theorem Asn (O:List Opn)(o:Opn)(kd:Int)(np n:Nat)(h:o.kind=kd)(hat:o.at_=(n:Int))(hn:n < np):cntK (O ++ [o]) kd np=(cntK O kd np).set n ((Abw O kd n:Int)+1):=by
 apply List.ext_getElem (by simp[cntK])
 intro i h1 h2
 have hi:i < np:=by rw[Ae8]at h1;exact h1
 rw[Ahx _ _ _ i hi,List.getElem_set,Ain]
 by_cases e:n=i
 ·subst e
  rw[if_pos (by unfold Acw;simp[h,hat]),if_pos rfl]
 ·rw[if_neg (by unfold Acw;simp[hat];intro _;omega),if_neg e,Ahx _ _ _ i hi]
  omega
theorem Aqa {T:Type}(O:List T)(k:Nat)(h:k < O.length):O.take (k+1)=O.take k ++ [O[k]]:=List.take_succ_eq_append_getElem h
theorem Asu (O:List Opn)(kd:Int)(i:Nat):Abw O kd i<=O.length:=List.countP_le_length
def cntF (f:List Int)(x:Int)(n:Nat):Nat:=(f.take n).count x
theorem Ama (f:List Int)(hf:f.length=10)(x:Int)(n:Nat)(hn:n < 10):cntF f x (n+1)=cntF f x n+(if fdA f n=x then 1 else 0):=by
 unfold cntF
 have e:fdA f n=f[n]'(by omega):=Abx f n (by omega) 0
 rw[Aqa f n (by omega),List.count_append,List.count_singleton,e]
 congr 1
 by_cases h:f[n]'(by omega)=x
 ·rw[if_pos h];simp[h]
 ·rw[if_neg h,if_neg (by simpa using h)]
theorem Apd (f:List Int)(hf:f.length=10)(x:Int):cntF f x 10=f.count x:=by
 unfold cntF
 rw[List.take_of_length_le (by omega)]
theorem Asl (f:List Int)(x:Int)(n:Nat):cntF f x n<=n:=Nat.le_trans List.count_le_length (by simp;omega)
end Go.Proofs.YtkdfbliiblojoaaGreatDoor
