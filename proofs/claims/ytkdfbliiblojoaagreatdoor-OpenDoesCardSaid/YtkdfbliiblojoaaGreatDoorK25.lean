import Derived.Test.YtkdfbliiblojoaaGreatDoorK23
import Derived.Test.YtkdfbliiblojoaaGreatDoorK21
import Derived.Deep.AppendLies
import Derived.Test.YtkdfbliiblojoaaGreatDoorK22
set_option linter.all false
set_option maxRecDepth 100000
set_option maxHeartbeats 64000000
namespace Go.Proofs.YtkdfbliiblojoaaGreatDoor
open Go Go.RowKit
section
variable {g : Nat} {w w' w'' : World}
end
theorem Abn.cells {W W':World}{v:Value}{K:List (List UInt8×Int)}(h:Abn W v K)(hb:∀ j,j < W.heap.size->W'.heap[j]?=W.heap[j]?):Abn W' v K:=by
 obtain⟨a,cap,h1,h2,h3,h4⟩:=h
 refine⟨a,cap,h1,h2,h3,fun i hi=>?_⟩
 obtain⟨b,o,e1,e2,e3⟩:=h4 i hi
 have hl:=Aaf e2
 exact⟨b,o,e1,(World.cell?_of_block (a:=⟨b,o+i * 2,none⟩) (hb b hl)).trans e2,(World.cell?_of_block (a:=⟨b,o+i * 2+1,none⟩) (hb b hl)).trans e3⟩
structure RefT (W:World)(g cap:Nat)(L:List Ino)(vs:List Value):Prop where
 nodes:NodesOwn W g cap L vs
 kids:∀ i (hi:i < L.length) (hv:i < vs.length) (W':World),(∀ j,j≠g->j < W.heap.size->W'.heap[j]?=W.heap[j]?)->Abn W' vs[i] L[i].kids
section
variable {W W' : World} {base g cap : Nat} {L : List Ino} {vs : List Value}
theorem RefT.stay (h:RefT W g cap L vs)(hs:W.heap.size<=W'.heap.size)(hb:∀ j,j < W.heap.size->W'.heap[j]?=W.heap[j]?):RefT W' g cap L vs:=
 ⟨h.nodes.same (hb g h.nodes.lt),fun i hi hv W'' hw=>h.kids i hi hv W'' fun j hj hl=>(hw j hj (Nat.lt_of_lt_of_le hl hs)).trans (hb j hl)⟩
theorem RefT.below (h:RefT W g cap L vs)(hb:Below W.heap.size W W'):RefT W' g cap L vs:=h.stay hb.size hb.block
theorem OwnT.refT (h:OwnT W base g cap L vs):RefT W g cap L vs:=
 ⟨h.nodes,fun i hi hv _W' hw=>((h.kids i hi hv).same fun k hk=>hw k (fun e=>h.off i hv (e ▸ hk)) ((h.kids i hi hv).lt k hk).2).kidsIn⟩
theorem RefT.of_kids {w:World}(hN:NodesOwn W g cap L vs)(hk:∀ i (hi:i < L.length) (hv:i < vs.length),Abn w vs[i] L[i].kids)(hg:w.heap.size<=g)(hs:w.heap.size<=W.heap.size)(hb:∀ j,j < w.heap.size->W.heap[j]?=w.heap[j]?):RefT W g cap L vs:=
 ⟨hN,fun i hi hv _ hw=>(hk i hi hv).cells fun j hj=>(hw j (by omega) (by omega)).trans (hb j hj)⟩
theorem RefT.turn (h:RefT W g cap L vs){L':List Ino}{vs':List Value}(hN:NodesOwn W' g cap L' vs')(hl:L'.length=L.length)(hs:W'.heap.size=W.heap.size)(hb:∀ j,j≠g->W'.heap[j]?=W.heap[j]?)
  (hk:∀ i (hi:i < L'.length) (hv:i < vs'.length) (hi2:i < L.length) (hv2:i < vs.length),(L'[i].kids=L[i].kids/\vs'[i]=vs[i])∨(L'[i].kids=[]/\vs'[i]=.slice none 0 0)):RefT W' g cap L' vs':=by
 refine⟨hN,fun i hi hv W'' hw=>?_⟩
 have hi2:i < L.length:=by rw[<-hl];exact hi
 rcases hk i hi hv hi2 (by rw[h.nodes.len];exact hi2)with ⟨e1,e2⟩|⟨e1,e2⟩
 ·rw[e1,e2]
  exact h.kids i hi2 _ W'' fun j hj hjl=>(hw j hj (by rw[hs];exact hjl)).trans (hb j hj)
 ·rw[e1,e2]
  exact⟨none,0,rfl,Nat.le_refl _,Nat.zero_le _,fun i hi=>absurd hi (Nat.not_lt_zero _)⟩
theorem RefT.node (h:RefT W g cap L vs){i:Nat}(hi:i < L.length):∃ v,NodeAt W g (i * 6) L[i] v/\Abn W v L[i].kids/\∀ j,W.frozen? ⟨g,j,none⟩=false:=by
 have hv:i < vs.length:=by rw[h.nodes.len];exact hi
 exact⟨vs[i],h.nodes.node i hi hv,h.kids i hi hv W fun _ _ _=>rfl,h.nodes.free⟩
end
def Akc (w:World)(m b:Int)(L':List Ino)(rest:List Value)(e:Ending)(w':World):Prop:=
 (∃ a' cap',e=.returned (.tuple (#[.agg #[.slice a' L'.length cap',.int .i64 m,.int .i64 b]] ++ rest.toArray))/\Aad w' a' cap' L')/\Below w.heap.size w w'
theorem Adg {W:World}{c:Nat}{t:TypeId}{a:Option Addr}{cap:Nat}{L:List Ino}(h:Aad W a cap L)(hc:W.heap[c]?=some (.cells #[.slice none 0 0,.int .i64 0,.int .i64 0] t (0,0)))(x y z:Value):Aad (put3 W c x y z) a cap L:=by
 have hcell:∀ j u,W.cell? ⟨c,j,none⟩=some u->(∀ s,u≠.string s)/\j < 3:=fun j u hu=>by
  rw[bC hc j]at hu
  match j,hu with
  | 0,hu=>have h:=Option.some.inj hu;subst h;exact⟨(fun s e=>by cases e),by omega⟩
  | 1,hu=>have h:=Option.some.inj hu;subst h;exact⟨(fun s e=>by cases e),by omega⟩
  | 2,hu=>have h:=Option.some.inj hu;subst h;exact⟨(fun s e=>by cases e),by omega⟩
  | j+3,hu=>simp at hu
 have hsame:∀ b j,b≠c->(put3 W c x y z).cell? ⟨b,j,none⟩=W.cell? ⟨b,j,none⟩:=fun b j hb=>World.cell?_of_block (a:=⟨b,j,none⟩) (Aa9 hb x y z)
 refine⟨h.1,h.2.1,fun i hi=>?_⟩
 obtain⟨b,o,e,hn⟩:=h.2.2 i hi
 have hb:b≠c:=fun e=>by
  subst e
  have:=(hcell _ _ hn.up).2
  omega
 obtain⟨v,hv,ka,kc,rfl,h1,h2,h3⟩:=hn.kids
 exact⟨b,o,e,⟨(hsame b _ hb).trans hn.kind,(hsame b _ hb).trans hn.mode,(hsame b _ hb).trans hn.links,(hsame b _ hb).trans hn.data,⟨_,(hsame b _ hb).trans hv,ka,kc,rfl,h1,h2,fun j hj=>by
  obtain⟨b',o',e',c0,c1⟩:=h3 j hj
  have hb':b'≠c:=fun e=>by
   subst e
   exact(hcell _ _ c0).1 _ rfl
  exact⟨b',o',e',(hsame b' _ hb').trans c0,(hsame b' _ hb').trans c1⟩⟩,(hsame b _ hb).trans hn.up⟩⟩
theorem RefT.cells {W:World}{g cap:Nat}{L:List Ino}{vs:List Value}(h:RefT W g cap L vs){i:Nat}(hi:i < L.length)(j:Nat)(hj:j < 6):(∃ u,W.cell? ⟨g,i * 6+j,none⟩=some u)/\W.frozen? ⟨g,i * 6+j,none⟩=false:=by
 obtain⟨v,hn,-,hf⟩:=h.node hi
 refine⟨?_,hf _⟩
 match j,hj with
 | 0,_=>exact⟨_,hn.kind⟩
 | 1,_=>exact⟨_,hn.mode⟩
 | 2,_=>exact⟨_,hn.links⟩
 | 3,_=>exact⟨_,hn.data⟩
 | 4,_=>exact⟨_,hn.kids⟩
 | 5,_=>exact⟨_,hn.up⟩
end Go.Proofs.YtkdfbliiblojoaaGreatDoor
namespace Go.Proofs.YtkdfbliiblojoaaGreatDoor
open Go Go.RowKit Go.Lib
section
variable {base c i vb vc : Nat} {K : List (List UInt8 × Int)} {x : List UInt8 × Int} {w : World}
theorem Awf {b:Nat}(ho:Aa4 w base (.slice (some ⟨b,0,none⟩) K.length c) K)(hi:i < K.length)(hnc:K.length<=c)(hroom:c < K.length+1)(hl:K.length<=1048576)(hbs:base<=w.heap.size)
  (hv:w.heap[vb]?=some (.cells (entC x).toArray 139 (0,0))) :
  Calls Tryz.prog 206 #[.slice (some ⟨b,0,none⟩) K.length c,.int .i64 i,.slice (some ⟨vb,0,none⟩) 1 vc] w fun e w'=>Ai2 base w (.slice (some ⟨b,0,none⟩) K.length c) (insK K i x) e w':=by
 obtain⟨i0,hi0,hz0,hzs,hzb⟩:=info_parts As8
 have hcs:∀ j v,(kidC K)[j]?=some v->w.cell? ⟨b,j,none⟩=some v:=fun j v h=>by
  have:=ho.cells rfl j v h
  rwa [Abj]at this
 have hbw:b < w.heap.size:=(ho.lt b rfl).2
 have hvw:vb < w.heap.size:=lt_of_block hv
 have hin:i<=K.length:=by omega
 have hkl:=Abe K
 have hdl:((kidC K).drop (i * 2)).length=(K.length - i) * 2:=by rw[List.length_drop,Abe];omega
 have htl:((kidC K).take (i * 2)).length=i * 2:=by rw[List.length_take,Abe];omega
 have hkk:(K.length:Int)+1 - (i:Int)=((K.length+1 - i:Nat):Int):=by omega
 have hik:i+(K.length+1 - i)=K.length+1:=by omega
 have hone:∀ v∈entC x,v.oneCell'=true:=fun v hv=>by
  simp only[entC,List.mem_cons,List.not_mem_nil,or_false]at hv
  rcases hv with rfl|rfl <;> rfl
 have hold:(Builtin.firstCells i0.size i (.slice (some ⟨b,0,none⟩) i c)).run Tryz.prog w.drew=.ok ((kidC K).take (i * 2)).toArray w.drew:=by
  rw[hzs]
  exact run_firstCells_some w.drew 2 i ⟨b,0,none⟩ i c ((kidC K).take (i * 2)) htl (fun j v hj=>by
   rw[Abj]
   rw[List.getElem?_take]at hj
   split at hj
   ·exact hcs j v hj
   ·cases hj)
 have hgc:=grownCap_ge w (K.length+1) c 139
 have hgm:=grownCap_le_maxLen w (K.length+1) c 139 (by unfold maxLen;omega)
 have hrz:∀ ty,(Builtin.append_ #[64,3] ty #[.slice (some ⟨b,0,none⟩) i c,.int .i64 ((K.length:Int)+1 - (i:Int))]).run Tryz.prog w =
   .ok (.slice (some ⟨w.heap.size,0,none⟩) (K.length+1) (grownCap w (K.length+1) c 139)) (w.drew.alloc (.cells (((kidC K).take (i * 2)).toArray ++ Builtin.zeroCells (Value.agg #[.string ⟨#[]⟩,.int .i64 0]).cells (K.length+1 - i) ++ Builtin.zeroCells (Value.agg #[.string ⟨#[]⟩,.int .i64 0]).cells (grownCap w (K.length+1) c 139 - (K.length+1))) 139)):=fun ty=>by
  have h:=Lib.run_append_grow_zeros w 64 3 ty 139 i0 _ .i64 .i64 Tryz.underlying64 Tryz.underlying3 hi0 hz0 (some ⟨b,0,none⟩) i c ((kidC K).take (i * 2)) hold (K.length+1 - i) (by omega) (by omega) (by omega) (by omega) (by rw[hzb];omega) (by rw[hzb,hik];exact growslice_fits hroom (by omega))
  rw[hik]at h
  rw[hkk]
  exact h
 obtain⟨G,hG⟩:∃ G,G=grownCap w (K.length+1) c 139:=⟨_,rfl⟩
 rw[<-hG]at hrz hgc hgm
 obtain⟨ROW,hROW⟩:∃ ROW:Array Value,ROW=((kidC K).take (i * 2)).toArray ++ Builtin.zeroCells (Value.agg #[.string ⟨#[]⟩,.int .i64 0]).cells (K.length+1 - i) ++ Builtin.zeroCells (Value.agg #[.string ⟨#[]⟩,.int .i64 0]).cells (G - (K.length+1)):=⟨_,rfl⟩
 rw[<-hROW]at hrz
 have hRs:ROW.size=G * 2:=by
  have z1:(Builtin.zeroCells (Value.agg #[.string ⟨#[]⟩,.int .i64 0]).cells (K.length+1 - i)).size=(K.length+1 - i) * 2:=size_zeroCells _ _
  have z2:(Builtin.zeroCells (Value.agg #[.string ⟨#[]⟩,.int .i64 0]).cells (G - (K.length+1))).size=(G - (K.length+1)) * 2:=size_zeroCells _ _
  rw[hROW,Array.size_append,Array.size_append,z1,z2]
  show ((kidC K).take (i * 2)).length+_+_=_
  rw[htl]
  omega
 have hRg:∀ j,j < i * 2->ROW[j]?=(kidC K)[j]?:=fun j hj=>by
  rw[hROW,Array.append_assoc,Array.getElem?_append_left (by show j < ((kidC K).take (i * 2)).length;omega)]
  show ((kidC K).take (i * 2)).toArray[j]?=_
  rw[List.getElem?_toArray,List.getElem?_take,if_pos hj]
 obtain⟨W1,hW1⟩:∃ W1,W1=w.drew.alloc (.cells ROW 139):=⟨_,rfl⟩
 rw[<-hW1]at hrz
 have hN:W1.heap[w.heap.size]?=some (.cells ROW 139 (0,0)):=by rw[hW1];exact Aag w.drew _
 have hO:∀ k,k < w.heap.size->W1.heap[k]?=w.heap[k]?:=fun k hk=>by rw[hW1];exact Below.heap_alloc w.drew _ k hk
 have hGW:w.grownBy W1 none:=by rw[hW1];exact⟨rfl,rfl,rfl,by simp,fun k hk _=>Below.heap_alloc w.drew _ k hk⟩
 have hcpA:∀ (W:World),(∀ y,W.cell? y=W1.cell? y)->(∀ y,W.frozen? y=W1.frozen? y)->∀ ty dc,(Builtin.copy_ #[64,64] ty #[.slice (some ⟨w.heap.size,i * 2,none⟩) (K.length+1 - i) dc,.slice (some ⟨vb,0,none⟩) 1 vc]).run Tryz.prog W=.ok (goInt (1:Nat)) (W.setCells w.heap.size (i * 2) (entC x)):=fun W hWc hWf ty dc=>
  Agk W _ _ ty 139 w.heap.size (i * 2) (K.length+1 - i) dc ⟨vb,0,none⟩ 1 vc 2 1 (entC x) Tryz.underlying64 Agl (by simp only[Nat.min_def];split <;> omega) rfl
   (fun j v hj=>by
    rw[Abj,hWc,bC ((hO vb hvw).trans hv)]
    simpa using hj)
   (fun j hj=>by
    have hj':j < 2:=hj
    rw[hWc,bC hN,Array.getElem?_eq_getElem (by omega)];rfl)
   (fun j hj=>by rw[hWf];exact bF hN _) hone
 have hB1:(W1.setCells w.heap.size (i * 2) (entC x)).heap[w.heap.size]?=some (.cells (layA ROW (i * 2) (entC x)) 139 (0,0)):=Ag6 _ _ hN
 have hB2:(W1.setCells w.heap.size (i * 2) (entC x)).heap[b]?=w.heap[b]?:=(Aeu _ _ _ _ b (by omega)).trans (hO b hbw)
 have hcpB:∀ (W:World),(∀ y,W.cell? y=(W1.setCells w.heap.size (i * 2) (entC x)).cell? y)->(∀ y,W.frozen? y=(W1.setCells w.heap.size (i * 2) (entC x)).frozen? y)->∀ ty dc sc,(Builtin.copy_ #[64,64] ty #[.slice (some ⟨w.heap.size,(i+1) * 2,none⟩) (K.length - i) dc,.slice (some ⟨b,i * 2,none⟩) (K.length - i) sc]).run Tryz.prog W=.ok (goInt (K.length - i:Nat)) (W.setCells w.heap.size ((i+1) * 2) ((kidC K).drop (i * 2))):=fun W hWc hWf ty dc sc=>
  Agk W _ _ ty 139 w.heap.size ((i+1) * 2) (K.length - i) dc ⟨b,i * 2,none⟩ (K.length - i) sc 2 (K.length - i) ((kidC K).drop (i * 2)) Tryz.underlying64 Agl (by simp only[Nat.min_def];split <;> omega) hdl
   (fun j v hj=>by
    rw[Addr.add_lit,hWc,World.cell?_of_block (a:=⟨b,i * 2+j,none⟩) hB2]
    exact hcs (i * 2+j) v (by rwa [List.getElem?_drop]at hj))
   (fun j hj=>by rw[hWc,bC hB1,Array.getElem?_eq_getElem (by rw[Adl];omega)];rfl)
   (fun j hj=>by rw[hWf];exact bF hB1 _) (fun v hv=>Ait K v (List.mem_of_mem_drop hv))
 have hfin:∀ W:World,W.heap=((W1.setCells w.heap.size (i * 2) (entC x)).setCells w.heap.size ((i+1) * 2) ((kidC K).drop (i * 2))).heap->W.os=w.os->W.tape=w.tape->W.output=w.output->Ai2 base w (.slice (some ⟨b,0,none⟩) K.length c) (insK K i x) (.returned (.slice (some ⟨w.heap.size,0,none⟩) (K.length+1) G)) W:=fun W e1 e2 e3 e4=>by
  have hlen:=Ais hin x
  refine⟨_,rfl,?_,⟨e2,e3,e4,?_,fun k hk _=>?_⟩,fun k hk=>Or.inr ?_⟩
  ·rw[<-hlen]
   refine Aif hbs (by rw[e1];exact Ag6 _ _ hB1) (by omega) hgm (by rw[Adl,Adl,hRs]) fun j hj=>?_
   rw[hlen]at hj
   exact Aq2 hin (by omega) hRg x j hj
  ·rw[e1,Aez,Aez]
   exact hGW.size
  ·rw[e1,Aeu _ _ _ _ _ (by omega),Aeu _ _ _ _ _ (by omega)]
   exact hO k hk
  ·cases hk
   exact Nat.le_refl _
 have HFIN:=Hd hfin
 have hst1:=hGW.os
 have hst2:=hGW.tape
 have hst3:=hGW.output
 have hsets:∀ (vs:List Value) (b o:Nat) (W:World),(W.setCells b o vs).os=W.os/\(W.setCells b o vs).tape=W.tape/\(W.setCells b o vs).output=W.output:=fun vs=>by
  induction vs with
  | nil=>exact fun _ _ _=>⟨rfl,rfl,rfl⟩
  | cons v r ih=>exact fun b o W=>ih b (o+1) (W.setCell ⟨b,o,none⟩ v)
 have HST:=Hd (show ∀ (p q:Nat) (vs us:List Value),((W1.setCells w.heap.size p vs).setCells w.heap.size q us).os=w.os/\((W1.setCells w.heap.size p vs).setCells w.heap.size q us).tape=w.tape/\((W1.setCells w.heap.size p vs).setCells w.heap.size q us).output=w.output from fun p q vs us=>
  ⟨((hsets _ _ _ _).1.trans (hsets _ _ _ _).1).trans hst1,((hsets _ _ _ _).2.1.trans (hsets _ _ _ _).2.1).trans hst2,((hsets _ _ _ _).2.2.trans (hsets _ _ _ _).2.2).trans hst3⟩)
 have hw1:IntKind.i64.wrap ((i:Int)+1)=(i:Int)+1:=by rw[IntKind.wrap_i64];omega
 have hw2:IntKind.i64.wrap ((K.length:Int)+1)=(K.length:Int)+1:=by rw[IntKind.wrap_i64];omega
 have hw3:IntKind.i64.wrap ((K.length:Int)+1 - (i:Int))=(K.length:Int)+1 - (i:Int):=by rw[IntKind.wrap_i64];omega
 have hz2:¬ ((i:Int)=(K.length:Int)):=by omega
 have hz3:(c:Int) < (K.length:Int)+1:=by omega
 have hb1:(0:Int)<=(i:Int)+1:=by omega
 have hb3:(i:Int)<=(K.length:Int):=by omega
 have htn:((i:Int)+1).toNat=i+1:=by omega
 have hGi:¬ (G=i):=by omega
 have hGim:¬ (G=i+1):=by omega
 have hci:¬ (c=i):=by omega
 have hG63:G<=9223372036854775807:=by unfold maxLen at hgm;omega
 clear hB1 hB2 hfin hN hO hGW hRg hRs hROW hold hG hst1 hst2 hst3 hsets hkk hik
 have hE1:∀ y,((W1.setCells w.heap.size (i * 2) (entC x)).drew).cell? y=(W1.setCells w.heap.size (i * 2) (entC x)).cell? y:=fun y=>rfl
 have hE2:∀ y,((W1.setCells w.heap.size (i * 2) (entC x)).drew).frozen? y=(W1.setCells w.heap.size (i * 2) (entC x)).frozen? y:=fun y=>rfl
 clear hW1
 go_enter Tryz.func206,Tryz.ntmps206
 go_wp2_with (first
  | (at_builtin;refine Lib.wpList_append_run _ rfl _ _ _ _ rfl _ _ rfl rfl _ _ (hrz _) ?_)
  | (at_builtin;refine wpList_copy_runI _ rfl _ _ 64 64 rfl _ _ rfl rfl (hcpA _ (fun _=>rfl) (fun _=>rfl) _ _) ?_))
 go_region_law (refine step_copy_runI rfl _ _ 64 64 rfl (.slice (some ⟨w.heap.size,(i+1) * 2,none⟩) (K.length - i) (G - (i+1))) (.slice (some ⟨b,i * 2,none⟩) (K.length - i) (c - i)) (by simp[Act.eval,Act.put]) (by simp[Act.eval,Act.put]) (hcpB _ hE1 hE2 3 (G - (i+1)) (c - i)) ?_)
 go_wp2_with fail
 rw[<-drew_setCells]
 have hst:=HST.out (i * 2) ((i+1) * 2) (entC x) ((kidC K).drop (i * 2))
 go_ret
 exact HFIN.out _ rfl hst.1 hst.2.1 hst.2.2
end
theorem An5 (base:Nat)(v:Value)(K:List (List UInt8×Int))(i:Nat)(x:List UInt8×Int)(vb vc:Nat)(w:World)(ho:Aa4 w base v K)(hi:i<=K.length)(hl:K.length<=1048576)(hbs:base<=w.heap.size)
  (hv:w.heap[vb]?=some (.cells (entC x).toArray 139 (0,0))) (hvb:v.ownBlock≠some vb) :
  Calls Tryz.prog 206 #[v,.int .i64 i,.slice (some ⟨vb,0,none⟩) 1 vc] w fun e w'=>Ai2 base w v (insK K i x) e w':=by
 rcases ho.2 with ⟨rfl,h0⟩|⟨g,cap,cur,rfl,hb,hg,hn,hm,hs,ht⟩
 ·have e:i=K.length:=by omega
  subst e
  exact Aia ho (fun a n c e=>by obtain⟨-,-,rfl⟩:=Value.slice.inj e;omega) hl hbs hv
 ·by_cases e:i=K.length
  ·subst e
   by_cases hr:K.length+1<=cap
   ·exact Amm hs hm hr hb hg ht hv
   ·exact Aia ho (fun a n c e=>by obtain⟨-,-,rfl⟩:=Value.slice.inj e;omega) hl hbs hv
  ·by_cases hr:K.length+1<=cap
   ·exact As9 (by omega) hs hm hr hb hg ht hv (fun e=>hvb (by rw[e];rfl))
   ·exact Awf ho (by omega) hn (by omega) hl hbs hv
end Go.Proofs.YtkdfbliiblojoaaGreatDoor
namespace Go.Proofs.YtkdfbliiblojoaaGreatDoor
open Go Go.RowKit
theorem Aun {K:List (List UInt8×Int)}{s:List UInt8}(k:Int)(_hR:Af2 K)(hn:∀ e∈K,e.1≠s):∃ i,i<=K.length/\Aa3 K s k=insK K i (s,k)/\∀ e,BAns K s e->e=.returned (.tuple #[.int .i64 i,.bool false]):=by
 obtain⟨A,B,h1,h2,h3,h4⟩:=Agf K s k hn
 have hA:K.take A.length=A:=by rw[h1];simp
 have hB:K.drop A.length=B:=by rw[h1];simp
 refine⟨A.length,by rw[h1,List.length_append];omega,by rw[h2];unfold insK;rw[hA,hB],?_⟩
 rintro e ⟨i,v,rfl,hi,hv,hlo,hhi⟩
 have hlen:K.length=A.length+B.length:=by rw[h1,List.length_append]
 have hvf:v=false:=by
  cases v with
  | false=>rfl
  | true=>
   obtain⟨h,he⟩:=hv.1 rfl
   exact absurd he (hn _ (List.getElem_mem h))
 have hiA:i=A.length:=by
  rcases Nat.lt_trichotomy i A.length with h|h|h
  ·exfalso
   have hx:=hhi i (by omega) (Nat.le_refl _)
   have hm:K[i]'(by omega)=A[i]:=by simp only[h1,List.getElem_append_left h]
   rw[hm,h3 _ (List.getElem_mem h)]at hx
   cases hx
  ·exact h
  ·exfalso
   cases B with
   | nil=>simp only[List.length_nil]at hlen;omega
   | cons b r=>
    have hl:A.length < K.length:=by rw[hlen,List.length_cons];omega
    have hx:=hlo A.length hl h
    have hm:K[A.length]=b:=by simp only[h1];rw[List.getElem_append_right (Nat.le_refl _)];simp
    rw[hm]at hx
    have hy:=h4 b r rfl
    have h0:=Ac2 _ _ _ hx hy
    rw[Acy]at h0
    cases h0
 rw[hiA,hvf]
theorem Ala (M:List (List UInt8×Int))(hM:M.length<=1024)(hR:Af2 M)(s:List UInt8)(i:Nat)(hans:∀ e,BAns M s e->e=.returned (.tuple #[.int .i64 i,.bool false]))(ka:Option Addr)(kcap:Nat)(w:World)(hK:Abn w (.slice ka M.length kcap) M) :
  Calls Tryz.prog 201 #[.slice ka M.length kcap,.string ⟨s.toArray⟩,.func (.func 205) #[] #[]] w fun e w'=>e=.returned (.tuple #[.int .i64 i,.bool false])/\Below w.heap.size w w':=
 (Anu M hM hR s ka kcap w hK).mono fun e _ h=>⟨hans e h.1,h.2⟩
theorem Atz (K:List (List UInt8×Int))(s:List UInt8)(k:Int)(hl:K.length<=4096)(hl2:K.length<=1024)(hR:Af2 K)(hn:∀ e∈K,e.1≠s)(v:Value)(w:World)(hK:Abn w v K) :
  Calls Tryz.prog 195 #[v,.string ⟨s.toArray⟩,.int .i64 k] w fun e w'=>∃ v',e=.returned v'/\Aa4 w' w.heap.size v' (Aa3 K s k)/\Below w.heap.size w w':=by
 obtain⟨i,hi,hins,hans⟩:=Aun k hR hn
 obtain⟨ka,kc,rfl,hk1⟩:=hK
 have HK:=Hd (show Abn w (.slice ka K.length kc) K from⟨ka,kc,rfl,hk1⟩)
 have HINS:=Hd hins
 have HANS:=Hd hans
 have HR:=Hd hR
 clear hk1 hins hans hR hn
 go_enter Tryz.func195,Tryz.ntmps195
 go_wp2_with fail
 refine(Ala K hl2 HR.out s i HANS.out ka kc _ HK.out).mono ?_
 rintro e w1 ⟨rfl,hb1⟩
 have HB1:=Hd hb1
 have HK1:=Hd (HK.out.below hb1)
 clear hb1
 go_wp2_with fail
 refine(Ajn _ K (by omega) _ HK1.out).mono ?_
 rintro e w2 ⟨v2,rfl,hO2,hb2⟩
 obtain⟨va,vc,rfl⟩:=hO2.form
 have HO2:=Hd hO2
 have HB2:=Hd hb2
 have hs1:=HB1.out.size
 have hs2:=hb2.size
 clear hO2 hb2
 go_wp2_with fail
 obtain⟨w3,hw3⟩:∃ w3,w3=w2.alloc (.cells #[.string ⟨s.toArray⟩,.int .i64 k] 139):=⟨_,rfl⟩
 have hb3:Below w2.heap.size w2 w3:=by rw[hw3];exact Aab w2 _
 have hs3:w3.heap.size=w2.heap.size+1:=by rw[hw3];simp
 have hE3:w3.heap[w2.heap.size]?=some (.cells (entC (s,k)).toArray 139 (0,0)):=by rw[hw3];exact Aag w2 _
 have hO3:Aa4 w3 w.heap.size (.slice va K.length vc) K:=(HO2.out.same fun j hj=>hb3.block j ((HO2.out).lt j hj).2).lower (by omega)
 have hoff:(.slice va K.length vc:Value).ownBlock≠some w2.heap.size:=fun e=>by
  have:=(HO2.out.lt w2.heap.size e).2
  omega
 have hI:=An5 w.heap.size (.slice va K.length vc) K i (s,k) w2.heap.size 1 w3 hO3 hi (by omega) (by omega) hE3 hoff
 have HI:=Hd hI
 have HO3:=Hd hO3
 have HB3:=Hd hb3
 rw[<-hw3]
 clear hI hO3 hb3 hE3 hw3
 refine HI.out.mono ?_
 rintro e w4 ⟨v4,rfl,hk4,hg4,hv4⟩
 obtain⟨xa,xc,rfl⟩:=hk4.form
 have HK4:=Hd hk4
 have hb4:Below w.heap.size w w4:=by
  have h3:Below w.heap.size w w3:=HB1.out.trans ((HB2.out.mono (by omega)).trans (HB3.out.mono (by omega)))
  refine h3.grown hg4 (by have:=h3.size;omega) (fun r hr=>(HO3.out.lt r hr).1)
 have HB4:=Hd hb4
 clear hk4 hg4 hv4 hb4
 go_wp2_with fail
 go_ret
 exact⟨_,rfl,by rw[HINS.out];exact HK4.out,HB4.out⟩
structure Under (g:Nat)(vs:List Value)(n:Nat):Prop where
 g:g < n
 own:∀ i (hi:i < vs.length) k,vs[i].ownBlock=some k->k < n
theorem OwnT.under {W:World}{base g cap:Nat}{L:List Ino}{vs:List Value}(h:OwnT W base g cap L vs):Under g vs W.heap.size:=
 ⟨h.nodes.lt,fun i hi k hk=>((h.kids i (by rw[<-h.nodes.len];exact hi) hi).lt k hk).2⟩
theorem Awg {W w5:World}{base g cap:Nat}{L:List Ino}{vs:List Value}(hO:OwnT W base g cap L vs)(hbase:base<=W.heap.size){d:Nat}(hd:d < L.length)(hv:d < vs.length){v:Value}{M:List (List UInt8×Int)}(hk:Aa4 w5 W.heap.size v M)(hb:Below W.heap.size W w5) :
  OwnT (w5.setCell ⟨g,d * 6+4,none⟩ v) base g cap (L.set d { L[d]with kids:=M }) (vs.set d v)/\Below base W (w5.setCell ⟨g,d * 6+4,none⟩ v)/\∀ j,j < W.heap.size->j≠g->(w5.setCell ⟨g,d * 6+4,none⟩ v).heap[j]?=W.heap[j]?:=
 ⟨hO.setKids hd hv (W':=w5) ⟨hb.os,hb.tape,hb.output,hb.size,fun k hk _=>hb.block k hk⟩ (hk.lower hbase) (fun k hk'=>Or.inr (hk.lt k hk').1),(hb.mono hbase).setCell (show base<=g from hO.hbase) _,fun j hj hjg=>(Below.heap_setCell _ _ _ _ hjg).trans (hb.block j hj)⟩
theorem Atn (base g cap d k:Nat)(m b:Int)(s:List UInt8)(slash:Bool)(L:List Ino)(vs:List Value)(hd:d < L.length)(hk:k < L.length)(hdk:d≠k)(hR:Af2 L[d].kids)(hl:L[d].kids.length<=1024)(hn:∀ e∈L[d].kids,e.1≠s)
  (hlk0:0<=L[k].links) (hlk:L[k].links<=4611686018427387904) (w:World) (hbs:base<=w.heap.size) (hO:OwnT w base g cap L vs) :
  Calls Tryz.prog 184 #[.agg #[.int .i64 d,.string ⟨s.toArray⟩,.bool slash],.agg #[.slice (some ⟨g,0,none⟩) L.length cap,.int .i64 m,.int .i64 b],.int .i64 k] w fun e w'=>e=.returned (.tuple #[])/\(∃ vs',OwnT w' base g cap ((L.set d (Ad3 L[d] (Aa3 L[d].kids s k))).set k { L[k]with links:=L[k].links+1 }) vs')/\Below base w w'/\∀ n,Under g vs n->∀ j,n<=j->j < w.heap.size->w'.heap[j]?=w.heap[j]?:=by
 have HO:=Hd hO
 have HU:=Hd hO.under
 have HR:=Hd hR
 have HN:=Hd hn
 clear hO hR hn
 have hd0:(0:Int)<=(d:Int):=by omega
 have hdl:(d:Int) < (L.length:Int):=by omega
 have hk0:(0:Int)<=(k:Int):=by omega
 have hkl:(k:Int) < (L.length:Int):=by omega
 have hdv:d < vs.length:=by rw[HO.out.nodes.len];exact hd
 have hgl:=HO.out.nodes.lt
 obtain⟨ka,kc,hkv⟩:=(HO.out.kids d hd hdv).form
 have HKV:=Hd hkv
 clear hkv
 go_enter Tryz.func184,Tryz.ntmps184
 go_wp2_with fail
 obtain⟨w2,hw2,hb2,hs2,hA,hB⟩:=Aan w #[.int .i64 d,.string ⟨s.toArray⟩,.bool slash] #[.slice (some ⟨g,0,none⟩) L.length cap,.int .i64 m,.int .i64 b] 203 24
 rw[<-hw2]
 have HB2:=Hd hb2
 have HA:=Hd hA
 have HBB:=Hd hB
 have HO2:=Hd (HO.out.below hb2)
 clear hw2 hb2 hA hB
 have y4:w2.cell? ⟨g,d * 6+4,none⟩=some (.slice ka L[d].kids.length kc):=by
  have:=(HO2.out.nodes.node d hd hdv).kids
  rw[HKV.out]at this
  exact this
 have y1:w2.cell? ⟨w.heap.size,1,none⟩=some (.string ⟨s.toArray⟩):=bC HA.out 1
 have hg2:g < w2.heap.size:=Aaf y4
 have ha2:w.heap.size < w2.heap.size:=Aaf y1
 have HI:=Hd (Atz L[d].kids s k (by omega) hl HR.out HN.out (.slice ka L[d].kids.length kc) w2.drew (by
  have:=(HO2.out.kids d hd hdv).kidsIn
  rw[HKV.out]at this
  exact this))
 have HST:=Hd (show ∀ w5,Below w2.heap.size w2 w5->w5.cell? ⟨g,d * 6+4,none⟩=some (.slice ka L[d].kids.length kc)/\w5.frozen? ⟨g,d * 6+4,none⟩=false from fun w5 h5=>by
  have hN5:=HO2.out.nodes.same (h5.block g HO2.out.nodes.lt)
  have h1:=(hN5.node d hd hdv).kids
  rw[HKV.out]at h1
  exact⟨h1,hN5.free _⟩)
 have HQ:=Hd (show ∀ w5 v,Aa4 w5 w2.heap.size v (Aa3 L[d].kids s k)->Below w2.heap.size w2 w5 ->
   (w5.setCell ⟨g,d * 6+4,none⟩ v).cell? ⟨w.heap.size+1,0,none⟩=some (.slice (some ⟨g,0,none⟩) L.length cap)/\(w5.setCell ⟨g,d * 6+4,none⟩ v).cell? ⟨g,k * 6+2,none⟩=some (.int .i64 L[k].links)/\(w5.setCell ⟨g,d * 6+4,none⟩ v).frozen? ⟨g,k * 6+2,none⟩=false /\
   (∃ vs',OwnT ((w5.setCell ⟨g,d * 6+4,none⟩ v).setCell ⟨g,k * 6+2,none⟩ (.int .i64 (L[k].links+1))) base g cap ((L.set d (Ad3 L[d] (Aa3 L[d].kids s k))).set k { L[k]with links:=L[k].links+1 }) vs')/\Below base w ((w5.setCell ⟨g,d * 6+4,none⟩ v).setCell ⟨g,k * 6+2,none⟩ (.int .i64 (L[k].links+1)))/\∀ n,Under g vs n->∀ j,n<=j->j < w.heap.size->((w5.setCell ⟨g,d * 6+4,none⟩ v).setCell ⟨g,k * 6+2,none⟩ (.int .i64 (L[k].links+1))).heap[j]?=w.heap[j]? from fun w5 v h1 h2=>by
  obtain⟨hO6,hB6,hK6⟩:=Awg HO2.out (by omega) hd hdv h1 h2
  have hkL:k < (L.set d { L[d]with kids:=Aa3 L[d].kids s (k:Int) }).length:=by rw[List.length_set];exact hk
  have hkv:k < (vs.set d v).length:=by rw[List.length_set,HO.out.nodes.len];exact hk
  have hn6:=hO6.nodes.node k hkL hkv
  have hO7:=hO6.setLinks hkL (L[k].links+1)
  have hdk':(L.set d { L[d]with kids:=Aa3 L[d].kids s (k:Int) })[k]'hkL=L[k]:=List.getElem_set_ne hdk _
  have h5:=(hK6 (w.heap.size+1) (by omega) (by omega)).trans HBB.out
  refine⟨bC h5 0,?_,hO6.nodes.free _,⟨vs.set d v,?_⟩,?_,fun n hn j hnj hj=>?_⟩
  ·have:=hn6.links
   rw[hdk']at this
   exact this
  ·rw[hdk']at hO7
   exact hO7
  ·exact((HB2.out.mono hbs).trans hB6).setCell (show base<=g from HO.out.hbase) _
  ·have hjg:j≠g:=by have:=hn.g;omega
   rw[Below.heap_setCell _ _ _ _ hjg,hK6 j (by omega) hjg]
   exact HB2.out.block j hj)
 go_region_with (first|(go_at_call 195;refine HI.out.mono ?_;rintro e w5 ⟨v',rfl,hk5,hb5⟩;obtain⟨va,vc,rfl⟩:=hk5.form;have HB5:Hid (Below w2.heap.size w2 w5):=Hd ⟨hb5.os,hb5.tape,hb5.output,hb5.size,hb5.block⟩;have HK5:Hid (Aa4 w5 w2.heap.size (.slice va (Aa3 L[d].kids s k).length vc) (Aa3 L[d].kids s k)):=Hd hk5;obtain⟨z4,zf⟩:=HST.out w5 HB5.out;clear hk5 hb5))
 all_goals
  obtain⟨u1,u2,u3,hfin⟩:=HQ.out w5 _ HK5.out HB5.out
  have HFIN:=Hd hfin
  have hgu:g < (w5.setCell ⟨g,d * 6+4,none⟩ (.slice va (Aa3 L[d].kids s k).length vc)).heap.size:=Aaf u2
  clear hfin z4 zf
  generalize w5.setCell ⟨g,d * 6+4,none⟩ (.slice va (Aa3 L[d].kids s k).length vc)=w6 at *
  go_wp2_with fail
  go_end0
  exact⟨rfl,HFIN.out⟩
section
variable {B g : Nat} {A : KAd} {K : Krn} {f : List Int}
end
end Go.Proofs.YtkdfbliiblojoaaGreatDoor
