import Derived.Test.YtkdfbliiblojoaaGreatDoorK25
set_option linter.all false
set_option maxRecDepth 100000
set_option maxHeartbeats 64000000
namespace Go.Proofs.YtkdfbliiblojoaaGreatDoor
open Go Go.RowKit
def Ar3 (w:World)(m b:Int)(L':List Ino)(rest:List Value)(e:Ending)(w':World):Prop:=
 (∃ g cap vs,e=.returned (.tuple (#[.agg #[.slice (some ⟨g,0,none⟩) L'.length cap,.int .i64 m,.int .i64 b]] ++ rest.toArray))/\OwnT w' w.heap.size g cap L' vs)/\Below w.heap.size w w'
section
variable {W W' : World} {base g cap : Nat} {L : List Ino} {vs : List Value}
theorem NodesOwn.setData (h:NodesOwn W g cap L vs){i:Nat}(hi:i < L.length)(hv:i < vs.length)(d:List UInt8):NodesOwn (W.setCell ⟨g,i * 6+3,none⟩ (.string ⟨d.toArray⟩)) g cap (L.set i { L[i]with data:=d }) (vs.set i vs[i]):=by
 have hn:=h.node i hi hv
 have hc:=Ak7 (u:=.string ⟨d.toArray⟩) hn.data
 refine h.put hi (Afv _ _) (fun j=>World.frozen?_setCell ..) (fun j hj=>by rw[hc,if_neg (by omega)]) ⟨?_,?_,?_,?_,?_,?_⟩
 ·rw[hc,if_neg (by omega)];exact hn.kind
 ·rw[hc,if_neg (by omega)];exact hn.mode
 ·rw[hc,if_neg (by omega)];exact hn.links
 ·rw[hc,if_pos rfl]
 ·rw[hc,if_neg (by omega)];exact hn.kids
 ·rw[hc,if_neg (by omega)];exact hn.up
theorem OwnT.setData (h:OwnT W base g cap L vs){i:Nat}(hi:i < L.length)(d:List UInt8):OwnT (W.setCell ⟨g,i * 6+3,none⟩ (.string ⟨d.toArray⟩)) base g cap (Ae9 L i d) vs:=by
 have hv:i < vs.length:=by rw[h.nodes.len];exact hi
 have hN:=h.nodes.setData hi hv d
 rw[Alu]at hN
 unfold Ae9
 rw[Aae L i hi]
 refine⟨hN,h.hbase,fun j hj hvj=>?_,h.apart,h.off⟩
 have hj':j < L.length:=by rw[List.length_set]at hj;exact hj
 have hk:(L.set i { L[i]with data:=d })[j].kids=L[j].kids:=by
  rw[List.getElem_set]
  split
  ·rename_i e;subst e;rfl
  ·rfl
 rw[hk]
 exact(h.kids j hj' hvj).same fun k hk2=>Below.heap_setCell _ _ _ _ (fun e=>h.off j hvj (hk2.trans (congrArg some e)))
theorem RefT.setData (h:RefT W g cap L vs){i:Nat}(hi:i < L.length)(d:List UInt8):RefT (W.setCell ⟨g,i * 6+3,none⟩ (.string ⟨d.toArray⟩)) g cap (Ae9 L i d) vs:=by
 have hv:i < vs.length:=by rw[h.nodes.len];exact hi
 have hN:=h.nodes.setData hi hv d
 rw[Alu]at hN
 unfold Ae9
 rw[Aae L i hi]
 refine h.turn hN (List.length_set ..) (Afv _ _) (fun j hj=>Below.heap_setCell _ _ _ _ hj) fun j hj _ hj2 _=>.inl ⟨?_,rfl⟩
 rw[List.getElem_set]
 split
 ·rename_i e;subst e;rfl
 ·rfl
end
theorem Aoo {W W':World}{a:Option Addr}{cap:Nat}{L:List Ino}(h:Aad W a cap L)(hc:∀ b j v,W.cell? ⟨b,j,none⟩=some v->W'.cell? ⟨b,j,none⟩=some v):Aad W' a cap L:=by
 refine⟨h.1,h.2.1,fun i hi=>?_⟩
 obtain⟨b,o,e,hn⟩:=h.2.2 i hi
 obtain⟨v,hv,ka,kc,rfl,h1,h2,h3⟩:=hn.kids
 exact⟨b,o,e,⟨hc b _ _ hn.kind,hc b _ _ hn.mode,hc b _ _ hn.links,hc b _ _ hn.data,⟨_,hc b _ _ hv,ka,kc,rfl,h1,h2,fun j hj=>by
  obtain⟨b',o',e',c0,c1⟩:=h3 j hj
  exact⟨b',o',e',hc b' _ _ c0,hc b' _ _ c1⟩⟩,hc b _ _ hn.up⟩⟩
theorem Am5 {W W':World}{a:Option Addr}{cap:Nat}{L:List Ino}(h:Aad W a cap L)(hb:∀ k,k < W.heap.size->W'.heap[k]?=W.heap[k]?):Aad W' a cap L:=
 Aoo h fun b j v hv=>(World.cell?_of_block (a:=⟨b,j,none⟩) (hb b (Aaf hv))).trans hv
def Ai5 (w0 w w':World)(a:Option Addr)(cap:Nat)(L:List Ino):Prop:=∀ W':World,(∀ k,(k < w0.heap.size∨w.heap.size<=k)->k < w'.heap.size->W'.heap[k]?=w'.heap[k]?)->Aad W' a cap L
theorem Ai5.nodes {w0 w w':World}{a:Option Addr}{cap:Nat}{L:List Ino}(h:Ai5 w0 w w' a cap L):Aad w' a cap L:=h w' fun _ _ _=>rfl
theorem Ay5 {w0 w w':World}{a:Option Addr}{cap:Nat}{L:List Ino}(h0:Aad w0 a cap L)(hb:Below w0.heap.size w0 w'):Ai5 w0 w w' a cap L:=fun W' hW=>
 Am5 h0 fun k hk=>(hW k (.inl hk) (Nat.lt_of_lt_of_le hk hb.size)).trans (hb.block k hk)
theorem Any {W W':World}{v:Value}{l:List (List UInt8×Int)}(h:Abn W v l)(hb:∀ k,k < W.heap.size->W'.heap[k]?=W.heap[k]?):Abn W' v l:=by
 obtain⟨ka,kc,rfl,h1,h2,h3⟩:=h
 refine⟨ka,kc,rfl,h1,h2,fun j hj=>?_⟩
 obtain⟨b,o,e,c0,c1⟩:=h3 j hj
 exact⟨b,o,e,(World.cell?_of_block (a:=⟨b,_,none⟩) (hb b (Aaf c0))).trans c0,(World.cell?_of_block (a:=⟨b,_,none⟩) (hb b (Aaf c1))).trans c1⟩
theorem Ay6 {w0 w w':World}{g cap:Nat}{L L':List Ino}{vs:List Value}(h:NodesOwn w' g cap L' vs)(hg:w.heap.size<=g)(hk:∀ i (hi:i < L.length) (hv:i < vs.length),Abn w0 vs[i] L[i].kids)(hl:L'.length=L.length)(he:∀ i (hi:i < L.length) (hi':i < L'.length),L'[i].kids=L[i].kids)(hb:Below w0.heap.size w0 w'):Ai5 w0 w w' (some ⟨g,0,none⟩) cap L':=fun W' hW=>
 (h.same (hW g (.inr hg) h.lt)).nodesIn fun i hi hv=>by
  rw[he i (by omega) hi]
  exact Any (hk i (by omega) hv) fun k hk=>(hW k (.inl hk) (Nat.lt_of_lt_of_le hk hb.size)).trans (hb.block k hk)
def Ar5 (w0 w:World)(m b:Int)(L':List Ino)(rest:List Value)(e:Ending)(w':World):Prop:=
 (∃ a' cap',e=.returned (.tuple (#[.agg #[.slice a' L'.length cap',.int .i64 m,.int .i64 b]] ++ rest.toArray))/\Ai5 w0 w w' a' cap' L')/\Below w.heap.size w w'
theorem Ar5.ans {w0 w:World}{m b:Int}{L':List Ino}{rest:List Value}{e:Ending}{w':World}(h:Ar5 w0 w m b L' rest e w'):Akc w m b L' rest e w':=by
 obtain⟨⟨a',cap',h1,h2⟩,h3⟩:=h
 exact⟨⟨a',cap',h1,h2.nodes⟩,h3⟩
theorem Aau {v:Bool}{P:Prop}(h:v=true↔P)(hn:¬ P):v=false:=by
 cases v
 ·rfl
 ·exact absurd (h.1 rfl) hn
theorem Bbc (A:KAd)(K:Krn)(kd at_ off fl rf:Int)(v:Bool)(hv:v=true↔Abb K.tree K.pipes.length ⟨kd,at_,off,fl,rf⟩)(w:World)(hA:KernIn w A K) :
  Calls Tryz.prog 46 #[.agg #[.slice A.ta K.tree.length A.tc,.int .i64 K.m,.int .i64 K.b,.slice A.pa K.pipes.length A.pc,.slice A.oa K.opens.length A.oc,.string ⟨K.out0.toArray⟩,.string ⟨K.out1.toArray⟩],.agg #[.int .i64 kd,.int .i64 at_,.int .i64 off,.int .i64 fl,.int .i64 rf]] w fun e w'=>e=.returned (.bool v)/\Below w.heap.size w w':=by
 have HV:=Hd hv
 clear hv
 obtain⟨D0,hD0⟩:∃ D:ByteArray,D=⟨K.out0.toArray⟩:=⟨_,rfl⟩
 obtain⟨D1,hD1⟩:∃ D:ByteArray,D=⟨K.out1.toArray⟩:=⟨_,rfl⟩
 rw[<-hD0,<-hD1]
 clear hD0 hD1
 have HB:=Hd (show Below w.heap.size w ((w.alloc (.cells #[.slice A.ta K.tree.length A.tc,.int .i64 K.m,.int .i64 K.b,.slice A.pa K.pipes.length A.pc,.slice A.oa K.opens.length A.oc,.string D0,.string D1] 29)).alloc (.cells #[.int .i64 kd,.int .i64 at_,.int .i64 off,.int .i64 fl,.int .i64 rf] 70))from Af8 w _ _)
 have HA:=Hd (hA.below HB.out)
 clear hA
 by_cases k0:kd=0
 ·obtain⟨ve,hve⟩:∃ ve:Bool,ve=true↔kd=0/\at_=0/\off=0/\fl=0/\rf=0:=⟨decide _,decide_eq_true_iff⟩
  subst k0
  have hne:=fun W=>Asv 0 at_ off fl rf 0 0 0 0 0 ve hve W
  have hng2:=Ajw
  have HG:=Hd (show ve=true↔Abb K.tree K.pipes.length ⟨0,at_,off,fl,rf⟩from by
   rw[hve]
   constructor
   ·rintro⟨-,rfl,rfl,rfl,rfl⟩
    exact .inl rfl
   ·intro h
    have h1:=Amj h rfl
    simpa[Aav] using h1)
  obtain rfl:ve=v:=by
   have h1:=HG.out
   rw[<-HV.out,Bool.eq_iff_iff.symm]at h1
   exact h1
  clear hve
  go_enter Tryz.func46,Tryz.ntmps46
  go_wp2_with fail
  go_ret
  exact⟨rfl,HB.out⟩
 have k0b:(kd == 0)=false:=by simpa using k0
 by_cases c0:rf < 1
 ·have d1:decide (rf < 1)=true:=decide_eq_true c0
  have HG:=Hd (show ¬ Abb K.tree K.pipes.length ⟨kd,at_,off,fl,rf⟩from by
   rintro(h|⟨h1,h2,h3,h4,⟨h5,h6,n,hn,h7,h8⟩|⟨h5,⟨n,hn,h7⟩,h8,h9⟩|⟨h5,⟨n,hn,h7⟩,h8,h9⟩|⟨h5,h6,h7,h8⟩⟩)
   ·have:=congrArg Opn.kind h
    dsimp only[Aav]at this
    omega
   all_goals(dsimp only at *;omega))
  obtain rfl:v=false:=Aau HV.out HG.out
  clear HG
  go_enter Tryz.func46,Tryz.ntmps46
  go_wp2_with fail
  go_ret
  exact⟨rfl,HB.out⟩
 have d1:decide (rf < 1)=false:=decide_eq_false c0
 by_cases c1:1000 < rf
 ·have d2:decide (1000 < rf)=true:=decide_eq_true c1
  have HG:=Hd (show ¬ Abb K.tree K.pipes.length ⟨kd,at_,off,fl,rf⟩from by
   rintro(h|⟨h1,h2,h3,h4,⟨h5,h6,n,hn,h7,h8⟩|⟨h5,⟨n,hn,h7⟩,h8,h9⟩|⟨h5,⟨n,hn,h7⟩,h8,h9⟩|⟨h5,h6,h7,h8⟩⟩)
   ·have:=congrArg Opn.kind h
    dsimp only[Aav]at this
    omega
   all_goals(dsimp only at *;omega))
  obtain rfl:v=false:=Aau HV.out HG.out
  clear HG
  go_enter Tryz.func46,Tryz.ntmps46
  go_wp2_with fail
  go_ret
  exact⟨rfl,HB.out⟩
 have d2:decide (1000 < rf)=false:=decide_eq_false c1
 by_cases c2:off < 0
 ·have d3:decide (off < 0)=true:=decide_eq_true c2
  have HG:=Hd (show ¬ Abb K.tree K.pipes.length ⟨kd,at_,off,fl,rf⟩from by
   rintro(h|⟨h1,h2,h3,h4,⟨h5,h6,n,hn,h7,h8⟩|⟨h5,⟨n,hn,h7⟩,h8,h9⟩|⟨h5,⟨n,hn,h7⟩,h8,h9⟩|⟨h5,h6,h7,h8⟩⟩)
   ·have:=congrArg Opn.kind h
    dsimp only[Aav]at this
    omega
   all_goals(dsimp only at *;omega))
  obtain rfl:v=false:=Aau HV.out HG.out
  clear HG
  go_enter Tryz.func46,Tryz.ntmps46
  go_wp2_with fail
  go_ret
  exact⟨rfl,HB.out⟩
 have d3:decide (off < 0)=false:=decide_eq_false c2
 by_cases c3:65536 < off
 ·have d4:decide (65536 < off)=true:=decide_eq_true c3
  have HG:=Hd (show ¬ Abb K.tree K.pipes.length ⟨kd,at_,off,fl,rf⟩from by
   rintro(h|⟨h1,h2,h3,h4,⟨h5,h6,n,hn,h7,h8⟩|⟨h5,⟨n,hn,h7⟩,h8,h9⟩|⟨h5,⟨n,hn,h7⟩,h8,h9⟩|⟨h5,h6,h7,h8⟩⟩)
   ·have:=congrArg Opn.kind h
    dsimp only[Aav]at this
    omega
   all_goals(dsimp only at *;omega))
  obtain rfl:v=false:=Aau HV.out HG.out
  clear HG
  go_enter Tryz.func46,Tryz.ntmps46
  go_wp2_with fail
  go_ret
  exact⟨rfl,HB.out⟩
 have d4:decide (65536 < off)=false:=decide_eq_false c3
 by_cases k1:kd=1
 ·subst k1
  by_cases hfl:fl=1∨fl=2∨fl=3∨fl=6∨fl=7
  rotate_left
  ·have e1:(fl == 1)=false:=by rw[beq_eq_false_iff_ne];omega
   have e2:(fl == 2)=false:=by rw[beq_eq_false_iff_ne];omega
   have e3:(fl == 3)=false:=by rw[beq_eq_false_iff_ne];omega
   have e6:(fl == 6)=false:=by rw[beq_eq_false_iff_ne];omega
   have e7:(fl == 7)=false:=by rw[beq_eq_false_iff_ne];omega
   have HG:=Hd (show ¬ Abb K.tree K.pipes.length ⟨1,at_,off,fl,rf⟩from by
    rintro(h|⟨h1,h2,h3,h4,⟨h5,h6,n,hn,h7,h8⟩|⟨h5,⟨n,hn,h7⟩,h8,h9⟩|⟨h5,⟨n,hn,h7⟩,h8,h9⟩|⟨h5,h6,h7,h8⟩⟩)
    ·have:=congrArg Opn.kind h
     dsimp only[Aav]at this
     omega
    all_goals(dsimp only at *;omega))
   obtain rfl:v=false:=Aau HV.out HG.out
   clear HG
   go_enter Tryz.func46,Tryz.ntmps46
   go_wp2_with fail
   go_ret
   exact⟨rfl,HB.out⟩
  by_cases a0:at_ < 0
  ·have a0d:decide (0<=at_)=false:=decide_eq_false (by omega)
   rcases hfl with rfl|rfl|rfl|rfl|rfl
   ·have HG:=Hd (show ¬ Abb K.tree K.pipes.length ⟨1,at_,off,1,rf⟩from by
     rintro(h|⟨h1,h2,h3,h4,⟨h5,h6,n,hn,h7,h8⟩|⟨h5,⟨n,hn,h7⟩,h8,h9⟩|⟨h5,⟨n,hn,h7⟩,h8,h9⟩|⟨h5,h6,h7,h8⟩⟩)
     ·have:=congrArg Opn.kind h
      dsimp only[Aav]at this
      omega
     all_goals(dsimp only at *;omega))
    obtain rfl:v=false:=Aau HV.out HG.out
    clear HG
    go_enter Tryz.func46,Tryz.ntmps46
    go_wp2_with fail
    go_ret
    exact⟨rfl,HB.out⟩
   ·have HG:=Hd (show ¬ Abb K.tree K.pipes.length ⟨1,at_,off,2,rf⟩from by
     rintro(h|⟨h1,h2,h3,h4,⟨h5,h6,n,hn,h7,h8⟩|⟨h5,⟨n,hn,h7⟩,h8,h9⟩|⟨h5,⟨n,hn,h7⟩,h8,h9⟩|⟨h5,h6,h7,h8⟩⟩)
     ·have:=congrArg Opn.kind h
      dsimp only[Aav]at this
      omega
     all_goals(dsimp only at *;omega))
    obtain rfl:v=false:=Aau HV.out HG.out
    clear HG
    go_enter Tryz.func46,Tryz.ntmps46
    go_wp2_with fail
    go_ret
    exact⟨rfl,HB.out⟩
   ·have HG:=Hd (show ¬ Abb K.tree K.pipes.length ⟨1,at_,off,3,rf⟩from by
     rintro(h|⟨h1,h2,h3,h4,⟨h5,h6,n,hn,h7,h8⟩|⟨h5,⟨n,hn,h7⟩,h8,h9⟩|⟨h5,⟨n,hn,h7⟩,h8,h9⟩|⟨h5,h6,h7,h8⟩⟩)
     ·have:=congrArg Opn.kind h
      dsimp only[Aav]at this
      omega
     all_goals(dsimp only at *;omega))
    obtain rfl:v=false:=Aau HV.out HG.out
    clear HG
    go_enter Tryz.func46,Tryz.ntmps46
    go_wp2_with fail
    go_ret
    exact⟨rfl,HB.out⟩
   ·have HG:=Hd (show ¬ Abb K.tree K.pipes.length ⟨1,at_,off,6,rf⟩from by
     rintro(h|⟨h1,h2,h3,h4,⟨h5,h6,n,hn,h7,h8⟩|⟨h5,⟨n,hn,h7⟩,h8,h9⟩|⟨h5,⟨n,hn,h7⟩,h8,h9⟩|⟨h5,h6,h7,h8⟩⟩)
     ·have:=congrArg Opn.kind h
      dsimp only[Aav]at this
      omega
     all_goals(dsimp only at *;omega))
    obtain rfl:v=false:=Aau HV.out HG.out
    clear HG
    go_enter Tryz.func46,Tryz.ntmps46
    go_wp2_with fail
    go_ret
    exact⟨rfl,HB.out⟩
   ·have HG:=Hd (show ¬ Abb K.tree K.pipes.length ⟨1,at_,off,7,rf⟩from by
     rintro(h|⟨h1,h2,h3,h4,⟨h5,h6,n,hn,h7,h8⟩|⟨h5,⟨n,hn,h7⟩,h8,h9⟩|⟨h5,⟨n,hn,h7⟩,h8,h9⟩|⟨h5,h6,h7,h8⟩⟩)
     ·have:=congrArg Opn.kind h
      dsimp only[Aav]at this
      omega
     all_goals(dsimp only at *;omega))
    obtain rfl:v=false:=Aau HV.out HG.out
    clear HG
    go_enter Tryz.func46,Tryz.ntmps46
    go_wp2_with fail
    go_ret
    exact⟨rfl,HB.out⟩
  have a0d:decide (0<=at_)=true:=decide_eq_true (by omega)
  by_cases a1:at_ < (K.tree.length:Int)
  rotate_left
  ·have a1d:decide (at_ < (K.tree.length:Int))=false:=decide_eq_false a1
   rcases hfl with rfl|rfl|rfl|rfl|rfl
   ·have HG:=Hd (show ¬ Abb K.tree K.pipes.length ⟨1,at_,off,1,rf⟩from by
     rintro(h|⟨h1,h2,h3,h4,⟨h5,h6,n,hn,h7,h8⟩|⟨h5,⟨n,hn,h7⟩,h8,h9⟩|⟨h5,⟨n,hn,h7⟩,h8,h9⟩|⟨h5,h6,h7,h8⟩⟩)
     ·have:=congrArg Opn.kind h
      dsimp only[Aav]at this
      omega
     all_goals(dsimp only at *;omega))
    obtain rfl:v=false:=Aau HV.out HG.out
    clear HG
    go_enter Tryz.func46,Tryz.ntmps46
    go_wp2_with fail
    go_ret
    exact⟨rfl,HB.out⟩
   ·have HG:=Hd (show ¬ Abb K.tree K.pipes.length ⟨1,at_,off,2,rf⟩from by
     rintro(h|⟨h1,h2,h3,h4,⟨h5,h6,n,hn,h7,h8⟩|⟨h5,⟨n,hn,h7⟩,h8,h9⟩|⟨h5,⟨n,hn,h7⟩,h8,h9⟩|⟨h5,h6,h7,h8⟩⟩)
     ·have:=congrArg Opn.kind h
      dsimp only[Aav]at this
      omega
     all_goals(dsimp only at *;omega))
    obtain rfl:v=false:=Aau HV.out HG.out
    clear HG
    go_enter Tryz.func46,Tryz.ntmps46
    go_wp2_with fail
    go_ret
    exact⟨rfl,HB.out⟩
   ·have HG:=Hd (show ¬ Abb K.tree K.pipes.length ⟨1,at_,off,3,rf⟩from by
     rintro(h|⟨h1,h2,h3,h4,⟨h5,h6,n,hn,h7,h8⟩|⟨h5,⟨n,hn,h7⟩,h8,h9⟩|⟨h5,⟨n,hn,h7⟩,h8,h9⟩|⟨h5,h6,h7,h8⟩⟩)
     ·have:=congrArg Opn.kind h
      dsimp only[Aav]at this
      omega
     all_goals(dsimp only at *;omega))
    obtain rfl:v=false:=Aau HV.out HG.out
    clear HG
    go_enter Tryz.func46,Tryz.ntmps46
    go_wp2_with fail
    go_ret
    exact⟨rfl,HB.out⟩
   ·have HG:=Hd (show ¬ Abb K.tree K.pipes.length ⟨1,at_,off,6,rf⟩from by
     rintro(h|⟨h1,h2,h3,h4,⟨h5,h6,n,hn,h7,h8⟩|⟨h5,⟨n,hn,h7⟩,h8,h9⟩|⟨h5,⟨n,hn,h7⟩,h8,h9⟩|⟨h5,h6,h7,h8⟩⟩)
     ·have:=congrArg Opn.kind h
      dsimp only[Aav]at this
      omega
     all_goals(dsimp only at *;omega))
    obtain rfl:v=false:=Aau HV.out HG.out
    clear HG
    go_enter Tryz.func46,Tryz.ntmps46
    go_wp2_with fail
    go_ret
    exact⟨rfl,HB.out⟩
   ·have HG:=Hd (show ¬ Abb K.tree K.pipes.length ⟨1,at_,off,7,rf⟩from by
     rintro(h|⟨h1,h2,h3,h4,⟨h5,h6,n,hn,h7,h8⟩|⟨h5,⟨n,hn,h7⟩,h8,h9⟩|⟨h5,⟨n,hn,h7⟩,h8,h9⟩|⟨h5,h6,h7,h8⟩⟩)
     ·have:=congrArg Opn.kind h
      dsimp only[Aav]at this
      omega
     all_goals(dsimp only at *;omega))
    obtain rfl:v=false:=Aau HV.out HG.out
    clear HG
    go_enter Tryz.func46,Tryz.ntmps46
    go_wp2_with fail
    go_ret
    exact⟨rfl,HB.out⟩
  have a1d:decide (at_ < (K.tree.length:Int))=true:=decide_eq_true a1
  obtain⟨n,rfl⟩:∃ n:Nat,at_=(n:Int):=⟨at_.toNat,by omega⟩
  have hn:n < K.tree.length:=by omega
  obtain⟨bb,oo,hta,hx⟩:=HA.out.tree.2.2 n hn
  have x0:=hx.kind
  have xl:=Aaf x0
  have b0:(0:Int)<=(n:Int):=by omega
  rw[hta]at x0 xl HB ⊢
  obtain⟨kn,hkn⟩:∃ kn,kn=K.tree[n].kind:=⟨_,rfl⟩
  rw[<-hkn]at x0
  by_cases h1:kn=1
  ·have h1b:(kn == 1)=true:=by simpa using h1
   rcases hfl with rfl|rfl|rfl|rfl|rfl
   ·have HG:=Hd (show Abb K.tree K.pipes.length ⟨1,(n:Int),off,1,rf⟩from(.inr ⟨by show (1:Int)<=rf;omega,by show rf<=1000;omega,by show 0<=off;omega,by show off<=65536;omega,.inl ⟨rfl,by simp,n,hn,rfl,by rw[<-hkn];exact h1⟩⟩))
    obtain rfl:v=true:=HV.out.2 HG.out
    clear HG
    clear hkn hx
    go_enter Tryz.func46,Tryz.ntmps46
    go_wp2_with fail
    go_ret
    exact⟨rfl,HB.out⟩
   ·have HG:=Hd (show Abb K.tree K.pipes.length ⟨1,(n:Int),off,2,rf⟩from(.inr ⟨by show (1:Int)<=rf;omega,by show rf<=1000;omega,by show 0<=off;omega,by show off<=65536;omega,.inl ⟨rfl,by simp,n,hn,rfl,by rw[<-hkn];exact h1⟩⟩))
    obtain rfl:v=true:=HV.out.2 HG.out
    clear HG
    clear hkn hx
    go_enter Tryz.func46,Tryz.ntmps46
    go_wp2_with fail
    go_ret
    exact⟨rfl,HB.out⟩
   ·have HG:=Hd (show Abb K.tree K.pipes.length ⟨1,(n:Int),off,3,rf⟩from(.inr ⟨by show (1:Int)<=rf;omega,by show rf<=1000;omega,by show 0<=off;omega,by show off<=65536;omega,.inl ⟨rfl,by simp,n,hn,rfl,by rw[<-hkn];exact h1⟩⟩))
    obtain rfl:v=true:=HV.out.2 HG.out
    clear HG
    clear hkn hx
    go_enter Tryz.func46,Tryz.ntmps46
    go_wp2_with fail
    go_ret
    exact⟨rfl,HB.out⟩
   ·have HG:=Hd (show Abb K.tree K.pipes.length ⟨1,(n:Int),off,6,rf⟩from(.inr ⟨by show (1:Int)<=rf;omega,by show rf<=1000;omega,by show 0<=off;omega,by show off<=65536;omega,.inl ⟨rfl,by simp,n,hn,rfl,by rw[<-hkn];exact h1⟩⟩))
    obtain rfl:v=true:=HV.out.2 HG.out
    clear HG
    clear hkn hx
    go_enter Tryz.func46,Tryz.ntmps46
    go_wp2_with fail
    go_ret
    exact⟨rfl,HB.out⟩
   ·have HG:=Hd (show Abb K.tree K.pipes.length ⟨1,(n:Int),off,7,rf⟩from(.inr ⟨by show (1:Int)<=rf;omega,by show rf<=1000;omega,by show 0<=off;omega,by show off<=65536;omega,.inl ⟨rfl,by simp,n,hn,rfl,by rw[<-hkn];exact h1⟩⟩))
    obtain rfl:v=true:=HV.out.2 HG.out
    clear HG
    clear hkn hx
    go_enter Tryz.func46,Tryz.ntmps46
    go_wp2_with fail
    go_ret
    exact⟨rfl,HB.out⟩
  ·have h1b:(kn == 1)=false:=by simpa using h1
   rcases hfl with rfl|rfl|rfl|rfl|rfl
   ·have HG:=Hd (show ¬ Abb K.tree K.pipes.length ⟨1,(n:Int),off,1,rf⟩from by
     rintro(h|⟨h1',h2,h3,h4,⟨h5,h6,n',hn',h7,h8⟩|⟨h5,⟨n',hn',h7⟩,h8,h9⟩|⟨h5,⟨n',hn',h7⟩,h8,h9⟩|⟨h5,h6,h7,h8⟩⟩)
     ·have:=congrArg Opn.kind h
      dsimp only[Aav]at this
      omega
     ·dsimp only at h7
      obtain rfl:n=n':=by omega
      exact h1 (by rw[hkn];exact h8)
     all_goals(dsimp only at *;omega))
    obtain rfl:v=false:=Aau HV.out HG.out
    clear hkn hx HG
    go_enter Tryz.func46,Tryz.ntmps46
    go_wp2_with fail
    go_ret
    exact⟨rfl,HB.out⟩
   ·have HG:=Hd (show ¬ Abb K.tree K.pipes.length ⟨1,(n:Int),off,2,rf⟩from by
     rintro(h|⟨h1',h2,h3,h4,⟨h5,h6,n',hn',h7,h8⟩|⟨h5,⟨n',hn',h7⟩,h8,h9⟩|⟨h5,⟨n',hn',h7⟩,h8,h9⟩|⟨h5,h6,h7,h8⟩⟩)
     ·have:=congrArg Opn.kind h
      dsimp only[Aav]at this
      omega
     ·dsimp only at h7
      obtain rfl:n=n':=by omega
      exact h1 (by rw[hkn];exact h8)
     all_goals(dsimp only at *;omega))
    obtain rfl:v=false:=Aau HV.out HG.out
    clear hkn hx HG
    go_enter Tryz.func46,Tryz.ntmps46
    go_wp2_with fail
    go_ret
    exact⟨rfl,HB.out⟩
   ·have HG:=Hd (show ¬ Abb K.tree K.pipes.length ⟨1,(n:Int),off,3,rf⟩from by
     rintro(h|⟨h1',h2,h3,h4,⟨h5,h6,n',hn',h7,h8⟩|⟨h5,⟨n',hn',h7⟩,h8,h9⟩|⟨h5,⟨n',hn',h7⟩,h8,h9⟩|⟨h5,h6,h7,h8⟩⟩)
     ·have:=congrArg Opn.kind h
      dsimp only[Aav]at this
      omega
     ·dsimp only at h7
      obtain rfl:n=n':=by omega
      exact h1 (by rw[hkn];exact h8)
     all_goals(dsimp only at *;omega))
    obtain rfl:v=false:=Aau HV.out HG.out
    clear hkn hx HG
    go_enter Tryz.func46,Tryz.ntmps46
    go_wp2_with fail
    go_ret
    exact⟨rfl,HB.out⟩
   ·have HG:=Hd (show ¬ Abb K.tree K.pipes.length ⟨1,(n:Int),off,6,rf⟩from by
     rintro(h|⟨h1',h2,h3,h4,⟨h5,h6,n',hn',h7,h8⟩|⟨h5,⟨n',hn',h7⟩,h8,h9⟩|⟨h5,⟨n',hn',h7⟩,h8,h9⟩|⟨h5,h6,h7,h8⟩⟩)
     ·have:=congrArg Opn.kind h
      dsimp only[Aav]at this
      omega
     ·dsimp only at h7
      obtain rfl:n=n':=by omega
      exact h1 (by rw[hkn];exact h8)
     all_goals(dsimp only at *;omega))
    obtain rfl:v=false:=Aau HV.out HG.out
    clear hkn hx HG
    go_enter Tryz.func46,Tryz.ntmps46
    go_wp2_with fail
    go_ret
    exact⟨rfl,HB.out⟩
   ·have HG:=Hd (show ¬ Abb K.tree K.pipes.length ⟨1,(n:Int),off,7,rf⟩from by
     rintro(h|⟨h1',h2,h3,h4,⟨h5,h6,n',hn',h7,h8⟩|⟨h5,⟨n',hn',h7⟩,h8,h9⟩|⟨h5,⟨n',hn',h7⟩,h8,h9⟩|⟨h5,h6,h7,h8⟩⟩)
     ·have:=congrArg Opn.kind h
      dsimp only[Aav]at this
      omega
     ·dsimp only at h7
      obtain rfl:n=n':=by omega
      exact h1 (by rw[hkn];exact h8)
     all_goals(dsimp only at *;omega))
    obtain rfl:v=false:=Aau HV.out HG.out
    clear hkn hx HG
    go_enter Tryz.func46,Tryz.ntmps46
    go_wp2_with fail
    go_ret
    exact⟨rfl,HB.out⟩
 have k1b:(kd == 1)=false:=by simpa using k1
 by_cases k2:kd=2
 ·subst k2
  by_cases a0:0<=at_
  rotate_left
  ·have a0d:decide (0<=at_)=false:=decide_eq_false a0
   have HG:=Hd (show ¬ Abb K.tree K.pipes.length ⟨2,at_,off,fl,rf⟩from by
    rintro(h|⟨h1,h2,h3,h4,⟨h5,h6,n,hn,h7,h8⟩|⟨h5,⟨n,hn,h7⟩,h8,h9⟩|⟨h5,⟨n,hn,h7⟩,h8,h9⟩|⟨h5,h6,h7,h8⟩⟩)
    ·have:=congrArg Opn.kind h
     dsimp only[Aav]at this
     omega
    all_goals(dsimp only at *;omega))
   obtain rfl:v=false:=Aau HV.out HG.out
   clear HG
   go_enter Tryz.func46,Tryz.ntmps46
   go_wp2_with fail
   go_ret
   exact⟨rfl,HB.out⟩
  have a0d:decide (0<=at_)=true:=decide_eq_true a0
  by_cases a1:at_ < (K.pipes.length:Int)
  rotate_left
  ·have a1d:decide (at_ < (K.pipes.length:Int))=false:=decide_eq_false a1
   have HG:=Hd (show ¬ Abb K.tree K.pipes.length ⟨2,at_,off,fl,rf⟩from by
    rintro(h|⟨h1,h2,h3,h4,⟨h5,h6,n,hn,h7,h8⟩|⟨h5,⟨n,hn,h7⟩,h8,h9⟩|⟨h5,⟨n,hn,h7⟩,h8,h9⟩|⟨h5,h6,h7,h8⟩⟩)
    ·have:=congrArg Opn.kind h
     dsimp only[Aav]at this
     omega
    all_goals(dsimp only at *;omega))
   obtain rfl:v=false:=Aau HV.out HG.out
   clear HG
   go_enter Tryz.func46,Tryz.ntmps46
   go_wp2_with fail
   go_ret
   exact⟨rfl,HB.out⟩
  have a1d:decide (at_ < (K.pipes.length:Int))=true:=decide_eq_true a1
  by_cases a2:off=0
  rotate_left
  ·have a2d:(off == 0)=false:=by simpa using a2
   have HG:=Hd (show ¬ Abb K.tree K.pipes.length ⟨2,at_,off,fl,rf⟩from by
    rintro(h|⟨h1,h2,h3,h4,⟨h5,h6,n,hn,h7,h8⟩|⟨h5,⟨n,hn,h7⟩,h8,h9⟩|⟨h5,⟨n,hn,h7⟩,h8,h9⟩|⟨h5,h6,h7,h8⟩⟩)
    ·have:=congrArg Opn.kind h
     dsimp only[Aav]at this
     omega
    all_goals(dsimp only at *;omega))
   obtain rfl:v=false:=Aau HV.out HG.out
   clear HG
   go_enter Tryz.func46,Tryz.ntmps46
   go_wp2_with fail
   go_ret
   exact⟨rfl,HB.out⟩
  subst a2
  by_cases a3:fl=1
  rotate_left
  ·have a3d:(fl == 1)=false:=by simpa using a3
   have HG:=Hd (show ¬ Abb K.tree K.pipes.length ⟨2,at_,0,fl,rf⟩from by
    rintro(h|⟨h1,h2,h3,h4,⟨h5,h6,n,hn,h7,h8⟩|⟨h5,⟨n,hn,h7⟩,h8,h9⟩|⟨h5,⟨n,hn,h7⟩,h8,h9⟩|⟨h5,h6,h7,h8⟩⟩)
    ·have:=congrArg Opn.kind h
     dsimp only[Aav]at this
     omega
    all_goals(dsimp only at *;omega))
   obtain rfl:v=false:=Aau HV.out HG.out
   clear HG
   go_enter Tryz.func46,Tryz.ntmps46
   go_wp2_with fail
   go_ret
   exact⟨rfl,HB.out⟩
  subst a3
  have HG:=Hd (show Abb K.tree K.pipes.length ⟨2,at_,0,1,rf⟩from(.inr ⟨by show (1:Int)<=rf;omega,by show rf<=1000;omega,by show (0:Int)<=0;omega,by show (0:Int)<=65536;omega,.inr (.inl ⟨rfl,⟨at_.toNat,by omega,by show at_=_;omega⟩,rfl,rfl⟩)⟩))
  obtain rfl:v=true:=HV.out.2 HG.out
  clear HG
  go_enter Tryz.func46,Tryz.ntmps46
  go_wp2_with fail
  go_ret
  exact⟨rfl,HB.out⟩
 have k2b:(kd == 2)=false:=by simpa using k2
 by_cases k3:kd=3
 ·subst k3
  by_cases a0:0<=at_
  rotate_left
  ·have a0d:decide (0<=at_)=false:=decide_eq_false a0
   have HG:=Hd (show ¬ Abb K.tree K.pipes.length ⟨3,at_,off,fl,rf⟩from by
    rintro(h|⟨h1,h2,h3,h4,⟨h5,h6,n,hn,h7,h8⟩|⟨h5,⟨n,hn,h7⟩,h8,h9⟩|⟨h5,⟨n,hn,h7⟩,h8,h9⟩|⟨h5,h6,h7,h8⟩⟩)
    ·have:=congrArg Opn.kind h
     dsimp only[Aav]at this
     omega
    all_goals(dsimp only at *;omega))
   obtain rfl:v=false:=Aau HV.out HG.out
   clear HG
   go_enter Tryz.func46,Tryz.ntmps46
   go_wp2_with fail
   go_ret
   exact⟨rfl,HB.out⟩
  have a0d:decide (0<=at_)=true:=decide_eq_true a0
  by_cases a1:at_ < (K.pipes.length:Int)
  rotate_left
  ·have a1d:decide (at_ < (K.pipes.length:Int))=false:=decide_eq_false a1
   have HG:=Hd (show ¬ Abb K.tree K.pipes.length ⟨3,at_,off,fl,rf⟩from by
    rintro(h|⟨h1,h2,h3,h4,⟨h5,h6,n,hn,h7,h8⟩|⟨h5,⟨n,hn,h7⟩,h8,h9⟩|⟨h5,⟨n,hn,h7⟩,h8,h9⟩|⟨h5,h6,h7,h8⟩⟩)
    ·have:=congrArg Opn.kind h
     dsimp only[Aav]at this
     omega
    all_goals(dsimp only at *;omega))
   obtain rfl:v=false:=Aau HV.out HG.out
   clear HG
   go_enter Tryz.func46,Tryz.ntmps46
   go_wp2_with fail
   go_ret
   exact⟨rfl,HB.out⟩
  have a1d:decide (at_ < (K.pipes.length:Int))=true:=decide_eq_true a1
  by_cases a2:off=0
  rotate_left
  ·have a2d:(off == 0)=false:=by simpa using a2
   have HG:=Hd (show ¬ Abb K.tree K.pipes.length ⟨3,at_,off,fl,rf⟩from by
    rintro(h|⟨h1,h2,h3,h4,⟨h5,h6,n,hn,h7,h8⟩|⟨h5,⟨n,hn,h7⟩,h8,h9⟩|⟨h5,⟨n,hn,h7⟩,h8,h9⟩|⟨h5,h6,h7,h8⟩⟩)
    ·have:=congrArg Opn.kind h
     dsimp only[Aav]at this
     omega
    all_goals(dsimp only at *;omega))
   obtain rfl:v=false:=Aau HV.out HG.out
   clear HG
   go_enter Tryz.func46,Tryz.ntmps46
   go_wp2_with fail
   go_ret
   exact⟨rfl,HB.out⟩
  subst a2
  by_cases a3:fl=2
  rotate_left
  ·have a3d:(fl == 2)=false:=by simpa using a3
   have HG:=Hd (show ¬ Abb K.tree K.pipes.length ⟨3,at_,0,fl,rf⟩from by
    rintro(h|⟨h1,h2,h3,h4,⟨h5,h6,n,hn,h7,h8⟩|⟨h5,⟨n,hn,h7⟩,h8,h9⟩|⟨h5,⟨n,hn,h7⟩,h8,h9⟩|⟨h5,h6,h7,h8⟩⟩)
    ·have:=congrArg Opn.kind h
     dsimp only[Aav]at this
     omega
    all_goals(dsimp only at *;omega))
   obtain rfl:v=false:=Aau HV.out HG.out
   clear HG
   go_enter Tryz.func46,Tryz.ntmps46
   go_wp2_with fail
   go_ret
   exact⟨rfl,HB.out⟩
  subst a3
  have HG:=Hd (show Abb K.tree K.pipes.length ⟨3,at_,0,2,rf⟩from(.inr ⟨by show (1:Int)<=rf;omega,by show rf<=1000;omega,by show (0:Int)<=0;omega,by show (0:Int)<=65536;omega,.inr (.inr (.inl ⟨rfl,⟨at_.toNat,by omega,by show at_=_;omega⟩,rfl,rfl⟩))⟩))
  obtain rfl:v=true:=HV.out.2 HG.out
  clear HG
  go_enter Tryz.func46,Tryz.ntmps46
  go_wp2_with fail
  go_ret
  exact⟨rfl,HB.out⟩
 have k3b:(kd == 3)=false:=by simpa using k3
 by_cases k4:kd=4
 ·subst k4
  by_cases a0:at_=0∨at_=1
  rotate_left
  ·have a0d:(at_ == 0)=false:=by rw[beq_eq_false_iff_ne];omega
   have a1d:(at_ == 1)=false:=by rw[beq_eq_false_iff_ne];omega
   have HG:=Hd (show ¬ Abb K.tree K.pipes.length ⟨4,at_,off,fl,rf⟩from by
    rintro(h|⟨h1,h2,h3,h4,⟨h5,h6,n,hn,h7,h8⟩|⟨h5,⟨n,hn,h7⟩,h8,h9⟩|⟨h5,⟨n,hn,h7⟩,h8,h9⟩|⟨h5,h6,h7,h8⟩⟩)
    ·have:=congrArg Opn.kind h
     dsimp only[Aav]at this
     omega
    all_goals(dsimp only at *;omega))
   obtain rfl:v=false:=Aau HV.out HG.out
   clear HG
   go_enter Tryz.func46,Tryz.ntmps46
   go_wp2_with fail
   go_ret
   exact⟨rfl,HB.out⟩
  by_cases a2:off=0
  rotate_left
  ·have a2d:(off == 0)=false:=by simpa using a2
   rcases a0 with rfl|rfl
   ·have HG:=Hd (show ¬ Abb K.tree K.pipes.length ⟨4,0,off,fl,rf⟩from by
     rintro(h|⟨h1,h2,h3,h4,⟨h5,h6,n,hn,h7,h8⟩|⟨h5,⟨n,hn,h7⟩,h8,h9⟩|⟨h5,⟨n,hn,h7⟩,h8,h9⟩|⟨h5,h6,h7,h8⟩⟩)
     ·have:=congrArg Opn.kind h
      dsimp only[Aav]at this
      omega
     all_goals(dsimp only at *;omega))
    obtain rfl:v=false:=Aau HV.out HG.out
    clear HG
    go_enter Tryz.func46,Tryz.ntmps46
    go_wp2_with fail
    go_ret
    exact⟨rfl,HB.out⟩
   ·have HG:=Hd (show ¬ Abb K.tree K.pipes.length ⟨4,1,off,fl,rf⟩from by
     rintro(h|⟨h1,h2,h3,h4,⟨h5,h6,n,hn,h7,h8⟩|⟨h5,⟨n,hn,h7⟩,h8,h9⟩|⟨h5,⟨n,hn,h7⟩,h8,h9⟩|⟨h5,h6,h7,h8⟩⟩)
     ·have:=congrArg Opn.kind h
      dsimp only[Aav]at this
      omega
     all_goals(dsimp only at *;omega))
    obtain rfl:v=false:=Aau HV.out HG.out
    clear HG
    go_enter Tryz.func46,Tryz.ntmps46
    go_wp2_with fail
    go_ret
    exact⟨rfl,HB.out⟩
  subst a2
  by_cases a3:fl=2
  rotate_left
  ·have a3d:(fl == 2)=false:=by simpa using a3
   rcases a0 with rfl|rfl
   ·have HG:=Hd (show ¬ Abb K.tree K.pipes.length ⟨4,0,0,fl,rf⟩from by
     rintro(h|⟨h1,h2,h3,h4,⟨h5,h6,n,hn,h7,h8⟩|⟨h5,⟨n,hn,h7⟩,h8,h9⟩|⟨h5,⟨n,hn,h7⟩,h8,h9⟩|⟨h5,h6,h7,h8⟩⟩)
     ·have:=congrArg Opn.kind h
      dsimp only[Aav]at this
      omega
     all_goals(dsimp only at *;omega))
    obtain rfl:v=false:=Aau HV.out HG.out
    clear HG
    go_enter Tryz.func46,Tryz.ntmps46
    go_wp2_with fail
    go_ret
    exact⟨rfl,HB.out⟩
   ·have HG:=Hd (show ¬ Abb K.tree K.pipes.length ⟨4,1,0,fl,rf⟩from by
     rintro(h|⟨h1,h2,h3,h4,⟨h5,h6,n,hn,h7,h8⟩|⟨h5,⟨n,hn,h7⟩,h8,h9⟩|⟨h5,⟨n,hn,h7⟩,h8,h9⟩|⟨h5,h6,h7,h8⟩⟩)
     ·have:=congrArg Opn.kind h
      dsimp only[Aav]at this
      omega
     all_goals(dsimp only at *;omega))
    obtain rfl:v=false:=Aau HV.out HG.out
    clear HG
    go_enter Tryz.func46,Tryz.ntmps46
    go_wp2_with fail
    go_ret
    exact⟨rfl,HB.out⟩
  subst a3
  rcases a0 with rfl|rfl
  ·have HG:=Hd (show Abb K.tree K.pipes.length ⟨4,0,0,2,rf⟩from(.inr ⟨by show (1:Int)<=rf;omega,by show rf<=1000;omega,by show (0:Int)<=0;omega,by show (0:Int)<=65536;omega,.inr (.inr (.inr ⟨rfl,.inl rfl,rfl,rfl⟩))⟩))
   obtain rfl:v=true:=HV.out.2 HG.out
   clear HG
   go_enter Tryz.func46,Tryz.ntmps46
   go_wp2_with fail
   go_ret
   exact⟨rfl,HB.out⟩
  ·have HG:=Hd (show Abb K.tree K.pipes.length ⟨4,1,0,2,rf⟩from(.inr ⟨by show (1:Int)<=rf;omega,by show rf<=1000;omega,by show (0:Int)<=0;omega,by show (0:Int)<=65536;omega,.inr (.inr (.inr ⟨rfl,.inr rfl,rfl,rfl⟩))⟩))
   obtain rfl:v=true:=HV.out.2 HG.out
   clear HG
   go_enter Tryz.func46,Tryz.ntmps46
   go_wp2_with fail
   go_ret
   exact⟨rfl,HB.out⟩
 have k4b:(kd == 4)=false:=by simpa using k4
 have HG:=Hd (show ¬ Abb K.tree K.pipes.length ⟨kd,at_,off,fl,rf⟩from by
  rintro(h|⟨h1,h2,h3,h4,⟨h5,h6,n,hn,h7,h8⟩|⟨h5,⟨n,hn,h7⟩,h8,h9⟩|⟨h5,⟨n,hn,h7⟩,h8,h9⟩|⟨h5,h6,h7,h8⟩⟩)
  ·have:=congrArg Opn.kind h
   dsimp only[Aav]at this
   omega
  all_goals(dsimp only at *;omega))
 obtain rfl:v=false:=Aau HV.out HG.out
 clear HG
 go_enter Tryz.func46,Tryz.ntmps46
 go_wp2_with fail
 go_ret
 exact⟨rfl,HB.out⟩
theorem Azn (p:Pip)(hF:Ace p=true)(S:ByteArray)(hS:S.size<=281474976710656)(q:Pip)(k er:Int)(hz:Abu p S.data.toList=(q,k,er))(w:World) :
  Calls Tryz.prog 135 #[.agg #[.string ⟨p.data.toArray⟩,.int .i64 p.rd,.int .i64 p.wr,.int .i64 p.cap],.string S] w fun e w'=>e=.returned (.tuple #[.agg #[.string ⟨q.data.toArray⟩,.int .i64 q.rd,.int .i64 q.wr,.int .i64 q.cap],.int .i64 k,.int .i64 er])/\Below w.heap.size w w':=by
 obtain⟨g1,g2,g3,g4,g5,g6,g7⟩:=Adt.1 hF
 obtain⟨D,hD⟩:∃ D:ByteArray,D=⟨p.data.toArray⟩:=⟨_,rfl⟩
 obtain⟨hDl,hDs⟩:=Af4 hD
 have hSs:S.data.toList.length=S.size:=Array.length_toList
 have HD:=Hd hD
 rw[<-hD]
 clear hD hF
 have HEND:=Hd (Af8 w)
 unfold Abu at hz
 by_cases h1:p.rd=0
 ·rw[if_pos h1]at hz
  simp only[Prod.mk.injEq]at hz
  obtain⟨rfl,rfl,rfl⟩:=hz
  have hd1:decide (p.rd < 1)=true:=decide_eq_true (by omega)
  rw[<-HD.out]
  clear hDl hDs g1 g2 h1
  go_enter Tryz.func135,Tryz.ntmps135
  go_wp2_with fail
  exact bodyPost_ret (v:=(.tuple #[.agg #[.string D,.int .i64 p.rd,.int .i64 p.wr,.int .i64 p.cap],.int .i64 0,.int .i64 32])) (by simp[results,Tryz.results135,go_sem]) rfl ⟨rfl,HEND.out _ _⟩
 have hd1:decide (p.rd < 1)=false:=decide_eq_false (by omega)
 rw[if_neg h1]at hz
 by_cases he:S.data.toList=[]
 ·rw[if_pos he]at hz
  simp only[Prod.mk.injEq]at hz
  obtain⟨rfl,rfl,rfl⟩:=hz
  have hS0:=Aqc he
  subst hS0
  rw[<-HD.out]
  clear hDl hDs g1 g2 h1 he hS hSs
  go_enter Tryz.func135,Tryz.ntmps135
  go_wp2_with fail
  exact bodyPost_ret (v:=(.tuple #[.agg #[.string D,.int .i64 p.rd,.int .i64 p.wr,.int .i64 p.cap],.int .i64 0,.int .i64 0])) (by simp[results,Tryz.results135,go_sem]) rfl ⟨rfl,HEND.out _ _⟩
 rw[if_neg he]at hz
 obtain⟨hpl,hpe⟩:=Avf he
 have hwr:IntKind.i64.wrap (p.cap - (D.size:Int))=p.cap - (D.size:Int):=by rw[IntKind.wrap_i64];omega
 by_cases h2:p.cap - (p.data.length:Int)=0
 ·rw[if_pos h2]at hz
  simp only[Prod.mk.injEq]at hz
  obtain⟨rfl,rfl,rfl⟩:=hz
  have hd2:decide (p.cap<=(D.size:Int))=true:=decide_eq_true (by omega)
  have hd3:(p.cap - (D.size:Int) == 0)=true:=by rw[hDs];simpa using h2
  rw[<-HD.out]
  clear hDl hDs g1 g2 g3 g4 g5 g6 g7 h1 h2 he hS hSs
  go_enter Tryz.func135,Tryz.ntmps135
  go_wp2_with fail
  exact bodyPost_ret (v:=(.tuple #[.agg #[.string D,.int .i64 p.rd,.int .i64 p.wr,.int .i64 p.cap],.int .i64 0,.int .i64 11])) (by simp[results,Tryz.results135,go_sem]) rfl ⟨rfl,HEND.out _ _⟩
 ·rw[if_neg h2]at hz
  simp only[Prod.mk.injEq]at hz
  obtain⟨rfl,rfl,rfl⟩:=hz
  have hd2:decide (p.cap<=(D.size:Int))=false:=decide_eq_false (by omega)
  have hd3:(p.cap - (D.size:Int) == 0)=false:=by rw[hDs];simpa using h2
  obtain⟨K,hK⟩:∃ K:Nat,(K:Int)=min (S.size:Int) (p.cap - (D.size:Int)):=⟨(min (S.size:Int) (p.cap - (D.size:Int))).toNat,by omega⟩
  have hKS:K<=S.size:=by omega
  obtain⟨E,hE⟩:∃ E:ByteArray,E=⟨(S.data.toList.take K).toArray⟩:=⟨_,rfl⟩
  have c2:=fun W=>Aiy S (min (S.size:Int) (p.cap - (D.size:Int))) K hK.symm hKS W
  rw[<-hE]at c2
  obtain⟨hEl,hEs⟩:E.data.toList=S.data.toList.take K/\E.size=K:=by
   have e:E.data.toList=S.data.toList.take K:=by rw[hE]
   have e2:E.data.toList.length=E.size:=Array.length_toList
   exact⟨e,by rw[<-e2,e,List.length_take];omega⟩
  have hsum:¬ 9223372036854775807 < D.size+E.size:=by omega
  have hfin:D ++ E=⟨(p.data ++ S.data.toList.take (p.cap - (p.data.length:Int)).toNat).toArray⟩:=by
   apply ByteArray.ext
   apply Array.ext'
   have e1:(D ++ E).data.toList=D.data.toList ++ E.data.toList:=by simp
   have e2:S.data.toList.take K=S.data.toList.take (p.cap - (p.data.length:Int)).toNat:=by
    rw[List.take_eq_take_iff]
    omega
   rw[e1,hDl,hEl,e2]
  have hk2:min (S.size:Int) (p.cap - (D.size:Int))=min (p.cap - (p.data.length:Int)) (S.data.toList.length:Int):=by(rw[hSs,hDs]) <;> omega
  have HF:=Hd (And.intro hfin hk2)
  clear hDl hDs g1 g2 g3 g4 g5 g6 g7 h1 h2 he hS hSs hK hKS hE hEl hEs hfin hk2
  go_enter Tryz.func135,Tryz.ntmps135
  go_wp2_with fail
  go_region
  go_wp2_with fail
  exact bodyPost_ret (v:=(.tuple #[.agg #[.string (D ++ E),.int .i64 p.rd,.int .i64 p.wr,.int .i64 p.cap],.int .i64 (min (S.size:Int) (p.cap - (D.size:Int))),.int .i64 0])) (by simp[results,Tryz.results135,go_sem]) rfl ⟨by rw[HF.out.1,HF.out.2],(HEND.out _ _).drew⟩
end Go.Proofs.YtkdfbliiblojoaaGreatDoor
