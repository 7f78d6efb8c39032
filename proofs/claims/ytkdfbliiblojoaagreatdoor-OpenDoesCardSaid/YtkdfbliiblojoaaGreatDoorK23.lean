import Derived.Laws.NewBlocks
import Derived.Test.YtkdfbliiblojoaaGreatDoorK19
set_option linter.all false
set_option maxRecDepth 100000
set_option maxHeartbeats 64000000
namespace Go.Proofs.YtkdfbliiblojoaaGreatDoor
open Go Go.RowKit Go.Lib
def Ai2 (base:Nat)(w:World)(v:Value)(K:List (List UInt8×Int))(e:Ending)(w':World):Prop:=
 ∃ v',e=.returned v'/\Aa4 w' base v' K/\w.grownBy w' v.ownBlock/\∀ k,v'.ownBlock=some k->v.ownBlock=some k∨w.heap.size<=k
theorem Agl : (Tryz.prog.info? 139).map (·.size)=some 2:=by kernel_rfl
theorem Akk {w W:World}{b o:Nat}{vs:List Value}{r:Option Nat}(h:w.grownBy W r)(hr:r=some b):w.grownBy (W.setCells b o vs) r:=by
 have e:∀ (vs:List Value) (o:Nat) (W:World),(W.setCells b o vs).os=W.os/\(W.setCells b o vs).tape=W.tape/\(W.setCells b o vs).output=W.output:=fun vs=>by
  induction vs with
  | nil=>exact fun _ _=>⟨rfl,rfl,rfl⟩
  | cons v r ih=>exact fun o W=>ih (o+1) (W.setCell ⟨b,o,none⟩ v)
 obtain⟨e1,e2,e3⟩:=e vs o W
 exact⟨e1.trans h.os,e2.trans h.tape,e3.trans h.output,by rw[Aez];exact h.size,fun k hk hkr=>(Aeu b vs o W k (fun e=>hkr (by rw[hr,e]))).trans (h.block k hk hkr)⟩
theorem Ay1 {cur:Array Value}{K:List (List UInt8×Int)}{n:Nat}(h:cur.toList.take n=kidC K)(j:Nat)(hj:j < n):cur[j]?=(kidC K)[j]?:=by
 rw[<-h,List.getElem?_take,if_pos hj]
 simp
theorem Aoz {cur:Array Value}{K:List (List UInt8×Int)}{i:Nat}(hi:i<=K.length)(hs:(K.length+1) * 2<=cur.size)(h:∀ j,j < i * 2->cur[j]?=(kidC K)[j]?)(x:List UInt8×Int)(j:Nat)(hj:j < (K.length+1) * 2) :
  (layA (layA cur ((i+1) * 2) ((kidC K).drop (i * 2))) (i * 2) (entC x))[j]?=(kidC (insK K i x))[j]?:=by
 have hl:=Abe K
 have hd:((kidC K).drop (i * 2)).length=(K.length - i) * 2:=by rw[List.length_drop,Abe];omega
 rw[Aib hi,Afq _ _ _ (by rw[Adl];show _+2<=_;omega)]
 show (if i * 2<=j/\j < i * 2+2 then _ else _)=_
 by_cases h1:j < i * 2
 ·rw[if_neg (by omega),if_pos h1,Afq _ _ _ (by rw[hd];omega),if_neg (by omega)]
  exact h j h1
 ·rw[if_neg h1]
  by_cases h2:j < i * 2+2
  ·rw[if_pos ⟨by omega,h2⟩,if_pos h2]
  ·rw[if_neg (by omega),if_neg h2,Afq _ _ _ (by rw[hd];omega),if_pos (by rw[hd];omega),List.getElem?_drop,show i * 2+(j - (i+1) * 2)=j - 2 by omega]
theorem Aq2 {cur:Array Value}{K:List (List UInt8×Int)}{i:Nat}(hi:i<=K.length)(hs:(K.length+1) * 2<=cur.size)(h:∀ j,j < i * 2->cur[j]?=(kidC K)[j]?)(x:List UInt8×Int)(j:Nat)(hj:j < (K.length+1) * 2) :
  (layA (layA cur (i * 2) (entC x)) ((i+1) * 2) ((kidC K).drop (i * 2)))[j]?=(kidC (insK K i x))[j]?:=by
 have hl:=Abe K
 have hd:((kidC K).drop (i * 2)).length=(K.length - i) * 2:=by rw[List.length_drop,Abe];omega
 rw[Aib hi,Afq _ _ _ (by rw[Adl,hd];omega),hd]
 by_cases h1:j < i * 2
 ·rw[if_neg (by omega),if_pos h1,Afq _ _ _ (by show _+2<=_;omega),if_neg (by omega)]
  exact h j h1
 ·rw[if_neg h1]
  by_cases h2:j < i * 2+2
  ·rw[if_neg (by omega),if_pos h2,Afq _ _ _ (by show _+2<=_;omega),if_pos ⟨by omega,h2⟩]
  ·rw[if_pos (by omega),if_neg h2,List.getElem?_drop,show i * 2+(j - (i+1) * 2)=j - 2 by omega]
section
variable {base b c i vb vc : Nat} {K : List (List UInt8 × Int)} {x : List UInt8 × Int} {w : World} {cur : Array Value}
theorem As9 (hi:i < K.length)(hc:cur.size=c * 2)(hm:c<=maxLen)(hroom:K.length+1<=c)(hb:base<=b)(hcur:w.heap[b]?=some (.cells cur 139 (0,0)))(hK:cur.toList.take (K.length * 2)=kidC K)
  (hv:w.heap[vb]?=some (.cells (entC x).toArray 139 (0,0))) (hvb:vb≠b) :
  Calls Tryz.prog 206 #[.slice (some ⟨b,0,none⟩) K.length c,.int .i64 i,.slice (some ⟨vb,0,none⟩) 1 vc] w fun e w'=>Ai2 base w (.slice (some ⟨b,0,none⟩) K.length c) (insK K i x) e w':=by
 have hm2:=hm
 unfold maxLen at hm2
 obtain⟨n,hn⟩:∃ n,n=K.length:=⟨_,rfl⟩
 have hcs:∀ j v,(kidC K)[j]?=some v->w.cell? ⟨b,j,none⟩=some v:=fun j v h=>by
  rw[<-hK,List.getElem?_take]at h
  split at h
  ·rw[bC hcur];simpa using h
  ·cases h
 have hsp:∀ j,j < c * 2->(w.cell? ⟨b,j,none⟩).isSome=true:=fun j hj=>by rw[bC hcur,Array.getElem?_eq_getElem (by omega)];rfl
 have hfz:∀ j,w.frozen? ⟨b,j,none⟩=false:=bF hcur
 have hvs:∀ j v,(entC x)[j]?=some v->w.cell? ⟨vb,j,none⟩=some v:=fun j v h=>by rw[bC hv];simpa using h
 have hkl:=Abe K
 have hdl:((kidC K).drop (i * 2)).length=(K.length - i) * 2:=by rw[List.length_drop,Abe];omega
 have hov:∀ lb cb,(callFunc 212 #[.slice (some ⟨vb,0,none⟩) 1 vc,.slice (some ⟨b,(i+1) * 2,none⟩) lb cb]).run Tryz.prog w=.ok (.value (.bool false)) w:=fun lb cb=>by
  rw[run_callFunc_extern Tryz.func212 (by kernel_rfl) (by kernel_rfl) (by kernel_rfl) (e:=Extern.SlicesOverlaps.overlaps #[64,64] #[4]) (by kernel_rfl),
   Lib.run_overlaps_apart w 64 4 139 Tryz.underlying64 2 Tryz.sizeOf139 ⟨vb,0,none⟩ ⟨b,(i+1) * 2,none⟩ 1 vc lb cb hvb 139 139 2 (c * 2) (by simp[World.shape?,hv,entC]) (by simp[World.shape?,hcur,hc]) (by omega) (bF hv 0) (bF hv 2)]
  rfl
 have hw1:IntKind.i64.wrap ((i:Int)+1)=(i:Int)+1:=by rw[IntKind.wrap_i64];omega
 have hw2:IntKind.i64.wrap ((K.length:Int)+1)=(K.length:Int)+1:=by rw[IntKind.wrap_i64];omega
 have hz2:¬ ((i:Int)=(K.length:Int)):=by omega
 have hz3:¬ ((c:Int) < (K.length:Int)+1):=by omega
 have hb1:(0:Int)<=(i:Int)+1:=by omega
 have hin:i<=K.length:=by omega
 have htn:((i:Int)+1).toNat=i+1:=by omega
 have htn2:((K.length:Int)+1).toNat=K.length+1:=by omega
 have hb2:¬ (c=i+1):=by omega
 have hb3:(i:Int)<=(K.length:Int)+1:=by omega
 have hb4:¬ (c=i):=by omega
 have hcp1:∀ ty dc sc,(Builtin.copy_ #[64,64] ty #[.slice (some ⟨b,(i+1) * 2,none⟩) (K.length - i) dc,.slice (some ⟨b,i * 2,none⟩) (K.length+1 - i) sc]).run Tryz.prog w.drew=.ok (goInt (K.length - i:Nat)) (w.drew.setCells b ((i+1) * 2) ((kidC K).drop (i * 2))):=fun ty dc sc=>
  Agk w.drew _ _ ty 139 b ((i+1) * 2) (K.length - i) dc ⟨b,i * 2,none⟩ (K.length+1 - i) sc 2 (K.length - i) ((kidC K).drop (i * 2)) Tryz.underlying64 Agl (by simp only[Nat.min_def];split <;> omega) hdl
   (fun j v hj=>by rw[Addr.add_lit];exact hcs (i * 2+j) v (by rwa [List.getElem?_drop]at hj))
   (fun j hj=>hsp _ (by omega)) (fun j hj=>hfz _) (fun v hv=>Ait K v (List.mem_of_mem_drop hv))
 obtain⟨W1,hW1⟩:∃ W1,W1=w.drew.setCells b ((i+1) * 2) ((kidC K).drop (i * 2)):=⟨_,rfl⟩
 have hB1:W1.heap[b]?=some (.cells (layA cur ((i+1) * 2) ((kidC K).drop (i * 2))) 139 (0,0)):=by rw[hW1];exact Ag6 _ _ (W:=w.drew) hcur
 have hG1:w.grownBy W1 (some b):=by rw[hW1];exact Akk (⟨rfl,rfl,rfl,Nat.le_refl _,fun _ _ _=>rfl⟩) rfl
 have hV1:W1.heap[vb]?=w.heap[vb]?:=hG1.block vb (lt_of_block hv) (fun e=>hvb (Option.some.inj e))
 have hcp2:∀ (W:World),(∀ y,W.cell? y=W1.cell? y)->(∀ y,W.frozen? y=W1.frozen? y)->∀ ty dc,(Builtin.copy_ #[64,64] ty #[.slice (some ⟨b,i * 2,none⟩) (K.length+1 - i) dc,.slice (some ⟨vb,0,none⟩) 1 vc]).run Tryz.prog W=.ok (goInt (1:Nat)) (W.setCells b (i * 2) (entC x)):=fun W hWc hWf ty dc=>
  Agk W _ _ ty 139 b (i * 2) (K.length+1 - i) dc ⟨vb,0,none⟩ 1 vc 2 1 (entC x) Tryz.underlying64 Agl (by simp only[Nat.min_def];split <;> omega) rfl
   (fun j v hj=>by
    rw[Abj,hWc,bC (hV1.trans hv)]
    simpa using hj)
   (fun j hj=>by
    have hj':j < 2:=hj
    rw[hWc,bC hB1,Array.getElem?_eq_getElem (by rw[Adl];omega)];rfl)
   (fun j hj=>by rw[hWf];exact bF hB1 _) (fun v hv=>by
    simp only[entC,List.mem_cons,List.not_mem_nil,or_false]at hv
    rcases hv with rfl|rfl <;> rfl)
 rw[<-hW1]at hcp1
 have HB1:=Hd hB1
 have HG1:=Hd hG1
 clear hB1 hG1 hV1 hW1 hcs hsp hfz hvs hn
 go_enter Tryz.func206,Tryz.ntmps206
 go_wp2_with (simp only[hov])
 go_region_law (refine step_copy_runI rfl _ _ 64 64 rfl _ _ (by simp[Act.eval,Act.put]) (by simp[Act.eval,Act.put]) (hcp1 _ _ _) ?_)
 go_wp2_with (at_builtin;refine wpList_copy_runI _ rfl _ _ 64 64 rfl _ _ rfl rfl (hcp2 _ (fun _=>rfl) (fun _=>rfl) _ _) ?_)
 go_ret
 have hlen:=Ais hin x
 refine⟨_,rfl,?_,Akk HG1.out rfl,fun k hk=>Or.inl hk⟩
 rw[<-hlen]
 refine Aif hb (Ag6 _ _ HB1.out) (by omega) hm (by rw[Adl,Adl,hc]) fun j hj=>?_
 rw[hlen]at hj
 exact Aoz hin (by omega) (fun j hj=>Ay1 hK j (by omega)) x j hj
theorem Amm (hc:cur.size=c * 2)(hm:c<=maxLen)(hroom:K.length+1<=c)(hb:base<=b)(hcur:w.heap[b]?=some (.cells cur 139 (0,0)))(hK:cur.toList.take (K.length * 2)=kidC K)
  (hv:w.heap[vb]?=some (.cells (entC x).toArray 139 (0,0))) :
  Calls Tryz.prog 206 #[.slice (some ⟨b,0,none⟩) K.length c,.int .i64 K.length,.slice (some ⟨vb,0,none⟩) 1 vc] w fun e w'=>Ai2 base w (.slice (some ⟨b,0,none⟩) K.length c) (insK K K.length x) e w':=by
 have hm2:=hm
 unfold maxLen at hm2
 obtain⟨i0,hi0,hz0,hzs,hzb⟩:=info_parts As8
 have hvs:∀ j v,(entC x)[j]?=some v->w.cell? ((⟨vb,0,none⟩:Addr).add j)=some v:=fun j v h=>by rw[Abj,bC hv];simpa using h
 have hone:∀ v∈entC x,v.oneCell'=true:=fun v hv=>by
  simp only[entC,List.mem_cons,List.not_mem_nil,or_false]at hv
  rcases hv with rfl|rfl <;> rfl
 have hrun:∀ ty,(Builtin.append_ #[64,64] ty #[.slice (some ⟨b,0,none⟩) K.length c,.slice (some ⟨vb,0,none⟩) 1 vc]).run Tryz.prog w=_:=fun ty=>
  run_append_room w 64 ty 139 i0 Tryz.underlying64 hi0 b K.length c cur hcur ⟨vb,0,none⟩ 1 vc (entC x) (by rw[hzs];rfl) hvs hone hroom (by rw[hzs,hc];show _+2<=_;omega)
 rw[hzs]at hrun
 go_enter Tryz.func206,Tryz.ntmps206
 go_wp2_with (at_builtin;refine Lib.wpList_append_run _ rfl _ _ _ _ rfl _ _ rfl rfl _ _ (hrun _) ?_)
 go_ret
 have hlen:=Ais (Nat.le_refl K.length) x
 have hins:kidC (insK K K.length x)=kidC K ++ entC x:=by rw[Alb,List.take_of_length_le (by rw[Abe];exact Nat.le_refl _),List.drop_of_length_le (by rw[Abe];exact Nat.le_refl _),List.append_nil]
 have hkl:=Abe K
 have hsz:cur.toList.length=c * 2:=by simpa using hc
 refine⟨_,rfl,⟨Abe _,.inr ⟨b,c,_,?_,hb,setRow_heap w b _ _ 139 (0,0) hcur,by omega,hm,?_,?_⟩⟩,⟨rfl,rfl,rfl,by simp[World.setRow],fun k _ hk=>setRow_other w b k _ (fun e=>hk (by rw[e];rfl))⟩,fun k hk=>Or.inl hk⟩
 ·rw[hlen]
  rfl
 ·show (kidC K ++ (entC x ++ List.drop (K.length * 2+2) cur.toList)).length=_
  rw[List.length_append,List.length_append,List.length_drop,hkl,hsz]
  show _+(2+_)=_
  omega
 ·rw[hlen,hins]
  show ((kidC K ++ (entC x ++ List.drop (K.length * 2+2) cur.toList))).take _=_
  rw[<-List.append_assoc,List.take_append_of_le_length (by rw[List.length_append,hkl];show _<=_+2;omega),List.take_of_length_le (by rw[List.length_append,hkl];show _+2<=_;omega)]
theorem Aia {v:Value}(ho:Aa4 w base v K)(hv0:∀ a n c,v=.slice a n c->c < K.length+1)(hl:K.length<=1048576)(hbs:base<=w.heap.size)
  (hv:w.heap[vb]?=some (.cells (entC x).toArray 139 (0,0))) :
  Calls Tryz.prog 206 #[v,.int .i64 K.length,.slice (some ⟨vb,0,none⟩) 1 vc] w fun e w'=>Ai2 base w v (insK K K.length x) e w':=by
 obtain⟨i0,hi0,hz0,hzs,hzb⟩:=info_parts As8
 have hvs:∀ j v,(entC x)[j]?=some v->w.cell? ((⟨vb,0,none⟩:Addr).add j)=some v:=fun j v h=>by rw[Abj,bC hv];simpa using h
 have hone:∀ v∈entC x,v.oneCell'=true:=fun v hv=>by
  simp only[entC,List.mem_cons,List.not_mem_nil,or_false]at hv
  rcases hv with rfl|rfl <;> rfl
 have hsrc:Src Tryz.prog i0.size 64 (.slice (some ⟨vb,0,none⟩) 1 vc) 1 (entC x) w:=by
  rw[hzs]
  exact Src.ofSlice w Tryz.underlying64 ⟨vb,0,none⟩ 1 vc (entC x) rfl hvs hone
 have hlen:=Ais (Nat.le_refl K.length) x
 have hins:kidC (insK K K.length x)=kidC K ++ entC x:=by rw[Alb,List.take_of_length_le (by rw[Abe];exact Nat.le_refl _),List.drop_of_length_le (by rw[Abe];exact Nat.le_refl _),List.append_nil]
 have hkl:=Abe K
 obtain⟨a,c,rfl⟩:=ho.form
 have hc:=hv0 _ _ _ rfl
 have hold:(Builtin.firstCells i0.size K.length (.slice a K.length c)).run Tryz.prog w.drew=.ok (kidC K).toArray w.drew:=by
  rw[hzs]
  rcases ho.2 with ⟨e,h0⟩|⟨g,cap,cur,e,-⟩
  ·obtain⟨rfl,-,rfl⟩:=Value.slice.inj e
   have e:K=[]:=List.length_eq_zero_iff.1 h0
   subst e
   exact run_firstCells_none w.drew 2 0 0 0
  ·obtain⟨rfl,-,rfl⟩:=Value.slice.inj e
   exact run_firstCells_some w.drew 2 K.length ⟨g,0,none⟩ K.length _ (kidC K) (Abe K) (fun j u hj=>ho.cells rfl j u hj)
 have hgc:=grownCap_ge w (K.length+1) c 139
 have hgm:=grownCap_le_maxLen w (K.length+1) c 139 (by unfold maxLen;omega)
 have hrun:∀ ty,(Builtin.append_ #[64,64] ty #[.slice a K.length c,.slice (some ⟨vb,0,none⟩) 1 vc]).run Tryz.prog w=_:=fun ty=>
  run_append_grow_src w 64 64 ty 139 i0 _ Tryz.underlying64 hi0 hz0 a K.length c (kidC K) hold _ 1 (entC x) hsrc hc (by omega) (by rw[hzb];exact growslice_fits hc (by omega))
 obtain⟨G,hG⟩:∃ G,G=grownCap w (K.length+1) c 139:=⟨_,rfl⟩
 rw[<-hG]at hrun hgc hgm
 obtain⟨ROW,hROW⟩:∃ ROW:Array Value,ROW=(kidC K ++ entC x).toArray ++ Builtin.zeroCells (Value.agg #[.string ⟨#[]⟩,.int .i64 0]).cells (G - (K.length+1)):=⟨_,rfl⟩
 rw[<-hROW]at hrun
 have HA:=Hd hROW
 have HK:=Hd ho
 clear hROW hG hold hsrc hvs ho
 have hfin:Ai2 base w (.slice a K.length c) (insK K K.length x) (.returned (.slice (some ⟨w.heap.size,0,none⟩) (K.length+1) G)) (w.drew.alloc (.cells ROW 139)):=by
  refine⟨_,rfl,⟨Abe _,.inr ⟨w.heap.size,G,ROW,?_,hbs,Aag w.drew _,by omega,hgm,?_,?_⟩⟩,⟨rfl,rfl,rfl,by simp,fun k hk _=>Below.heap_alloc w.drew _ k hk⟩,fun k hk=>Or.inr ?_⟩
  ·rw[hlen]
  ·rw[HA.out]
   have hz:(Builtin.zeroCells (Value.agg #[.string ⟨#[]⟩,.int .i64 0]).cells (G - (K.length+1))).size=(G - (K.length+1)) * 2:=size_zeroCells _ _
   rw[Array.size_append,hz]
   show (kidC K ++ entC x).length+_=_
   rw[List.length_append,hkl]
   show _+2+_=_
   omega
  ·rw[HA.out,hlen,hins,Array.toList_append,List.take_append_of_le_length (by rw[List.toList_toArray,List.length_append,hkl];show _<=_+2;omega),List.toList_toArray,List.take_of_length_le (by rw[List.length_append,hkl];show _+2<=_;omega)]
  ·cases hk
   exact Nat.le_refl _
 have HFIN:=Hd hfin
 clear hfin
 cases a with
 | none=>
  go_enter Tryz.func206,Tryz.ntmps206
  go_wp2_with (at_builtin;refine Lib.wpList_append_run _ rfl _ _ _ _ rfl _ _ rfl rfl _ _ (hrun _) ?_)
  go_ret
  exact HFIN.out
 | some a=>
  obtain⟨ab,ao,asp⟩:=a
  go_enter Tryz.func206,Tryz.ntmps206
  go_wp2_with (at_builtin;refine Lib.wpList_append_run _ rfl _ _ _ _ rfl _ _ rfl rfl _ _ (hrun _) ?_)
  all_goals(go_ret;exact HFIN.out)
end
end Go.Proofs.YtkdfbliiblojoaaGreatDoor
