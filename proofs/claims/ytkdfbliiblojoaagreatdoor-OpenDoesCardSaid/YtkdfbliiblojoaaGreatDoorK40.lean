import Derived.Test.YtkdfbliiblojoaaGreatDoorK39
import Derived.Test.YtkdfbliiblojoaaGreatDoorK38
set_option linter.all false
set_option maxRecDepth 100000
set_option maxHeartbeats 64000000
namespace Go.Proofs.YtkdfbliiblojoaaGreatDoor
open Go Go.RowKit
theorem Ana : ∀ (l:List Value) (o:Nat) (cur:Array Value),o+l.length=cur.size->Am9 cur o l=(cur.toList.take o ++ l).toArray
 | [],o,cur,h=>by
  rw[Am9,List.append_nil,List.take_of_length_le (by simp at h ⊢;omega)]
 | v :: r,o,cur,h=>by
  have h1:o < cur.toList.length:=by simp at h ⊢;omega
  rw[Am9,Ana r (o+1) _ (by simp at h ⊢;omega)]
  congr 1
  rw[Array.toList_setIfInBounds,List.take_succ_eq_append_getElem (by simpa using h1),List.getElem_set_self,List.take_set_of_le (Nat.le_refl _),List.append_assoc,List.singleton_append]
theorem Ac8 {W:World}{g:Nat}{cs:Array Value}{t:TypeId}(h:W.heap[g]?=some (.cells cs t (0,0))):W.rangeAt g 0 cs.toList:=fun j v hj=>by
 rw[Nat.zero_add]
 exact(bC h j).trans (by simpa using hj)
theorem Aet {W:World}{g:Nat}{cs:Array Value}{t:TypeId}(h:W.heap[g]?=some (.cells cs t (0,0))):W.there g 0 cs.size:=fun j hj=>by
 rw[Nat.zero_add]
 exact⟨by rw[bC h j];simp[hj],bF h j⟩
theorem Agu {W:World}{g:Nat}{cs new:Array Value}{s:TypeId}(h:W.heap[g]?=some (.cells cs s (0,0)))(hs:new.size=cs.size):(W.setCells g 0 new.toList).heap[g]?=some (.cells new s (0,0)):=by
 rw[Aey new.toList 0 W cs h,Ana _ _ _ (by simp[hs])]
 simp
structure But2 (u v:Nat)(W W':World):Prop where
 os:W'.os=W.os
 tape:W'.tape=W.tape
 output:W'.output=W.output
 size:W'.heap.size=W.heap.size
 block:∀ k,k≠u->k≠v->W'.heap[k]?=W.heap[k]?
def Azy (ops:Array Oper):Bool:=
 ops.size == 5 && Region.noSelect ops && Region.free .any ops #[false,false,false,false,false] 0 && (Region.ready .any ops #[false,false,false,false,false]).contains 0 &&
 Region.free .any ops #[true,false,false,false,false] 1 && (Region.ready .any ops #[true,false,false,false,false]).contains 1 &&
 Region.ready .any ops #[true,true,false,false,false] == [2] && Region.ready .any ops #[true,true,true,false,false] == [3] && Region.free .any ops #[true,true,true,true,false] 4 && (Region.ready .any ops #[true,true,true,true,false]).contains 4 && Region.ready .any ops #[true,true,true,true,true] == []
theorem Arp {P:Program}{ops:Array Oper}{id:Nat}{Q:Exit->Act->World->Prop}{a:Act}{W:World}{tk tf:TypeId}{dk df:TypeDesc}{s0 s1 s8 ak af u v:Tmp}{y0 y1 y2 y3 y4:TypeId}{p0 p1 p2 p3 p4:String}{f0 f1 f2 f3 f4:Array Edge}{x:Operand}{bk bf bu bv:Nat}{ck cf cu cv:Array Value}{mk mf mu mv:TypeId}
  (hm:P.follows .mixedOrders=true)
  (hops:ops=#[⟨some s0,.load tk (.tmp ak),y0,p0,f0,none⟩,⟨some s1,.load tf (.tmp af),y1,p1,f1,none⟩,⟨none,.store tk (.tmp u) (.tmp s0),y2,p2,f2,none⟩,⟨none,.store tf (.tmp v) (.tmp s1),y3,p3,f3,none⟩,⟨some s8,.assign x,y4,p4,f4,none⟩])
  (hok:Azy ops=true)
  (hak:a.eval (.tmp ak)=.pointer (some ⟨bk,0,none⟩))
  (haf:(a.put (some s0) (.agg ck)).eval (.tmp af)=.pointer (some ⟨bf,0,none⟩))
  (hau:((a.put (some s0) (.agg ck)).put (some s1) (.agg cf)).eval (.tmp u)=.pointer (some ⟨bu,0,none⟩))
  (hav:((a.put (some s0) (.agg ck)).put (some s1) (.agg cf)).eval (.tmp v)=.pointer (some ⟨bv,0,none⟩))
  (h0:((a.put (some s0) (.agg ck)).put (some s1) (.agg cf)).eval (.tmp s0)=.agg ck)
  (h1:((a.put (some s0) (.agg ck)).put (some s1) (.agg cf)).eval (.tmp s1)=.agg cf)
  (h8:((a.put (some s0) (.agg ck)).put (some s1) (.agg cf)).eval x=a.eval x)
  (hQ:∀ c a d v w,Q (.panic c) (Act.put a (some d) v) w->Q (.panic c) a w)
  (hk:W.heap[bk]?=some (.cells ck mk (0,0))) (hf:W.heap[bf]?=some (.cells cf mf (0,0))) (hu:W.heap[bu]?=some (.cells cu mu (0,0))) (hv:W.heap[bv]?=some (.cells cv mv (0,0)))
  (hn:bk≠bu/\bk≠bv/\bf≠bu/\bf≠bv/\bu≠bv) (hsu:ck.size=cu.size) (hsv:cf.size=cv.size)
  (ik:P.underlying tk=some dk) (jk:dk.isRow=true) (nk:(P.info? tk).map (·.size)=some ck.size) (ok:ck.toList.all (·.oneCell')=true)
  (if_:P.underlying tf=some df) (jf:df.isRow=true) (nf:(P.info? tf).map (·.size)=some cf.size) (of:cf.toList.all (·.oneCell')=true)
  (H:∀ W',But2 bu bv W W'->W'.heap[bu]?=some (.cells ck mu (0,0))->W'.heap[bv]?=some (.cells cf mv (0,0))->Q .normal (((a.put (some s0) (.agg ck)).put (some s1) (.agg cf)).put (some s8) (a.eval x)) W') :
  (Code.region id ops true).wp P Q a W:=by
 obtain⟨n1,n2,n3,n4,n5⟩:=hn
 simp only[Azy,Bool.and_eq_true,beq_iff_eq]at hok
 obtain⟨⟨⟨⟨⟨⟨⟨⟨⟨⟨r0,r1⟩,r2⟩,r3⟩,r4⟩,r5⟩,r6⟩,r7⟩,r8⟩,r9⟩,r10⟩:=hok
 have e0:ops[0]?=some ⟨some s0,.load tk (.tmp ak),y0,p0,f0,none⟩:=by rw[hops];rfl
 have e1:ops[1]?=some ⟨some s1,.load tf (.tmp af),y1,p1,f1,none⟩:=by rw[hops];rfl
 have e2:ops[2]?=some ⟨none,.store tk (.tmp u) (.tmp s0),y2,p2,f2,none⟩:=by rw[hops];rfl
 have e3:ops[3]?=some ⟨none,.store tf (.tmp v) (.tmp s1),y3,p3,f3,none⟩:=by rw[hops];rfl
 have e4:ops[4]?=some ⟨some s8,.assign x,y4,p4,f4,none⟩:=by rw[hops];rfl
 clear hops
 have t1:W.drew.there bu 0 ck.size:=by rw[hsu];exact Aet (W:=W.drew) hu
 have t2:W.drew.there bv 0 cf.size:=by rw[hsv];exact Aet (W:=W.drew) hv
 refine wp_region_held_drew (S:=fun w=>w.heap[bk]?=some (.cells ck mk (0,0))/\w.heap[bf]?=some (.cells cf mf (0,0))/\(w.there bu 0 ck.size/\w.there bv 0 cf.size)) hm ⟨hk,hf,t1,t2⟩ (fun hS=>?_)
 have hrep:Array.replicate ops.size false=#[false,false,false,false,false]:=by rw[r0];rfl
 rw[hrep,r0]
 refine wpAnyH_take (i:=0) e0 r1 r2 r3 (fun c a w h=>hQ _ _ _ _ _ h) (yieldsIf_load_mid (by rfl) tk _ rfl bk 0 hak ck.toList dk (fun w hw=>Ac8 hw.1) ik jk (by simpa using nk)) hS ?_
 refine wpAnyH_take (i:=1) e1 r1 r4 r5 (fun c a w h=>hQ _ _ _ _ _ h) (yieldsIf_load_mid (by rfl) tf _ rfl bf 0 (by simpa using haf) cf.toList df (fun w hw=>Ac8 hw.2.1) if_ jf (by simpa using nf)) hS ?_
 simp only[Array.toArray_toList]at *
 refine wpAnyH_ready (rs:=[2]) r6 (by simp) ?_
 refine AllReadyH.cons e2 (fun K' hK=>?_) AllReadyH.nil
 rw[if_pos (by rfl)]
 refine wp_store_mid tk _ _ rfl bu 0 ck hau h0 t1 nk (by simpa using ok) ?_
 have b1:But bu W.drew (W.drew.setCells bu 0 ck.toList):=Abq _ _ _
 refine hK.out _ _ ⟨(b1.block bk n1).trans hk,(b1.block bf n3).trans hf,World.there_setCells t1 _ _ _,World.there_setCells t2 _ _ _⟩ (fun hS2=>?_)
 refine wpAnyH_ready (rs:=[3]) r7 (by simp) ?_
 refine AllReadyH.cons e3 (fun K' hK=>?_) AllReadyH.nil
 rw[if_pos (by rfl)]
 refine wp_store_mid tf _ _ rfl bv 0 cf hav h1 hS2.2.2.2 nf (by simpa using of) ?_
 have b2:But bv (W.drew.setCells bu 0 ck.toList) ((W.drew.setCells bu 0 ck.toList).setCells bv 0 cf.toList):=Abq _ _ _
 refine hK.out _ _ ⟨(b2.block bk n2).trans hS2.1,(b2.block bf n4).trans hS2.2.1,World.there_setCells hS2.2.2.1 _ _ _,World.there_setCells hS2.2.2.2 _ _ _⟩ (fun hS3=>?_)
 refine wpAnyH_take (i:=4) (v:=a.eval x) e4 r1 r8 r9 (fun c a w h=>hQ _ _ _ _ _ h) (Or.inl ⟨by rfl,fun w _=>?_⟩) hS3 ?_
 ·rw[BigFrame.run_assign x rfl]
  exact congrArg (fun v=>Result.ok (Next.value v) w) h8
 refine wpAnyH_done r10 ?_ _
 exact H _ ⟨b2.os.trans b1.os,b2.tape.trans b1.tape,b2.output.trans b1.output,b2.size.trans b1.size,fun k h h'=>(b2.block k h').trans (b1.block k h)⟩ ((b2.block bu n5).trans (Agu (W:=W.drew) hu hsu)) (Agu ((b1.block bv (Ne.symm n5)).trans hv) hsv)
def Aux (ops:Array Oper):Bool:=
 ops.size == 6 && Region.noSelect ops && Region.free .any ops #[false,false,false,false,false,false] 0 && (Region.ready .any ops #[false,false,false,false,false,false]).contains 0 &&
 Region.free .any ops #[true,false,false,false,false,false] 1 && (Region.ready .any ops #[true,false,false,false,false,false]).contains 1 &&
 Region.free .any ops #[true,true,false,false,false,false] 2 && (Region.ready .any ops #[true,true,false,false,false,false]).contains 2 &&
 Region.ready .any ops #[true,true,true,false,false,false] == [3] && Region.ready .any ops #[true,true,true,true,false,false] == [4] && Region.free .any ops #[true,true,true,true,true,false] 5 && (Region.ready .any ops #[true,true,true,true,true,false]).contains 5 && Region.ready .any ops #[true,true,true,true,true,true] == []
theorem Aou {P:Program}{ops:Array Oper}{id:Nat}{Q:Exit->Act->World->Prop}{a:Act}{W:World}{tk tf:TypeId}{dk df:TypeDesc}{s0 s1 s9 s8 ak af u v:Tmp}{y0 y1 y2 y3 y4 y9:TypeId}{p0 p1 p2 p3 p4 p9:String}{f0 f1 f2 f3 f4 f9:Array Edge}{x:Operand}{bk bf bu bv:Nat}{ck cf cu cv:Array Value}{mk mf mu mv:TypeId}
  (hm:P.follows .mixedOrders=true)
  (hops:ops=#[⟨some s0,.load tk (.tmp ak),y0,p0,f0,none⟩,⟨some s1,.load tf (.tmp af),y1,p1,f1,none⟩,⟨some s9,.move x,y9,p9,f9,none⟩,⟨none,.store tk (.tmp u) (.tmp s0),y2,p2,f2,none⟩,⟨none,.store tf (.tmp v) (.tmp s1),y3,p3,f3,none⟩,⟨some s8,.assign (.tmp s9),y4,p4,f4,none⟩])
  (hok:Aux ops=true)
  (hak:a.eval (.tmp ak)=.pointer (some ⟨bk,0,none⟩))
  (haf:(a.put (some s0) (.agg ck)).eval (.tmp af)=.pointer (some ⟨bf,0,none⟩))
  (hau:(((a.put (some s0) (.agg ck)).put (some s1) (.agg cf)).put (some s9) (a.eval x)).eval (.tmp u)=.pointer (some ⟨bu,0,none⟩))
  (hav:(((a.put (some s0) (.agg ck)).put (some s1) (.agg cf)).put (some s9) (a.eval x)).eval (.tmp v)=.pointer (some ⟨bv,0,none⟩))
  (h0:(((a.put (some s0) (.agg ck)).put (some s1) (.agg cf)).put (some s9) (a.eval x)).eval (.tmp s0)=.agg ck)
  (h1:(((a.put (some s0) (.agg ck)).put (some s1) (.agg cf)).put (some s9) (a.eval x)).eval (.tmp s1)=.agg cf)
  (h8:((a.put (some s0) (.agg ck)).put (some s1) (.agg cf)).eval x=a.eval x)
  (h9:(((a.put (some s0) (.agg ck)).put (some s1) (.agg cf)).put (some s9) (a.eval x)).eval (.tmp s9)=a.eval x)
  (hQ:∀ c a d v w,Q (.panic c) (Act.put a (some d) v) w->Q (.panic c) a w)
  (hk:W.heap[bk]?=some (.cells ck mk (0,0))) (hf:W.heap[bf]?=some (.cells cf mf (0,0))) (hu:W.heap[bu]?=some (.cells cu mu (0,0))) (hv:W.heap[bv]?=some (.cells cv mv (0,0)))
  (hn:bk≠bu/\bk≠bv/\bf≠bu/\bf≠bv/\bu≠bv) (hsu:ck.size=cu.size) (hsv:cf.size=cv.size)
  (ik:P.underlying tk=some dk) (jk:dk.isRow=true) (nk:(P.info? tk).map (·.size)=some ck.size) (ok:ck.toList.all (·.oneCell')=true)
  (if_:P.underlying tf=some df) (jf:df.isRow=true) (nf:(P.info? tf).map (·.size)=some cf.size) (of:cf.toList.all (·.oneCell')=true)
  (H:∀ W',But2 bu bv W W'->W'.heap[bu]?=some (.cells ck mu (0,0))->W'.heap[bv]?=some (.cells cf mv (0,0))->Q .normal ((((a.put (some s0) (.agg ck)).put (some s1) (.agg cf)).put (some s9) (a.eval x)).put (some s8) (a.eval x)) W') :
  (Code.region id ops true).wp P Q a W:=by
 obtain⟨n1,n2,n3,n4,n5⟩:=hn
 simp only[Aux,Bool.and_eq_true,beq_iff_eq]at hok
 obtain⟨⟨⟨⟨⟨⟨⟨⟨⟨⟨⟨⟨r0,r1⟩,r2⟩,r3⟩,r4⟩,r5⟩,q6⟩,q7⟩,r6⟩,r7⟩,r8⟩,r9⟩,r10⟩:=hok
 have e0:ops[0]?=some ⟨some s0,.load tk (.tmp ak),y0,p0,f0,none⟩:=by rw[hops];rfl
 have e1:ops[1]?=some ⟨some s1,.load tf (.tmp af),y1,p1,f1,none⟩:=by rw[hops];rfl
 have e9:ops[2]?=some ⟨some s9,.move x,y9,p9,f9,none⟩:=by rw[hops];rfl
 have e2:ops[3]?=some ⟨none,.store tk (.tmp u) (.tmp s0),y2,p2,f2,none⟩:=by rw[hops];rfl
 have e3:ops[4]?=some ⟨none,.store tf (.tmp v) (.tmp s1),y3,p3,f3,none⟩:=by rw[hops];rfl
 have e4:ops[5]?=some ⟨some s8,.assign (.tmp s9),y4,p4,f4,none⟩:=by rw[hops];rfl
 clear hops
 have t1:W.drew.there bu 0 ck.size:=by rw[hsu];exact Aet (W:=W.drew) hu
 have t2:W.drew.there bv 0 cf.size:=by rw[hsv];exact Aet (W:=W.drew) hv
 refine wp_region_held_drew (S:=fun w=>w.heap[bk]?=some (.cells ck mk (0,0))/\w.heap[bf]?=some (.cells cf mf (0,0))/\(w.there bu 0 ck.size/\w.there bv 0 cf.size)) hm ⟨hk,hf,t1,t2⟩ (fun hS=>?_)
 have hrep:Array.replicate ops.size false=#[false,false,false,false,false,false]:=by rw[r0];rfl
 rw[hrep,r0]
 refine wpAnyH_take (i:=0) e0 r1 r2 r3 (fun c a w h=>hQ _ _ _ _ _ h) (yieldsIf_load_mid (by rfl) tk _ rfl bk 0 hak ck.toList dk (fun w hw=>Ac8 hw.1) ik jk (by simpa using nk)) hS ?_
 refine wpAnyH_take (i:=1) e1 r1 r4 r5 (fun c a w h=>hQ _ _ _ _ _ h) (yieldsIf_load_mid (by rfl) tf _ rfl bf 0 (by simpa using haf) cf.toList df (fun w hw=>Ac8 hw.2.1) if_ jf (by simpa using nf)) hS ?_
 refine wpAnyH_take (i:=2) (v:=a.eval x) e9 r1 q6 q7 (fun c a w h=>hQ _ _ _ _ _ h) (Or.inl ⟨by rfl,fun w _=>?_⟩) hS ?_
 ·rw[BigFrame.run_move x rfl]
  simp only[Array.toArray_toList,h8]
 simp only[Array.toArray_toList]at *
 refine wpAnyH_ready (rs:=[3]) r6 (by simp) ?_
 refine AllReadyH.cons e2 (fun K' hK=>?_) AllReadyH.nil
 rw[if_pos (by rfl)]
 refine wp_store_mid tk _ _ rfl bu 0 ck hau h0 t1 nk (by simpa using ok) ?_
 have b1:But bu W.drew (W.drew.setCells bu 0 ck.toList):=Abq _ _ _
 refine hK.out _ _ ⟨(b1.block bk n1).trans hk,(b1.block bf n3).trans hf,World.there_setCells t1 _ _ _,World.there_setCells t2 _ _ _⟩ (fun hS2=>?_)
 refine wpAnyH_ready (rs:=[4]) r7 (by simp) ?_
 refine AllReadyH.cons e3 (fun K' hK=>?_) AllReadyH.nil
 rw[if_pos (by rfl)]
 refine wp_store_mid tf _ _ rfl bv 0 cf hav h1 hS2.2.2.2 nf (by simpa using of) ?_
 have b2:But bv (W.drew.setCells bu 0 ck.toList) ((W.drew.setCells bu 0 ck.toList).setCells bv 0 cf.toList):=Abq _ _ _
 refine hK.out _ _ ⟨(b2.block bk n2).trans hS2.1,(b2.block bf n4).trans hS2.2.1,World.there_setCells hS2.2.2.1 _ _ _,World.there_setCells hS2.2.2.2 _ _ _⟩ (fun hS3=>?_)
 refine wpAnyH_take (i:=5) (v:=a.eval x) e4 r1 r8 r9 (fun c a w h=>hQ _ _ _ _ _ h) (Or.inl ⟨by rfl,fun w _=>?_⟩) hS3 ?_
 ·rw[BigFrame.run_assign (.tmp s9) rfl]
  exact congrArg (fun v=>Result.ok (Next.value v) w) h9
 refine wpAnyH_done r10 ?_ _
 exact H _ ⟨b2.os.trans b1.os,b2.tape.trans b1.tape,b2.output.trans b1.output,b2.size.trans b1.size,fun k h h'=>(b2.block k h').trans (b1.block k h)⟩ ((b2.block bu n5).trans (Agu (W:=W.drew) hu hsu)) (Agu ((b1.block bv (Ne.symm n5)).trans hv) hsv)
theorem Ak6 {P:Program}{W:World}{g:Nat}{cs:Array Value}{t s:TypeId}{d:TypeDesc}(h:W.heap[g]?=some (.cells cs s (0,0)))(hu:P.underlying t=some d)(hd:d.isRow=true)(hi:(P.info? t).map (·.size)=some cs.size) :
  (loadVar t ⟨g,0,none⟩).run P W=.ok (.agg cs) W:=by
 have h1:=run_loadVar_mid (P:=P) W g 0 t cs.toList d (Ac8 h) hu hd (by simpa using hi)
 simpa using h1
section
variable {P : Program} {fn : Func} {R : Ending -> World -> Prop} {a : Act} {W : World} {t1 t2 s s' : Tmp} {y1 y2 : TypeId} {g1 g2 : Nat} {c1 c2 : Array Value} {m1 m2 : TypeId} {d1 d2 : TypeDesc}
theorem Azz (hr:fn.results=#[.cell t1 y1,.cell t2 y2,.tmp s])(h1:a.tmps.getD t1 undef=.pointer (some ⟨g1,0,none⟩))(h2:a.tmps.getD t2 undef=.pointer (some ⟨g2,0,none⟩))(b1:W.heap[g1]?=some (.cells c1 m1 (0,0)))(b2:W.heap[g2]?=some (.cells c2 m2 (0,0)))
  (u1:P.underlying y1=some d1) (j1:d1.isRow=true) (n1:(P.info? y1).map (·.size)=some c1.size) (u2:P.underlying y2=some d2) (j2:d2.isRow=true) (n2:(P.info? y2).map (·.size)=some c2.size)
  (hd:a.defers=[]) (hR:R (.returned (.tuple #[.agg c1,.agg c2,a.tmps.getD s undef])) W):bodyPost P fn R .ret a W:=by
 refine bodyPost_ret (v:=.tuple #[.agg c1,.agg c2,a.tmps.getD s undef]) ?_ hd hR
 simp[-Array.getD_eq_getD_getElem?,results,hr,h1,h2,Ak6 b1 u1 j1 n1,Ak6 b2 u2 j2 n2,asAddr,Sem.run_bind]
theorem Bba (hr:fn.results=#[.cell t1 y1,.tmp s])(h1:a.tmps.getD t1 undef=.pointer (some ⟨g1,0,none⟩))(b1:W.heap[g1]?=some (.cells c1 m1 (0,0)))(u1:P.underlying y1=some d1)(j1:d1.isRow=true)(n1:(P.info? y1).map (·.size)=some c1.size)
  (hd:a.defers=[]) (hR:R (.returned (.tuple #[.agg c1,a.tmps.getD s undef])) W):bodyPost P fn R .ret a W:=by
 refine bodyPost_ret (v:=.tuple #[.agg c1,a.tmps.getD s undef]) ?_ hd hR
 simp[-Array.getD_eq_getD_getElem?,results,hr,h1,Ak6 b1 u1 j1 n1,asAddr,Sem.run_bind]
theorem Az0 (hr:fn.results=#[.cell t1 y1,.tmp s,.tmp s'])(h1:a.tmps.getD t1 undef=.pointer (some ⟨g1,0,none⟩))(b1:W.heap[g1]?=some (.cells c1 m1 (0,0)))(u1:P.underlying y1=some d1)(j1:d1.isRow=true)(n1:(P.info? y1).map (·.size)=some c1.size)
  (hd:a.defers=[]) (hR:R (.returned (.tuple #[.agg c1,a.tmps.getD s undef,a.tmps.getD s' undef])) W):bodyPost P fn R .ret a W:=by
 refine bodyPost_ret (v:=.tuple #[.agg c1,a.tmps.getD s undef,a.tmps.getD s' undef]) ?_ hd hR
 simp[-Array.getD_eq_getD_getElem?,results,hr,h1,Ak6 b1 u1 j1 n1,asAddr,Sem.run_bind]
end
theorem Aog (a:Option Addr)(cap:Nat)(m b cwd:Int)(pb:ByteArray)(hp:pb.size<=1073741824)(follow:Bool)(L:List Ino)(hF:FitP L m b)(z e:Int)(h:Acp L cwd pb.data.toList follow=(z,e))(w:World)(hN:Aad w a cap L) :
  Calls Tryz.prog 121 #[.agg #[.slice a L.length cap,.int .i64 m,.int .i64 b],.int .i64 cwd,.string pb,.bool follow] w fun r w'=>r=.returned (.tuple #[.int .i64 z,.int .i64 e])/\Below w.heap.size w w':=by
 have:=Aty a cap m b cwd pb hp follow L hF w hN
 rw[h]at this
 exact this
def Bbk : List Value:=[.int .i64 4,.int .i64 1,.bool false,.int .i64 2,.int .i64 2,.bool true,.int .i64 2,.int .i64 6,.bool false,.int .i64 6,.int .i64 3,.bool false,.int .i64 2,.int .i64 2,.bool true]
structure Ways (W:World):Prop where
 cells:∀ i v,Bbk[i]?=some v->W.cell? ⟨0,i,none⟩=some v
theorem Ways.below {W W':World}{n:Nat}(h:Ways W)(hb:Below n W W')(hn:W.heap.size<=n):Ways W':=⟨fun i v hv=>Aaa (hb.mono hn) (h.cells i v hv)⟩
theorem Azs {L:List Ino}{m b:Int}(hF:FitP L m b){n:Nat}(hn:n < L.length)(h1:L[n].kind=1)(hd:L[n].data=[]):cutW L b (n:Int) 0=(L,0):=by
 obtain⟨-,-,-,l4,l5⟩:=hF.limits
 have hf:Adj L (n:Int)=0:=by
  unfold Adj Aa5
  rw[Aae L n hn,if_neg (by rw[h1];simp;omega),if_neg (by omega),if_neg (by omega)]
 have hset:Ae9 L n (cutL (Aai L (n:Int)).data 0)=L:=by
  rw[Aae L n hn,hd]
  unfold Ae9
  rw[Aae L n hn]
  apply List.ext_getElem (List.length_set ..)
  intro i h2 h3
  rw[List.getElem_set]
  split
  ·rename_i e
   subst e
   obtain⟨x,hx⟩:∃ x,x=L[n]:=⟨_,rfl⟩
   rw[<-hx]at hd ⊢
   obtain⟨c1,c2,c3,c4,c5,c6⟩:=x
   have hd':c4=[]:=hd
   subst hd'
   rfl
  ·rfl
 unfold cutW Aee
 rw[if_neg (by omega),if_neg (by omega),if_neg (by omega),Int.toNat_natCast]
 rw[show (0:Int).toNat=0 from rfl,hset,if_neg]
 rw[Aae L n hn,hd]
 show ¬ b < (Aax L:Int) - ((0:Nat):Int)+((0:Nat):Int)
 omega
def Aha (how:Int):Bool:=how == 1 || how == 4
theorem Awu {L:List Ino}{m b:Int}(hF:FitP L m b){cwd:Int}{p:List UInt8}{L':List Ino}{k:Int}(hz:Adr L cwd p 6=(L',k,0)):FitP L' m b/\cutW L' b k 0=(L',0):=by
 obtain⟨-,hM⟩:=(Ai9 hF hz).1 rfl
 obtain⟨d,s,j,rfl,-,hL,⟨hj,hj0⟩,hA,-⟩:=hM.made
 have hfit:=hA.fits
 rw[<-hL]at hfit
 have hj':j < L'.length:=by rw[hL,Acd];exact hj
 have he:L'[j]={ Ad9 1 6 [] 0 with links:=1 }:=by
  subst hL
  rw[Agt hA.dlt s _ j hj,if_neg hA.ne,if_pos rfl]
 exact⟨hfit,Azs hfit hj' (by rw[he];rfl) (by rw[he];rfl)⟩
def Aby (L:List Ino)(z:Int)(how:Int):Int:=
 if how=4/\(Aai L z).kind≠2 then 17 else if how≠0/\(Aai L z).kind=2 then 21 else if mayL L z (Aat how).1=false then 13 else if (Aai L z).kind=2 then 21 else 0
theorem Aig {L:List Ino}{m b:Int}(hF:FitP L m b){cwd:Int}{p:List UInt8}{how:Int}{z:Int}(hw:Acp L cwd p true=(z,0)) :
  ∃ n:Nat,∃ hn:n < L.length,z=(n:Int)/\Aaw L b cwd p how=(if Aby L z how≠0 then(L,0,Aby L z how)else if Aha how=true then((cutW L b z 0).1,z,(cutW L b z 0).2)else(L,z,0)):=by
 have hw0:(Acp L cwd p true).2=0:=by rw[hw]
 obtain⟨hlive,h3⟩:=(Aj5 hF cwd p).2 hw0
 obtain⟨n,hn,hwz,hk0⟩:=Alg hlive
 rw[hw]at hwz h3
 have hwz:z=(n:Int):=hwz
 subst hwz
 have h3:(Aai L (n:Int)).kind≠3:=h3
 refine⟨n,hn,rfl,?_⟩
 have hk:(Aai L (n:Int)).kind=1∨(Aai L (n:Int)).kind=2:=by
  rw[Aae L n hn]at h3 ⊢
  by_cases h2:L[n].kind=2
  ·exact .inr h2
  ·exact .inl (Ald (hF.ins n hn).1 hk0 h2 h3)
 unfold Aaw Aby Aha
 rw[hw]
 rw[if_neg (show ¬ ((0:Int)=2/\how≠0) by omega),if_neg (show ¬ ((0:Int)≠0) by omega)]
 dsimp only
 have he:((how == 1 || how == 4)=true)↔(how=1∨how=4):=by simp
 rcases hk with hk|hk <;> rw[hk]
 ·by_cases h4:how=4
  ·subst h4
   simp
  ·rw[if_neg (show ¬ (how=4/\(1:Int)=1) by omega),if_neg (show ¬ ((1:Int)=2/\how≠0) by omega)]
   rw[if_neg (show ¬ (how=4/\(1:Int)≠2) by omega),if_neg (show ¬ (how≠0/\(1:Int)=2) by omega)]
   by_cases hm:mayL L (n:Int) (Aat how).1=false
   ·rw[if_pos hm,if_pos hm]
    simp
   ·rw[if_neg hm,if_neg hm,if_neg (show ¬ ((1:Int)=2) by omega),if_neg (show ¬ ((1:Int)=2) by omega),if_neg (show ¬ ((0:Int)≠0) by omega)]
    by_cases h5:how=1∨how=4
    ·rw[if_pos h5,if_pos (he.2 h5)]
    ·rw[if_neg h5,if_neg (fun e=>h5 (he.1 e))]
 ·rw[if_neg (show ¬ (how=4/\(2:Int)=1) by omega),if_neg (show ¬ (how=4/\(2:Int)≠2) by omega)]
  by_cases h0:how=0
  ·subst h0
   rw[if_neg (show ¬ ((2:Int)=2/\(0:Int)≠0) by omega),if_neg (show ¬ ((0:Int)≠0/\(2:Int)=2) by omega)]
   by_cases hm:mayL L (n:Int) (Aat 0).1=false
   ·rw[if_pos hm,if_pos hm]
    simp
   ·rw[if_neg hm,if_neg hm,if_pos rfl,if_pos rfl]
    simp
  ·rw[if_pos (show (2:Int)=2/\how≠0 from⟨rfl,h0⟩),if_pos (show how≠0/\(2:Int)=2 from⟨h0,rfl⟩)]
   simp
theorem Ao1 {L:List Ino}{b cwd:Int}{p:List UInt8}{how z:Int}(hw:Acp L cwd p true=(z,2))(h0:how≠0):Aaw L b cwd p how=Adr L cwd p 6:=by
 unfold Aaw
 rw[hw,if_pos ⟨rfl,h0⟩]
theorem Ary {L:List Ino}{b cwd:Int}{p:List UInt8}{how z e:Int}(hw:Acp L cwd p true=(z,e))(he:e≠0)(h:¬ (e=2/\how≠0)):Aaw L b cwd p how=(L,0,e):=by
 unfold Aaw
 rw[hw,if_neg h,if_pos he]
theorem Ways.at_ {W:World}(h:Ways W)(n:Nat)(hn:n < 5):W.cell? ⟨0,n * 3,none⟩=some (.int .i64 (Aat n).1)/\W.cell? ⟨0,n * 3+1,none⟩=some (.int .i64 (Aat n).2)/\W.cell? ⟨0,n * 3+2,none⟩=some (.bool (Aha n)):=by
 match n,hn with
 | 0,_=>exact⟨h.cells 0 _ rfl,h.cells 1 _ rfl,h.cells 2 _ rfl⟩
 | 1,_=>exact⟨h.cells 3 _ rfl,h.cells 4 _ rfl,h.cells 5 _ rfl⟩
 | 2,_=>exact⟨h.cells 6 _ rfl,h.cells 7 _ rfl,h.cells 8 _ rfl⟩
 | 3,_=>exact⟨h.cells 9 _ rfl,h.cells 10 _ rfl,h.cells 11 _ rfl⟩
 | 4,_=>exact⟨h.cells 12 _ rfl,h.cells 13 _ rfl,h.cells 14 _ rfl⟩
section
variable {B g : Nat} {A : KAd} {K : Krn} {f : List Int}
theorem Atu (how z:Nat)(hh:how < 5)(hz:z < K.tree.length)(w:World)(hW:Wk w B g A K f)(hI:Aef K.tree)(hY:Ways w) :
  Calls Tryz.prog 123 #[.pointer (some ⟨g,0,none⟩),.int .i64 (z:Int),.int .i64 (how:Int)] w fun e w'=>e=.returned (.int .i64 (Aby K.tree (z:Int) (how:Int)))/\Below w.heap.size w w':=by
 obtain⟨bt,ot,hta,hx⟩:=hW.nodes.2.2 z hz
 have xk:=hx.kind
 have xl:=Aaf xk
 obtain⟨kd,hkd⟩:∃ kd,K.tree[z].kind=kd:=⟨_,rfl⟩
 have HKD:=Hd (show (Aai K.tree (z:Int)).kind=kd by rw[Aae _ z hz];exact hkd)
 rw[hkd]at xk
 have HTA:=Hd hta
 have HW:=Hd hW
 have HI:=Hd hI
 have HSS:=Hd (show ∀ W,Below w.heap.size w W->W.cell? ⟨g,0,none⟩=some (.slice (some ⟨bt,ot,none⟩) K.tree.length A.tc)/\W.cell? ⟨g,1,none⟩=some (.int .i64 K.m)/\W.cell? ⟨g,2,none⟩=some (.int .i64 K.b)/\W.cell? ⟨0,how * 3,none⟩=some (.int .i64 (Aat how).1)from fun W hb=>by
  obtain⟨q0,q1,q2,-⟩:=(HW.out.below hb).kcells
  rw[HTA.out]at q0
  exact⟨q0,q1,q2,((hY.below hb (Nat.le_refl _)).at_ how hh).1⟩)
 obtain⟨q0,q1,q2,y0⟩:=HSS.out _ (Below.refl _ _)
 have gl:=hW.lt
 have yl:=Aaf y0
 have b0:(0:Int)<=(z:Int):=by omega
 have b1:(z:Int) < (K.tree.length:Int):=by omega
 have c0:(0:Int)<=(how:Int):=by omega
 have c1:(how:Int) < 5:=by omega
 clear hW hI hY hta hx hkd
 by_cases hk:kd=2
 ·by_cases hw:(how:Int)=0
  ·have h4:((how:Int) == 4)=false:=by rw[beq_eq_false_iff_ne];omega
   have h0:((how:Int) != 0)=false:=by rw[bne_eq_false_iff_eq];omega
   have k2:(kd == 2)=true:=by rw[beq_iff_eq];omega
   obtain⟨v,hv⟩:∃ v,mayL K.tree (z:Int) (Aat how).1=v:=⟨_,rfl⟩
   have HV:=Hd hv
   have HBB:=Hd (Below.refl w.heap.size w)
   have HMY:=Hd (fun W (hb:Below w.heap.size w W)=>Ady A.ta A.tc K.m K.b (z:Int) (Aat how).1 K.tree HI.out v hv W (HW.out.below hb).nodes)
   clear hv
   rw[show Aby K.tree (z:Int) how=(if v=true then 21 else 13) by unfold Aby;rw[HKD.out,HV.out];rw[if_neg (by omega),if_neg (by omega)];cases v <;> simp[hk]]
   go_enter Tryz.func123,Tryz.ntmps123
   clear hw hk
   go_upto_region 6 with fail
   go_region_held3 (fun W=>W.cell? ⟨g,0,none⟩=some (.slice (some ⟨bt,ot,none⟩) K.tree.length A.tc)/\W.cell? ⟨g,1,none⟩=some (.int .i64 K.m)/\W.cell? ⟨g,2,none⟩=some (.int .i64 K.b)/\W.cell? ⟨0,how * 3,none⟩=some (.int .i64 (Aat how).1))
    (first|exact⟨q0,q1,q2,y0⟩|exact HSS.out _ HBB.out|exact HSS.out _ (Aac HBB.out))
    (first
     | (go_at_call 159;rw[<-HTA.out];refine(HMY.out _ (by first|exact Below.refl _ _|exact Aac (Below.refl _ _)|exact HBB.out|exact Aac HBB.out)).mono ?_;rintro e wn ⟨rfl,hbn⟩;have HBB:Hid (Below w.heap.size w wn):=Hd (Aaz HBB.out hbn HBB.out.size ⟨rfl,rfl,rfl,rfl⟩);obtain⟨q0,q1,q2,y0⟩:=HSS.out _ HBB.out))
   all_goals
    cases v
    ·go_wp2_with fail
     go_ret
     exact⟨rfl,HBB.out⟩
    ·go_wp2_with fail
     go_ret
     exact⟨rfl,HBB.out⟩
  ·by_cases hw4:(how:Int)=4
   ·have h4:((how:Int) == 4)=true:=by rw[beq_iff_eq];omega
    have h0:((how:Int) != 0)=true:=by rw[bne_iff_ne];omega
    have k2:(kd == 2)=true:=by rw[beq_iff_eq];omega
    rw[show Aby K.tree (z:Int) how=21 by unfold Aby;rw[HKD.out];rw[if_neg (by omega),if_pos (by omega)]]
    clear HSS
    go_enter Tryz.func123,Tryz.ntmps123
    go_wp2_with fail
    go_ret
    exact⟨rfl,Below.refl _ _⟩
   ·have h4:((how:Int) == 4)=false:=by rw[beq_eq_false_iff_ne];omega
    have h0:((how:Int) != 0)=true:=by rw[bne_iff_ne];omega
    have k2:(kd == 2)=true:=by rw[beq_iff_eq];omega
    rw[show Aby K.tree (z:Int) how=21 by unfold Aby;rw[HKD.out];rw[if_neg (by omega),if_pos (by omega)]]
    clear HSS
    go_enter Tryz.func123,Tryz.ntmps123
    go_wp2_with fail
    go_ret
    exact⟨rfl,Below.refl _ _⟩
 ·by_cases hw4:(how:Int)=4
  ·have h4:((how:Int) == 4)=true:=by rw[beq_iff_eq];omega
   have k2:(kd == 2)=false:=by rw[beq_eq_false_iff_ne];omega
   rw[show Aby K.tree (z:Int) how=17 by unfold Aby;rw[HKD.out];rw[if_pos (by omega)]]
   clear HSS
   go_enter Tryz.func123,Tryz.ntmps123
   go_wp2_with fail
   go_ret
   exact⟨rfl,Below.refl _ _⟩
  ·by_cases hw:(how:Int)=0
   ·have h4:((how:Int) == 4)=false:=by rw[beq_eq_false_iff_ne];omega
    have h0:((how:Int) != 0)=false:=by rw[bne_eq_false_iff_eq];omega
    have k2:(kd == 2)=false:=by rw[beq_eq_false_iff_ne];omega
    obtain⟨v,hv⟩:∃ v,mayL K.tree (z:Int) (Aat how).1=v:=⟨_,rfl⟩
    have HV:=Hd hv
    have HBB:=Hd (Below.refl w.heap.size w)
    have HMY:=Hd (fun W (hb:Below w.heap.size w W)=>Ady A.ta A.tc K.m K.b (z:Int) (Aat how).1 K.tree HI.out v hv W (HW.out.below hb).nodes)
    clear hv
    rw[show Aby K.tree (z:Int) how=(if v=true then 0 else 13) by unfold Aby;rw[HKD.out,HV.out];rw[if_neg (by omega),if_neg (by omega)];cases v <;> simp[hk]]
    go_enter Tryz.func123,Tryz.ntmps123
    clear hw hk hw4
    go_upto_region 6 with fail
    go_region_held3 (fun W=>W.cell? ⟨g,0,none⟩=some (.slice (some ⟨bt,ot,none⟩) K.tree.length A.tc)/\W.cell? ⟨g,1,none⟩=some (.int .i64 K.m)/\W.cell? ⟨g,2,none⟩=some (.int .i64 K.b)/\W.cell? ⟨0,how * 3,none⟩=some (.int .i64 (Aat how).1))
     (first|exact⟨q0,q1,q2,y0⟩|exact HSS.out _ HBB.out|exact HSS.out _ (Aac HBB.out))
     (first
      | (go_at_call 159;rw[<-HTA.out];refine(HMY.out _ (by first|exact Below.refl _ _|exact Aac (Below.refl _ _)|exact HBB.out|exact Aac HBB.out)).mono ?_;rintro e wn ⟨rfl,hbn⟩;have HBB:Hid (Below w.heap.size w wn):=Hd (Aaz HBB.out hbn HBB.out.size ⟨rfl,rfl,rfl,rfl⟩);obtain⟨q0,q1,q2,y0⟩:=HSS.out _ HBB.out))
    all_goals
     cases v
     ·go_wp2_with fail
      go_ret
      exact⟨rfl,HBB.out⟩
     ·go_wp2_with fail
      go_ret
      exact⟨rfl,HBB.out⟩
   ·have h4:((how:Int) == 4)=false:=by rw[beq_eq_false_iff_ne];omega
    have h0:((how:Int) != 0)=true:=by rw[bne_iff_ne];omega
    have k2:(kd == 2)=false:=by rw[beq_eq_false_iff_ne];omega
    obtain⟨v,hv⟩:∃ v,mayL K.tree (z:Int) (Aat how).1=v:=⟨_,rfl⟩
    have HV:=Hd hv
    have HBB:=Hd (Below.refl w.heap.size w)
    have HMY:=Hd (fun W (hb:Below w.heap.size w W)=>Ady A.ta A.tc K.m K.b (z:Int) (Aat how).1 K.tree HI.out v hv W (HW.out.below hb).nodes)
    clear hv
    rw[show Aby K.tree (z:Int) how=(if v=true then 0 else 13) by unfold Aby;rw[HKD.out,HV.out];rw[if_neg (by omega),if_neg (by omega)];cases v <;> simp[hk]]
    go_enter Tryz.func123,Tryz.ntmps123
    clear hw hk hw4
    go_upto_region 6 with fail
    go_region_held3 (fun W=>W.cell? ⟨g,0,none⟩=some (.slice (some ⟨bt,ot,none⟩) K.tree.length A.tc)/\W.cell? ⟨g,1,none⟩=some (.int .i64 K.m)/\W.cell? ⟨g,2,none⟩=some (.int .i64 K.b)/\W.cell? ⟨0,how * 3,none⟩=some (.int .i64 (Aat how).1))
     (first|exact⟨q0,q1,q2,y0⟩|exact HSS.out _ HBB.out|exact HSS.out _ (Aac HBB.out))
     (first
      | (go_at_call 159;rw[<-HTA.out];refine(HMY.out _ (by first|exact Below.refl _ _|exact Aac (Below.refl _ _)|exact HBB.out|exact Aac HBB.out)).mono ?_;rintro e wn ⟨rfl,hbn⟩;have HBB:Hid (Below w.heap.size w wn):=Hd (Aaz HBB.out hbn HBB.out.size ⟨rfl,rfl,rfl,rfl⟩);obtain⟨q0,q1,q2,y0⟩:=HSS.out _ HBB.out))
    all_goals
     cases v
     ·go_wp2_with fail
      go_ret
      exact⟨rfl,HBB.out⟩
     ·go_wp2_with fail
      go_ret
      exact⟨rfl,HBB.out⟩
def Aym (B g:Nat)(K:Krn)(f:List Int)(Z:List Ino×Int×Int)(w:World)(e:Ending)(w':World):Prop:=
 ∃ ino:Int,e=.returned (.tuple #[.int .i64 ino,.int .i64 Z.2.2])/\Below B w w'/\(Z.2.2=0->ino=Z.2.1/\∃ A',Wk w' B g A' { K with tree:=Z.1 } f)
theorem Ways.low {W W':World}{n:Nat}(h:Ways W)(hb:Below n W W')(hn:0 < n):Ways W':=⟨fun i v hv=>(World.cell?_of_block (a:=⟨0,i,none⟩) (hb.block _ hn)).trans (h.cells i v hv)⟩
theorem Baz (how:Nat)(hh:how < 5)(cwd:Int)(pb:ByteArray)(hp:pb.size<=1073741824)(w:World)(hW:Wk w B g A K f)(hF:FitK K f)(hBw:B<=w.heap.size)(hY:Ways w)(hgB:0 < B) :
  Calls Tryz.prog 82 #[.pointer (some ⟨g,0,none⟩),.int .i64 cwd,.string pb,.int .i64 (how:Int)] w (Aym B g K f (Aaw K.tree K.b cwd pb.data.toList (how:Int)) w):=by
 obtain⟨z,e0,hwz⟩:∃ z e0,Acp K.tree cwd pb.data.toList true=(z,e0):=⟨_,_,rfl⟩
 have HWK:=Hd (fun W (hb:Below w.heap.size w W)=>Aog A.ta A.tc K.m K.b cwd pb hp true K.tree hF.tree z e0 hwz W (hW.below hb).nodes)
 have HW:=Hd hW
 have HF:=Hd hF
 have HBw:=Hd hBw
 have HY:=Hd hY
 have HGB:=Hd hgB
 have HWZ:=Hd hwz
 have HSS:=Hd (show ∀ W A' K',Wk W B g A' K' f->W.cell? ⟨g,0,none⟩=some (.slice A'.ta K'.tree.length A'.tc)/\W.cell? ⟨g,1,none⟩=some (.int .i64 K'.m)/\W.cell? ⟨g,2,none⟩=some (.int .i64 K'.b)/\g < W.heap.size from fun W A' K' hk=>by
  obtain⟨q0,q1,q2,-⟩:=hk.kcells
  exact⟨q0,q1,q2,hk.lt⟩)
 have HYW:=Hd (show ∀ W,Below B w W->W.cell? ⟨0,how * 3+2,none⟩=some (.bool (Aha how))/\0 < W.heap.size from fun W hb=>by
  have h:=((hY.low hb hgB).at_ how hh).2.2
  exact⟨h,Aaf h⟩)
 obtain⟨q0,q1,q2,gl⟩:=HSS.out _ _ _ hW
 have c0:(0:Int)<=(how:Int):=by omega
 have c1:(how:Int) < 5:=by omega
 clear hW hF hBw hY hgB hwz
 by_cases hA:e0=2/\(how:Int)≠0
 ·
  obtain⟨rfl,hh0⟩:=hA
  obtain⟨L1,k,e1,hcr⟩:∃ L1 k e1,Adr K.tree cwd pb.data.toList 6=(L1,k,e1):=⟨_,_,_,rfl⟩
  have HT:=Hd (show Aaw K.tree K.b cwd pb.data.toList (how:Int)=(L1,k,e1) by rw[Ao1 HWZ.out hh0,hcr])
  rw[HT.out]
  have HCR:=Hd hcr
  have h0:((how:Int) != 0)=true:=by rw[bne_iff_ne];exact hh0
  clear hcr hh0
  go_enter Tryz.func82,Tryz.ntmps82
  go_wp2_with fail
  refine(HWK.out _ (Below.refl _ _)).mono ?_
  rintro e w2 ⟨rfl,hb2⟩
  have HW2:=Hd (HW.out.below hb2)
  have HB2:=Hd (hb2.mono HBw.out)
  clear q0 q1 q2 gl hb2
  obtain⟨q0,q1,q2,gl⟩:=HSS.out _ _ _ HW2.out
  go_wp2_with fail
  refine(An1 A.ta A.tc K.m K.b cwd 6 pb hp K.tree HF.out.tree L1 k e1 HCR.out _ HW2.out.nodes).mono ?_
  rintro e w3 ⟨⟨gt,cap,vs,rfl,hot⟩,hb3⟩
  have hwk:=HW2.out.newTree hb3 hot
  have HW3:=Hd (HW2.out.below hb3)
  obtain⟨w4,hw4⟩:∃ z,z=put3 w3 g (.slice (some ⟨gt,0,none⟩) L1.length cap) (.int .i64 K.m) (.int .i64 K.b):=⟨_,rfl⟩
  rw[<-hw4]at hwk
  have HWK4:=Hd hwk.1
  have HB4:=Hd (show Below B w w4 from HB2.out.trans (HW2.out.low hwk.2 (Nat.le_trans HBw.out HB2.out.size)))
  clear q0 q1 q2 gl hot hb3 hwk
  obtain⟨k0,k1,k2,-⟩:=HW3.out.kcells
  have f0:=HW3.out.free 0
  have f1:=HW3.out.free 1
  have f2:=HW3.out.free 2
  have gl:=HW3.out.lt
  by_cases he1:e1=0
  ·subst he1
   obtain⟨hfit,hcut⟩:=Awu HF.out.tree HCR.out
   have HFT:=Hd hfit
   have HCUT:=Hd hcut
   obtain⟨v,hv⟩:∃ v,Aha (how:Int)=v:=⟨_,rfl⟩
   have HV:=Hd hv
   clear hfit hcut hv
   go_upto_region 6 with fail
   have hw4':w4=((w3.setCell ⟨g,0,none⟩ (.slice (some ⟨gt,0,none⟩) L1.length cap)).setCell ⟨g,1,none⟩ (.int .i64 K.m)).setCell ⟨g,2,none⟩ (.int .i64 K.b):=hw4
   rw[<-hw4']
   clear hw4'
   clear hw4 k0 k1 k2 f0 f1 f2 gl
   obtain⟨A2,hA2⟩:∃ A2:KAd,A2={ A with ta:=some ⟨gt,0,none⟩,tc:=cap }:=⟨_,rfl⟩
   obtain⟨K2,hK2⟩:∃ K2:Krn,K2={ K with tree:=L1 }:=⟨_,rfl⟩
   have HWX:=Hd (show Wk w4 B g A2 K2 f by rw[hA2,hK2];exact HWK4.out)
   have HFX:=Hd (show FitP K2.tree K2.m K2.b by rw[hK2];exact HFT.out)
   have HCX:=Hd (show cutW K2.tree K2.b k 0=(K2.tree,0) by rw[hK2];exact HCUT.out)
   have HKX:=Hd hK2
   clear hA2 hK2 HWK4 HFT HCUT
   obtain⟨q0,q1,q2,gl⟩:=HSS.out _ _ _ HWX.out
   obtain⟨y2,yl⟩:=HYW.out _ HB4.out
   rw[HV.out]at y2
   cases v
   ·go_wp2_with fail
    go_ret2
    exact⟨k,rfl,HB4.out,fun _=>⟨rfl,A2,by have h:=HWX.out;rw[HKX.out]at h;exact h⟩⟩
   ·go_wp2_with fail
    refine(Amv A2.ta A2.tc K2.m K2.b k 0 K2.tree HFX.out K2.tree 0 HCX.out _ HWX.out.nodes).mono ?_
    rintro e w8 ⟨⟨gt8,cap8,vs8,rfl,hot8⟩,hb8⟩
    have hwk8:=HWX.out.newTree hb8 hot8
    have HWK8:=Hd hwk8.1
    have HST8:=Hd hwk8.2
    have HW8B:=Hd (HWX.out.below hb8)
    clear q0 q1 q2 gl y2 yl
    obtain⟨k0,k1,k2,-⟩:=HW8B.out.kcells
    have f0:=HW8B.out.free 0
    have f1:=HW8B.out.free 1
    have f2:=HW8B.out.free 2
    have gl:=HW8B.out.lt
    clear hot8 hb8 hwk8
    go_wp2_with fail
    go_ret2
    exact⟨k,rfl,HB4.out.trans (HWX.out.low HST8.out (Nat.le_trans HBw.out HB4.out.size)),fun _=>⟨rfl,_,by have e9:({ K with tree:=L1 }:Krn)=K2:=HKX.out.symm;rw[e9];exact HWK8.out⟩⟩
  ·have hb1:(e1 == 0)=false:=by rw[beq_eq_false_iff_ne];exact he1
   have HE1:=Hd he1
   clear he1
   go_upto_region 6 with fail
   have hw4':w4=((w3.setCell ⟨g,0,none⟩ (.slice (some ⟨gt,0,none⟩) L1.length cap)).setCell ⟨g,1,none⟩ (.int .i64 K.m)).setCell ⟨g,2,none⟩ (.int .i64 K.b):=hw4
   rw[<-hw4']
   clear hw4'
   clear hw4 k0 k1 k2 f0 f1 f2 gl
   go_wp2_with fail
   go_ret2
   exact⟨k,rfl,HB4.out,fun h=>absurd h HE1.out⟩
 by_cases hz0:e0=0
 ·
  subst hz0
  obtain⟨n,hn,rfl,htg⟩:=Aig (b:=K.b) (how:=(how:Int)) HF.out.tree HWZ.out
  obtain⟨er,her⟩:∃ er,Aby K.tree (n:Int) (how:Int)=er:=⟨_,rfl⟩
  rw[her]at htg
  have HRF:=Hd (fun W (hb:Below w.heap.size w W)=>Atu how n hh hn W (HW.out.below hb) HF.out.tree.ins (HY.out.below hb (Nat.le_refl _)))
  rw[her]at HRF
  clear hA her
  by_cases he1:er=0
  ·subst he1
   rw[if_neg (by omega)]at htg
   obtain⟨v,hv⟩:∃ v,Aha (how:Int)=v:=⟨_,rfl⟩
   rw[hv]at htg
   have HV:=Hd hv
   cases v
   ·rw[if_neg (by decide)]at htg
    have HT:=Hd htg
    rw[HT.out]
    clear htg hv
    go_enter Tryz.func82,Tryz.ntmps82
    go_wp2_with fail
    refine(HWK.out _ (Below.refl _ _)).mono ?_
    rintro e w2 ⟨rfl,hb2⟩
    have HW2:=Hd (HW.out.below hb2)
    have HB2:=Hd hb2
    clear q0 q1 q2 gl hb2
    go_wp2_with fail
    refine(HRF.out _ HB2.out).mono ?_
    rintro e w3 ⟨rfl,hb3⟩
    have HB3:=Hd (HB2.out.trans (hb3.mono HB2.out.size))
    have HW3:=Hd (HW2.out.below hb3)
    clear hb3
    obtain⟨q0,q1,q2,gl⟩:=HSS.out _ _ _ HW3.out
    obtain⟨y2,yl⟩:=HYW.out _ (HB3.out.mono HBw.out)
    rw[HV.out]at y2
    go_wp2_with fail
    go_ret2
    exact⟨_,rfl,HB3.out.mono HBw.out,fun _=>⟨rfl,_,HW3.out⟩⟩
   ·rw[if_pos rfl]at htg
    obtain⟨L2,e2,hcut⟩:∃ L2 e2,cutW K.tree K.b (n:Int) 0=(L2,e2):=⟨_,_,rfl⟩
    rw[hcut]at htg
    have HT:=Hd htg
    rw[HT.out]
    have HCUT:=Hd hcut
    have HFT:=Hd HF.out.tree
    clear htg hcut hv
    go_enter Tryz.func82,Tryz.ntmps82
    go_wp2_with fail
    refine(HWK.out _ (Below.refl _ _)).mono ?_
    rintro e w2 ⟨rfl,hb2⟩
    have HW2:=Hd (HW.out.below hb2)
    have HB2:=Hd hb2
    clear q0 q1 q2 gl hb2
    go_wp2_with fail
    refine(HRF.out _ HB2.out).mono ?_
    rintro e w3 ⟨rfl,hb3⟩
    have HB3:=Hd (HB2.out.trans (hb3.mono HB2.out.size))
    have HW3:=Hd (HW2.out.below hb3)
    clear hb3
    obtain⟨q0,q1,q2,gl⟩:=HSS.out _ _ _ HW3.out
    obtain⟨y2,yl⟩:=HYW.out _ (HB3.out.mono HBw.out)
    rw[HV.out]at y2
    go_wp2_with fail
    refine(Amv A.ta A.tc K.m K.b (n:Int) 0 K.tree HFT.out L2 e2 HCUT.out _ HW3.out.nodes).mono ?_
    rintro e w8 ⟨⟨gt8,cap8,vs8,rfl,hot8⟩,hb8⟩
    have hwk8:=HW3.out.newTree hb8 hot8
    have HWK8:=Hd hwk8.1
    have HST8:=Hd hwk8.2
    have HW8B:=Hd (HW3.out.below hb8)
    obtain⟨k0,k1,k2,-⟩:=HW8B.out.kcells
    have f0:=HW8B.out.free 0
    have f1:=HW8B.out.free 1
    have f2:=HW8B.out.free 2
    have gl:=HW8B.out.lt
    clear hot8 hb8 hwk8
    go_wp2_with fail
    go_ret2
    exact⟨_,rfl,(HB3.out.mono HBw.out).trans (HW3.out.low HST8.out (Nat.le_trans HBw.out HB3.out.size)),fun _=>⟨rfl,_,HWK8.out⟩⟩
  ·rw[if_pos he1]at htg
   have hb1:(er == 0)=false:=by rw[beq_eq_false_iff_ne];exact he1
   have HT:=Hd htg
   rw[HT.out]
   have HE1:=Hd he1
   clear htg he1
   go_enter Tryz.func82,Tryz.ntmps82
   go_wp2_with fail
   refine(HWK.out _ (Below.refl _ _)).mono ?_
   rintro e w2 ⟨rfl,hb2⟩
   have HW2:=Hd (HW.out.below hb2)
   have HB2:=Hd hb2
   clear q0 q1 q2 gl hb2
   go_wp2_with fail
   refine(HRF.out _ HB2.out).mono ?_
   rintro e w3 ⟨rfl,hb3⟩
   have HB3:=Hd (HB2.out.trans (hb3.mono HB2.out.size))
   have HW3:=Hd (HW2.out.below hb3)
   clear hb3
   go_wp2_with fail
   go_ret2
   exact⟨_,rfl,HB3.out.mono HBw.out,fun h=>absurd h HE1.out⟩
 ·
  have HT:=Hd (Ary (b:=K.b) HWZ.out hz0 hA)
  rw[HT.out]
  have hb1:(e0 == 0)=false:=by rw[beq_eq_false_iff_ne];exact hz0
  have HE0:=Hd hz0
  by_cases h2:e0=2
  ·subst h2
   have h0:((how:Int) != 0)=false:=by
    rw[bne_eq_false_iff_eq]
    by_cases h:(how:Int)=0
    ·exact h
    ·exact absurd ⟨rfl,h⟩ hA
   clear hA hz0 hb1
   go_enter Tryz.func82,Tryz.ntmps82
   go_wp2_with fail
   refine(HWK.out _ (Below.refl _ _)).mono ?_
   rintro e w2 ⟨rfl,hb2_⟩
   have HB2:=Hd (hb2_.mono HBw.out)
   clear q0 q1 q2 gl hb2_
   go_wp2_with fail
   go_ret2
   exact⟨_,rfl,HB2.out,fun h=>absurd h HE0.out⟩
  ·have hb2:(e0 == 2)=false:=by rw[beq_eq_false_iff_ne];exact h2
   clear h2 hA hz0
   go_enter Tryz.func82,Tryz.ntmps82
   go_wp2_with fail
   refine(HWK.out _ (Below.refl _ _)).mono ?_
   rintro e w2 ⟨rfl,hb2_⟩
   have HB2:=Hd (hb2_.mono HBw.out)
   clear q0 q1 q2 gl hb2_
   go_wp2_with fail
   go_ret2
   exact⟨_,rfl,HB2.out,fun h=>absurd h HE0.out⟩
end
end Go.Proofs.YtkdfbliiblojoaaGreatDoor
