import Derived.Test.YtkdfbliiblojoaaGreatDoorK40
import Derived.Test.YtkdfbliiblojoaaGreatDoorK42
set_option linter.all false
set_option maxRecDepth 100000
set_option maxHeartbeats 64000000
namespace Go.Proofs.YtkdfbliiblojoaaGreatDoor
open Go Go.RowKit
def kB (A:KAd)(K:Krn):Array Value:=#[.slice A.ta K.tree.length A.tc,.int .i64 K.m,.int .i64 K.b,.slice A.pa K.pipes.length A.pc,.slice A.oa K.opens.length A.oc,.string ⟨K.out0.toArray⟩,.string ⟨K.out1.toArray⟩]
def fB (f:List Int):Array Value:=#[.int .i64 (fdA f 0),.int .i64 (fdA f 1),.int .i64 (fdA f 2),.int .i64 (fdA f 3),.int .i64 (fdA f 4),.int .i64 (fdA f 5),.int .i64 (fdA f 6),.int .i64 (fdA f 7),.int .i64 (fdA f 8),.int .i64 (fdA f 9)]
def zK : Array Value:=#[.slice none 0 0,.int .i64 0,.int .i64 0,.slice none 0 0,.slice none 0 0,.string ⟨#[]⟩,.string ⟨#[]⟩]
def zF : Array Value:=#[.int .i64 0,.int .i64 0,.int .i64 0,.int .i64 0,.int .i64 0,.int .i64 0,.int .i64 0,.int .i64 0,.int .i64 0,.int .i64 0]
abbrev KIn (W:World)(g:Nat)(A:KAd)(K:Krn):Prop:=W.heap[g]?=some (.cells (kB A K) 29 (0,0))
abbrev FIn (W:World)(g:Nat)(f:List Int):Prop:=W.heap[g]?=some (.cells (fB f) 31 (0,0))
theorem Als {P:Program}{t:TypeId}(h:(P.underlying t).map (·.isRow)=some true):∃ d,P.underlying t=some d/\d.isRow=true:=by
 cases e:P.underlying t with
 | none=>rw[e]at h;cases h
 | some d=>rw[e]at h;exact⟨d,rfl,by simpa using h⟩
theorem kuu : ∃ d,Tryz.prog.underlying 29=some d/\d.isRow=true/\(Tryz.prog.info? 29).map (·.size)=some 7:=by
 obtain⟨d,h1,h2⟩:=Als (P:=Tryz.prog) (t:=29) (by kernel_rfl)
 exact⟨d,h1,h2,by kernel_rfl⟩
theorem fuu : ∃ d,Tryz.prog.underlying 31=some d/\d.isRow=true/\(Tryz.prog.info? 31).map (·.size)=some 10:=by
 obtain⟨d,h1,h2⟩:=Als (P:=Tryz.prog) (t:=31) (by kernel_rfl)
 exact⟨d,h1,h2,by kernel_rfl⟩
theorem Ata (A:KAd)(K:Krn):(kB A K).toList.all (·.oneCell')=true:=rfl
theorem Asw (f:List Int):(fB f).toList.all (·.oneCell')=true:=rfl
theorem fset {W:World}{g n:Nat}{f:List Int}(h:FIn W g f)(hf:f.length=10)(hn:n < 10)(x:Int):FIn (W.setCell ⟨g,n,none⟩ (.int .i64 x)) g (f.set n x):=by
 have h1:=Aar h n (.int .i64 x)
 rw[show (fB f).setIfInBounds n (.int .i64 x)=fB (f.set n x)from Ax7 f hf n hn x]at h1
 exact h1
theorem fget {W:World}{g n:Nat}{f:List Int}(h:FIn W g f)(hn:n < 10):W.cell? ⟨g,n,none⟩=some (.int .i64 (fdA f n)):=(bC h n).trans (Ajd f n hn)
theorem Awa {G:World->Prop}{w:World}{a b c d:Array Value}{s t u v:TypeId}(h:∀ w4,Below w.heap.size w w4->w4.heap.size=w.heap.size+4->w4.heap[w.heap.size]?=some (.cells a s (0,0))->w4.heap[w.heap.size+1]?=some (.cells b t (0,0))->w4.heap[w.heap.size+1+1]?=some (.cells c u (0,0))->w4.heap[w.heap.size+1+1+1]?=some (.cells d v (0,0))->G w4) :
  G ((((w.alloc (.cells a s)).alloc (.cells b t)).alloc (.cells c u)).alloc (.cells d v)):=by
 obtain⟨w2,hw2,hb2,hs2,hX,hY⟩:=Aan w a b s t
 obtain⟨w4,hw4,hb4,hs4,hU,hV⟩:=Aan w2 c d u v
 rw[<-hw2,<-hw4]
 rw[hs2]at hU hV
 exact h w4 (hb2.trans (hb4.mono hb2.size)) (by omega) ((hb4.block _ (by omega)).trans hX) ((hb4.block _ (by omega)).trans hY) hU hV
theorem Bbj {G:World->Prop}{w:World}{a b c:Array Value}{s t u:TypeId}(h:∀ w3,Below w.heap.size w w3->w3.heap.size=w.heap.size+3->w3.heap[w.heap.size]?=some (.cells a s (0,0))->w3.heap[w.heap.size+1]?=some (.cells b t (0,0))->w3.heap[w.heap.size+1+1]?=some (.cells c u (0,0))->G w3) :
  G (((w.alloc (.cells a s)).alloc (.cells b t)).alloc (.cells c u)):=by
 obtain⟨w3,hw3,hb3,hs3,hX,hY,hZ⟩:=Aec w a b c s t u
 rw[<-hw3]
 exact h w3 hb3 hs3 hX hY hZ
theorem one9 {G:World->Prop}{w:World}{a:Array Value}{s:TypeId}(h:∀ w1,Below w.heap.size w w1->w1.heap.size=w.heap.size+1->w1.heap[w.heap.size]?=some (.cells a s (0,0))->G w1):G (w.alloc (.cells a s)):=
 h _ (Aab w _) (by show (w.heap.push _).size=_;exact Array.size_push ..) (Aag w _)
def Bac (n:Nat)(A:KAd)(K:Krn)(A':KAd)(K':Krn):Prop:=(A'=A/\K'=K)∨Aj9 n A'
def RAns (A:KAd)(K:Krn)(Z:Krn×List Int×Int)(w:World)(e:Ending)(w':World):Prop:=
 (∃ A':KAd,e=.returned (.tuple #[.agg (kB A' Z.1),.agg (fB Z.2.1),.int .i64 Z.2.2])/\KernIn w' A' Z.1/\Bac w.heap.size A K A' Z.1)/\Below w.heap.size w w'
theorem Bbe (A:KAd)(K:Krn)(hp:K.pipes.length<=1000)(ho:K.opens.length<=1000)(w:World)(hA:KernIn w A K) :
  Calls Tryz.prog 42 #[.agg (kB A K)] w fun e w'=>∃ A':KAd,A'.ta=A.ta/\A'.tc=A.tc/\e=.returned (.agg (kB A' K))/\KOwn w' w.heap.size A' K.pipes K.opens/\Below w.heap.size w w':=Bbx A K hp ho w hA
theorem Az4 (A:KAd)(K:Krn)(f:List Int)(n B:Nat)(hf:f.length=10)(hn:n < 10)(hO:Led K f n)(hP:Al2 K)(hol:K.opens.length<=1000)(w:World)(hK:KOwn w B A K.pipes K.opens) :
  Calls Tryz.prog 44 #[.agg (kB A K),.agg (fB f),.int .i64 (n:Int)] w fun e w'=>e=.returned (.agg (fB (Abh K f n).2))/\KOwn w' B A (Abh K f n).1.pipes (Abh K f n).1.opens/\Offk A w w':=Bbg A K f n B hf hn hO hP hol w hK
structure XS (w4 W:World)(fb xb:Nat)(A:KAd)(X:Krn)(f:List Int):Prop where
 b:BelowO (some fb) w4.heap.size w4 W
 hf:FIn W fb f
 hx:KIn W xb A X
 own:KOwn W w4.heap.size A X.pipes X.opens
 lo:w4.heap.size<=xb
 far:∀ x,(A.pa=some x∨A.oa=some x)->x.block≠xb
section
variable {w4 W W' : World} {fb xb : Nat} {A : KAd} {X : Krn} {f : List Int}
theorem XS.lt (h:XS w4 W fb xb A X f):fb < W.heap.size/\xb < W.heap.size/\∀ x,(A.pa=some x∨A.oa=some x)->w4.heap.size<=x.block/\x.block < W.heap.size:=
 ⟨lt_of_block h.hf,lt_of_block h.hx,fun x hx=>hx.elim (h.own.lt.1 x) (h.own.lt.2 x)⟩
theorem XS.old (h:XS w4 W fb xb A X f){k:Nat}(hk:k < w4.heap.size)(hn:k≠fb):W.heap[k]?=w4.heap[k]?:=h.b.block k hk (fun e=>hn (Option.some.inj e).symm)
theorem XS.near (h:XS w4 W fb xb A X f){n:Nat}(hn:n<=w4.heap.size)(A0:KAd)(K0 K1:Krn):Bac n A0 K0 A K1:=.inr ⟨fun x hx=>Nat.le_trans hn (h.lt.2.2 x (.inl hx)).1,fun x hx=>Nat.le_trans hn (h.lt.2.2 x (.inr hx)).1⟩
theorem XS.new {wn:World}(hb:Below w4.heap.size w4 wn)(hf:FIn w4 fb f)(ho:KOwn wn w4.heap.size A X.pipes X.opens)(hfl:fb < w4.heap.size)(h1:Below wn.heap.size wn W)(hx:KIn W wn.heap.size A X):XS w4 W fb wn.heap.size A X f:=
 ⟨.of_below (hb.trans (h1.mono hb.size)),((hb.trans (h1.mono hb.size)).block fb hfl).trans hf,hx,⟨Aeb ho.pipes h1 (Nat.le_refl _),Aeb ho.opens h1 (Nat.le_refl _),ho.apart⟩,hb.size,fun x hx=>hx.elim (fun h=>Nat.ne_of_lt (ho.lt.1 x h).2) (fun h=>Nat.ne_of_lt (ho.lt.2 x h).2)⟩
theorem XS.rows (h:XS w4 W fb xb A X f)(hl:fb < w4.heap.size){X':Krn}(ho:KOwn W' w4.heap.size A X'.pipes X'.opens)(hw:Offk A W W')(he:kB A X'=kB A X):XS w4 W' fb xb A X' f:=by
 have h1:∀ k,k < w4.heap.size->W'.heap[k]?=W.heap[k]?:=fun k hk=>hw.block k (Nat.lt_of_lt_of_le hk h.b.size) (fun x hx e=>by have:=(h.lt.2.2 x (.inl hx)).1;omega) (fun x hx e=>by have:=(h.lt.2.2 x (.inr hx)).1;omega)
 refine⟨⟨hw.os.trans h.b.os,hw.tape.trans h.b.tape,hw.output.trans h.b.output,Nat.le_trans h.b.size hw.size,fun k hk hn=>(h1 k hk).trans (h.b.block k hk hn)⟩,(h1 fb hl).trans h.hf,?_,ho,h.lo,h.far⟩
 show W'.heap[xb]?=_
 rw[he]
 exact(hw.block xb h.lt.2.1 (fun x hx=>h.far x (.inl hx)) (fun x hx=>h.far x (.inr hx))).trans h.hx
theorem XS.fds (h:XS w4 W fb xb A X f)(hl:fb < w4.heap.size){f':List Int}(hf:FIn W' fb f')(hb:But fb W W'):XS w4 W' fb xb A X f':=
 ⟨⟨hb.os.trans h.b.os,hb.tape.trans h.b.tape,hb.output.trans h.b.output,by rw[hb.size];exact h.b.size,fun k hk hn=>(hb.block k (fun e=>hn (by rw[e]))).trans (h.b.block k hk hn)⟩,hf,(hb.block xb (by have:=h.lo;omega)).trans h.hx,
  h.own.but hb (fun x hx e=>by have:=(h.lt.2.2 x (.inl hx)).1;omega) (fun x hx e=>by have:=(h.lt.2.2 x (.inr hx)).1;omega),h.lo,h.far⟩
end
theorem But2.below {n u v:Nat}{a b c:World}(h:Below n a b)(k:But2 u v b c)(hu:n<=u)(hv:n<=v):Below n a c:=⟨k.os.trans h.os,k.tape.trans h.tape,k.output.trans h.output,by rw[k.size];exact h.size,fun j hj=>(k.block j (by omega) (by omega)).trans (h.block j hj)⟩
section
variable {ops : Array Oper} {rest : List Oper} {Q : Exit -> Act -> World -> Prop} {a : Act} {W : World} {s : Option Tmp} {ak av : Tmp} {y : TypeId} {p : String} {e : Array Edge} {g : Nat} {A : KAd} {K : Krn} {f : List Int} {c : Array Value}
theorem Ab3 (h:KIn W g A K)(hx:a.eval (.tmp ak)=.pointer (some ⟨g,0,none⟩))(H:wpList Tryz.prog ops Q rest (a.put s (.agg (kB A K))) W):wpList Tryz.prog ops Q (⟨s,.load 29 (.tmp ak),y,p,e,none⟩ :: rest) a W:=by
 obtain⟨d,h1,h2,h3⟩:=kuu
 exact wpList_load_mid rfl 29 (.tmp ak) rfl g 0 hx (kB A K).toList d (Ac8 h) h1 h2 h3 H
theorem Agd (h:FIn W g f)(hx:a.eval (.tmp ak)=.pointer (some ⟨g,0,none⟩))(H:wpList Tryz.prog ops Q rest (a.put s (.agg (fB f))) W):wpList Tryz.prog ops Q (⟨s,.load 31 (.tmp ak),y,p,e,none⟩ :: rest) a W:=by
 obtain⟨d,h1,h2,h3⟩:=fuu
 exact wpList_load_mid rfl 31 (.tmp ak) rfl g 0 hx (fB f).toList d (Ac8 h) h1 h2 h3 H
theorem Aev (A:KAd)(K:Krn)(h:W.heap[g]?=some (.cells c 29 (0,0)))(hc:c.size=7)(hx:a.eval (.tmp ak)=.pointer (some ⟨g,0,none⟩))(hv:a.eval (.tmp av)=.agg (kB A K))(H:∀ W',KIn W' g A K->But g W W'->wpList Tryz.prog ops Q rest a W'):wpList Tryz.prog ops Q (⟨none,.store 29 (.tmp ak) (.tmp av),y,p,e,none⟩ :: rest) a W:=by
 obtain⟨d,h1,h2,h3⟩:=kuu
 exact wpList_store_mid rfl 29 _ _ rfl g 0 (kB A K) hx hv (by rw[show (kB A K).size=c.size from hc.symm];exact Aet h) h3 (by simpa using Ata A K) (H _ (Agu h hc.symm) (Abq _ _ _))
theorem Aq5 (A:KAd)(K:Krn)(hc:c.size=7)(hx:a.eval (.tmp ak)=.pointer (some ⟨W.heap.size,0,none⟩))(hv:a.eval (.tmp av)=.agg (kB A K))(H:∀ W',Below W.heap.size W W'->KIn W' W.heap.size A K->wpList Tryz.prog ops Q rest a W'):wpList Tryz.prog ops Q (⟨none,.store 29 (.tmp ak) (.tmp av),y,p,e,none⟩ :: rest) a (W.alloc (.cells c 29)):=
 Aev A K (Aag W _) hc hx hv fun W' h hb=>H W' (But.below (Aab W _) hb (Nat.le_refl _)) h
theorem Agw (f:List Int)(h:W.heap[g]?=some (.cells c 31 (0,0)))(hc:c.size=10)(hx:a.eval (.tmp ak)=.pointer (some ⟨g,0,none⟩))(hv:a.eval (.tmp av)=.agg (fB f))(H:∀ W',FIn W' g f->But g W W'->wpList Tryz.prog ops Q rest a W'):wpList Tryz.prog ops Q (⟨none,.store 31 (.tmp ak) (.tmp av),y,p,e,none⟩ :: rest) a W:=by
 obtain⟨d,h1,h2,h3⟩:=fuu
 exact wpList_store_mid rfl 31 _ _ rfl g 0 (fB f) hx hv (by rw[show (fB f).size=c.size from hc.symm];exact Aet h) h3 (by simpa using Asw f) (H _ (Agu h hc.symm) (Abq _ _ _))
end
theorem kret {ops:Array Oper}{id:Nat}{Q:Exit->Act->World->Prop}{a:Act}{W:World}{s0 s1 s8 ak af u v:Tmp}{y0 y1 y2 y3 y4:TypeId}{p0 p1 p2 p3 p4:String}{f0 f1 f2 f3 f4:Array Edge}{x:Operand}{bk bf bu bv:Nat}{A:KAd}{K:Krn}{f:List Int}
  (hk:KIn W bk A K) (hf:FIn W bf f) (hu:W.heap[bu]?=some (.cells zK 29 (0,0))) (hv:W.heap[bv]?=some (.cells zF 31 (0,0))) (hn:bk≠bu/\bk≠bv/\bf≠bu/\bf≠bv/\bu≠bv)
  (hops:ops=#[⟨some s0,.load 29 (.tmp ak),y0,p0,f0,none⟩,⟨some s1,.load 31 (.tmp af),y1,p1,f1,none⟩,⟨none,.store 29 (.tmp u) (.tmp s0),y2,p2,f2,none⟩,⟨none,.store 31 (.tmp v) (.tmp s1),y3,p3,f3,none⟩,⟨some s8,.assign x,y4,p4,f4,none⟩])
  (hok:Azy ops=true)
  (hak:a.eval (.tmp ak)=.pointer (some ⟨bk,0,none⟩))
  (haf:(a.put (some s0) (.agg (kB A K))).eval (.tmp af)=.pointer (some ⟨bf,0,none⟩))
  (hau:((a.put (some s0) (.agg (kB A K))).put (some s1) (.agg (fB f))).eval (.tmp u)=.pointer (some ⟨bu,0,none⟩))
  (hav:((a.put (some s0) (.agg (kB A K))).put (some s1) (.agg (fB f))).eval (.tmp v)=.pointer (some ⟨bv,0,none⟩))
  (h0:((a.put (some s0) (.agg (kB A K))).put (some s1) (.agg (fB f))).eval (.tmp s0)=.agg (kB A K))
  (h1:((a.put (some s0) (.agg (kB A K))).put (some s1) (.agg (fB f))).eval (.tmp s1)=.agg (fB f))
  (h8:((a.put (some s0) (.agg (kB A K))).put (some s1) (.agg (fB f))).eval x=a.eval x)
  (hQ:∀ c a d v w,Q (.panic c) (Act.put a (some d) v) w->Q (.panic c) a w)
  (H:∀ W',But2 bu bv W W'->KIn W' bu A K->FIn W' bv f->Q .normal (((a.put (some s0) (.agg (kB A K))).put (some s1) (.agg (fB f))).put (some s8) (a.eval x)) W') :
  (Code.region id ops true).wp Tryz.prog Q a W:=by
 obtain⟨d,i1,i2,i3⟩:=kuu
 obtain⟨d',j1,j2,j3⟩:=fuu
 exact Arp (by kernel_rfl) hops hok hak haf hau hav h0 h1 h8 hQ hk hf hu hv hn rfl rfl i1 i2 i3 (Ata A K) j1 j2 j3 (Asw f) H
theorem Bbp {ops:Array Oper}{id:Nat}{Q:Exit->Act->World->Prop}{a:Act}{W:World}{s0 s1 s9 s8 ak af u v:Tmp}{y0 y1 y2 y3 y4 y9:TypeId}{p0 p1 p2 p3 p4 p9:String}{f0 f1 f2 f3 f4 f9:Array Edge}{x:Operand}{bk bf bu bv:Nat}{A:KAd}{K:Krn}{f:List Int}
  (hk:KIn W bk A K) (hf:FIn W bf f) (hu:W.heap[bu]?=some (.cells zK 29 (0,0))) (hv:W.heap[bv]?=some (.cells zF 31 (0,0))) (hn:bk≠bu/\bk≠bv/\bf≠bu/\bf≠bv/\bu≠bv)
  (hops:ops=#[⟨some s0,.load 29 (.tmp ak),y0,p0,f0,none⟩,⟨some s1,.load 31 (.tmp af),y1,p1,f1,none⟩,⟨some s9,.move x,y9,p9,f9,none⟩,⟨none,.store 29 (.tmp u) (.tmp s0),y2,p2,f2,none⟩,⟨none,.store 31 (.tmp v) (.tmp s1),y3,p3,f3,none⟩,⟨some s8,.assign (.tmp s9),y4,p4,f4,none⟩])
  (hok:Aux ops=true)
  (hak:a.eval (.tmp ak)=.pointer (some ⟨bk,0,none⟩))
  (haf:(a.put (some s0) (.agg (kB A K))).eval (.tmp af)=.pointer (some ⟨bf,0,none⟩))
  (hau:(((a.put (some s0) (.agg (kB A K))).put (some s1) (.agg (fB f))).put (some s9) (a.eval x)).eval (.tmp u)=.pointer (some ⟨bu,0,none⟩))
  (hav:(((a.put (some s0) (.agg (kB A K))).put (some s1) (.agg (fB f))).put (some s9) (a.eval x)).eval (.tmp v)=.pointer (some ⟨bv,0,none⟩))
  (h0:(((a.put (some s0) (.agg (kB A K))).put (some s1) (.agg (fB f))).put (some s9) (a.eval x)).eval (.tmp s0)=.agg (kB A K))
  (h1:(((a.put (some s0) (.agg (kB A K))).put (some s1) (.agg (fB f))).put (some s9) (a.eval x)).eval (.tmp s1)=.agg (fB f))
  (h8:((a.put (some s0) (.agg (kB A K))).put (some s1) (.agg (fB f))).eval x=a.eval x)
  (h9:(((a.put (some s0) (.agg (kB A K))).put (some s1) (.agg (fB f))).put (some s9) (a.eval x)).eval (.tmp s9)=a.eval x)
  (hQ:∀ c a d v w,Q (.panic c) (Act.put a (some d) v) w->Q (.panic c) a w)
  (H:∀ W',But2 bu bv W W'->KIn W' bu A K->FIn W' bv f->Q .normal ((((a.put (some s0) (.agg (kB A K))).put (some s1) (.agg (fB f))).put (some s9) (a.eval x)).put (some s8) (a.eval x)) W') :
  (Code.region id ops true).wp Tryz.prog Q a W:=by
 obtain⟨d,i1,i2,i3⟩:=kuu
 obtain⟨d',j1,j2,j3⟩:=fuu
 exact Aou (by kernel_rfl) hops hok hak haf hau hav h0 h1 h8 h9 hQ hk hf hu hv hn rfl rfl i1 i2 i3 (Ata A K) j1 j2 j3 (Asw f) H
section
variable {fn : Func} {R : Ending -> World -> Prop} {a : Act} {W : World} {t1 t2 s s' : Tmp} {g1 g2 : Nat} {A : KAd} {K : Krn} {f : List Int}
theorem kfin (hr:fn.results=#[.cell t1 29,.cell t2 31,.tmp s])(h1:a.tmps.getD t1 undef=.pointer (some ⟨g1,0,none⟩))(h2:a.tmps.getD t2 undef=.pointer (some ⟨g2,0,none⟩))(b1:KIn W g1 A K)(b2:FIn W g2 f)(hd:a.defers=[])(hR:R (.returned (.tuple #[.agg (kB A K),.agg (fB f),a.tmps.getD s undef])) W):bodyPost Tryz.prog fn R .ret a W:=by
 obtain⟨d,i1,i2,i3⟩:=kuu
 obtain⟨d',j1,j2,j3⟩:=fuu
 exact Azz hr h1 h2 b1 b2 i1 i2 i3 j1 j2 j3 hd hR
theorem Aze (hr:fn.results=#[.cell t1 29,.tmp s])(h1:a.tmps.getD t1 undef=.pointer (some ⟨g1,0,none⟩))(b1:KIn W g1 A K)(hd:a.defers=[])(hR:R (.returned (.tuple #[.agg (kB A K),a.tmps.getD s undef])) W):bodyPost Tryz.prog fn R .ret a W:=by
 obtain⟨d,i1,i2,i3⟩:=kuu
 exact Bba hr h1 b1 i1 i2 i3 hd hR
end
section
variable {L : List Ino} {k : Nat} {d : List UInt8}
end
def newK (t:List Ino)(m b:Int)(input:List UInt8):Krn×List Int:=
 ({ tree:=t,m:=m,b:=b,pipes:=[⟨input,1,0,max (input.length:Int) 1⟩],opens:=[⟨2,0,0,1,1⟩,⟨4,0,0,2,1⟩,⟨4,1,0,2,1⟩],out0:=[],out1:=[] },[1,2,3,0,0,0,0,0,0,0])
theorem Aw3 {t:List Ino}{m b:Int}(hF:FitP t m b){input:List UInt8}(hi:input.length<=65536):FitK (newK t m b input).1 (newK t m b input).2:=by
 refine⟨hF,(by show (1:Nat)<=32;decide),(by show (3:Nat)<=64;decide),Nat.zero_le _,Nat.zero_le _,fun i h=>?_,fun i h=>?_,rfl,fun i h=>?_⟩
 ·have h3:i < 3:=h
  match i,h3 with
  | 0,_=>exact Ajf rfl rfl (.inr (.inl ⟨rfl,⟨0,(by show (0:Nat) < 1;decide),rfl⟩,rfl,rfl⟩))
  | 1,_=>exact Ajf rfl rfl (.inr (.inr (.inr ⟨rfl,.inl rfl,rfl,rfl⟩)))
  | 2,_=>exact Ajf rfl rfl (.inr (.inr (.inr ⟨rfl,.inr rfl,rfl,rfl⟩)))
 ·have h1:i < 1:=h
  obtain rfl:i=0:=by omega
  refine⟨Adt.2 ?_,?_,.inl ?_⟩
  ·show (0:Int)<=1/\(1:Int)<=1000/\(0:Int)<=0/\(0:Int)<=1000/\1<=max (input.length:Int) 1/\max (input.length:Int) 1<=65536/\(input.length:Int)<=max (input.length:Int) 1
   omega
  ·show (1:Int)=(Abw [⟨2,0,0,1,1⟩,⟨4,0,0,2,1⟩,⟨4,1,0,2,1⟩] 2 0:Int)+0
   decide
  ·show (0:Int)=(Abw [⟨2,0,0,1,1⟩,⟨4,0,0,2,1⟩,⟨4,1,0,2,1⟩] 3 0:Int)+0
   decide
 ·have h10:i < 10:=h
  match i,h10 with
  | 0,_=>exact .inr ⟨0,(by show (0:Nat) < 3;decide),rfl,(by show (2:Int)≠0;decide),(by show (([1,2,3,0,0,0,0,0,0,0]:List Int).count 1:Int)<=1;decide)⟩
  | 1,_=>exact .inr ⟨1,(by show (1:Nat) < 3;decide),rfl,(by show (4:Int)≠0;decide),(by show (([1,2,3,0,0,0,0,0,0,0]:List Int).count 2:Int)<=1;decide)⟩
  | 2,_=>exact .inr ⟨2,(by show (2:Nat) < 3;decide),rfl,(by show (4:Int)≠0;decide),(by show (([1,2,3,0,0,0,0,0,0,0]:List Int).count 3:Int)<=1;decide)⟩
  | 3,_=>exact .inl rfl
  | 4,_=>exact .inl rfl
  | 5,_=>exact .inl rfl
  | 6,_=>exact .inl rfl
  | 7,_=>exact .inl rfl
  | 8,_=>exact .inl rfl
  | 9,_=>exact .inl rfl
structure Reading (k:Krn)(f:List Int)(n:Nat)(want:List UInt8)(off:Nat):Prop where
 fit:FitK k f
 fd:f.getD 4 0=4
 h3:3 < k.opens.length
 op:k.opens[3]=⟨1,(n:Int),(off:Int),1,1⟩
 hn:n < k.tree.length
 kind:k.tree[n].kind=1
 data:k.tree[n].data=want
theorem Ak1 {W:World}{g:Nat}{cs:Array Value}{t:TypeId}{n cap k:Nat}{xs:List Value}(h:W.heap[g]?=some (.cells cs t (0,0)))(hx:cs.toList=xs)(h1:n<=cap)(h2:cap<=maxLen)(hl:xs.length=n * k):SlIn W (some ⟨g,0,none⟩) n cap k xs:=
 ⟨h1,h2,hl,fun j _=>⟨g,0,rfl,by rw[Nat.zero_add,bC h,<-hx,Array.getElem?_toList]⟩⟩
def NewK (Z:Krn×List Int)(w:World)(e:Ending)(w':World):Prop:=
 (∃ A:KAd,e=.returned (.tuple #[.agg #[.slice A.ta Z.1.tree.length A.tc,.int .i64 Z.1.m,.int .i64 Z.1.b,.slice A.pa Z.1.pipes.length A.pc,.slice A.oa Z.1.opens.length A.oc,.string ⟨Z.1.out0.toArray⟩,.string ⟨Z.1.out1.toArray⟩],.agg #[.int .i64 (fdA Z.2 0),.int .i64 (fdA Z.2 1),.int .i64 (fdA Z.2 2),.int .i64 (fdA Z.2 3),.int .i64 (fdA Z.2 4),.int .i64 (fdA Z.2 5),.int .i64 (fdA Z.2 6),.int .i64 (fdA Z.2 7),.int .i64 (fdA Z.2 8),.int .i64 (fdA Z.2 9)]])/\KernIn w' A Z.1/\Aj9 w.heap.size A)/\Below w.heap.size w w'
theorem Awm (a:Option Addr)(cap:Nat)(m b:Int)(L:List Ino)(hF:FitP L m b)(D:ByteArray)(hD:D.size<=65536)(w:World)(hN:Aad w a cap L) :
  Calls Tryz.prog 16 #[.agg #[.slice a L.length cap,.int .i64 m,.int .i64 b],.string D] w (NewK (newK L m b D.data.toList) w):=by
 obtain⟨K,hK⟩:∃ K,K=(newK L m b D.data.toList).1:=⟨_,rfl⟩
 rw[show newK L m b D.data.toList=(K,[1,2,3,0,0,0,0,0,0,0]) by rw[hK];rfl]
 have HKQ:=Hd hK
 clear hK
 obtain⟨w3,hw3,hb3,hs3,hX,hU,hV⟩:=Aec w #[.slice a L.length cap,.int .i64 m,.int .i64 b] #[.slice none 0 0,.int .i64 0,.int .i64 0,.slice none 0 0,.slice none 0 0,.string ⟨#[]⟩,.string ⟨#[]⟩] #[.int .i64 0,.int .i64 0,.int .i64 0,.int .i64 0,.int .i64 0,.int .i64 0,.int .i64 0,.int .i64 0,.int .i64 0,.int .i64 0] 24 29 31
 obtain⟨l1,l2,l3,l4,l5⟩:=hF.limits
 have hkk:∀ x∈L,x.kids.length<=4096:=fun x hx=>by obtain⟨j,hj,rfl⟩:=List.getElem_of_mem hx;have:=(hF.ins j hj).2.1;omega
 have HC:=Hd (Adu a cap m b L (by omega) (by omega) hkk w3 (hN.below hb3))
 have HB3:=Hd hb3
 have HS3:=Hd hs3
 have HU:=Hd hU
 have HV:=Hd hV
 have HW3:=Hd hw3
 have HF:=Hd hF
 have q0:=bC hX 0
 have q1:=bC hX 1
 have q2:=bC hX 2
 have ql:=lt_of_block hX
 clear hX hU hV hb3 hs3 hw3 hF hN l1 l2 l3 l4 l5 hkk
 go_enter Tryz.func16,Tryz.ntmps16
 go_upto_region 1 with fail
 have hw3:=HW3.out
 rw[<-hw3]
 clear hw3
 go_wp2_with fail
 refine HC.out.mono ?_
 rintro e w4 ⟨gt,ct,vs,rfl,hot,hb4⟩
 have HOT:=Hd hot
 have HB4:=Hd hb4
 clear hot hb4 q0 q1 q2 ql
 obtain⟨w7,hw7,hb7,hs7,hP,hO,hM⟩:=Aec w4 #[.string D,.int .i64 1,.int .i64 0,.int .i64 (max (D.size:Int) 1)] #[.int .i64 2,.int .i64 0,.int .i64 0,.int .i64 1,.int .i64 1,.int .i64 4,.int .i64 0,.int .i64 0,.int .i64 2,.int .i64 1,.int .i64 4,.int .i64 1,.int .i64 0,.int .i64 2,.int .i64 1] #[.slice (some ⟨gt,0,none⟩) L.length ct,.int .i64 m,.int .i64 b,.slice (some ⟨w4.heap.size,0,none⟩) 1 1,.slice (some ⟨w4.heap.size+1,0,none⟩) 3 3,.string ⟨#[]⟩,.string ⟨#[]⟩] 87 70 29
 have hDD:(⟨D.data.toList.toArray⟩:ByteArray)=D:=by cases D;simp
 have hDS:(D.data.toList.length:Int)=(D.size:Int):=by rw[Array.length_toList];rfl
 obtain⟨A,hA⟩:∃ A:KAd,A=⟨some ⟨gt,0,none⟩,ct,some ⟨w4.heap.size,0,none⟩,1,some ⟨w4.heap.size+1,0,none⟩,3⟩:=⟨_,rfl⟩
 have hkn:KernIn w7 A K:=by
  rw[hA,HKQ.out]
  refine⟨(HOT.out.below hb7).nodesIn,Ak1 hP ?_ (Nat.le_refl _) (show (1:Nat)<=maxLen by decide) rfl,Ak1 hO rfl (Nat.le_refl _) (show (3:Nat)<=maxLen by decide) rfl⟩
  show [Value.string D,.int .i64 1,.int .i64 0,.int .i64 (max (D.size:Int) 1)]=[Value.string ⟨D.data.toList.toArray⟩,.int .i64 1,.int .i64 0,.int .i64 (max (D.data.toList.length:Int) 1)] ++ []
  rw[hDD,hDS]
  rfl
 have hmv:w7.heap[w4.heap.size+2]?=some (.cells #[.slice A.ta K.tree.length A.tc,.int .i64 K.m,.int .i64 K.b,.slice A.pa K.pipes.length A.pc,.slice A.oa K.opens.length A.oc,.string ⟨K.out0.toArray⟩,.string ⟨K.out1.toArray⟩] 29 (0,0)):=by rw[hA,HKQ.out];exact hM
 have HKN:=Hd hkn
 have HMV:=Hd hmv
 have HFR:=Hd (show Aj9 w4.heap.size A from by rw[hA];exact⟨fun x hx=>by rw[<-Option.some.inj hx];exact Nat.le_refl _,fun x hx=>by rw[<-Option.some.inj hx];exact Nat.le_succ _⟩)
 have HB7:=Hd (HB3.out.trans ((HB4.out.trans (hb7.mono HB4.out.size)).mono (by have:=HS3.out;omega)))
 have HS7:=Hd (show w.heap.size+3<=w4.heap.size/\w4.heap.size+3=w7.heap.size from⟨by have:=HS3.out;have:=HB4.out.size;omega,hs7.symm⟩)
 have HU7:=Hd ((hb7.block (w.heap.size+1) (by have:=HS7.out;omega)).trans ((HB4.out.block (w.heap.size+1) (by have:=HS3.out;omega)).trans HU.out))
 have HV7:=Hd ((hb7.block (w.heap.size+2) (by have:=HS7.out;omega)).trans ((HB4.out.block (w.heap.size+2) (by have:=HS3.out;omega)).trans HV.out))
 have HW7:=Hd hw7
 have HAQ:=Hd hA
 clear hP hO hM hb7 hs7 hw7 hkn hmv hDD hDS hA
 go_upto_region 2 with fail
 have h0:=HW7.out
 rw[<-h0]
 clear h0
 have a0:=bC HMV.out 0
 have a1:=bC HMV.out 1
 have a2:=bC HMV.out 2
 have a3:=bC HMV.out 3
 have a4:=bC HMV.out 4
 have a5:=bC HMV.out 5
 have a6:=bC HMV.out 6
 have u0:=bC HU7.out 0
 have u1:=bC HU7.out 1
 have u2:=bC HU7.out 2
 have u3:=bC HU7.out 3
 have u4:=bC HU7.out 4
 have u5:=bC HU7.out 5
 have u6:=bC HU7.out 6
 have v0:=bF HU7.out 0
 have v1:=bF HU7.out 1
 have v2:=bF HU7.out 2
 have v3:=bF HU7.out 3
 have v4:=bF HU7.out 4
 have v5:=bF HU7.out 5
 have v6:=bF HU7.out 6
 have x0:=bC HV7.out 0
 have x1:=bC HV7.out 1
 have x2:=bC HV7.out 2
 have x3:=bC HV7.out 3
 have x4:=bC HV7.out 4
 have x5:=bC HV7.out 5
 have x6:=bC HV7.out 6
 have x7:=bC HV7.out 7
 have x8:=bC HV7.out 8
 have x9:=bC HV7.out 9
 have y0:=bF HV7.out 0
 have y1:=bF HV7.out 1
 have y2:=bF HV7.out 2
 have y3:=bF HV7.out 3
 have y4:=bF HV7.out 4
 have y5:=bF HV7.out 5
 have y6:=bF HV7.out 6
 have y7:=bF HV7.out 7
 have y8:=bF HV7.out 8
 have y9:=bF HV7.out 9
 have al:=lt_of_block HMV.out
 have ul:=lt_of_block HU7.out
 have vl:=lt_of_block HV7.out
 obtain⟨wv,hwv,hU8,hV8,hkn,hfrm,hsz,ho1,ho2,ho3⟩:=Aeq (u:=w.heap.size+1) (v:=w.heap.size+2) (by omega) (Kz:=K) [1,2,3,0,0,0,0,0,0,0] HU7.out HV7.out HKN.out (fun x hx=>by have:=HFR.out.1 x hx;have:=HS7.out;omega) (fun x hx=>by have:=HFR.out.2 x hx;have:=HS7.out;omega)
 have HKV:=Hd hkn
 have HEND:=Hd (show Below w.heap.size w wv from⟨ho1.trans HB7.out.os,ho2.trans HB7.out.tape,ho3.trans HB7.out.output,by rw[hsz];exact HB7.out.size,fun k hk=>(hfrm k (by omega) (by omega)).trans (HB7.out.block k hk)⟩)
 have HWV:=Hd hwv
 have e0:=bC hU8 0
 have e1:=bC hU8 1
 have e2:=bC hU8 2
 have e3:=bC hU8 3
 have e4:=bC hU8 4
 have e5:=bC hU8 5
 have e6:=bC hU8 6
 have d0:=bC hV8 0
 have d1:=bC hV8 1
 have d2:=bC hV8 2
 have d3:=bC hV8 3
 have d4:=bC hV8 4
 have d5:=bC hV8 5
 have d6:=bC hV8 6
 have d7:=bC hV8 7
 have d8:=bC hV8 8
 have d9:=bC hV8 9
 clear hwv hkn hfrm hsz ho1 ho2 ho3 hU8 hV8
 go_wp2_with fail
 change bodyPost _ _ _ _ _ ((put7 w7 (w.heap.size+1) (.slice A.ta K.tree.length A.tc) (.int .i64 K.m) (.int .i64 K.b) (.slice A.pa K.pipes.length A.pc) (.slice A.oa K.opens.length A.oc) (.string ⟨K.out0.toArray⟩) (.string ⟨K.out1.toArray⟩)).setCells (w.heap.size+2) 0 [.int .i64 (fdA [1,2,3,0,0,0,0,0,0,0] 0),.int .i64 (fdA [1,2,3,0,0,0,0,0,0,0] 1),.int .i64 (fdA [1,2,3,0,0,0,0,0,0,0] 2),.int .i64 (fdA [1,2,3,0,0,0,0,0,0,0] 3),.int .i64 (fdA [1,2,3,0,0,0,0,0,0,0] 4),.int .i64 (fdA [1,2,3,0,0,0,0,0,0,0] 5),.int .i64 (fdA [1,2,3,0,0,0,0,0,0,0] 6),.int .i64 (fdA [1,2,3,0,0,0,0,0,0,0] 7),.int .i64 (fdA [1,2,3,0,0,0,0,0,0,0] 8),.int .i64 (fdA [1,2,3,0,0,0,0,0,0,0] 9)])
 rw[<-HWV.out]
 exact bodyPost_ret (v:=.tuple #[.agg #[.slice A.ta K.tree.length A.tc,.int .i64 K.m,.int .i64 K.b,.slice A.pa K.pipes.length A.pc,.slice A.oa K.opens.length A.oc,.string ⟨K.out0.toArray⟩,.string ⟨K.out1.toArray⟩],.agg #[.int .i64 (fdA [1,2,3,0,0,0,0,0,0,0] 0),.int .i64 (fdA [1,2,3,0,0,0,0,0,0,0] 1),.int .i64 (fdA [1,2,3,0,0,0,0,0,0,0] 2),.int .i64 (fdA [1,2,3,0,0,0,0,0,0,0] 3),.int .i64 (fdA [1,2,3,0,0,0,0,0,0,0] 4),.int .i64 (fdA [1,2,3,0,0,0,0,0,0,0] 5),.int .i64 (fdA [1,2,3,0,0,0,0,0,0,0] 6),.int .i64 (fdA [1,2,3,0,0,0,0,0,0,0] 7),.int .i64 (fdA [1,2,3,0,0,0,0,0,0,0] 8),.int .i64 (fdA [1,2,3,0,0,0,0,0,0,0] 9)]]) (by simp[results,Tryz.results16,go_sem,e0,e1,e2,e3,e4,e5,e6,d0,d1,d2,d3,d4,d5,d6,d7,d8,d9]) rfl ⟨⟨A,rfl,HKV.out,HFR.out.less (by have:=HS7.out;omega)⟩,HEND.out⟩
end Go.Proofs.YtkdfbliiblojoaaGreatDoor
