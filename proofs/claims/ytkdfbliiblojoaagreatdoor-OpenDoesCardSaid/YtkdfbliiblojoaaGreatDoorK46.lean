import Derived.Test.YtkdfbliiblojoaaGreatDoorK36
import Derived.Test.YtkdfbliiblojoaaGreatDoorK45
import Derived.Deep.Slices
import Derived.Deep.Fields
import Derived.Lib.SmallJoins
import Derived.SizedLaws
import Derived.ProofKit
import Derived.OpenShut
set_option linter.all false
set_option maxRecDepth 100000
set_option maxHeartbeats 64000000
namespace Go.Proofs.YtkdfbliiblojoaaGreatDoor
open Go Go.RowKit

structure B4 (w W:World)(A:KAd)(K:Krn)(f:List Int):Prop where
 b:Below w.heap.size w W
 s:w.heap.size+4<=W.heap.size
 x:KIn W (w.heap.size) A K
 y:FIn W (w.heap.size+1) f
 u:W.heap[w.heap.size+1+1]?=some (.cells zK 29 (0,0))
 v:W.heap[w.heap.size+1+1+1]?=some (.cells zF 31 (0,0))
theorem B4.below {w W W':World}{A:KAd}{K:Krn}{f:List Int}(h:B4 w W A K f)(hb:Below W.heap.size W W'):B4 w W' A K f:=
 ⟨h.b.trans (hb.mono h.b.size),Nat.le_trans h.s hb.size,(hb.block _ (lt_of_block h.x)).trans h.x,(hb.block _ (lt_of_block h.y)).trans h.y,(hb.block _ (lt_of_block h.u)).trans h.u,(hb.block _ (lt_of_block h.v)).trans h.v⟩
theorem XS.low {w4 W W':World}{fb xb:Nat}{A:KAd}{X:Krn}{f:List Int}(h:XS w4 W fb xb A X f){w:World}(hb:Below w.heap.size w w4)(hl:w.heap.size<=fb){u v:Nat}(hu:w.heap.size<=u)(hv:w.heap.size<=v)(b2:But2 u v W W'):Below w.heap.size w W':=
 ⟨b2.os.trans (h.b.os.trans hb.os),b2.tape.trans (h.b.tape.trans hb.tape),b2.output.trans (h.b.output.trans hb.output),by rw[b2.size];exact Nat.le_trans hb.size h.b.size,fun k hk=>(b2.block k (by omega) (by omega)).trans ((h.old (Nat.lt_of_lt_of_le hk hb.size) (by omega)).trans (hb.block k hk))⟩
theorem XS.box {w4 W W':World}{fb xb:Nat}{A A':KAd}{X X':Krn}{f:List Int}(h:XS w4 W fb xb A X f)(hl:fb < w4.heap.size)(hb:But xb W W')(hx:KIn W' xb A' X')(h1:A'.pa=A.pa)(h2:A'.pc=A.pc)(h3:A'.oa=A.oa)(h4:A'.oc=A.oc)(h5:X'.pipes=X.pipes)(h6:X'.opens=X.opens):XS w4 W' fb xb A' X' f:=by
 have ho:=h.own.but hb (fun x hx=>h.far x (.inl hx)) (fun x hx=>h.far x (.inr hx))
 refine⟨⟨hb.os.trans h.b.os,hb.tape.trans h.b.tape,hb.output.trans h.b.output,by rw[hb.size];exact h.b.size,fun k hk hn=>(hb.block k (by have:=h.lo;omega)).trans (h.b.block k hk hn)⟩,(hb.block fb (by have:=h.lo;omega)).trans h.hf,hx,⟨?_,?_,?_⟩,h.lo,?_⟩
 ·rw[h1,h2,h5];exact ho.pipes
 ·rw[h3,h4,h6];exact ho.opens
 ·rw[h1,h3];exact ho.apart
 ·rw[h1,h3];exact h.far
section
variable {w4 W : World} {fb xb : Nat} {A : KAd} {X : Krn} {f : List Int}
theorem Axl (W:World)(c:Nat)(x y z:Value):But c W (put3 W c x y z):=((But.set W c 0 x).trans (But.set _ c _ y)).trans (But.set _ c _ z)
theorem XS.tree (h:XS w4 W fb xb A X f)(hl:fb < w4.heap.size)(a:Option Addr)(c:Nat)(L:List Ino):XS w4 (put3 W xb (.slice a L.length c) (.int .i64 X.m) (.int .i64 X.b)) fb xb { A with ta:=a,tc:=c } { X with tree:=L } f:=
 h.box hl (Axl _ _ _ _ _) (Aar (Aar (Aar h.hx 0 _) 1 _) 2 _) rfl rfl rfl rfl rfl rfl
theorem XS.kernT {W':World}(h:XS w4 W fb xb A X f){w:World}(hb:Below w.heap.size w w4)(hl:w.heap.size<=fb){u v:Nat}(hu:w.heap.size<=u/\u < w4.heap.size)(hv:w.heap.size<=v/\v < w4.heap.size)(b2:But2 u v W W')(hN:Aad W' A.ta A.tc X.tree):KernIn W' A X/\Below w.heap.size w W':=by
 have hlow:∀ k,k < w.heap.size->W'.heap[k]?=w.heap[k]?:=fun k hk=>(b2.block k (by omega) (by omega)).trans ((h.old (Nat.lt_of_lt_of_le hk hb.size) (by omega)).trans (hb.block k hk))
 exact⟨⟨hN,.of_row (Ab8 h.own.pipes fun x hx=>b2.block _ (by have:=(h.lt.2.2 x (.inl hx)).1;omega) (by have:=(h.lt.2.2 x (.inl hx)).1;omega)),.of_row (Ab8 h.own.opens fun x hx=>b2.block _ (by have:=(h.lt.2.2 x (.inr hx)).1;omega) (by have:=(h.lt.2.2 x (.inr hx)).1;omega))⟩,b2.os.trans (h.b.os.trans hb.os),b2.tape.trans (h.b.tape.trans hb.tape),b2.output.trans (h.b.output.trans hb.output),by rw[b2.size];exact Nat.le_trans hb.size h.b.size,hlow⟩
end
theorem two9 {G:World->Prop}{w:World}{a b:Array Value}{s t:TypeId}(h:∀ w2,Below w.heap.size w w2->w2.heap.size=w.heap.size+2->w2.heap[w.heap.size]?=some (.cells a s (0,0))->w2.heap[w.heap.size+1]?=some (.cells b t (0,0))->G w2):G ((w.alloc (.cells a s)).alloc (.cells b t)):=by
 obtain⟨w2,hw2,hb2,hs2,hX,hY⟩:=Aan w a b s t
 rw[<-hw2]
 exact h w2 hb2 hs2 hX hY
structure B2 (w W:World)(A:KAd)(K:Krn)(f:List Int):Prop where
 b:Below w.heap.size w W
 s:w.heap.size+2<=W.heap.size
 x:KIn W (w.heap.size) A K
 y:FIn W (w.heap.size+1) f
section
variable {w W W' W1 W2 : World} {A : KAd} {K : Krn} {f : List Int}
theorem B2.below (h:B2 w W A K f)(hb:Below W.heap.size W W'):B2 w W' A K f:=
 ⟨h.b.trans (hb.mono h.b.size),Nat.le_trans h.s hb.size,(hb.block _ (lt_of_block h.x)).trans h.x,(hb.block _ (lt_of_block h.y)).trans h.y⟩
theorem B2.but (h:B2 w W A K f){c:Nat}(hb:But c W W')(hc:w.heap.size+2<=c):B2 w W' A K f:=
 ⟨But.below h.b hb (by omega),by rw[hb.size];exact h.s,(hb.block _ (by omega)).trans h.x,(hb.block _ (by omega)).trans h.y⟩
end
section
variable {ops : Array Oper} {rest : List Oper} {Q : Exit -> Act -> World -> Prop} {a : Act} {W : World} {ak av : Tmp} {y : TypeId} {p : String} {e : Array Edge} {c d : Array Value}
theorem Akn (A:KAd)(K:Krn)(hc:c.size=7)(hx:a.eval (.tmp ak)=.pointer (some ⟨W.heap.size,0,none⟩))(hv:a.eval (.tmp av)=.agg (kB A K))(H:∀ W',Below W.heap.size W W'->KIn W' W.heap.size A K->W'.heap[W.heap.size+1]?=some (.cells d 31 (0,0))->wpList Tryz.prog ops Q rest a W'):wpList Tryz.prog ops Q (⟨none,.store 29 (.tmp ak) (.tmp av),y,p,e,none⟩ :: rest) a ((W.alloc (.cells c 29)).alloc (.cells d 31)):=by
 obtain⟨w2,hw2,hb2,hs2,hX,hY⟩:=Aan W c d 29 31
 rw[<-hw2]
 exact Aev A K hX hc hx hv fun W' h hb=>H W' (But.below hb2 hb (Nat.le_refl _)) h ((hb.block _ (by omega)).trans hY)
end
section
variable {ops : Array Oper} {rest : List Oper} {Q : Exit -> Act -> World -> Prop} {a : Act} {W : World} {s : Option Tmp} {ak : Tmp} {y : TypeId} {p : String} {e : Array Edge} {gd : Nat × Bool} {g : Nat} {A : KAd} {K : Krn} {f : List Int}
theorem Ajm (h:KIn W g A K)(hw:Region.wanted ⟨s,.load 29 (.tmp ak),y,p,e,some gd⟩ (yielded ops a.tmps)=true)(hx:a.eval (.tmp ak)=.pointer (some ⟨g,0,none⟩))(H:wpList Tryz.prog ops Q rest (a.put s (.agg (kB A K))) W):wpList Tryz.prog ops Q (⟨s,.load 29 (.tmp ak),y,p,e,some gd⟩ :: rest) a W:=by
 obtain⟨d,h1,h2,h3⟩:=kuu
 exact BigFrame.wpList_want hw fun K' hK=>wp_load_mid 29 (.tmp ak) rfl g 0 hx (kB A K).toList d (Ac8 h) h1 h2 h3 (hK _ _ H)
theorem Afo (h:FIn W g f)(hw:Region.wanted ⟨s,.load 31 (.tmp ak),y,p,e,some gd⟩ (yielded ops a.tmps)=true)(hx:a.eval (.tmp ak)=.pointer (some ⟨g,0,none⟩))(H:wpList Tryz.prog ops Q rest (a.put s (.agg (fB f))) W):wpList Tryz.prog ops Q (⟨s,.load 31 (.tmp ak),y,p,e,some gd⟩ :: rest) a W:=by
 obtain⟨d,h1,h2,h3⟩:=fuu
 exact BigFrame.wpList_want hw fun K' hK=>wp_load_mid 31 (.tmp ak) rfl g 0 hx (fB f).toList d (Ac8 h) h1 h2 h3 (hK _ _ H)
end
section
variable {ops : Array Oper} {S : World -> Prop} {a : Act} {s : Option Tmp} {ak : Tmp} {y : TypeId} {p : String} {e : Array Edge} {gd : Option (Nat × Bool)} {g : Nat} {A : KAd} {K : Krn} {f : List Int}
end
structure MS (w W:World)(A:KAd)(K:Krn)(f:List Int)(ka kb:Nat)(Aa:KAd)(Ka:Krn)(fa:List Int)(Ab:KAd)(Kb:Krn)(fb:List Int):Prop where
 o:B2 w W A K f
 sa:w.heap.size+2<=ka
 sb:ka+2<=kb
 sw:kb+2<=W.heap.size
 xa:KIn W ka Aa Ka
 ya:FIn W (ka+1) fa
 xb:KIn W kb Ab Kb
 yb:FIn W (kb+1) fb
section
variable {w W W' W1 W2 : World} {A Aa Ab : KAd} {K Ka Kb : Krn} {f fa fb : List Int} {ka kb : Nat}
theorem MS.below (h:MS w W A K f ka kb Aa Ka fa Ab Kb fb)(hb:Below W.heap.size W W'):MS w W' A K f ka kb Aa Ka fa Ab Kb fb:=
 ⟨h.o.below hb,h.sa,h.sb,Nat.le_trans h.sw hb.size,(hb.block _ (lt_of_block h.xa)).trans h.xa,(hb.block _ (lt_of_block h.ya)).trans h.ya,(hb.block _ (lt_of_block h.xb)).trans h.xb,(hb.block _ (lt_of_block h.yb)).trans h.yb⟩
end
section
variable {w W W' W1 : World} {A Aa Ab : KAd} {K Ka Kb : Krn} {f : List Int} {ka kb : Nat}
end
theorem Asz : Tryz.prog.eqGuardType Tryz.prog.depth 31=false:=by kernel_rfl
theorem Awc : (Tryz.prog.info? 3).map (fun i=>(i.zero,i.size,i.bytes))=some (some (.int .i64 0),1,8):=by kernel_rfl
theorem Aj4 (a:Option Addr)(cap:Nat)(m b cwd:Int)(pb:ByteArray)(hp:pb.size<=1073741824)(follow:Bool)(L:List Ino)(hF:FitP L m b)(z e:Int)(h:Acp L cwd pb.data.toList follow=(z,e))(w:World)(hN:Aad w a cap L) :
  Calls Tryz.prog 34 #[.agg #[.slice a L.length cap,.int .i64 m,.int .i64 b],.int .i64 cwd,.string pb,.bool follow] w fun r w'=>r=.returned (.tuple #[.int .i64 z,.int .i64 e])/\Below w.heap.size w w':=by
 have:=Avk a cap m b cwd pb hp follow L hF w hN
 rw[h]at this
 exact this
theorem Azw {O:List Opn}{o:Opn}{k:Nat}(hk:k < O.length)(h:∀ i (hi:i < O.length),i < k->O[i].kind≠0)(h0:O[k].kind=0):putK O o=(O.set k o,(k:Int)+1):=by
 unfold putK
 rw[List.findIdx?_eq_some_iff_getElem.2 ⟨hk,by simpa using h0,fun i hi=>by simpa using h i (by omega) hi⟩]
theorem Ba9 {O:List Opn}{o:Opn}(h:∀ i (hi:i < O.length),O[i].kind≠0):putK O o=if 64<=O.length then(O,0)else(O ++ [o],(O.length:Int)+1):=by
 unfold putK
 rw[List.findIdx?_eq_none_iff.2 fun x hx=>by obtain⟨i,hi,rfl⟩:=List.getElem_of_mem hx;simpa using h i hi]
theorem KOwn.newOpens {W W':World}{B:Nat}{A:KAd}{P:List Pip}{O O':List Opn}(h:KOwn W B A P O){a':Option Addr}{c':Nat}(hr:W'.ownsRow B 70 5 (.slice a' O'.length c') O'.length (rowC opnF O'))(hs:RowStep W A.oa a' W'):KOwn W' B { A with oa:=a',oc:=c' } P O'/\Offk A W W':=by
 refine⟨⟨Ab8 h.pipes fun x hx=>hs.block _ (h.lt.1 x hx).2 (fun y hy e=>h.apart x y hx hy e.symm),hr,fun x y hx hy e=>?_⟩,⟨hs.os,hs.tape,hs.output,hs.size,fun k hk _ ho=>hs.block k hk ho⟩⟩
 rcases hs.near y hy with ⟨z,h1,h2⟩|h1
 ·exact h.apart x z hx h1 (e.trans h2.symm)
 ·have:=(h.lt.1 x hx).2
  omega
def Ax4 (B:Nat)(A:KAd)(K:Krn)(o:Opn)(w:World)(e:Ending)(w':World):Prop:=
 ∃ A':KAd,e=.returned (.tuple #[.agg (kB A' { K with opens:=(putK K.opens o).1 }),.int .i64 (putK K.opens o).2])/\(A'.ta=A.ta/\A'.tc=A.tc/\A'.pa=A.pa/\A'.pc=A.pc)/\KOwn w' B A' K.pipes (putK K.opens o).1/\Offk A w w'/\∀ x,A'.oa=some x->(∃ y,A.oa=some y/\y.block=x.block)∨w.heap.size<=x.block
theorem XS.put {w4 W W' W'':World}{fb xb:Nat}{A A':KAd}{X:Krn}{f:List Int}{O':List Opn}(h:XS w4 W fb xb A X f)(hl:fb < w4.heap.size)(ho:KOwn W' w4.heap.size A' X.pipes O')(hw:Offk A W W')(hp:A'.pa=A.pa)(hn:∀ x,A'.oa=some x->(∃ y,A.oa=some y/\y.block=x.block)∨W.heap.size<=x.block)(hx:KIn W'' xb A' { X with opens:=O' })(hb:But xb W' W''):XS w4 W'' fb xb A' { X with opens:=O' } f:=by
 have h1:∀ k,k < w4.heap.size->W'.heap[k]?=W.heap[k]?:=fun k hk=>hw.block k (Nat.lt_of_lt_of_le hk h.b.size) (fun x hx e=>by have:=(h.lt.2.2 x (.inl hx)).1;omega) (fun x hx e=>by have:=(h.lt.2.2 x (.inr hx)).1;omega)
 have hf:∀ x,(A'.pa=some x∨A'.oa=some x)->x.block≠xb:=fun x hx=>by
  rcases hx with hx|hx
  ·exact h.far x (.inl (by rw[<-hp];exact hx))
  ·rcases hn x hx with ⟨y,h2,h3⟩|h2
   ·rw[<-h3];exact h.far y (.inr h2)
   ·have:=h.lt.2.1
    omega
 exact⟨⟨hb.os.trans (hw.os.trans h.b.os),hb.tape.trans (hw.tape.trans h.b.tape),hb.output.trans (hw.output.trans h.b.output),by rw[hb.size];exact Nat.le_trans h.b.size hw.size,fun k hk hn=>(hb.block k (by have:=h.lo;omega)).trans ((h1 k hk).trans (h.b.block k hk hn))⟩,(hb.block fb (by have:=h.lo;omega)).trans ((h1 fb hl).trans h.hf),hx,ho.but hb (fun x hx=>hf x (.inl hx)) (fun x hx=>hf x (.inr hx)),h.lo,hf⟩
theorem Bby (A:KAd)(K:Krn)(o:Opn)(B:Nat)(hol:K.opens.length<=1000)(w:World)(hB:B<=w.heap.size)(hK:KOwn w B A K.pipes K.opens) :
  Calls Tryz.prog 43 #[.agg (kB A K),.agg #[.int .i64 o.kind,.int .i64 o.at_,.int .i64 o.off,.int .i64 o.flags,.int .i64 o.refs]] w (Ax4 B A K o w):=by
 obtain⟨i0,hi,hz0,hz1,hz2⟩:=info_parts Air
 have HK:=Hd hK
 have HBL:=Hd hB
 clear hK hB
 show Calls _ _ #[.agg #[.slice A.ta K.tree.length A.tc,.int .i64 K.m,.int .i64 K.b,.slice A.pa K.pipes.length A.pc,.slice A.oa K.opens.length A.oc,.string ⟨K.out0.toArray⟩,.string ⟨K.out1.toArray⟩],.agg #[.int .i64 o.kind,.int .i64 o.at_,.int .i64 o.off,.int .i64 o.flags,.int .i64 o.refs]] w _
 go_enter Tryz.func43,Tryz.ntmps43
 go_upto_region 1 with fail
 refine Bbj (G:=Code.wp _ _ _ _) (fun w4 hb4 hs4 hX hO hU=>?_)
 have HX:Hid (KIn w4 (w.heap.size) A K):=Hd hX
 have HO:=Hd hO
 have HU:Hid (w4.heap[w.heap.size+1+1]?=some (.cells zK 29 (0,0))):=Hd hU
 have HB:=Hd hb4
 have HS:=Hd hs4
 have HW:=Hd (HK.out.below hb4)
 have HLT:=Hd HK.out.lt
 clear hb4 hs4 hX hO hU
 have q4:=bC HX.out 4
 rw[show (kB A K)[4]?=some (.slice A.oa K.opens.length A.oc)from rfl]at q4
 have kl:=lt_of_block HX.out
 go_wp2_with fail
 go_loop [6] (fun iv=>∃ k:Nat,k<=K.opens.length/\iv=.int .i64 k/\Hid (∀ i (hi:i < K.opens.length),i < k->K.opens[i].kind≠0)) (fun iv=>K.opens.length - (intOf iv).toNat)
 case atStart=>exact⟨0,by omega,rfl,Hd (fun i _ h=>absurd h (by omega))⟩
 case round=>
  obtain⟨k,hk,rfl,HNO⟩:=hrel
  have b0:(0:Int)<=(k:Int):=by omega
  by_cases hlt:k < K.opens.length
  ·have b1:(k:Int) < (K.opens.length:Int):=by omega
   obtain⟨go,ha,hgo,hOA⟩:=HW.out.opn hlt
   have HA:=Hd ha
   have HGL:=Hd (show go < w.heap.size from(HLT.out.2 _ ha).2)
   rw[ha]at q4
   obtain⟨x0,x1,x2,x3,x4,xl,xf⟩:=hOA
   clear ha hgo x1 x2 x3 x4
   by_cases hz:K.opens[k].kind=0
   ·rw[hz]at x0
    have HP:=Hd (Azw (o:=o) hlt (fun i hi h=>HNO.out i hi h) hz)
    have o0:=bC HO.out 0
    have o1:=bC HO.out 1
    have o2:=bC HO.out 2
    have o3:=bC HO.out 3
    have o4:=bC HO.out 4
    have f0:=xf (k * 5)
    have f1:=xf (k * 5+1)
    have f2:=xf (k * 5+2)
    have f3:=xf (k * 5+3)
    have f4:=xf (k * 5+4)
    obtain⟨-,y1,y2,y3,y4,-,-⟩:=(show OpnAt w4 go k K.opens[k] by obtain⟨g',h',-,h''⟩:=HW.out.opn hlt;rw[HA.out]at h';cases h';exact h'')
    have hwr:IntKind.i64.wrap ((k:Int)+1)=(k:Int)+1:=by rw[IntKind.wrap_i64];omega
    clear hz xf
    go_upto_region 6 with fail
    change Code.wp _ _ _ _ (Acz w4 go (k * 5) (.int .i64 o.kind) (.int .i64 o.at_) (.int .i64 o.off) (.int .i64 o.flags) (.int .i64 o.refs))
    obtain⟨h5,h6⟩:=HW.out.storeOpn HA.out hlt o
    have h7:=Ad0 w4 go (k * 5) (.int .i64 o.kind) (.int .i64 o.at_) (.int .i64 o.off) (.int .i64 o.flags) (.int .i64 o.refs)
    generalize hw5:Acz w4 go (k * 5) (.int .i64 o.kind) (.int .i64 o.at_) (.int .i64 o.off) (.int .i64 o.flags) (.int .i64 o.refs)=w5 at h5 h6 h7 ⊢
    have H5:=Hd h5
    have H6:=Hd h6
    have HX5:=Hd ((h7.block _ (by have:=HGL.out;omega)).trans HX.out)
    have HU5:=Hd ((h7.block _ (by have:=HGL.out;omega)).trans HU.out)
    clear h5 h6 h7 hw5 o0 o1 o2 o3 o4 f0 f1 f2 f3 f4 y1 y2 y3 y4 x0 xl q4 kl
    go_wp2_with (first|((with_reducible refine Ab3 (show KIn w5 (w.heap.size) A K from HX5.out) ?_ ?_);rfl;(try simp only[Act.put,Zaa,Zab,Zac]))|((with_reducible refine Aev A K HU5.out ?_ ?_ ?_ ?_);rfl;rfl;rfl;intro W' hk hb))
    have hoff:Offk A w W':=((Offk.of_below HB.out).trans H6.out).but hb (by omega)
    refine Aze rfl rfl hk rfl ⟨A,?_,⟨rfl,rfl,rfl,rfl⟩,?_,hoff,fun x hx=>.inl ⟨x,hx,rfl⟩⟩
    ·rw[HP.out]
     unfold kB
     rw[List.length_set]
     rfl
    ·rw[HP.out]
     exact H5.out.but hb (fun x hx e=>by have:=(HLT.out.1 x hx).2;omega) (fun x hx e=>by have:=(HLT.out.2 x hx).2;omega)
   ·have hzb:(K.opens[k].kind == 0)=false:=by rw[beq_eq_false_iff_ne];exact hz
    have HN2:=Hd (show ∀ i (hi:i < K.opens.length),i < k+1->K.opens[i].kind≠0 from fun i hi h=>by
     rcases Nat.lt_or_ge i k with h1|h1
     ·exact HNO.out i hi h1
     ·obtain rfl:i=k:=by omega
      exact hz)
    have hwr:IntKind.i64.wrap ((k:Int)+1)=(k:Int)+1:=by rw[IntKind.wrap_i64];omega
    clear hz xf
    go_wp2_with fail
    go_round
    case rel=>exact⟨k+1,by omega,by go_num,HN2⟩
    case measure=>simp[intOf] <;> omega
  ·have hke:k=K.opens.length:=by omega
   subst hke
   have HP:=Hd (Ba9 (o:=o) (fun i hi=>HNO.out i hi hi))
   clear hk hlt b0
   by_cases hm:64<=K.opens.length
   ·have hmd:decide ((K.opens.length:Int) ≥ 64)=true:=decide_eq_true (by omega)
    have hmd2:decide (64<=(K.opens.length:Int))=true:=decide_eq_true (by omega)
    rw[if_pos hm]at HP
    clear hm
    go_wp2_with (first|((with_reducible refine Ab3 HX.out ?_ ?_);rfl;(try simp only[Act.put,Zaa,Zab,Zac]))|((with_reducible refine Aev A K HU.out ?_ ?_ ?_ ?_);rfl;rfl;rfl;intro W' hk hb))
    have hoff:Offk A w W':=(Offk.of_below HB.out).but hb (by omega)
    refine Aze rfl rfl hk rfl ⟨A,?_,⟨rfl,rfl,rfl,rfl⟩,?_,hoff,fun x hx=>.inl ⟨x,hx,rfl⟩⟩
    ·rw[HP.out]
     rfl
    ·rw[HP.out]
     exact HW.out.but hb (fun x hx e=>by have:=(HLT.out.1 x hx).2;omega) (fun x hx e=>by have:=(HLT.out.2 x hx).2;omega)
   ·have hmd:decide ((K.opens.length:Int) ≥ 64)=false:=decide_eq_false (by omega)
    have hmd2:decide (64<=(K.opens.length:Int))=false:=decide_eq_false (by omega)
    rw[if_neg hm]at HP
    have HM:=Hd hm
    have o0:=bC HO.out 0
    have o1:=bC HO.out 1
    have o2:=bC HO.out 2
    have o3:=bC HO.out 3
    have o4:=bC HO.out 4
    have ol:=lt_of_block HO.out
    have f4:=bF HX.out 4
    clear hm
    obtain⟨ta,tc,pa,pc,oa,oc⟩:=A
    have HWO:=Hd (show w4.ownsRow B 70 5 (.slice oa K.opens.length oc) K.opens.length (rowC opnF K.opens)from HW.out.opens)
    have q4':w4.cell? ⟨w.heap.size,4,none⟩=some (.slice oa K.opens.length oc):=q4
    clear q4
    have HBS:=Hd (Nat.le_trans HBL.out HB.out.size)
    go_wp2_with (first|(at_builtin;refine wpList_append_lies _ rfl _ _ 26 rfl B 70 i0 _ 5 40 Tryz.underlying26 hi hz0 hz1 hz2 rfl (by decide) (.slice oa K.opens.length oc) K.opens.length (rowC opnF K.opens) rfl ((HWO.out).kept (World.grownBy_alloc _ _ none) (by cases oa <;> simp[Value.ownBlock])) ⟨w4.heap.size,0,none⟩ 1 1 (opnF o) rfl rfl ?qc2 (fun u hu=>Ahn [o] u (by simpa[rowC] using hu)) (by decide) (by unfold maxLen;omega) (by omega) (by have:=HBS.out;simp;omega) _ rfl ?_)|fail)
    case qc2=>
     intro j u hj
     simpa[opnF] using hj
    intro gn c' w5 hown hgrow hat hgl
    have hr5:w5.ownsRow B 70 5 (.slice (some ⟨gn,0,none⟩) (K.opens ++ [o]).length c') (K.opens ++ [o]).length (rowC opnF (K.opens ++ [o])):=by
     rw[Alq,List.length_append,List.length_singleton]
     simpa[rowC] using hown
    have hs5:RowStep w4 oa (some ⟨gn,0,none⟩) w5:=by
     refine .of_grown (B:=B) (e:=0) (k:=0) (xs:=[]) (n:=K.opens.length) (c:=oc) (n':=0) (c':=0) ((Below.refl w4.heap.size w4).alloc (Nat.le_refl _) _) hgrow hgrow.size ?_
     intro x hx
     cases hx
     rcases hat with h|h
     ·left
      cases hoa:oa with
      | none=>rw[hoa]at h;cases h
      | some y=>rw[hoa]at h;exact⟨y,rfl,Option.some.inj h⟩
     ·right
      rw[h]
      simp
    obtain⟨h5,h6⟩:=HW.out.newOpens hr5 hs5
    have HW5:=Hd h5
    have HF5:=Hd h6
    have HS5:=Hd hs5
    have HX5:=Hd (h6.box (fun x hx=>by have:=(HLT.out.1 x hx).2;omega) (fun x hx=>by have:=(HLT.out.2 x hx).2;omega) HX.out)
    have HU5:=Hd (h6.box (fun x hx=>by have:=(HLT.out.1 x hx).2;omega) (fun x hx=>by have:=(HLT.out.2 x hx).2;omega) HU.out)
    clear hown hgrow hat hgl hr5 hs5 h5 h6 o0 o1 o2 o3 o4 ol f4 q4' kl
    have q4:=bC HX5.out 4
    have f4:=bF HX5.out 4
    have kl:=lt_of_block HX5.out
    go_upto_region 10 with fail
    have hb6:But w.heap.size w5 (w5.setCell ⟨w.heap.size,4,none⟩ (.slice (some ⟨gn,0,none⟩) (K.opens.length+1) c')):=But.set ..
    have hx6:=Aar HX5.out 4 (.slice (some ⟨gn,0,none⟩) (K.opens.length+1) c')
    generalize hw6:World.setCell w5 ⟨w.heap.size,4,none⟩ (.slice (some ⟨gn,0,none⟩) (K.opens.length+1) c')=w6 at hb6 hx6 ⊢
    have HX6:Hid (KIn w6 w.heap.size ⟨ta,tc,pa,pc,some ⟨gn,0,none⟩,c'⟩ { K with opens:=K.opens ++ [o] }):=Hd (by
     show _=_
     rw[hx6]
     unfold kB
     rw[List.length_append,List.length_singleton]
     rfl)
    have HU6:=Hd ((hb6.block _ (by omega)).trans HU5.out)
    have HB6:=Hd hb6
    clear hb6 hx6 hw6 q4 f4 kl
    have c0:=bC HX6.out 0
    have c1:=bC HX6.out 1
    have c2:=bC HX6.out 2
    have c3:=bC HX6.out 3
    have c4:=bC HX6.out 4
    have c5:=bC HX6.out 5
    have c6:=bC HX6.out 6
    simp only[kB,List.length_append,List.length_singleton,List.getElem?_toArray,List.getElem?_cons_zero,List.getElem?_cons_succ]at c0 c1 c2 c3 c4 c5 c6
    have u0:=bC HU6.out 0
    have u1:=bC HU6.out 1
    have u2:=bC HU6.out 2
    have u3:=bC HU6.out 3
    have u4:=bC HU6.out 4
    have u5:=bC HU6.out 5
    have u6:=bC HU6.out 6
    simp only[zK,List.getElem?_toArray,List.getElem?_cons_zero,List.getElem?_cons_succ]at u0 u1 u2 u3 u4 u5 u6
    have v0:=bF HU6.out 0
    have v1:=bF HU6.out 1
    have v2:=bF HU6.out 2
    have v3:=bF HU6.out 3
    have v4:=bF HU6.out 4
    have v5:=bF HU6.out 5
    have v6:=bF HU6.out 6
    have ul:=lt_of_block HU6.out
    have kl:=lt_of_block HX6.out
    go_region
    change Exit.then _ _ _ _ (World.drew (put7 w6 (w.heap.size+1+1) (.slice ta K.tree.length tc) (.int .i64 K.m) (.int .i64 K.b) (.slice pa K.pipes.length pc) (.slice (some ⟨gn,0,none⟩) (K.opens.length+1) c') (.string ⟨K.out0.toArray⟩) (.string ⟨K.out1.toArray⟩)))
    have hb7:=Aiv w6 (w.heap.size+1+1) (.slice ta K.tree.length tc) (.int .i64 K.m) (.int .i64 K.b) (.slice pa K.pipes.length pc) (.slice (some ⟨gn,0,none⟩) (K.opens.length+1) c') (.string ⟨K.out0.toArray⟩) (.string ⟨K.out1.toArray⟩)
    have hx7:=Ac4 HU6.out (.slice ta K.tree.length tc) (.int .i64 K.m) (.int .i64 K.b) (.slice pa K.pipes.length pc) (.slice (some ⟨gn,0,none⟩) (K.opens.length+1) c') (.string ⟨K.out0.toArray⟩) (.string ⟨K.out1.toArray⟩)
    generalize hw7:put7 w6 (w.heap.size+1+1) (.slice ta K.tree.length tc) (.int .i64 K.m) (.int .i64 K.b) (.slice pa K.pipes.length pc) (.slice (some ⟨gn,0,none⟩) (K.opens.length+1) c') (.string ⟨K.out0.toArray⟩) (.string ⟨K.out1.toArray⟩)=w7 at hb7 hx7 ⊢
    have hxz:KIn w7.drew (w.heap.size+1+1) ⟨ta,tc,pa,pc,some ⟨gn,0,none⟩,c'⟩ { K with opens:=K.opens ++ [o] }:=by
     show w7.heap[_]?=_
     rw[hx7]
     unfold kB
     rw[List.length_append,List.length_singleton]
    have hgn:∀ x,(some ⟨gn,0,none⟩:Option Addr)=some x->x.block < w.heap.size∨w4.heap.size<=x.block:=fun x hx=>(HS5.out.near x hx).imp (fun⟨y,h1,h2⟩=>by rw[<-h2];exact(HLT.out.2 y h1).2) id
    have hpl:∀ x,pa=some x->x.block < w.heap.size:=fun x hx=>(HLT.out.1 x hx).2
    have how:=((HW5.out.but HB6.out (fun x hx e=>by have:=hpl x hx;omega) (fun x hx e=>by have:=hgn x hx;have:=HS.out;omega)).but hb7 (fun x hx e=>by have:=hpl x hx;omega) (fun x hx e=>by have:=hgn x hx;have:=HS.out;omega)).below (Aac (Below.refl _ _))
    have hoff:Offk ⟨ta,tc,pa,pc,oa,oc⟩ w w7.drew:=((((Offk.of_below HB.out).trans HF5.out).but HB6.out (Nat.le_refl _)).but hb7 (by omega)).below (Aac (Below.refl _ _))
    generalize hwz:w7.drew=wz at hxz how hoff ⊢
    have HXZ:=Hd hxz
    have HOW:=Hd how
    have HOF:=Hd hoff
    clear hb7 hx7 hw7 hxz hgn hpl how hoff hwz c0 c1 c2 c3 c4 c5 c6 u0 u1 u2 u3 u4 u5 u6 v0 v1 v2 v3 v4 v5 v6 ul kl
    go_wp2_with fail
    refine Aze rfl rfl HXZ.out rfl ⟨⟨ta,tc,pa,pc,some ⟨gn,0,none⟩,c'⟩,?_,⟨rfl,rfl,rfl,rfl⟩,?_,HOF.out,fun x hx=>?_⟩
    ·rw[HP.out]
     rfl
    ·rw[HP.out]
     exact HOW.out
    ·rcases HS5.out.near x hx with h|h
     ·exact .inl h
     ·exact .inr (by have:=HS.out;omega)
theorem Bbf (A:KAd)(K:Krn)(o:Opn)(B:Nat)(hol:K.opens.length<=1000)(w:World)(hB:B<=w.heap.size)(hK:KOwn w B A K.pipes K.opens){O':List Opn}{a:Int}(hz:putK K.opens o=(O',a)) :
  Calls Tryz.prog 43 #[.agg (kB A K),.agg #[.int .i64 o.kind,.int .i64 o.at_,.int .i64 o.off,.int .i64 o.flags,.int .i64 o.refs]] w fun e w'=>∃ A':KAd,e=.returned (.tuple #[.agg (kB A' { K with opens:=O' }),.int .i64 a])/\(A'.ta=A.ta/\A'.tc=A.tc/\A'.pa=A.pa/\A'.pc=A.pc)/\KOwn w' B A' K.pipes O'/\Offk A w w'/\∀ x,A'.oa=some x->(∃ y,A.oa=some y/\y.block=x.block)∨w.heap.size<=x.block:=by
 have h:=Bby A K o B hol w hB hK
 unfold Ax4 at h
 rw[hz]at h
 exact h
def Aku (cs:Array Value):Prop:=∀ j s,cs[j]?=some (.string s)->cs[j+1]?=none∨∃ s',cs[j+1]?=some (.string s')
theorem Agg {W W':World}{a:Option Addr}{cap:Nat}{L:List Ino}(h:Aad W a cap L)(H:∀ k,k < W.heap.size->(∀ cs t,W.heap[k]?=some (.cells cs t (0,0))->Aku cs->False)->W'.heap[k]?=W.heap[k]?):Aad W' a cap L:=by
 refine⟨h.1,h.2.1,fun i hi=>?_⟩
 obtain⟨b,o,e,hn⟩:=h.2.2 i hi
 obtain⟨v,hv,ka,kc,rfl,h1,h2,h3⟩:=hn.kids
 have hb:W'.heap[b]?=W.heap[b]?:=H b (Aaf hn.kind) fun cs t hc hno=>by
  have e1:=hn.data
  have e2:=hv
  rw[bC hc]at e1 e2
  rcases hno _ _ e1 with h|⟨s',h⟩
  ·rw[show o+i * 6+3+1=o+i * 6+4 from rfl,e2]at h;cases h
  ·rw[show o+i * 6+3+1=o+i * 6+4 from rfl,e2]at h;cases h
 have hc:∀ j,W'.cell? ⟨b,j,none⟩=W.cell? ⟨b,j,none⟩:=fun j=>World.cell?_of_block (a:=⟨b,j,none⟩) hb
 exact⟨b,o,e,⟨(hc _).trans hn.kind,(hc _).trans hn.mode,(hc _).trans hn.links,(hc _).trans hn.data,⟨_,(hc _).trans hv,ka,kc,rfl,h1,h2,fun j hj=>by
  obtain⟨b',o',e',c0,c1⟩:=h3 j hj
  have hb':W'.heap[b']?=W.heap[b']?:=H b' (Aaf c0) fun cs t hc hno=>by
   have e1:=c0
   have e2:=c1
   rw[bC hc]at e1 e2
   rcases hno _ _ e1 with h|⟨s',h⟩
   ·rw[e2]at h;cases h
   ·rw[e2]at h;cases h
  exact⟨b',o',e',(World.cell?_of_block (a:=⟨b',_,none⟩) hb').trans c0,(World.cell?_of_block (a:=⟨b',_,none⟩) hb').trans c1⟩⟩,(hc _).trans hn.up⟩⟩
theorem Ajt {cs:Array Value}(h:∀ v∈cs.toList,∀ s,v≠.string s):Aku cs:=fun j s hj=>by
 rw[<-Array.getElem?_toList]at hj
 exact absurd rfl (h _ (List.mem_of_getElem? hj) s)
theorem Ag0 (a:Option Addr)(n c:Nat)(x y:Int):Aku #[.slice a n c,.int .i64 x,.int .i64 y]:=Ajt fun v hv s=>by
 simp at hv
 rcases hv with rfl|rfl|rfl <;> simp
theorem At8 (f:List Int):Aku (fB f):=Ajt fun v hv s=>by
 simp[fB]at hv
 rcases hv with rfl|rfl|rfl|rfl|rfl|rfl|rfl|rfl|rfl|rfl <;> simp
theorem At9 : Aku zF:=Ajt fun v hv s=>by
 simp[zF]at hv
 subst hv
 simp
theorem Aua : Aku zK:=fun j s hj=>by
 match j,hj with
 | 0,h=>cases Option.some.inj h
 | 1,h=>cases Option.some.inj h
 | 2,h=>cases Option.some.inj h
 | 3,h=>cases Option.some.inj h
 | 4,h=>cases Option.some.inj h
 | 5,_=>exact .inr ⟨_,rfl⟩
 | 6,_=>exact .inl rfl
 | j+7,h=>simp[zK]at h
theorem tuu : ∃ d,Tryz.prog.underlying 24=some d/\d.isRow=true/\(Tryz.prog.info? 24).map (·.size)=some 3:=by
 obtain⟨d,h1,h2⟩:=Als (P:=Tryz.prog) (t:=24) (by kernel_rfl)
 exact⟨d,h1,h2,by kernel_rfl⟩
section
variable {ops : Array Oper} {Q : Exit -> Act -> World -> Prop} {rest : List Oper} {a : Act} {W : World} {s : Option Tmp} {ak av : Tmp} {y : TypeId} {p : String} {e : Array Edge} {g : Nat} {c : Array Value} {x1 x2 x3 : Value}
theorem Abo (h:W.heap[g]?=some (.cells #[x1,x2,x3] 24 (0,0)))(hx:a.eval (.tmp ak)=.pointer (some ⟨g,0,none⟩))(H:wpList Tryz.prog ops Q rest (a.put s (.agg #[x1,x2,x3])) W):wpList Tryz.prog ops Q (⟨s,.load 24 (.tmp ak),y,p,e,none⟩ :: rest) a W:=by
 obtain⟨d,h1,h2,h3⟩:=tuu
 exact wpList_load_mid rfl 24 (.tmp ak) rfl g 0 hx [x1,x2,x3] d (Ac8 h) h1 h2 h3 H
theorem Abs (x1 x2 x3:Value)(h:W.heap[g]?=some (.cells c 24 (0,0)))(hc:c.size=3)(hx:a.eval (.tmp ak)=.pointer (some ⟨g,0,none⟩))(hv:a.eval (.tmp av)=.agg #[x1,x2,x3])(ho:[x1,x2,x3].all (·.oneCell')=true)(H:∀ W',W'.heap[g]?=some (.cells #[x1,x2,x3] 24 (0,0))->But g W W'->wpList Tryz.prog ops Q rest a W'):wpList Tryz.prog ops Q (⟨none,.store 24 (.tmp ak) (.tmp av),y,p,e,none⟩ :: rest) a W:=by
 obtain⟨d,h1,h2,h3⟩:=tuu
 exact wpList_store_mid rfl 24 _ _ rfl g 0 #[x1,x2,x3] hx hv (by rw[show (#[x1,x2,x3]:Array Value).size=c.size from hc.symm];exact Aet h) h3 (by simpa using ho) (H _ (Agu h hc.symm) (Abq _ _ _))
end
theorem tfin {fn:Func}{R:Ending->World->Prop}{a:Act}{W:World}{t1 s s':Tmp}{g:Nat}{x1 x2 x3:Value}(hr:fn.results=#[.cell t1 24,.tmp s,.tmp s'])(h1:a.tmps.getD t1 undef=.pointer (some ⟨g,0,none⟩))(b1:W.heap[g]?=some (.cells #[x1,x2,x3] 24 (0,0)))(hd:a.defers=[])(hR:R (.returned (.tuple #[.agg #[x1,x2,x3],a.tmps.getD s undef,a.tmps.getD s' undef])) W):bodyPost Tryz.prog fn R .ret a W:=by
 obtain⟨d,u1,u2,u3⟩:=tuu
 exact Az0 hr h1 b1 u1 u2 u3 hd hR
structure TS (w W:World)(a:Option Addr)(cap:Nat)(m b:Int)(L:List Ino):Prop where
 ub:Below w.heap.size w W
 s:w.heap.size+2<=W.heap.size
 x:W.heap[w.heap.size]?=some (.cells #[.slice a L.length cap,.int .i64 m,.int .i64 b] 24 (0,0))
 u:W.heap[w.heap.size+1]?=some (.cells #[.slice none 0 0,.int .i64 0,.int .i64 0] 24 (0,0))
 nd:Aad W a cap L
theorem TS.below {w W W':World}{a:Option Addr}{cap:Nat}{m b:Int}{L:List Ino}(h:TS w W a cap m b L)(hb:Below W.heap.size W W'):TS w W' a cap m b L:=
 ⟨h.ub.trans (hb.mono h.ub.size),Nat.le_trans h.s hb.size,(hb.block _ (by have:=h.s;omega)).trans h.x,(hb.block _ (by have:=h.s;omega)).trans h.u,h.nd.below hb⟩
theorem TS.fin {w W W':World}{a:Option Addr}{cap:Nat}{m b:Int}{L:List Ino}(h:TS w W a cap m b L)(hb:But (w.heap.size+1) W W'):Aad W' a cap L/\Below w.heap.size w W':=
 ⟨Agg h.nd fun k _ hk=>hb.block k fun e=>by subst e;exact hk _ _ h.u (Ag0 _ _ _ _ _),But.below h.ub hb (by omega)⟩
theorem TS.put {w W W':World}{a a':Option Addr}{cap cap':Nat}{m b:Int}{L L':List Ino}(h:TS w W a cap m b L)(hN:Aad W a' cap' L')(hx:W'.heap[w.heap.size]?=some (.cells #[.slice a' L'.length cap',.int .i64 m,.int .i64 b] 24 (0,0)))(hb:But (w.heap.size) W W'):TS w W' a' cap' m b L':=
 ⟨But.below h.ub hb (Nat.le_refl _),by rw[hb.size];exact h.s,hx,(hb.block _ (by omega)).trans h.u,Agg hN fun k _ hk=>hb.block k fun e=>by subst e;exact hk _ _ h.x (Ag0 _ _ _ _ _)⟩
theorem Au8 (how:Int)(w:World):Calls Tryz.prog 41 #[.int .i64 how] w fun e w'=>e=.returned (.tuple #[.int .i64 (Aat how).1,.int .i64 (Aat how).2])/\w'=w:=by
 unfold Aat
 by_cases h0:how=0
 ·subst h0
  go_enter Tryz.func41,Tryz.ntmps41
  go_wp2_with fail
  exact bodyPost_ret (v:=.tuple #[.int .i64 4,.int .i64 1]) (by simp[results,Tryz.results41,go_sem]) rfl ⟨rfl,rfl⟩
 by_cases h2:how=2
 ·subst h2
  go_enter Tryz.func41,Tryz.ntmps41
  go_wp2_with fail
  exact bodyPost_ret (v:=.tuple #[.int .i64 2,.int .i64 6]) (by simp[results,Tryz.results41,go_sem]) rfl ⟨rfl,rfl⟩
 by_cases h3:how=3
 ·subst h3
  go_enter Tryz.func41,Tryz.ntmps41
  go_wp2_with fail
  exact bodyPost_ret (v:=.tuple #[.int .i64 6,.int .i64 3]) (by simp[results,Tryz.results41,go_sem]) rfl ⟨rfl,rfl⟩
 have b0:(how == 0)=false:=by rw[beq_eq_false_iff_ne];exact h0
 have b2:(how == 2)=false:=by rw[beq_eq_false_iff_ne];exact h2
 have b3:(how == 3)=false:=by rw[beq_eq_false_iff_ne];exact h3
 rw[if_neg h0,if_neg h2,if_neg h3]
 clear h0 h2 h3
 go_enter Tryz.func41,Tryz.ntmps41
 go_wp2_with fail
 exact bodyPost_ret (v:=.tuple #[.int .i64 2,.int .i64 2]) (by simp[results,Tryz.results41,go_sem]) rfl ⟨rfl,rfl⟩
theorem Axw (a:Option Addr)(cap:Nat)(m b cwd how:Int)(pb:ByteArray)(hp:pb.size<=1073741824)(L:List Ino)(hF:FitP L m b)(L':List Ino)(ino er:Int)(hz:Aaw L b cwd pb.data.toList how=(L',ino,er))(w:World)(hN:Aad w a cap L) :
  Calls Tryz.prog 40 #[.agg #[.slice a L.length cap,.int .i64 m,.int .i64 b],.int .i64 cwd,.string pb,.int .i64 how] w (Akc w m b L' [.int .i64 ino,.int .i64 er]):=by
 have HF:=Hd hF
 obtain⟨⟨z,e⟩,hw⟩:∃ x,Acp L cwd pb.data.toList true=x:=⟨_,rfl⟩
 have HW:=Hd hw
 have HZ:=Hd hz
 clear hz hF
 go_enter Tryz.func40,Tryz.ntmps40
 go_upto_region 1 with fail
 refine two9 (G:=Code.wp _ _ _ _) (fun w2 hb2 hs2 hX hY=>?_)
 have HT:=Hd (show TS w w2 a cap m b L from⟨hb2,by omega,hX,hY,hN.below hb2⟩)
 clear hb2 hs2 hX hY hN
 go_upto_region 2 with (first|((with_reducible refine Abo HT.out.x ?_ ?_);rfl;(try simp only[Act.put,Zaa,Zab,Zac]))|(go_at_call 34;refine(Aj4 a cap m b cwd pb hp true L HF.out z e HW.out w2 HT.out.nd).mono ?_;rintro e w3 ⟨rfl,hb⟩;have HT:=Hd (HT.out.below hb);clear hb))
 by_cases he:e=0
 rotate_left
 ·have heb:(e != 0)=true:=by simpa using he
  by_cases h2:e=2/\how≠0
  ·have hz2:=HZ.out
   unfold Aaw at hz2
   rw[hw]at hz2
   rw[if_pos h2]at hz2
   have HC:=Hd hz2
   obtain⟨rfl,hn⟩:=h2
   have hnb:(how != 0)=true:=by simpa using hn
   clear hz2 hn hw he
   go_wp2_with (first|((with_reducible refine Abo HT.out.x ?_ ?_);rfl;(try simp only[Act.put,Zaa,Zab,Zac]))|(go_at_call 85;refine(Aor a cap m b cwd 6 pb hp L HF.out L' ino er HC.out w3 HT.out.nd).mono ?_;rintro e w4 ⟨⟨a',cap',rfl,hN'⟩,hb⟩;have HT:=Hd (HT.out.below hb);have HN:=Hd hN';clear hN' hb)|((with_reducible refine Abs (.slice a' L'.length cap') (.int .i64 m) (.int .i64 b)  HT.out.u ?_ ?_ ?_ ?_ ?_);rfl;rfl;rfl;rfl;intro W' ht hb))
   exact tfin rfl rfl ht rfl ⟨⟨a',cap',rfl,Agg HN.out fun k _ hk=>hb.block k fun e=>by subst e;exact hk _ _ HT.out.u (Ag0 _ _ _ _ _)⟩,But.below HT.out.ub hb (by omega)⟩
  have hz2:=HZ.out
  unfold Aaw at hz2
  rw[hw]at hz2
  rw[if_neg h2,if_pos (show e≠0 from he)]at hz2
  simp only[Prod.mk.injEq]at hz2
  obtain⟨rfl,rfl,rfl⟩:=hz2
  by_cases h3:e=2
  ·have h0:how=0:=Classical.byContradiction fun h=>h2 ⟨h3,h⟩
   subst h0
   subst h3
   clear h2 hw he
   go_wp2_with (first|((with_reducible refine Abo HT.out.x ?_ ?_);rfl;(try simp only[Act.put,Zaa,Zab,Zac]))|((with_reducible refine Abs (.slice a L.length cap) (.int .i64 m) (.int .i64 b)  HT.out.u ?_ ?_ ?_ ?_ ?_);rfl;rfl;rfl;rfl;intro W' ht hb))
   have hw:=HT.out.fin hb
   exact tfin rfl rfl ht rfl ⟨⟨a,cap,rfl,hw.1⟩,hw.2⟩
  have h3b:(e == 2)=false:=by rw[beq_eq_false_iff_ne];exact h3
  clear h2 h3 hw he
  go_wp2_with (first|((with_reducible refine Abo HT.out.x ?_ ?_);rfl;(try simp only[Act.put,Zaa,Zab,Zac]))|((with_reducible refine Abs (.slice a L.length cap) (.int .i64 m) (.int .i64 b)  HT.out.u ?_ ?_ ?_ ?_ ?_);rfl;rfl;rfl;rfl;intro W' ht hb))
  have hw:=HT.out.fin hb
  exact tfin rfl rfl ht rfl ⟨⟨a,cap,rfl,hw.1⟩,hw.2⟩
 subst he
 obtain⟨n,hn,hzn,hT⟩:=Aig HF.out (how:=how) hw
 subst hzn
 rw[hT]at HZ
 have hk:L[n].kind=1∨L[n].kind=2:=by
  obtain⟨hlive,h3⟩:=(Aj5 HF.out cwd pb.data.toList).2 (show (Acp L cwd pb.data.toList true).2=0 by rw[hw])
  obtain⟨n',hn',hwz,hk0⟩:=Alg hlive
  rw[hw]at hwz h3
  have e:n=n':=by have:(n:Int)=(n':Int):=hwz;omega
  subst e
  have h3:(Aai L (n:Int)).kind≠3:=h3
  rw[Aae L n hn]at h3
  by_cases h2:L[n].kind=2
  ·exact .inr h2
  ·exact .inl (Ald (HF.out.ins n hn).1 hk0 h2 h3)
 have HND:=Hd (Aae L n hn)
 obtain⟨l1,l2,l3,l4,l5⟩:=HF.out.limits
 have c0:(0:Int)<=(n:Int):=by omega
 have c1:(n:Int) < (L.length:Int):=by omega
 obtain⟨bb,o,ha,hx⟩:=HT.out.nd.2.2 n hn
 have HAA:=Hd ha
 have x0:=hx.kind
 have x1:=hx.mode
 have x2:=hx.links
 have x3:=hx.data
 have x5:=hx.up
 obtain⟨_,x4,ka,kc,rfl,-,-,-⟩:=hx.kids
 have hxl:=Aaf x3
 obtain⟨κ,hκ⟩:∃ κ,L[n].kind=κ:=⟨_,rfl⟩
 have HKP:=Hd hκ
 rw[hκ]at x0 hk
 have q0:=bC HT.out.x 0
 have ql:=lt_of_block HT.out.x
 rw[show (#[Value.slice a L.length cap,.int .i64 m,.int .i64 b]:Array Value)[0]?=some (.slice a L.length cap)from rfl,ha]at q0
 clear hT hw hx hκ ha
 go_upto_region 7 with fail
 refine one9 (G:=Code.wp _ _ _ _) (fun w4 hb4 hs4 hI=>?_)
 have HI:=Hd hI
 have HT:=Hd (HT.out.below hb4)
 clear hb4 hs4 hI x0 x1 x2 x3 x4 x5 hxl q0 ql
 go_upto_region 8 with (first|(go_at_call 41;refine(Au8 how _).mono ?_;rintro e w5 ⟨rfl,hwi⟩;rw[hwi];clear hwi))
 have i0:=bC HI.out 0
 rw[show (#[Value.int .i64 κ,.int .i64 L[n].mode,.int .i64 L[n].links,.string ⟨L[n].data.toArray⟩,.slice ka L[n].kids.length kc,.int .i64 L[n].up]:Array Value)[0]?=some (.int .i64 κ)from rfl]at i0
 have il:=lt_of_block HI.out
 have HZ1:=Hd (show (if (if how=4/\κ≠2 then 17 else if how≠0/\κ=2 then 21 else if mayL L (n:Int) (Aat how).1=false then 13 else if κ=2 then(21:Int)else 0)≠0 then(L,0,(if how=4/\κ≠2 then 17 else if how≠0/\κ=2 then 21 else if mayL L (n:Int) (Aat how).1=false then 13 else if κ=2 then(21:Int)else 0))else if Aha how=true then((cutW L b (n:Int) 0).1,(n:Int),(cutW L b (n:Int) 0).2)else(L,(n:Int),0))=(L',ino,er)from by
  have h:=HZ.out
  unfold Aby at h
  rw[HND.out,HKP.out]at h
  exact h)
 clear HZ
 by_cases h4:how=4
 ·subst h4
  rcases hk with rfl|rfl
  ·have hz2:L=L'/\0=ino/\17=er:=by have h:=HZ1.out;simp at h;obtain⟨rfl,rfl,rfl⟩:=h;exact⟨rfl,rfl,rfl⟩
   obtain⟨rfl,rfl,rfl⟩:=hz2
   go_wp2_with (first|((with_reducible refine Abo HT.out.x ?_ ?_);rfl;(try simp only[Act.put,Zaa,Zab,Zac]))|((with_reducible refine Abs (.slice a L.length cap) (.int .i64 m) (.int .i64 b)  HT.out.u ?_ ?_ ?_ ?_ ?_);rfl;rfl;rfl;rfl;intro W' ht hb))
   have hw:=HT.out.fin hb
   exact tfin rfl rfl ht rfl ⟨⟨a,cap,rfl,hw.1⟩,hw.2⟩
  ·have hz2:L=L'/\0=ino/\21=er:=by have h:=HZ1.out;simp at h;obtain⟨rfl,rfl,rfl⟩:=h;exact⟨rfl,rfl,rfl⟩
   obtain⟨rfl,rfl,rfl⟩:=hz2
   go_wp2_with (first|((with_reducible refine Abo HT.out.x ?_ ?_);rfl;(try simp only[Act.put,Zaa,Zab,Zac]))|((with_reducible refine Abs (.slice a L.length cap) (.int .i64 m) (.int .i64 b)  HT.out.u ?_ ?_ ?_ ?_ ?_);rfl;rfl;rfl;rfl;intro W' ht hb))
   have hw:=HT.out.fin hb
   exact tfin rfl rfl ht rfl ⟨⟨a,cap,rfl,hw.1⟩,hw.2⟩
 have h4b:(how == 4)=false:=by rw[beq_eq_false_iff_ne];exact h4
 obtain⟨v,hv⟩:∃ v,mayL L (n:Int) (Aat how).1=v:=⟨_,rfl⟩
 have HMY:=Hd hv
 rcases hk with rfl|rfl
 ·go_upto_if 70 with (first|((with_reducible refine Abo HT.out.x ?_ ?_);rfl;(try simp only[Act.put,Zaa,Zab,Zac]))|(go_at_call 86;refine(Ali a cap m b (n:Int) (Aat how).1 L HF.out.ins v HMY.out _ HT.out.nd).mono ?_;rintro e w5 ⟨rfl,hb⟩;have HT:=Hd (HT.out.below hb);have HI:=Hd ((hb.block _ (lt_of_block HI.out)).trans HI.out);clear hb))
  cases v with
  | false=>
   have hz2:L=L'/\0=ino/\13=er:=by have h:=HZ1.out;simp[h4,hv]at h;obtain⟨rfl,rfl,rfl⟩:=h;exact⟨rfl,rfl,rfl⟩
   obtain⟨rfl,rfl,rfl⟩:=hz2
   clear hv h4
   go_wp2_with (first|((with_reducible refine Abo HT.out.x ?_ ?_);rfl;(try simp only[Act.put,Zaa,Zab,Zac]))|((with_reducible refine Abs (.slice a L.length cap) (.int .i64 m) (.int .i64 b)  HT.out.u ?_ ?_ ?_ ?_ ?_);rfl;rfl;rfl;rfl;intro W' ht hb))
   have hw:=HT.out.fin hb
   exact tfin rfl rfl ht rfl ⟨⟨a,cap,rfl,hw.1⟩,hw.2⟩
  | true=>
   have i0:=bC HI.out 0
   rw[show (#[Value.int .i64 1,.int .i64 L[n].mode,.int .i64 L[n].links,.string ⟨L[n].data.toArray⟩,.slice ka L[n].kids.length kc,.int .i64 L[n].up]:Array Value)[0]?=some (.int .i64 1)from rfl]at i0
   have il:=lt_of_block HI.out
   by_cases h1:how=1
   ·subst h1
    have hz2:cutW L b (n:Int) 0=(L',er)/\ino=(n:Int):=by have h:=HZ1.out;simp[Aha,hv]at h;obtain⟨rfl,rfl,rfl⟩:=h;exact⟨rfl,rfl⟩
    obtain⟨hc,rfl⟩:=hz2
    have HCU:=Hd hc
    clear hv h4 hc
    go_upto_region 18 with (first|((with_reducible refine Abo HT.out.x ?_ ?_);rfl;(try simp only[Act.put,Zaa,Zab,Zac]))|(go_at_call 87;refine(Bbv a cap m b (n:Int) 0 L HF.out L' er HCU.out w5 HT.out.nd).mono ?_;rintro e w6 ⟨⟨a',cap',rfl,hN'⟩,hb⟩;have HT:=Hd (HT.out.below hb);have HN:=Hd hN';clear hN' hb)|((with_reducible refine Abs (.slice a' L'.length cap') (.int .i64 m) (.int .i64 b)  HT.out.x ?_ ?_ ?_ ?_ ?_);rfl;rfl;rfl;rfl;intro w7 ht hb;have HT:=Hd (HT.out.put HN.out ht hb);clear ht hb))
    go_wp2_with (first|((with_reducible refine Abo HT.out.x ?_ ?_);rfl;(try simp only[Act.put,Zaa,Zab,Zac]))|((with_reducible refine Abs (.slice a' L'.length cap') (.int .i64 m) (.int .i64 b)  HT.out.u ?_ ?_ ?_ ?_ ?_);rfl;rfl;rfl;rfl;intro W' ht hb))
    have hw:=HT.out.fin hb
    exact tfin rfl rfl ht rfl ⟨⟨a',cap',rfl,hw.1⟩,hw.2⟩
   have h1b:(how == 1)=false:=by rw[beq_eq_false_iff_ne];exact h1
   have hz2:L=L'/\(n:Int)=ino/\0=er:=by have h:=HZ1.out;simp[Aha,hv,h4,h1]at h;obtain⟨rfl,rfl,rfl⟩:=h;exact⟨rfl,rfl,rfl⟩
   obtain⟨rfl,rfl,rfl⟩:=hz2
   clear hv h4 h1
   go_wp2_with (first|((with_reducible refine Abo HT.out.x ?_ ?_);rfl;(try simp only[Act.put,Zaa,Zab,Zac]))|((with_reducible refine Abs (.slice a L.length cap) (.int .i64 m) (.int .i64 b)  HT.out.u ?_ ?_ ?_ ?_ ?_);rfl;rfl;rfl;rfl;intro W' ht hb))
   have hw:=HT.out.fin hb
   exact tfin rfl rfl ht rfl ⟨⟨a,cap,rfl,hw.1⟩,hw.2⟩
 by_cases h0:how=0
 rotate_left
 ·have h0b:(how != 0)=true:=by simpa using h0
  have hz2:L=L'/\0=ino/\21=er:=by have h:=HZ1.out;simp[h4,h0]at h;obtain⟨rfl,rfl,rfl⟩:=h;exact⟨rfl,rfl,rfl⟩
  obtain⟨rfl,rfl,rfl⟩:=hz2
  clear hv h4 h0
  go_wp2_with (first|((with_reducible refine Abo HT.out.x ?_ ?_);rfl;(try simp only[Act.put,Zaa,Zab,Zac]))|((with_reducible refine Abs (.slice a L.length cap) (.int .i64 m) (.int .i64 b)  HT.out.u ?_ ?_ ?_ ?_ ?_);rfl;rfl;rfl;rfl;intro W' ht hb))
  have hw:=HT.out.fin hb
  exact tfin rfl rfl ht rfl ⟨⟨a,cap,rfl,hw.1⟩,hw.2⟩
 subst h0
 go_upto_if 70 with (first|((with_reducible refine Abo HT.out.x ?_ ?_);rfl;(try simp only[Act.put,Zaa,Zab,Zac]))|(go_at_call 86;refine(Ali a cap m b (n:Int) (Aat 0).1 L HF.out.ins v HMY.out _ HT.out.nd).mono ?_;rintro e w5 ⟨rfl,hb⟩;have HT:=Hd (HT.out.below hb);have HI:=Hd ((hb.block _ (lt_of_block HI.out)).trans HI.out);clear hb))
 cases v with
 | false=>
  have hz2:L=L'/\0=ino/\13=er:=by have h:=HZ1.out;simp[hv]at h;obtain⟨rfl,rfl,rfl⟩:=h;exact⟨rfl,rfl,rfl⟩
  obtain⟨rfl,rfl,rfl⟩:=hz2
  clear hv h4
  go_wp2_with (first|((with_reducible refine Abo HT.out.x ?_ ?_);rfl;(try simp only[Act.put,Zaa,Zab,Zac]))|((with_reducible refine Abs (.slice a L.length cap) (.int .i64 m) (.int .i64 b)  HT.out.u ?_ ?_ ?_ ?_ ?_);rfl;rfl;rfl;rfl;intro W' ht hb))
  have hw:=HT.out.fin hb
  exact tfin rfl rfl ht rfl ⟨⟨a,cap,rfl,hw.1⟩,hw.2⟩
 | true=>
  have i0:=bC HI.out 0
  rw[show (#[Value.int .i64 2,.int .i64 L[n].mode,.int .i64 L[n].links,.string ⟨L[n].data.toArray⟩,.slice ka L[n].kids.length kc,.int .i64 L[n].up]:Array Value)[0]?=some (.int .i64 2)from rfl]at i0
  have il:=lt_of_block HI.out
  have hz2:L=L'/\0=ino/\21=er:=by have h:=HZ1.out;simp[hv]at h;obtain⟨rfl,rfl,rfl⟩:=h;exact⟨rfl,rfl,rfl⟩
  obtain⟨rfl,rfl,rfl⟩:=hz2
  clear hv h4
  go_wp2_with (first|((with_reducible refine Abo HT.out.x ?_ ?_);rfl;(try simp only[Act.put,Zaa,Zab,Zac]))|((with_reducible refine Abs (.slice a L.length cap) (.int .i64 m) (.int .i64 b)  HT.out.u ?_ ?_ ?_ ?_ ?_);rfl;rfl;rfl;rfl;intro W' ht hb))
  have hw:=HT.out.fin hb
  exact tfin rfl rfl ht rfl ⟨⟨a,cap,rfl,hw.1⟩,hw.2⟩
theorem Axh {k:Krn}{f:List Int}(h:FitK k f){cwd:Int}{p:List UInt8}{how:Int}{L':List Ino}{ino:Int}(ht:Aaw k.tree k.b cwd p how=(L',ino,0)){O':List Opn}{a:Int}(hp:putK k.opens ⟨1,ino,0,(Aat how).2,1⟩=(O',a))(ha:a≠0):FitK { k with tree:=L',opens:=O' } f:=by
 obtain⟨hF,hs,n,hn,rfl,h1⟩:=Aj0 h.tree ht
 have hT:=Auy h hF hs
 have hg:Abb L' k.pipes.length ⟨1,(n:Int),0,(Aat how).2,1⟩:=Ajf rfl rfl (.inl ⟨rfl,Aj6 how,n,hn,rfl,h1⟩)
 obtain⟨j,rfl,hS,hE,-⟩:=Aup hT hg (show (1:Int)≠0 by decide) rfl hp ha
 rw[Ahf _ 2 _ (show (1:Int)≠2 by decide),Ahf _ 3 _ (show (1:Int)≠3 by decide)]at hE
 exact hE
theorem Bbd (A:KAd)(K:Krn)(f:List Int)(fd cwd how:Int)(pb:ByteArray)(hp:pb.size<=1073741824)(hF:FitK K f)(w:World)(hK:KernIn w A K) :
  Calls Tryz.prog 11 #[.agg (kB A K),.agg (fB f),.int .i64 fd,.int .i64 cwd,.string pb,.int .i64 how] w (RAns A K (Afc K f fd cwd pb.data.toList how) w):=by
 have HK:=Hd hK
 have HF:=Hd hF
 clear hK hF
 show Calls _ _ #[.agg #[.slice A.ta K.tree.length A.tc,.int .i64 K.m,.int .i64 K.b,.slice A.pa K.pipes.length A.pc,.slice A.oa K.opens.length A.oc,.string ⟨K.out0.toArray⟩,.string ⟨K.out1.toArray⟩],.agg #[.int .i64 (fdA f 0),.int .i64 (fdA f 1),.int .i64 (fdA f 2),.int .i64 (fdA f 3),.int .i64 (fdA f 4),.int .i64 (fdA f 5),.int .i64 (fdA f 6),.int .i64 (fdA f 7),.int .i64 (fdA f 8),.int .i64 (fdA f 9)],.int .i64 fd,.int .i64 cwd,.string pb,.int .i64 how] w _
 cases h1:isFd fd with
 | false=>
  rw[show Afc K f fd cwd pb.data.toList how=(K,f,9)from if_pos h1]
  have HI1:=Hd (show ∀ W,Calls Tryz.prog 39 #[.int .i64 fd] W fun e w'=>e=.returned (.bool false)/\w'=W from fun W=>by have h:=ris9 fd W;rwa [h1]at h)
  go_enter Tryz.func11,Tryz.ntmps11
  go_upto_region 1 with fail
  refine Awa (G:=Code.wp _ _ _ _) (fun w4 hb4 hs4 hX hY hU hV=>?_)
  have HX:Hid (KIn w4 (w.heap.size) A K):=Hd hX
  have HY:Hid (FIn w4 (w.heap.size+1) f):=Hd hY
  have HU:Hid (w4.heap[w.heap.size+1+1]?=some (.cells zK 29 (0,0))):=Hd hU
  have HV:Hid (w4.heap[w.heap.size+1+1+1]?=some (.cells zF 31 (0,0))):=Hd hV
  have HB:=Hd hb4
  have HS:=Hd hs4
  clear hb4 hs4 hX hY hU hV
  have H4:=Hd (show B4 w w4 A K f from⟨HB.out,Nat.le_of_eq HS.out.symm,HX.out,HY.out,HU.out,HV.out⟩)
  clear HX HY HU HV HB HS
  go_upto_region 2 with (first|(go_at_call 39;first|((with_reducible refine(HI1.out _).mono ?_);rintro e wi ⟨rfl,hwi⟩;rw[hwi];clear hwi)))
  refine kret H4.out.x H4.out.y H4.out.u H4.out.v ⟨by omega,by omega,by omega,by omega,by omega⟩ rfl (by kernel_rfl) rfl rfl rfl rfl rfl rfl rfl (fun _ _ _ _ _ h=>h) (fun W' hb hk hf=>?_)
  simp only[Act.put,Zaa,Zab,Zac,Act.eval]
  go_wp2_with fail
  have hw:=But2.below H4.out.b hb (by omega) (by omega)
  exact kfin rfl rfl rfl hk hf rfl ⟨⟨A,rfl,HK.out.below hw,.inl ⟨rfl,rfl⟩⟩,hw⟩
 | true=>
  have HI1:=Hd (show ∀ W,Calls Tryz.prog 39 #[.int .i64 fd] W fun e w'=>e=.returned (.bool true)/\w'=W from fun W=>by have h:=ris9 fd W;rwa [h1]at h)
  by_cases hh0:how < 0
  ·rw[show Afc K f fd cwd pb.data.toList how=(K,f,22) by unfold Afc;rw[if_neg (by rw[h1];simp),if_pos (.inl hh0)]]
   have hd0:decide (how < 0)=true:=decide_eq_true hh0
   clear hh0
   go_enter Tryz.func11,Tryz.ntmps11
   go_upto_region 1 with fail
   refine Awa (G:=Code.wp _ _ _ _) (fun w4 hb4 hs4 hX hY hU hV=>?_)
   have HX:Hid (KIn w4 (w.heap.size) A K):=Hd hX
   have HY:Hid (FIn w4 (w.heap.size+1) f):=Hd hY
   have HU:Hid (w4.heap[w.heap.size+1+1]?=some (.cells zK 29 (0,0))):=Hd hU
   have HV:Hid (w4.heap[w.heap.size+1+1+1]?=some (.cells zF 31 (0,0))):=Hd hV
   have HB:=Hd hb4
   have HS:=Hd hs4
   clear hb4 hs4 hX hY hU hV
   have H4:=Hd (show B4 w w4 A K f from⟨HB.out,Nat.le_of_eq HS.out.symm,HX.out,HY.out,HU.out,HV.out⟩)
   clear HX HY HU HV HB HS
   go_upto_region 4 with (first|(go_at_call 39;first|((with_reducible refine(HI1.out _).mono ?_);rintro e wi ⟨rfl,hwi⟩;rw[hwi];clear hwi)))
   refine kret H4.out.x H4.out.y H4.out.u H4.out.v ⟨by omega,by omega,by omega,by omega,by omega⟩ rfl (by kernel_rfl) rfl rfl rfl rfl rfl rfl rfl (fun _ _ _ _ _ h=>h) (fun W' hb hk hf=>?_)
   simp only[Act.put,Zaa,Zab,Zac,Act.eval]
   go_wp2_with fail
   have hw:=But2.below H4.out.b hb (by omega) (by omega)
   exact kfin rfl rfl rfl hk hf rfl ⟨⟨A,rfl,HK.out.below hw,.inl ⟨rfl,rfl⟩⟩,hw⟩
  have hd0:decide (how < 0)=false:=decide_eq_false hh0
  by_cases hh5:5<=how
  ·rw[show Afc K f fd cwd pb.data.toList how=(K,f,22) by unfold Afc;rw[if_neg (by rw[h1];simp),if_pos (.inr hh5)]]
   have hd5:decide (how ≥ 5)=true:=decide_eq_true hh5
   have hd6:decide (5<=how)=true:=decide_eq_true hh5
   clear hh0 hh5
   go_enter Tryz.func11,Tryz.ntmps11
   go_upto_region 1 with fail
   refine Awa (G:=Code.wp _ _ _ _) (fun w4 hb4 hs4 hX hY hU hV=>?_)
   have HX:Hid (KIn w4 (w.heap.size) A K):=Hd hX
   have HY:Hid (FIn w4 (w.heap.size+1) f):=Hd hY
   have HU:Hid (w4.heap[w.heap.size+1+1]?=some (.cells zK 29 (0,0))):=Hd hU
   have HV:Hid (w4.heap[w.heap.size+1+1+1]?=some (.cells zF 31 (0,0))):=Hd hV
   have HB:=Hd hb4
   have HS:=Hd hs4
   clear hb4 hs4 hX hY hU hV
   have H4:=Hd (show B4 w w4 A K f from⟨HB.out,Nat.le_of_eq HS.out.symm,HX.out,HY.out,HU.out,HV.out⟩)
   clear HX HY HU HV HB HS
   go_upto_region 4 with (first|(go_at_call 39;first|((with_reducible refine(HI1.out _).mono ?_);rintro e wi ⟨rfl,hwi⟩;rw[hwi];clear hwi)))
   refine kret H4.out.x H4.out.y H4.out.u H4.out.v ⟨by omega,by omega,by omega,by omega,by omega⟩ rfl (by kernel_rfl) rfl rfl rfl rfl rfl rfl rfl (fun _ _ _ _ _ h=>h) (fun W' hb hk hf=>?_)
   simp only[Act.put,Zaa,Zab,Zac,Act.eval]
   go_wp2_with fail
   have hw:=But2.below H4.out.b hb (by omega) (by omega)
   exact kfin rfl rfl rfl hk hf rfl ⟨⟨A,rfl,HK.out.below hw,.inl ⟨rfl,rfl⟩⟩,hw⟩
  have hd5:decide (how ≥ 5)=false:=decide_eq_false hh5
  have hd6:decide (5<=how)=false:=decide_eq_false hh5
  obtain⟨Z,hZ⟩:∃ Z,Afc K f fd cwd pb.data.toList how=Z:=⟨_,rfl⟩
  rw[hZ]
  obtain⟨⟨L',ino,et⟩,ht⟩:∃ r,Aaw K.tree K.b cwd pb.data.toList how=r:=⟨_,rfl⟩
  have HTG:=Hd ht
  unfold Afc at hZ
  rw[if_neg (by rw[h1];simp),if_neg (by omega),ht]at hZ
  have HZZ:=Hd (show (if et≠0 then(K,f,et)else if (putK K.opens (⟨1,ino,0,(Aat how).2,1⟩:Opn)).2=0 then(K,f,24)else((Abh { K with tree:=L',opens:=(putK K.opens (⟨1,ino,0,(Aat how).2,1⟩:Opn)).1 } f fd.toNat).1,(Abh { K with tree:=L',opens:=(putK K.opens (⟨1,ino,0,(Aat how).2,1⟩:Opn)).1 } f fd.toNat).2.set fd.toNat (putK K.opens (⟨1,ino,0,(Aat how).2,1⟩:Opn)).2,0))=Z from hZ)
  clear hZ ht hh0 hh5
  go_enter Tryz.func11,Tryz.ntmps11
  go_upto_region 1 with fail
  refine Awa (G:=Code.wp _ _ _ _) (fun w4 hb4 hs4 hX hY hU hV=>?_)
  have HX:Hid (KIn w4 (w.heap.size) A K):=Hd hX
  have HY:Hid (FIn w4 (w.heap.size+1) f):=Hd hY
  have HU:Hid (w4.heap[w.heap.size+1+1]?=some (.cells zK 29 (0,0))):=Hd hU
  have HV:Hid (w4.heap[w.heap.size+1+1+1]?=some (.cells zF 31 (0,0))):=Hd hV
  have HB:=Hd hb4
  have HS:=Hd hs4
  clear hb4 hs4 hX hY hU hV
  have H4:=Hd (show B4 w w4 A K f from⟨HB.out,Nat.le_of_eq HS.out.symm,HX.out,HY.out,HU.out,HV.out⟩)
  clear HX HY HU HV HB HS
  go_upto_region 5 with (first|(go_at_call 39;first|((with_reducible refine(HI1.out _).mono ?_);rintro e wi ⟨rfl,hwi⟩;rw[hwi];clear hwi)))
  have q0:=bC H4.out.x 0
  rw[show (kB A K)[0]?=some (.slice A.ta K.tree.length A.tc)from rfl]at q0
  have q1:=bC H4.out.x 1
  rw[show (kB A K)[1]?=some (.int .i64 K.m)from rfl]at q1
  have q2:=bC H4.out.x 2
  rw[show (kB A K)[2]?=some (.int .i64 K.b)from rfl]at q2
  have ql:=lt_of_block H4.out.x
  go_upto_region 6 with (first|(go_at_call 40;refine(Axw A.ta A.tc K.m K.b cwd how pb hp K.tree HF.out.tree L' ino et HTG.out w4 (HK.out.below H4.out.b).tree).mono ?_;rintro e w5 ⟨⟨ta,tc,rfl,hN⟩,hb5⟩;have H4:=Hd (H4.out.below hb5);have HN5:=Hd hN;clear hN hb5))
  refine one9 (G:=Code.wp _ _ _ _) (fun w6 hb6 hs6 hT6=>?_)
  have HT6:=Hd hT6
  have HS5:=Hd H4.out.s
  have H4:=Hd (H4.out.below hb6)
  have HN6:=Hd (HN5.out.below hb6)
  clear hb6 hs6 hT6 q0 q1 q2 ql HN5
  by_cases het:et=0
  rotate_left
  ·have hz2:Z=(K,f,et):=by rw[<-HZZ.out,if_pos het]
   subst hz2
   have heb:(et != 0)=true:=by simpa using het
   clear het
   go_upto_region 7 with fail
   refine Bbp H4.out.x H4.out.y H4.out.u H4.out.v ⟨by omega,by omega,by omega,by omega,by omega⟩ rfl (by kernel_rfl) rfl rfl rfl rfl rfl rfl rfl rfl (fun _ _ _ _ _ h=>h) (fun W' hb hk hf=>?_)
   simp only[Act.put,Zaa,Zab,Zac,Act.eval]
   go_wp2_with fail
   have hw:=But2.below H4.out.b hb (by omega) (by omega)
   exact kfin rfl rfl rfl hk hf rfl ⟨⟨A,rfl,HK.out.below hw,.inl ⟨rfl,rfl⟩⟩,hw⟩
  subst het
  obtain⟨⟨O',ra⟩,hp1⟩:∃ x,putK K.opens (⟨1,ino,0,(Aat how).2,1⟩:Opn)=x:=⟨_,rfl⟩
  have hno:=HF.out.no
  have HP1:=Hd (show putK ({ K with tree:=L' }:Krn).opens (⟨1,ino,0,(Aat how).2,1⟩:Opn)=(O',ra)/\({ K with tree:=L' }:Krn).opens.length<=1000 from⟨hp1,by show K.opens.length<=1000;omega⟩)
  have hZ3:=HZZ.out
  rw[hp1,if_neg (show ¬ (0:Int)≠0 by omega)]at hZ3
  have HZ3:=Hd (show (if ra=0 then(K,f,24)else((Abh { K with tree:=L',opens:=O' } f fd.toNat).1,(Abh { K with tree:=L',opens:=O' } f fd.toNat).2.set fd.toNat ra,0))=Z from hZ3)
  clear hp1 hno hZ3 HZZ
  go_upto_region 9 with (first|(go_at_call 41;refine(Au8 how _).mono ?_;rintro e w8 ⟨rfl,hwi⟩;rw[hwi];clear hwi))
  go_upto_region 10 with (first|((with_reducible refine Ab3 H4.out.x ?_ ?_);rfl;(try simp only[Act.put,Zaa,Zab,Zac]))|(go_at_call 42;refine(Bbe A K (by have:=HF.out.np;omega) (by have:=HF.out.no;omega) w6 (HK.out.below H4.out.b)).mono ?_;rintro e wn ⟨A2,hta,htc,rfl,hown,hbn⟩;have HOW:=Hd hown;have HBN:=Hd hbn;have HTA:=Hd (And.intro hta htc);clear hown hbn hta htc)|((with_reducible refine Aq5 A2 K ?_ ?_ ?_ ?_);rfl;rfl;rfl;intro w9 hb9 hx9;have H9:=Hd (XS.new (fb:=w.heap.size+1) (f:=f) (X:=K) (A:=A2) HBN.out H4.out.y HOW.out (by have:=H4.out.s;omega) hb9 hx9);have HXB:=Hd (show w.heap.size+4<=wn.heap.size by have:=H4.out.s;have:=HBN.out.size;omega);clear hx9 hb9 HOW))
  have HT9:=Hd ((H9.out.old (lt_of_block HT6.out) (by have:=HS5.out;omega)).trans HT6.out)
  have t0:=bC HT9.out 0
  have t1:=bC HT9.out 1
  have t2:=bC HT9.out 2
  have tl:=lt_of_block HT9.out
  have z0:=bF H9.out.hx 0
  have z1:=bF H9.out.hx 1
  have z2:=bF H9.out.hx 2
  have y0:=bC H9.out.hx 0
  have y1:=bC H9.out.hx 1
  have y2:=bC H9.out.hx 2
  rw[show (kB A2 K)[0]?=some (.slice A2.ta K.tree.length A2.tc)from rfl]at y0
  rw[show (kB A2 K)[1]?=some (.int .i64 K.m)from rfl]at y1
  rw[show (kB A2 K)[2]?=some (.int .i64 K.b)from rfl]at y2
  have ql:=lt_of_block H9.out.hx
  go_upto_region 11 with fail
  change Code.wp _ _ _ _ (put3 w9 wn.heap.size (.slice ta L'.length tc) (.int .i64 K.m) (.int .i64 K.b))
  have h10:=H9.out.tree (by have:=H4.out.s;omega) ta tc L'
  generalize hw10:put3 w9 wn.heap.size (.slice ta L'.length tc) (.int .i64 K.m) (.int .i64 K.b)=w10 at h10 ⊢
  have H10:=Hd h10
  clear h10 hw10 t0 t1 t2 tl z0 z1 z2 y0 y1 y2 ql HTA
  go_upto_region 12 with (first|((with_reducible refine Ab3 H10.out.hx ?_ ?_);rfl;(try simp only[Act.put,Zaa,Zab,Zac]))|(go_at_call 43;refine(Bbf { A2 with ta:=ta,tc:=tc } { K with tree:=L' } (⟨1,ino,0,(Aat how).2,1⟩:Opn) w6.heap.size HP1.out.2 w10 H10.out.b.size H10.out.own HP1.out.1).mono ?_;rintro e w11 ⟨A4,rfl,⟨e1,e2,e3,e4⟩,hown,hoff,hnear⟩;have HOW:=Hd hown;have HOF:=Hd hoff;have HNR:=Hd hnear;have HEQ:=Hd (And.intro e1 (And.intro e2 e3));have HBX:=Hd (hoff.box (fun x hx=>H10.out.far x (.inl hx)) (fun x hx=>H10.out.far x (.inr hx)) H10.out.hx);clear hown hoff hnear e1 e2 e3 e4)|((with_reducible refine Aev A4 { K with tree:=L',opens:=O' } HBX.out ?_ ?_ ?_ ?_);rfl;rfl;rfl;intro w12 hk hb;have H12:=Hd (H10.out.put (by have:=H4.out.s;omega) HOW.out HOF.out HEQ.out.2.2 HNR.out hk hb);have HTA:=Hd (show A4.ta=ta/\A4.tc=tc from⟨HEQ.out.1,HEQ.out.2.1⟩);clear hk hb HOW HOF HNR HEQ HBX))
  by_cases hra:ra=0
  ·subst hra
   have hz2:Z=(K,f,24):=by rw[<-HZ3.out,if_pos rfl]
   subst hz2
   go_upto_region 13 with fail
   refine kret ((H12.out.old (by have:=H4.out.s;omega) (by omega)).trans H4.out.x) H12.out.hf ((H12.out.old (by have:=H4.out.s;omega) (by omega)).trans H4.out.u) ((H12.out.old (by have:=H4.out.s;omega) (by omega)).trans H4.out.v) ⟨by omega,by omega,by omega,by omega,by omega⟩ rfl (by kernel_rfl) rfl rfl rfl rfl rfl rfl rfl (fun _ _ _ _ _ h=>h) (fun W' hb hk hf=>?_)
   simp only[Act.put,Zaa,Zab,Zac,Act.eval]
   go_wp2_with fail
   have hw:=H12.out.low H4.out.b (by omega) (by omega) (by omega) hb
   exact kfin rfl rfl rfl hk hf rfl ⟨⟨A,rfl,HK.out.below hw,.inl ⟨rfl,rfl⟩⟩,hw⟩
  have hrb:(ra == 0)=false:=by rw[beq_eq_false_iff_ne];exact hra
  have HM:=Hd (show FitK { K with tree:=L',opens:=O' } f from Axh HF.out HTG.out HP1.out.1 hra)
  obtain⟨q,rfl,hq⟩:=Ac9 h1
  have b0:(0:Int)<=(q:Int):=by omega
  have b1:(q:Int) < 10:=by omega
  have hz2:=HZ3.out
  rw[if_neg hra,Int.toNat_natCast]at hz2
  subst hz2
  clear hra
  go_upto_region 15 with (first|((with_reducible refine Ab3 H12.out.hx ?_ ?_);rfl;(try simp only[Act.put,Zaa,Zab,Zac]))|((with_reducible refine Agd H12.out.hf ?_ ?_);rfl;(try simp only[Act.put,Zaa,Zab,Zac]))|(go_at_call 44;refine(Az4 A4 { K with tree:=L',opens:=O' } f q w6.heap.size HF.out.len hq (Af5 HM.out hq) (Aio HM.out) (by have:=HM.out.no;omega) w12 H12.out.own).mono ?_;rintro e w13 ⟨rfl,hown,hoff⟩;have H13:=Hd (H12.out.rows (by have:=H4.out.s;omega) hown hoff (Azb A4 { K with tree:=L',opens:=O' } f q));clear hown hoff)|((with_reducible refine Agw (Abh { K with tree:=L',opens:=O' } f q).2 H13.out.hf ?_ ?_ ?_ ?_);rfl;rfl;rfl;intro w14 hf7 hb7;have H14:=Hd (H13.out.fds (by have:=H4.out.s;omega) hf7 hb7);clear hf7 hb7))
  have HL3:=Hd ((Ahr { K with tree:=L',opens:=O' } f q).2.trans HF.out.len)
  have fl:=lt_of_block H14.out.hf
  have cm:=fget H14.out.hf hq
  have fm:=bF H14.out.hf q
  go_upto_region 16 with fail
  have h9:=H14.out.fds (by have:=H4.out.s;omega) (fset H14.out.hf HL3.out hq (ra)) (But.set ..)
  generalize hw9:(World.setCell w14 ⟨w.heap.size+1,q,none⟩ (.int .i64 (ra)))=w15 at h9 ⊢
  have H15:=Hd h9
  clear h9 hw9 fl cm fm
  refine kret H15.out.hx H15.out.hf ((H15.out.old (by have:=H4.out.s;omega) (by omega)).trans H4.out.u) ((H15.out.old (by have:=H4.out.s;omega) (by omega)).trans H4.out.v) ⟨by have:=HXB.out;omega,by have:=HXB.out;omega,by omega,by omega,by omega⟩ rfl (by kernel_rfl) rfl rfl rfl rfl rfl rfl rfl (fun _ _ _ _ _ h=>h) (fun W' hb hk hf=>?_)
  simp only[Act.put,Zaa,Zab,Zac,Act.eval]
  go_wp2_with fail
  have hw:=H15.out.kernT H4.out.b (by omega) ⟨by omega,by have:=H4.out.s;omega⟩ ⟨by omega,by have:=H4.out.s;omega⟩ hb (by
   rw[HTA.out.1,HTA.out.2,Au9]
   refine Agg HN6.out fun k hk hno=>?_
   have n1:k≠w.heap.size+1:=fun e=>by subst e;exact hno _ _ H4.out.y (At8 f)
   have n2:k≠w.heap.size+1+1:=fun e=>by subst e;exact hno _ _ H4.out.u Aua
   have n3:k≠w.heap.size+1+1+1:=fun e=>by subst e;exact hno _ _ H4.out.v At9
   exact(hb.block k n2 n3).trans (H15.out.old hk n1))
  exact kfin rfl rfl rfl hk hf rfl ⟨⟨A4,rfl,hw.1,H15.out.near H4.out.b.size _ _ _⟩,hw.2⟩
end Go.Proofs.YtkdfbliiblojoaaGreatDoor
namespace Go.Proofs.YtkdfbliiblojoaaGreatDoor
open Go.ChangeShapes Go.WideShapes Go.Deep Go.Joins
open Go Go.RowKit
section
variable {H : Type} {enc : TypeId × Value -> H} {w : World} {base : Nat} {spare : Nat -> Bool} {held : Bool}
theorem Ao9 (b o n:Nat):(⟨b,o,none⟩:Addr).add n=⟨b,o+n,none⟩:=by
 unfold Addr.add
 split
 ·rename_i h
  rw[h]
  rfl
 ·rfl
theorem Acf {e:TypeId}{fs:Array Field}{n:Nat}{cs:List Value}{x:DataW H×List MemPlace}(ht:Tryz.prog.underlying e=some (.struct fs))(h:DataW.trod enc Tryz.prog w base spare held n e cs=some x)
  (j:Nat) (f:Field) (hf:fs[j]?=some f) (ho:f.offset=j) (hc:Tryz.prog.cellsOf f.type=1) (v:Value) (hv:cs[j]?=some v) :
  ∃ (n':Nat) (y:DataW H×List MemPlace),DataW.trod enc Tryz.prog w base spare held n' f.type [v]=some y/\∀ z∈y.1.weights Tryz.prog f.type,z∈x.1.weights Tryz.prog e:=by
 obtain⟨xs,n',_,rfl,hl,hlen,hfs⟩:=DataW.trod_struct ht h
 have h1:=hfs j f hf
 have hj:j < fs.size:=(Array.getElem?_eq_some_iff.1 hf).1
 have hjc:j < cs.length:=(List.getElem?_eq_some_iff.1 hv).1
 have e1:(cs.drop j).take 1=[v]:=by
  rw[List.drop_eq_getElem_cons hjc]
  have:cs[j]=v:=(List.getElem?_eq_some_iff.1 hv).2
  simp[this]
 rw[ho,hc,e1]at h1
 have hx:xs[j]?=some (xs[j]'(by omega)):=List.getElem?_eq_getElem (by omega)
 refine⟨n',xs[j]'(by omega),h1.trans hx,fun z hz=>?_⟩
 show z∈DataW.weights Tryz.prog e (.agg (xs.map (·.1)))
 unfold DataW.weights
 rw[ht]
 refine DataW.weights_mem_each (j:=j) (t:=f.type) (d:=(xs[j]'(by omega)).1) ?_ ?_ z hz
 ·rw[List.getElem?_map,Array.getElem?_toList,hf]
  rfl
 ·rw[List.getElem?_map,hx]
  rfl
theorem Ag3 {P:Program}{e:TypeId}:∀ (l:List (DataW H)) (i:Nat) (hi:i < l.length),∀ z∈l[i].weights P e,z∈DataW.weightsAll P e l
 | d :: r,0,_,z,hz=>by
  simp only[DataW.weightsAll,List.mem_append]
  exact Or.inl hz
 | d :: r,i+1,hi,z,hz=>by
  simp only[DataW.weightsAll,List.mem_append]
  exact Or.inr (Ag3 r i (Nat.lt_of_succ_lt_succ hi) z hz)
 | [],_,hi,_,_=>absurd hi (Nat.not_lt_zero _)
theorem Aix {t e:TypeId}{k:Nat}{fuel:Nat}{v:Value}{x:DataW H×List MemPlace}(ht:Tryz.prog.underlying t=some (.slice e))(hk:Tryz.prog.cellsOf e=k)(hk0:0 < k)(h:DataW.trod enc Tryz.prog w base (fun _=>true) held fuel t [v]=some x)
  (R:Nat) (hR:∀ z∈x.1.weights Tryz.prog t,z<=R) :
  ∃ (a:Option Addr) (len cap:Nat),v=.slice a len cap/\len<=cap/\cap<=maxLen/\len * Tryz.prog.bytesOf e<=R /\
   ∀ i,i < len->∃ b o,a=some ⟨b,o,none⟩/\∃ (n:Nat) (cs:List Value) (y:DataW H×List MemPlace),DataW.trod enc Tryz.prog w base (fun _=>true) held n e cs=some y/\(∀ z∈y.1.weights Tryz.prog e,z<=R)/\cs.length=k/\∀ j,j < k->w.cell? ⟨b,o+i * k+j,none⟩=cs[j]?:=by
 rcases open_slice ht h with ⟨hcs,rfl⟩|⟨a,len,cap,m,n,D,Pl,hcs,hb,hl,hm,hmm,rfl,hi⟩
 ·have hv:v=.slice none 0 0:=by simpa using hcs
  exact⟨none,0,0,hv,Nat.le_refl _,Nat.zero_le _,by omega,fun i hi=>absurd hi (Nat.not_lt_zero _)⟩
 ·have hv:v=.slice (some a) len cap:=by simpa using hcs
  have hcm:m=cap:=by simpa using hmm
  subst hcm
  have hw:∀ z∈DataW.weights Tryz.prog t (.slice ((List.range len).map D) ((List.range (m - len)).map fun j=>D (len+j))),z<=R:=hR
  unfold DataW.weights at hw
  rw[ht]at hw
  have hlen:len * Tryz.prog.bytesOf e<=R:=by
   have h1:=hw ((((List.range len).map D).length+((List.range (m - len)).map fun j=>D (len+j)).length) * Tryz.prog.bytesOf e) (by simp)
   simp only[List.length_map,List.length_range]at h1
   exact Nat.le_trans (Nat.mul_le_mul_right _ (Nat.le_add_right _ _)) h1
  refine⟨some a,len,m,hv,hl,hm,hlen,fun i hil=>?_⟩
  obtain⟨cs,hc,hy⟩:=hi i (by omega)
  rw[hk]at hc
  obtain⟨_,hcl,hat⟩:=World.cells?_some hc
  have hsp:a.spot=none:=by
   obtain⟨cs0,hc0,_⟩:=hi 0 (by omega)
   rw[hk]at hc0
   obtain⟨_,hcl0,hat0⟩:=World.cells?_some hc0
   have h1:=hat0 0 hk0
   rw[List.getElem?_eq_getElem (by omega)]at h1
   have h2:=World.cell?_spot h1
   rw[Nat.zero_mul]at h2
   simpa[Addr.add] using h2
  obtain⟨b,o,s⟩:=a
  have hs:s=none:=hsp
  subst hs
  refine⟨b,o,rfl,n,cs,_,hy,fun z hz=>?_,hcl,fun j hj=>?_⟩
  ·refine hw z ?_
   simp only[List.mem_cons,List.mem_append]
   refine Or.inr (Or.inl ?_)
   refine Ag3 _ i (by simpa using hil) z ?_
   simpa using hz
  ·have h1:=hat j hj
   rw[Ao9,Ao9]at h1
   exact h1
theorem Ac7 : Tryz.prog.cellsOf 3=1:=by kernel_rfl
theorem Agh : Tryz.prog.cellsOf 9=1:=by kernel_rfl
theorem Aba {l:List Value}{j:Nat}(h:j < l.length):l[j]?=some l[j]:=List.getElem?_eq_getElem h
end
section
variable {H : Type} {enc : TypeId × Value -> H} {w : World} {base : Nat} {spare : Nat -> Bool} {held : Bool}
theorem Ame : ∃ f0 f1:Field,Tryz.prog.underlying 139=some (.struct #[f0,f1])/\f0.offset=0/\f1.offset=1/\f0.type=9/\f1.type=3:=
 ⟨_,_,Tryz.underlying139,rfl,rfl,rfl,rfl⟩
theorem Aml : ∃ f0 f1 f2 f3 f4 f5:Field,Tryz.prog.underlying 66=some (.struct #[f0,f1,f2,f3,f4,f5])/\f0.offset=0/\f1.offset=1/\f2.offset=2/\f3.offset=3/\f4.offset=4/\f5.offset=5 /\
  f0.type=3/\f1.type=3/\f2.type=3/\f3.type=9/\f4.type=64/\f5.type=3:=
 ⟨_,_,_,_,_,_,Tryz.underlying66,rfl,rfl,rfl,rfl,rfl,rfl,rfl,rfl,rfl,rfl,rfl,rfl⟩
theorem Axd : Tryz.prog.cellsOf 64=1:=by kernel_rfl
theorem Avj : Tryz.prog.cellsOf 139=2:=by kernel_rfl
theorem Ava : Tryz.prog.cellsOf 66=6:=by kernel_rfl
theorem Anq : Tryz.prog.bytesOf 139=24:=by kernel_rfl
theorem Anr : Tryz.prog.bytesOf 66=72:=by kernel_rfl
theorem Aug {fuel:Nat}{v:Value}{x:DataW H×List MemPlace}(h:DataW.trod enc Tryz.prog w base (fun _=>true) held fuel 64 [v]=some x)(R:Nat)(hR:∀ z∈x.1.weights Tryz.prog 64,z<=R) :
  ∃ M:List (List UInt8×Int),Abn w v M/\M.length * 24<=R/\∀ e∈M,e.1.length<=R:=by
 obtain⟨a,len,cap,rfl,hl,hm,hb,hi⟩:=Aix Tryz.underlying64 Avj (by decide) h R hR
 rw[Anq]at hb
 obtain⟨f0,f1,hu,o0,o1,t0,t1⟩:=Ame
 have hone:∀ i,i < len->∃ (s:List UInt8) (z:Int),s.length<=R/\∃ b o,a=some ⟨b,o,none⟩/\w.cell? ⟨b,o+i * 2,none⟩=some (.string ⟨s.toArray⟩)/\w.cell? ⟨b,o+i * 2+1,none⟩=some (.int .i64 z):=fun i hil=>by
  obtain⟨b,o,ha,n,cs,y,hy,hyR,hcl,hc⟩:=hi i hil
  have c0:=hc 0 (by decide)
  have c1:=hc 1 (by decide)
  rw[Aba (show 0 < cs.length by omega)]at c0
  rw[Aba (show 1 < cs.length by omega)]at c1
  obtain⟨n0,y0,hy0,hw0⟩:=Acf hu hy 0 f0 rfl o0 (by rw[t0];exact Agh) _ (Aba (show 0 < cs.length by omega))
  obtain⟨n1,y1,hy1,hw1⟩:=Acf hu hy 1 f1 rfl o1 (by rw[t1];exact Ac7) _ (Aba (show 1 < cs.length by omega))
  rw[t0]at hy0 hw0
  rw[t1]at hy1
  obtain⟨s,e0,rfl,hs⟩:=DataW.trod_string Tryz.underlying9 hy0
  obtain⟨z,e1,rfl,-⟩:=DataW.trod_int Tryz.underlying3 hy1
  simp only[List.cons.injEq,and_true]at e0 e1
  rw[e0]at c0
  rw[e1]at c1
  refine⟨s.data.toList,z,hyR _ (hw0 _ (by simp[DataW.weights])),b,o,ha,c0,c1⟩
 have hex:∃ M:List (List UInt8×Int),M.length=len/\(∀ e∈M,e.1.length<=R)/\∀ i (hi:i < M.length),∃ b o,a=some ⟨b,o,none⟩/\w.cell? ⟨b,o+i * 2,none⟩=some (.string ⟨M[i].1.toArray⟩)/\w.cell? ⟨b,o+i * 2+1,none⟩=some (.int .i64 M[i].2):=by
  clear hl hm hb hi h
  induction len with
  | zero=>exact⟨[],rfl,by simp,fun i hi=>absurd hi (Nat.not_lt_zero _)⟩
  | succ len ih=>
   obtain⟨M,h1,h2,h3⟩:=ih (fun i hi=>hone i (by omega))
   obtain⟨s,z,hs,hc⟩:=hone len (Nat.lt_succ_self _)
   refine⟨M ++ [(s,z)],by simp[h1],fun e he=>?_,fun i hi=>?_⟩
   ·rcases List.mem_append.1 he with he|he
    ·exact h2 e he
    ·simp only[List.mem_singleton]at he
     subst he
     exact hs
   ·by_cases hil:i < M.length
    ·rw[List.getElem_append_left hil]
     exact h3 i hil
    ·have e:i=M.length:=by simp at hi;omega
     subst e
     rw[List.getElem_concat_length rfl,h1]
     exact hc
 obtain⟨M,h1,h2,h3⟩:=hex
 subst h1
 exact⟨M,⟨a,cap,rfl,hl,hm,h3⟩,hb,h2⟩
theorem Arh {fuel:Nat}{v:Value}{x:DataW H×List MemPlace}(h:DataW.trod enc Tryz.prog w base (fun _=>true) held fuel 22 [v]=some x)(R:Nat)(hR:∀ z∈x.1.weights Tryz.prog 22,z<=R) :
  ∃ (L:List Ino) (a:Option Addr) (cap:Nat),v=.slice a L.length cap/\Aad w a cap L/\L.length * 72<=R/\∀ y∈L,y.data.length<=R/\y.kids.length * 24<=R/\∀ e∈y.kids,e.1.length<=R:=by
 obtain⟨a,len,cap,rfl,hl,hm,hb,hi⟩:=Aix Tryz.underlying22 Ava (by decide) h R hR
 rw[Anr]at hb
 obtain⟨f0,f1,f2,f3,f4,f5,hu,o0,o1,o2,o3,o4,o5,t0,t1,t2,t3,t4,t5⟩:=Aml
 have hone:∀ i,i < len->∃ y:Ino,(y.data.length<=R/\y.kids.length * 24<=R/\∀ e∈y.kids,e.1.length<=R)/\∃ b o,a=some ⟨b,o,none⟩/\NodeIn w b (o+i * 6) y:=fun i hil=>by
  obtain⟨b,o,ha,n,cs,y,hy,hyR,hcl,hc⟩:=hi i hil
  have c0:=hc 0 (by decide)
  have c1:=hc 1 (by decide)
  have c2:=hc 2 (by decide)
  have c3:=hc 3 (by decide)
  have c4:=hc 4 (by decide)
  have c5:=hc 5 (by decide)
  rw[Aba (show 0 < cs.length by omega)]at c0
  rw[Aba (show 1 < cs.length by omega)]at c1
  rw[Aba (show 2 < cs.length by omega)]at c2
  rw[Aba (show 3 < cs.length by omega)]at c3
  rw[Aba (show 4 < cs.length by omega)]at c4
  rw[Aba (show 5 < cs.length by omega)]at c5
  obtain⟨n0,y0,hy0,hw0⟩:=Acf hu hy 0 f0 rfl o0 (by rw[t0];exact Ac7) _ (Aba (show 0 < cs.length by omega))
  obtain⟨n1,y1,hy1,hw1⟩:=Acf hu hy 1 f1 rfl o1 (by rw[t1];exact Ac7) _ (Aba (show 1 < cs.length by omega))
  obtain⟨n2,y2,hy2,hw2⟩:=Acf hu hy 2 f2 rfl o2 (by rw[t2];exact Ac7) _ (Aba (show 2 < cs.length by omega))
  obtain⟨n3,y3,hy3,hw3⟩:=Acf hu hy 3 f3 rfl o3 (by rw[t3];exact Agh) _ (Aba (show 3 < cs.length by omega))
  obtain⟨n4,y4,hy4,hw4⟩:=Acf hu hy 4 f4 rfl o4 (by rw[t4];exact Axd) _ (Aba (show 4 < cs.length by omega))
  obtain⟨n5,y5,hy5,hw5⟩:=Acf hu hy 5 f5 rfl o5 (by rw[t5];exact Ac7) _ (Aba (show 5 < cs.length by omega))
  rw[t0]at hy0
  rw[t1]at hy1
  rw[t2]at hy2
  rw[t3]at hy3 hw3
  rw[t4]at hy4 hw4
  rw[t5]at hy5
  obtain⟨z0,e0,rfl,-⟩:=DataW.trod_int Tryz.underlying3 hy0
  obtain⟨z1,e1,rfl,-⟩:=DataW.trod_int Tryz.underlying3 hy1
  obtain⟨z2,e2,rfl,-⟩:=DataW.trod_int Tryz.underlying3 hy2
  obtain⟨s,e3,rfl,hs⟩:=DataW.trod_string Tryz.underlying9 hy3
  obtain⟨z5,e5,rfl,-⟩:=DataW.trod_int Tryz.underlying3 hy5
  obtain⟨M,hM,hM1,hM2⟩:=Aug hy4 R (fun z hz=>hyR z (hw4 z hz))
  simp only[List.cons.injEq,and_true]at e0 e1 e2 e3 e5
  rw[e0]at c0
  rw[e1]at c1
  rw[e2]at c2
  rw[e3]at c3
  rw[e5]at c5
  exact⟨⟨z0,z1,z2,s.data.toList,M,z5⟩,⟨hyR _ (hw3 _ (by simp[DataW.weights])),hM1,hM2⟩,b,o,ha,⟨c0,c1,c2,c3,⟨_,c4,hM⟩,c5⟩⟩
 have hex:∃ L:List Ino,L.length=len/\(∀ y∈L,y.data.length<=R/\y.kids.length * 24<=R/\∀ e∈y.kids,e.1.length<=R)/\∀ i (hi:i < L.length),∃ b o,a=some ⟨b,o,none⟩/\NodeIn w b (o+i * 6) L[i]:=by
  clear hl hm hb hi h
  induction len with
  | zero=>exact⟨[],rfl,by simp,fun i hi=>absurd hi (Nat.not_lt_zero _)⟩
  | succ len ih=>
   obtain⟨L,h1,h2,h3⟩:=ih (fun i hi=>hone i (by omega))
   obtain⟨y,hy,hc⟩:=hone len (Nat.lt_succ_self _)
   refine⟨L ++ [y],by simp[h1],fun e he=>?_,fun i hi=>?_⟩
   ·rcases List.mem_append.1 he with he|he
    ·exact h2 e he
    ·simp only[List.mem_singleton]at he
     subst he
     exact hy
   ·by_cases hil:i < L.length
    ·rw[List.getElem_append_left hil]
     exact h3 i hil
    ·have e:i=L.length:=by simp at hi;omega
     subst e
     rw[List.getElem_concat_length rfl,h1]
     exact hc
 obtain⟨L,h1,h2,h3⟩:=hex
 subst h1
 exact⟨L,a,cap,rfl,⟨hl,hm,h3⟩,hb,h2⟩
theorem Arz : Tryz.prog.cellsOf 24=3:=by kernel_rfl
end
section
variable {H : Type} {enc : TypeId × Value -> H} {w : World} {base : Nat} {held : Bool}
theorem Baj {α:Type}{cs:Array α}(h:cs.size=7):∃ c0 c1 c2 c3 c4 c5 c6,cs=#[c0,c1,c2,c3,c4,c5,c6]:=by
 obtain⟨l⟩:=cs
 match l,h with
 | [c0,c1,c2,c3,c4,c5,c6],_=>exact⟨c0,c1,c2,c3,c4,c5,c6,rfl⟩
theorem Ae6 {e:TypeId}{fs:Array Field}{xs:List (DataW H×List MemPlace)}(ht:Tryz.prog.underlying e=some (.struct fs))(j:Nat)(f:Field)(hf:fs[j]?=some f)(y:DataW H×List MemPlace)(hy:xs[j]?=some y):∀ z∈y.1.weights Tryz.prog f.type,z∈DataW.weights Tryz.prog e (.agg (xs.map (·.1))):=fun z hz=>by
 unfold DataW.weights
 rw[ht]
 refine DataW.weights_mem_each (j:=j) (t:=f.type) (d:=y.1) ?_ ?_ z hz
 ·rw[List.getElem?_map,Array.getElem?_toList,hf]
  rfl
 ·rw[List.getElem?_map,hy]
  rfl
theorem Aow {T:Type}{F:T->List Value}{k:Nat}(hF:∀ x,(F x).length=k){a:Option Addr}(Q:T->Prop):∀ (len:Nat),(∀ i,i < len->∃ x:T,Q x/\∃ b o,a=some ⟨b,o,none⟩/\∀ j,j < k->w.cell? ⟨b,o+i * k+j,none⟩=(F x)[j]?) ->
  ∃ L:List T,L.length=len/\(∀ x∈L,Q x)/\∀ i (hi:i < L.length),∃ b o,a=some ⟨b,o,none⟩/\∀ j,j < k->w.cell? ⟨b,o+i * k+j,none⟩=(F L[i])[j]?
 | 0,_=>⟨[],rfl,fun x h=>absurd h List.not_mem_nil,fun i hi=>absurd hi (Nat.not_lt_zero _)⟩
 | len+1,hone=>by
  obtain⟨L,h1,h2,h3⟩:=Aow hF Q len fun i hi=>hone i (by omega)
  obtain⟨y,hy,hc⟩:=hone len (Nat.lt_succ_self _)
  refine⟨L ++ [y],by simp[h1],fun e he=>?_,fun i hi=>?_⟩
  ·rcases List.mem_append.1 he with he|he
   ·exact h2 e he
   ·simp only[List.mem_singleton]at he
    subst he
    exact hy
  ·by_cases hil:i < L.length
   ·rw[List.getElem_append_left hil]
    exact h3 i hil
   ·have e:i=L.length:=by simp at hi;omega
    subst e
    rw[List.getElem_concat_length rfl,h1]
    exact hc
theorem Avb {T:Type}{F:T->List Value}{k:Nat}(hk:0 < k)(hF:∀ x,(F x).length=k){a:Option Addr}{cap:Nat}{L:List T}(hl:L.length<=cap)(hm:cap<=maxLen)(h:∀ i (hi:i < L.length),∃ b o,a=some ⟨b,o,none⟩/\∀ j,j < k->w.cell? ⟨b,o+i * k+j,none⟩=(F L[i])[j]?):SlIn w a L.length cap k (rowC F L):=by
 refine⟨hl,hm,Agi hF L,fun j hj=>?_⟩
 have hi:j / k < L.length:=Nat.div_lt_of_lt_mul (by rw[Nat.mul_comm];exact hj)
 have hr:j % k < k:=Nat.mod_lt _ hk
 obtain⟨b,o,ha,hc⟩:=h (j / k) hi
 have e:j=j / k * k+j % k:=by rw[Nat.mul_comm];exact(Nat.div_add_mod j k).symm
 refine⟨b,o,ha,?_⟩
 have h1:=hc (j % k) hr
 rw[Nat.add_assoc,<-e]at h1
 rw[h1]
 conv=>rhs;rw[e]
 exact(Aiw hF L _ hi _ hr).symm
theorem Ark : ∃ f0 f1 f2 f3:Field,Tryz.prog.underlying 87=some (.struct #[f0,f1,f2,f3])/\f0.offset=0/\f1.offset=1/\f2.offset=2/\f3.offset=3/\f0.type=9/\f1.type=3/\f2.type=3/\f3.type=3:=
 ⟨_,_,_,_,Tryz.underlying87,rfl,rfl,rfl,rfl,rfl,rfl,rfl,rfl⟩
theorem Ari : ∃ f0 f1 f2 f3 f4:Field,Tryz.prog.underlying 70=some (.struct #[f0,f1,f2,f3,f4])/\f0.offset=0/\f1.offset=1/\f2.offset=2/\f3.offset=3/\f4.offset=4/\f0.type=3/\f1.type=3/\f2.type=3/\f3.type=3/\f4.type=3:=
 ⟨_,_,_,_,_,Tryz.underlying70,rfl,rfl,rfl,rfl,rfl,rfl,rfl,rfl,rfl,rfl⟩
theorem Awb : Tryz.prog.cellsOf 87=4:=by kernel_rfl
theorem Av9 : Tryz.prog.cellsOf 70=5:=by kernel_rfl
theorem Ash : Tryz.prog.bytesOf 87=40:=by kernel_rfl
theorem Asg : Tryz.prog.bytesOf 70=40:=by kernel_rfl
theorem Auj {fuel:Nat}{v:Value}{x:DataW H×List MemPlace}(h:DataW.trod enc Tryz.prog w base (fun _=>true) held fuel 25 [v]=some x)(R:Nat)(hR:∀ z∈x.1.weights Tryz.prog 25,z<=R) :
  ∃ (P:List Pip) (a:Option Addr) (cap:Nat),v=.slice a P.length cap/\SlIn w a P.length cap 4 (rowC pipF P)/\P.length * 40<=R/\∀ p∈P,p.data.length<=R:=by
 obtain⟨a,len,cap,rfl,hl,hm,hb,hi⟩:=Aix Tryz.underlying25 Awb (by decide) h R hR
 rw[Ash]at hb
 obtain⟨f0,f1,f2,f3,hu,o0,o1,o2,o3,t0,t1,t2,t3⟩:=Ark
 obtain⟨P,h1,h2,h3⟩:=Aow (w:=w) Aej (a:=a) (fun p:Pip=>p.data.length<=R) len fun i hil=>by
  obtain⟨b,o,ha,n,cs,y,hy,hyR,hcl,hc⟩:=hi i hil
  have c0:=hc 0 (by decide)
  have c1:=hc 1 (by decide)
  have c2:=hc 2 (by decide)
  have c3:=hc 3 (by decide)
  rw[Aba (show 0 < cs.length by omega)]at c0
  rw[Aba (show 1 < cs.length by omega)]at c1
  rw[Aba (show 2 < cs.length by omega)]at c2
  rw[Aba (show 3 < cs.length by omega)]at c3
  obtain⟨n0,y0,hy0,hw0⟩:=Acf hu hy 0 f0 rfl o0 (by rw[t0];exact Agh) _ (Aba (show 0 < cs.length by omega))
  obtain⟨n1,y1,hy1,hw1⟩:=Acf hu hy 1 f1 rfl o1 (by rw[t1];exact Ac7) _ (Aba (show 1 < cs.length by omega))
  obtain⟨n2,y2,hy2,hw2⟩:=Acf hu hy 2 f2 rfl o2 (by rw[t2];exact Ac7) _ (Aba (show 2 < cs.length by omega))
  obtain⟨n3,y3,hy3,hw3⟩:=Acf hu hy 3 f3 rfl o3 (by rw[t3];exact Ac7) _ (Aba (show 3 < cs.length by omega))
  rw[t0]at hy0 hw0
  rw[t1]at hy1
  rw[t2]at hy2
  rw[t3]at hy3
  obtain⟨s,e0,rfl,hs⟩:=DataW.trod_string Tryz.underlying9 hy0
  obtain⟨z1,e1,rfl,-⟩:=DataW.trod_int Tryz.underlying3 hy1
  obtain⟨z2,e2,rfl,-⟩:=DataW.trod_int Tryz.underlying3 hy2
  obtain⟨z3,e3,rfl,-⟩:=DataW.trod_int Tryz.underlying3 hy3
  simp only[List.cons.injEq,and_true]at e0 e1 e2 e3
  rw[e0]at c0
  rw[e1]at c1
  rw[e2]at c2
  rw[e3]at c3
  refine⟨⟨s.data.toList,z1,z2,z3⟩,hyR _ (hw0 _ (by simp[DataW.weights])),b,o,ha,fun j hj=>?_⟩
  match j,hj with
  | 0,_=>exact c0
  | 1,_=>exact c1
  | 2,_=>exact c2
  | 3,_=>exact c3
 subst h1
 exact⟨P,a,cap,rfl,Avb (by decide) Aej hl hm h3,hb,h2⟩
theorem Aui {fuel:Nat}{v:Value}{x:DataW H×List MemPlace}(h:DataW.trod enc Tryz.prog w base (fun _=>true) held fuel 26 [v]=some x)(R:Nat)(hR:∀ z∈x.1.weights Tryz.prog 26,z<=R) :
  ∃ (P:List Opn) (a:Option Addr) (cap:Nat),v=.slice a P.length cap/\SlIn w a P.length cap 5 (rowC opnF P)/\P.length * 40<=R:=by
 obtain⟨a,len,cap,rfl,hl,hm,hb,hi⟩:=Aix Tryz.underlying26 Av9 (by decide) h R hR
 rw[Asg]at hb
 obtain⟨f0,f1,f2,f3,f4,hu,o0,o1,o2,o3,o4,t0,t1,t2,t3,t4⟩:=Ari
 obtain⟨P,h1,-,h3⟩:=Aow (w:=w) Adn (a:=a) (fun _:Opn=>True) len fun i hil=>by
  obtain⟨b,o,ha,n,cs,y,hy,hyR,hcl,hc⟩:=hi i hil
  have c0:=hc 0 (by decide)
  have c1:=hc 1 (by decide)
  have c2:=hc 2 (by decide)
  have c3:=hc 3 (by decide)
  have c4:=hc 4 (by decide)
  rw[Aba (show 0 < cs.length by omega)]at c0
  rw[Aba (show 1 < cs.length by omega)]at c1
  rw[Aba (show 2 < cs.length by omega)]at c2
  rw[Aba (show 3 < cs.length by omega)]at c3
  rw[Aba (show 4 < cs.length by omega)]at c4
  obtain⟨n0,y0,hy0,-⟩:=Acf hu hy 0 f0 rfl o0 (by rw[t0];exact Ac7) _ (Aba (show 0 < cs.length by omega))
  obtain⟨n1,y1,hy1,-⟩:=Acf hu hy 1 f1 rfl o1 (by rw[t1];exact Ac7) _ (Aba (show 1 < cs.length by omega))
  obtain⟨n2,y2,hy2,-⟩:=Acf hu hy 2 f2 rfl o2 (by rw[t2];exact Ac7) _ (Aba (show 2 < cs.length by omega))
  obtain⟨n3,y3,hy3,-⟩:=Acf hu hy 3 f3 rfl o3 (by rw[t3];exact Ac7) _ (Aba (show 3 < cs.length by omega))
  obtain⟨n4,y4,hy4,-⟩:=Acf hu hy 4 f4 rfl o4 (by rw[t4];exact Ac7) _ (Aba (show 4 < cs.length by omega))
  rw[t0]at hy0
  rw[t1]at hy1
  rw[t2]at hy2
  rw[t3]at hy3
  rw[t4]at hy4
  obtain⟨z0,e0,rfl,-⟩:=DataW.trod_int Tryz.underlying3 hy0
  obtain⟨z1,e1,rfl,-⟩:=DataW.trod_int Tryz.underlying3 hy1
  obtain⟨z2,e2,rfl,-⟩:=DataW.trod_int Tryz.underlying3 hy2
  obtain⟨z3,e3,rfl,-⟩:=DataW.trod_int Tryz.underlying3 hy3
  obtain⟨z4,e4,rfl,-⟩:=DataW.trod_int Tryz.underlying3 hy4
  simp only[List.cons.injEq,and_true]at e0 e1 e2 e3 e4
  rw[e0]at c0
  rw[e1]at c1
  rw[e2]at c2
  rw[e3]at c3
  rw[e4]at c4
  refine⟨⟨z0,z1,z2,z3,z4⟩,trivial,b,o,ha,fun j hj=>?_⟩
  match j,hj with
  | 0,_=>exact c0
  | 1,_=>exact c1
  | 2,_=>exact c2
  | 3,_=>exact c3
  | 4,_=>exact c4
 subst h1
 exact⟨P,a,cap,rfl,Avb (by decide) Adn hl hm h3,hb⟩
structure ReachK (K:Krn):Prop where
 tree:Proofs.YtkdfbliiblojoaaGreatDoor.Reach K.tree
 pipes:K.pipes.length<=4000000000000
 opens:K.opens.length<=4000000000000
 out0:K.out0.length<=140737488355328
 out1:K.out1.length<=140737488355328
theorem Anx : ∃ f0 f1 f2 f3:Field,Tryz.prog.underlying 29=some (.struct #[f0,f1,f2,f3])/\f0.offset=0/\f1.offset=3/\f2.offset=4/\f3.offset=5/\f0.type=24/\f1.type=25/\f2.type=26/\f3.type=27:=
 ⟨_,_,_,_,Tryz.underlying29,rfl,rfl,rfl,rfl,rfl,rfl,rfl,rfl⟩
theorem Arv : Tryz.prog.cellsOf 29=7:=by kernel_rfl
theorem Axf : Tryz.prog.cellsOf 25=1:=by kernel_rfl
theorem Axe : Tryz.prog.cellsOf 26=1:=by kernel_rfl
theorem Ax0 : Tryz.prog.cellsOf 27=2:=by kernel_rfl
theorem Az7 : Tryz.prog.cellsOf 31=10:=by kernel_rfl
theorem Aud : Tryz.prog.cellsOf 22=1:=by kernel_rfl
theorem Avi : ∃ f0 f1 f2:Field,Tryz.prog.underlying 24=some (.struct #[f0,f1,f2])/\f0.offset=0/\f1.offset=1/\f2.offset=2/\f0.type=22/\f1.type=3/\f2.type=3:=
 ⟨_,_,_,Tryz.underlying24,rfl,rfl,rfl,rfl,rfl,rfl⟩
theorem Auf {r:Go.Reach}{b0:Nat}{v:Value}{d:DataW H}{p:List MemPlace}(hv:Value.okWide Tryz.prog w r b0 29 v)(h:DataW.Trod enc Tryz.prog w base (fun _=>true) held 29 v d p)
  (R:Nat) (hR0:R<=140737488355328) (hR:∀ z∈d.weights Tryz.prog 29,z<=R) :
  ∃ (K:Krn) (A:KAd),v=.agg #[.slice A.ta K.tree.length A.tc,.int .i64 K.m,.int .i64 K.b,.slice A.pa K.pipes.length A.pc,.slice A.oa K.opens.length A.oc,.string ⟨K.out0.toArray⟩,.string ⟨K.out1.toArray⟩]/\KernIn w A K/\ReachK K:=by
 obtain⟨f0,f1,f2,f3,hu,o0,o1,o2,o3,t0,t1,t2,t3⟩:=Anx
 obtain⟨cs,rfl,hsz⟩:=okWide_struct hu hv
 obtain⟨c0,c1,c2,c3,c4,c5,c6,rfl⟩:=Baj (hsz.trans Arv)
 obtain⟨fuel,hf⟩:=h
 have hf:DataW.trod enc Tryz.prog w base (fun _=>true) held fuel 29 [c0,c1,c2,c3,c4,c5,c6]=some (d,p):=hf
 obtain⟨xs,n,_,hx,hl,hlen,hfs⟩:=DataW.trod_struct hu hf
 obtain⟨rfl,rfl⟩:d=.agg (xs.map (·.1))/\p=xs.flatMap (·.2):=by simpa using hx
 have hlen:xs.length=4:=hlen
 have g0:=hfs 0 f0 rfl
 have g1:=hfs 1 f1 rfl
 have g2:=hfs 2 f2 rfl
 have g3:=hfs 3 f3 rfl
 have x0:xs[0]?=some (xs[0]'(by omega)):=List.getElem?_eq_getElem _
 have x1:xs[1]?=some (xs[1]'(by omega)):=List.getElem?_eq_getElem _
 have x2:xs[2]?=some (xs[2]'(by omega)):=List.getElem?_eq_getElem _
 have x3:xs[3]?=some (xs[3]'(by omega)):=List.getElem?_eq_getElem _
 rw[x0]at g0
 rw[x1]at g1
 rw[x2]at g2
 rw[x3]at g3
 have w0:=fun z hz=>hR z (Ae6 hu 0 f0 rfl _ x0 z hz)
 have w1:=fun z hz=>hR z (Ae6 hu 1 f1 rfl _ x1 z hz)
 have w2:=fun z hz=>hR z (Ae6 hu 2 f2 rfl _ x2 z hz)
 have w3:=fun z hz=>hR z (Ae6 hu 3 f3 rfl _ x3 z hz)
 rw[t0]at g0 w0
 rw[t1]at g1 w1
 rw[t2]at g2 w2
 rw[t3]at g3 w3
 rw[o0,Arz]at g0
 rw[o1,Axf]at g1
 rw[o2,Axe]at g2
 rw[o3,Ax0]at g3
 have g0:DataW.trod enc Tryz.prog w base (fun _=>true) held n 24 [c0,c1,c2]=some _:=g0
 have g1:DataW.trod enc Tryz.prog w base (fun _=>true) held n 25 [c3]=some _:=g1
 have g2:DataW.trod enc Tryz.prog w base (fun _=>true) held n 26 [c4]=some _:=g2
 have g3:DataW.trod enc Tryz.prog w base (fun _=>true) held n 27 [c5,c6]=some _:=g3
 obtain⟨P,pa,pc,rfl,hP,hPl,-⟩:=Auj g1 R w1
 obtain⟨O,oa,oc,rfl,hO,hOl⟩:=Aui g2 R w2
 obtain⟨e0,e1,e2,hv2,q0,q1,q2,s0,s1,s2⟩:=Avi
 obtain⟨n0,y0,hy0,hw0⟩:=Acf hv2 g0 0 e0 rfl q0 (by rw[s0];exact Aud) c0 rfl
 obtain⟨n1,y1,hy1,-⟩:=Acf hv2 g0 1 e1 rfl q1 (by rw[s1];exact Ac7) c1 rfl
 obtain⟨n2,y2,hy2,-⟩:=Acf hv2 g0 2 e2 rfl q2 (by rw[s2];exact Ac7) c2 rfl
 rw[s0]at hy0 hw0
 rw[s1]at hy1
 rw[s2]at hy2
 obtain⟨m,em,-,-⟩:=DataW.trod_int Tryz.underlying3 hy1
 obtain⟨b,eb,-,-⟩:=DataW.trod_int Tryz.underlying3 hy2
 simp only[List.cons.injEq,and_true]at em eb
 subst em eb
 obtain⟨L,ta,tc,rfl,hN,hLl,hy⟩:=Arh hy0 R (fun z hz=>w0 z (hw0 z hz))
 obtain⟨ys,k,_,hys,-,hyl,hya⟩:=DataW.trod_array Tryz.underlying27 g3
 have a0:=hya 0 (by decide)
 have a1:=hya 1 (by decide)
 rw[Agh]at a0 a1
 have z0:ys[0]?=some (ys[0]'(by omega)):=List.getElem?_eq_getElem _
 have z1:ys[1]?=some (ys[1]'(by omega)):=List.getElem?_eq_getElem _
 rw[z0]at a0
 rw[z1]at a1
 have a0:DataW.trod enc Tryz.prog w base (fun _=>true) held k 9 [c5]=some _:=a0
 have a1:DataW.trod enc Tryz.prog w base (fun _=>true) held k 9 [c6]=some _:=a1
 obtain⟨u0,eu0,hu0,-⟩:=DataW.trod_string Tryz.underlying9 a0
 obtain⟨u1,eu1,hu1,-⟩:=DataW.trod_string Tryz.underlying9 a1
 simp only[List.cons.injEq,and_true]at eu0 eu1
 subst eu0 eu1
 have hout:∀ (i:Nat) (y:DataW H×List MemPlace),ys[i]?=some y->∀ z∈y.1.weights Tryz.prog 9,z<=R:=fun i y hi z hz=>w3 z (by
  rw[hys]
  unfold DataW.weights
  rw[Tryz.underlying27]
  have hm:i < (ys.map (·.1)).length:=by rw[List.length_map];exact(List.getElem?_eq_some_iff.1 hi).1
  refine Ag3 _ i hm z ?_
  rw[List.getElem_map,(List.getElem?_eq_some_iff.1 hi).2]
  exact hz)
 have r0:=hout 0 _ z0 u0.data.toList.length (by rw[hu0];simp[DataW.weights])
 have r1:=hout 1 _ z1 u1.data.toList.length (by rw[hu1];simp[DataW.weights])
 refine⟨⟨L,m,b,P,O,u0.data.toList,u1.data.toList⟩,⟨ta,tc,pa,pc,oa,oc⟩,rfl,⟨hN,hP,hO⟩,⟨⟨by show L.length<=_;omega,fun k hk=>?_,fun k hk=>?_,fun k hk=>by have:=(hy _ (List.getElem_mem hk)).1;omega⟩,by show P.length<=_;omega,by show O.length<=_;omega,by show u0.data.toList.length<=_;omega,by show u1.data.toList.length<=_;omega⟩⟩
 ·have:=(hy _ (List.getElem_mem hk)).2.1
  omega
 ·have h1:=(hy _ (List.getElem_mem hk)).1
  exact⟨by omega,fun e he=>by have:=(hy _ (List.getElem_mem hk)).2.2 e he;omega⟩
theorem Ayw {α:Type}{cs:Array α}(h:cs.size=10):∃ c0 c1 c2 c3 c4 c5 c6 c7 c8 c9,cs=#[c0,c1,c2,c3,c4,c5,c6,c7,c8,c9]:=by
 obtain⟨l⟩:=cs
 match l,h with
 | [c0,c1,c2,c3,c4,c5,c6,c7,c8,c9],_=>exact⟨c0,c1,c2,c3,c4,c5,c6,c7,c8,c9,rfl⟩
theorem Axg {r:Go.Reach}{b0:Nat}{v:Value}{d:DataW H}{p:List MemPlace}(hv:Value.okWide Tryz.prog w r b0 31 v)(h:DataW.Trod enc Tryz.prog w base (fun _=>true) held 31 v d p) :
  ∃ f:List Int,f.length=10/\v=.agg #[.int .i64 (fdA f 0),.int .i64 (fdA f 1),.int .i64 (fdA f 2),.int .i64 (fdA f 3),.int .i64 (fdA f 4),.int .i64 (fdA f 5),.int .i64 (fdA f 6),.int .i64 (fdA f 7),.int .i64 (fdA f 8),.int .i64 (fdA f 9)]:=by
 have hv2:=hv
 simp only[Value.okWide,Tryz.underlying31]at hv2
 obtain⟨cs,rfl,hsz,-⟩:=hv2
 obtain⟨c0,c1,c2,c3,c4,c5,c6,c7,c8,c9,rfl⟩:=Ayw (hsz.trans Az7)
 obtain⟨fuel,hf⟩:=h
 have hf:DataW.trod enc Tryz.prog w base (fun _=>true) held fuel 31 [c0,c1,c2,c3,c4,c5,c6,c7,c8,c9]=some (d,p):=hf
 obtain⟨ys,k,_,-,-,hyl,hya⟩:=DataW.trod_array Tryz.underlying31 hf
 have hone:∀ (i:Nat) (hi:i < 10) (c:Value),[c0,c1,c2,c3,c4,c5,c6,c7,c8,c9][i]?=some c->∃ z:Int,c=.int .i64 z:=fun i hi c hc=>by
  have a:=hya i hi
  rw[Ac7,Nat.mul_one,List.getElem?_eq_getElem (by omega)]at a
  have e:([c0,c1,c2,c3,c4,c5,c6,c7,c8,c9].drop i).take 1=[c]:=by
   obtain⟨hl,e1⟩:=List.getElem?_eq_some_iff.1 hc
   rw[List.drop_eq_getElem_cons hl,e1]
   rfl
  rw[e]at a
  obtain⟨z,ez,-,-⟩:=DataW.trod_int Tryz.underlying3 a
  simp only[List.cons.injEq,and_true]at ez
  exact⟨z,ez⟩
 obtain⟨z0,rfl⟩:=hone 0 (by decide) _ rfl
 obtain⟨z1,rfl⟩:=hone 1 (by decide) _ rfl
 obtain⟨z2,rfl⟩:=hone 2 (by decide) _ rfl
 obtain⟨z3,rfl⟩:=hone 3 (by decide) _ rfl
 obtain⟨z4,rfl⟩:=hone 4 (by decide) _ rfl
 obtain⟨z5,rfl⟩:=hone 5 (by decide) _ rfl
 obtain⟨z6,rfl⟩:=hone 6 (by decide) _ rfl
 obtain⟨z7,rfl⟩:=hone 7 (by decide) _ rfl
 obtain⟨z8,rfl⟩:=hone 8 (by decide) _ rfl
 obtain⟨z9,rfl⟩:=hone 9 (by decide) _ rfl
 exact⟨[z0,z1,z2,z3,z4,z5,z6,z7,z8,z9],rfl,rfl⟩
end
end Go.Proofs.YtkdfbliiblojoaaGreatDoor
