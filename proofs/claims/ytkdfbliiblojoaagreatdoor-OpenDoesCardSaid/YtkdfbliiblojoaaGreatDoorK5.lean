import Derived.Lib.MinMax
import Derived.Laws.IdiomStrings
import Derived.Test.YtkdfbliiblojoaaGreatDoorK4
import Derived.StillTailTactics
import Derived.Laws.LoneSync
set_option linter.all false
set_option maxRecDepth 100000
set_option maxHeartbeats 64000000
namespace Go.Proofs.YtkdfbliiblojoaaGreatDoor
open Go Go.RowKit
theorem bC {W:World}{k:Nat}{cs:Array Value}{t:TypeId}(h:W.heap[k]?=some (.cells cs t (0,0)))(j:Nat):W.cell? ⟨k,j,none⟩=cs[j]?:=cell_of_row W k j cs t (0,0) h
theorem bF {W:World}{k:Nat}{cs:Array Value}{t:TypeId}(h:W.heap[k]?=some (.cells cs t (0,0)))(j:Nat):W.frozen? ⟨k,j,none⟩=false:=by simp[World.frozen?,h]
theorem Aar {W:World}{k:Nat}{cs:Array Value}{t:TypeId}(h:W.heap[k]?=some (.cells cs t (0,0)))(j:Nat)(u:Value):(W.setCell ⟨k,j,none⟩ u).heap[k]?=some (.cells (cs.setIfInBounds j u) t (0,0)):=by
 have hlt:=lt_of_block h
 have h':W.heap[k]=.cells cs t (0,0):=by simpa[Array.getElem?_eq_getElem hlt] using h
 show (W.heap.modify k _)[k]?=_
 rw[Array.getElem?_eq_getElem (by simpa using hlt),Array.getElem_modify_self,h']
 rfl
def put3 (W:World)(k:Nat)(x y z:Value):World:=((W.setCell ⟨k,0,none⟩ x).setCell ⟨k,1,none⟩ y).setCell ⟨k,2,none⟩ z
theorem Afg {W:World}{k:Nat}{a b c:Value}{t:TypeId}(h:W.heap[k]?=some (.cells #[a,b,c] t (0,0)))(x y z:Value):(put3 W k x y z).heap[k]?=some (.cells #[x,y,z] t (0,0)):=Aar (Aar (Aar h 0 x) 1 y) 2 z
theorem Aam {W:World}{k:Nat}{a b c:Value}{t:TypeId}(h:W.heap[k]?=some (.cells #[a,b,c] t (0,0)))(x y z:Value):(put3 W k x y z).cell? ⟨k,0,none⟩=some x/\(put3 W k x y z).cell? ⟨k,1,none⟩=some y/\(put3 W k x y z).cell? ⟨k,2,none⟩=some z:=
 ⟨bC (Afg h x y z) 0,bC (Afg h x y z) 1,bC (Afg h x y z) 2⟩
theorem Aa9 {W:World}{k j:Nat}(h:j≠k)(x y z:Value):(put3 W k x y z).heap[j]?=W.heap[j]?:=
 (Below.heap_setCell _ _ _ _ h).trans ((Below.heap_setCell _ _ _ _ h).trans (Below.heap_setCell _ _ _ _ h))
theorem Aao {B:Nat}{w W:World}{k:Nat}(h:Below B w W)(hk:B<=k)(x y z:Value):Below B w (put3 W k x y z):=((h.setCell hk _).setCell hk _).setCell hk _
theorem Aan (w:World)(A B:Array Value)(s t:TypeId):∃ w2,w2=(w.alloc (.cells A s)).alloc (.cells B t)/\Below w.heap.size w w2/\w2.heap.size=w.heap.size+2/\w2.heap[w.heap.size]?=some (.cells A s (0,0))/\w2.heap[w.heap.size+1]?=some (.cells B t (0,0)):=by
 refine⟨_,rfl,(Aab w _).alloc (by simp) _,by simp,?_,?_⟩
 ·rw[Below.heap_alloc _ _ _ (by simp)];exact Aag _ _
 ·have:=Aag (w.alloc (.cells A s)) (.cells B t)
  rw[World.size_alloc]at this
  exact this
def put4 (W:World)(k:Nat)(x y z u:Value):World:=(((W.setCell ⟨k,0,none⟩ x).setCell ⟨k,1,none⟩ y).setCell ⟨k,2,none⟩ z).setCell ⟨k,3,none⟩ u
theorem Aep {W:World}{k:Nat}{a b c d:Value}{t:TypeId}(h:W.heap[k]?=some (.cells #[a,b,c,d] t (0,0)))(x y z u:Value):(put4 W k x y z u).heap[k]?=some (.cells #[x,y,z,u] t (0,0)):=Aar (Aar (Aar (Aar h 0 x) 1 y) 2 z) 3 u
theorem Ah5 {W:World}{k:Nat}{a b c d:Value}{t:TypeId}(h:W.heap[k]?=some (.cells #[a,b,c,d] t (0,0)))(x y z u:Value):(put4 W k x y z u).cell? ⟨k,0,none⟩=some x/\(put4 W k x y z u).cell? ⟨k,1,none⟩=some y/\(put4 W k x y z u).cell? ⟨k,2,none⟩=some z/\(put4 W k x y z u).cell? ⟨k,3,none⟩=some u:=
 ⟨bC (Aep h x y z u) 0,bC (Aep h x y z u) 1,bC (Aep h x y z u) 2,bC (Aep h x y z u) 3⟩
theorem Ac3 {B:Nat}{w W:World}{k:Nat}(h:Below B w W)(hk:B<=k)(x y z u:Value):Below B w (put4 W k x y z u):=(((h.setCell hk _).setCell hk _).setCell hk _).setCell hk _
theorem Af4 {p:Pip}{D:ByteArray}(h:D=⟨p.data.toArray⟩):D.data.toList=p.data/\D.size=p.data.length:=by
 have h1:D.data.toList=p.data:=by rw[h]
 exact⟨h1,by rw[<-h1];exact Array.length_toList.symm⟩
theorem Avf {D:ByteArray}(h:D.data.toList≠[]):(D.data.toList == [])=false/\D.toList.isEmpty=false:=by
 rw[ByteArray.toList_eq]
 cases h1:D.data.toList with
 | nil=>exact absurd h1 h
 | cons c r=>exact⟨rfl,rfl⟩
theorem Af8 (w:World)(A B:Obj):Below w.heap.size w ((w.alloc A).alloc B):=(Aab w _).alloc (by simp) _
theorem Aka {P:Program}{o:Oper}{a:Act}{w:World}{K:Act->Prop}(h:o.quiet P a (fun w'=>w'=w) K):o.still P a w K:=by
 obtain⟨v,h1,h2⟩:=h
 have h3:=h1 w rfl
 unfold Oper.quietAt at h3
 unfold Oper.still
 revert h3
 cases (execOp a.eval o).run P w with
 | ok x w'=>
  cases x with
  | value u=>rintro⟨rfl,rfl⟩;exact⟨rfl,h2⟩
  | skip=>rintro⟨rfl,rfl⟩;exact⟨rfl,h2⟩
  | enter f args=>rintro⟨rfl,h⟩;exact⟨rfl,v,h,h2⟩
  | _=>intro h;exact h.elim
 | _=>intro h;exact h.elim
theorem Ab5 {P:Program}{ops:Array Oper}{w:World}{Q:Act->Prop}:∀ (l:List Oper) (a:Act),wpQuiet P ops (fun w'=>w'=w) Q l a->wpStill P ops w Q l a
 | [],_,h=>h
 | o :: rest,a,h=>by
  unfold wpQuiet at h
  unfold wpStill
  split
  ·rename_i hw
   rw[if_pos hw]at h
   exact Aka (Oper.quiet_mono (fun a' h'=>Ab5 rest a' h') h)
  ·rename_i hw
   rw[if_neg hw]at h
   exact Ab5 rest _ h
def Adq (L:List Ino):Nat->Int->Bool
 | 0,_=>false
 | n+1,k=>if k=0 then true else if dirB L (Aai L k).up then Adq L n (Aai L k).up else false
theorem Ao3 (L:List Ino)(n:Nat)(k:Int):Adq L (n+1) k=if k=0 then true else if dirB L (Aai L k).up then Adq L n (Aai L k).up else false:=rfl
def Ag1 (L:List Ino)(k:Int):Bool:=Adq L (L.length+1) k
def Ayp (L:List Ino)(n0:Nat)(w1:World)(kv iv:Value)(wr:World):Prop:=
 ∃ k i:Nat,k < L.length/\i<=L.length+1/\kv=.int .i64 k/\iv=.int .i64 i/\Hid (Adq L (L.length+1) (n0:Int)=Adq L (L.length+1 - i) (k:Int))/\Below w1.heap.size w1 wr
theorem Aox (a:Option Addr)(cap:Nat)(m b:Int)(L:List Ino)(hL:L.length<=1000)(n:Nat)(hn:n < L.length)(w:World)(hN:Aad w a cap L) :
  Calls Tryz.prog 51 #[.agg #[.slice a L.length cap,.int .i64 m,.int .i64 b],.int .i64 n] w fun e w'=>e=.returned (.bool (Ag1 L n))/\Below w.heap.size w w':=by
 have hb1:=Aab w (.cells #[.slice a L.length cap,.int .i64 m,.int .i64 b] 24)
 obtain⟨w1,hw1⟩:∃ w1,w1=w.alloc (.cells #[.slice a L.length cap,.int .i64 m,.int .i64 b] 24):=⟨_,rfl⟩
 have hM:=hN.below hb1
 have hbox:∀ W',Below w1.heap.size w1 W'->W'.cell? ⟨w.heap.size,0,none⟩=some (.slice a L.length cap)/\W'.cell? ⟨w.heap.size,1,none⟩=some (.int .i64 m)/\W'.cell? ⟨w.heap.size,2,none⟩=some (.int .i64 b):=fun W' h=>box3 (by rw[<-hw1];exact h)
 rw[<-hw1]at hM hb1
 have HM:=Hd hM
 have HX:=Hd hbox
 have HB:=Hd hb1
 clear hM hN hbox hb1
 unfold Ag1
 go_enter Tryz.func51,Tryz.ntmps51
 go_wp2_with fail
 rw[<-hw1]
 clear hw1
 go_loopw [1,5] (fun k i wr=>Ayp L n w1 k i wr) (fun _ i _=>L.length+1 - (intOf i).toNat)
 case atStart=>exact⟨n,0,hn,by omega,rfl,rfl,Hd rfl,Below.refl _ _⟩
 case round=>
  obtain⟨k,i,hk,hi,rfl,rfl,hrest,hbr⟩:=hrel
  have HBR:=Hd hbr
  obtain⟨q0,q1,q2⟩:=HX.out _ hbr
  clear hbr
  by_cases hil:i<=L.length
  ·have hst:L.length+1 - i=(L.length - i)+1:=by omega
   have hsz:=HBR.out.size
   by_cases hk0:k=0
   ·subst hk0
    have hfin:=Hd (show Adq L (L.length+1) (n:Int)=true by rw[hrest.out,hst];rfl)
    go_wp2_with fail
    go_ret
    exact⟨by rw[hfin.out];rfl,HB.out.trans (HBR.out.mono HB.out.size)⟩
   ·obtain⟨bb,o,rfl,hx⟩:=(HM.out.below HBR.out).2.2 k hk
    have h1:=hx.up
    have hu:Adq L (L.length+1) (n:Int)=if dirB L L[k].up then Adq L (L.length - i) L[k].up else false:=by
     rw[hrest.out,hst,Ao3,if_neg (by omega),Aae L k hk]
    cases ht:Aa5 L L[k].up with
    | false=>
     have HT:=Hd ht
     have hfin:=Hd (show Adq L (L.length+1) (n:Int)=false by rw[hu,if_neg (by unfold dirB;rw[ht];simp)])
     clear ht hu
     have hk1:((k:Int) == 0)=false:=by simpa using hk0
     go_wp2_with (first|(go_at_call 49;refine(Abm _ _ _ _ _ _ _ HT.out _).mono ?_;rintro e w2 ⟨rfl,hb2⟩)|fail)
     go_ret
     exact⟨by rw[hfin.out];rfl,(HB.out.trans (HBR.out.mono HB.out.size)).trans (hb2.mono (Nat.le_trans HB.out.size hsz))⟩
    | true=>
     obtain⟨u,hu1,hu2⟩:=Aa7 ht
     have HT:=Hd ht
     obtain⟨b',o',e1,hy⟩:=(HM.out.below HBR.out).2.2 u hu2
     have h2:=hy.kind
     obtain⟨rfl,rfl⟩:b'=bb/\o'=o:=by simpa[eq_comm] using e1
     have hd:dirB L L[k].up=(L[u].kind == 2):=by unfold dirB;rw[ht,hu1,Aae L u hu2];rfl
     rw[hd,hu1]at hu
     rw[hu1]at h1 HT
     have hk1:((k:Int) == 0)=false:=by simpa using hk0
     have hu0:(0:Int)<=(u:Int):=by omega
     clear ht hd e1
     cases hz:(L[u].kind != 2)with
     | true=>
      have hfin:=Hd (show Adq L (L.length+1) (n:Int)=false by rw[hu,if_neg (by simpa[bne] using hz)])
      clear hu
      go_wp2_with (first|(go_at_call 49;refine(Abm _ _ _ _ _ _ _ HT.out _).mono ?_;rintro e w2 ⟨rfl,hb2⟩;obtain⟨r0,r1,r2⟩:=HX.out _ (HBR.out.trans (hb2.mono hsz));have h3:=Aaa hb2 h2)|fail)
      go_ret
      exact⟨by rw[hfin.out];rfl,(HB.out.trans (HBR.out.mono HB.out.size)).trans (hb2.mono (Nat.le_trans HB.out.size hsz))⟩
     | false=>
      have hnext:=Hd (show Adq L (L.length+1) (n:Int)=Adq L (L.length+1 - (i+1)) (u:Int) by rw[hu,if_pos (by simpa[bne] using hz)];congr 1;omega)
      clear hu
      go_wp2_with (first|(go_at_call 49;refine(Abm _ _ _ _ _ _ _ HT.out _).mono ?_;rintro e w2 ⟨rfl,hb2⟩;obtain⟨r0,r1,r2⟩:=HX.out _ (HBR.out.trans (hb2.mono hsz));have h3:=Aaa hb2 h2)|fail)
      go_roundw
      case rel=>exact⟨u,i+1,hu2,by omega,rfl,by go_num,hnext,HBR.out.trans (hb2.mono hsz)⟩
      case measure=>simp[intOf] <;> omega
  ·have hfin:=Hd (show Adq L (L.length+1) (n:Int)=false by rw[hrest.out,show L.length+1 - i=0 by omega];rfl)
   go_wp2_with fail
   go_ret
   exact⟨by rw[hfin.out];rfl,HB.out.trans (HBR.out.mono HB.out.size)⟩

theorem Azm (b:Nat)(u:Value)(n:Int)(w:World)(hc:w.cell? ⟨b,0,none⟩=some u)(hz:w.frozen? ⟨b,0,none⟩=false) :
  Calls Tryz.prog 196 #[.pointer (some ⟨b,0,none⟩),.int .i64 n] w fun e w'=>e=.returned (.tuple #[])/\w'=w.setCell ⟨b,0,none⟩ (.int .i64 n):=by
 have hst:=run_call_store (P:=Tryz.prog) Tryz.func207 (by kernel_rfl) (by kernel_rfl) (by kernel_rfl) (by kernel_rfl) (k:=.i64) (y:=n) hc hz
 go_enter Tryz.func196,Tryz.ntmps196
 go_wp2_with fail
 go_end0
 exact⟨rfl,rfl⟩
theorem Bbq (b:Nat)(n d s:Int)(w:World)(hs:IntKind.i64.wrap (n+d)=s)(hc:w.cell? ⟨b,0,none⟩=some (.int .i64 n))(hz:w.frozen? ⟨b,0,none⟩=false) :
  Calls Tryz.prog 197 #[.pointer (some ⟨b,0,none⟩),.int .i64 d] w fun e w'=>e=.returned (.int .i64 s)/\w'=w.setCell ⟨b,0,none⟩ (.int .i64 s):=by
 have hadd:=run_call_add (P:=Tryz.prog) Tryz.func208 (by kernel_rfl) (by kernel_rfl) (by kernel_rfl) .i64 (by kernel_rfl) (y:=d) (s:=s) hc hz (by simp[go_sem,hs])
 go_enter Tryz.func197,Tryz.ntmps197
 go_wp2_with fail
 go_ret
 exact⟨rfl,rfl⟩
theorem Ba4 (n d:Int)(hs:IntKind.i64.wrap (n+d)=n+d)(w:World):Calls Tryz.prog 185 #[.int .i64 n,.int .i64 d] w fun e w'=>e=.returned (.int .i64 (min (max (n+d) 0) 1000))/\Below w.heap.size w w':=by
 obtain⟨w1,hw1⟩:∃ w1,w1=w.alloc (.cells #[.int .i64 0] 221):=⟨_,rfl⟩
 have hb1:Below w.heap.size w w1:=by rw[hw1];exact Aab w _
 have hA:w1.heap[w.heap.size]?=some (.cells #[.int .i64 0] 221 (0,0)):=by rw[hw1];exact Aag w _
 obtain⟨w2,hw2⟩:∃ w2,w2=w1.setCell ⟨w.heap.size,0,none⟩ (.int .i64 n):=⟨_,rfl⟩
 have hb2:Below w.heap.size w w2:=by rw[hw2];exact hb1.setCell (Nat.le_refl _) _
 have hA2:w2.heap[w.heap.size]?=some (.cells #[.int .i64 n] 221 (0,0)):=by rw[hw2];exact Aar hA 0 _
 have HA:=Hd hA
 have HA2:=Hd hA2
 have HB2:=Hd hb2
 have hl:=lt_of_block hA2
 have HS:=Hd hs
 clear hA hA2 hb1 hb2 hs
 go_enter Tryz.func185,Tryz.ntmps185
 go_wp2_with fail
 rw[<-hw1]
 clear hw1
 refine(Azm _ _ n _ (bC HA.out 0) (bF HA.out 0)).mono ?_
 rintro e w3 ⟨rfl,rfl⟩
 rw[<-hw2]
 clear hw2
 go_wp2_with fail
 refine(Bbq _ n d (n+d) _ HS.out (bC HA2.out 0) (bF HA2.out 0)).mono ?_
 rintro e w3 ⟨rfl,rfl⟩
 go_wp2_with fail
 go_ret
 exact⟨rfl,HB2.out.setCell (Nat.le_refl _) _⟩
def Agv (p:Pip)(reads:Bool)(d:Int):Pip:=if reads=true then { p with rd:=min (max (p.rd+d) 0) 1000 }else { p with wr:=min (max (p.wr+d) 0) 1000 }
theorem Aqu {p:Pip}(hF:Ace p=true)(reads:Bool):Agv p reads (-1)=Aak p reads:=by
 obtain⟨g1,g2,g3,g4,g5,g6,g7⟩:=Adt.1 hF
 unfold Agv Aak
 cases reads with
 | true=>
  rw[if_pos rfl,if_pos rfl]
  by_cases h:0 < p.rd
  ·rw[if_pos h,show min (max (p.rd+-1) 0) 1000=p.rd - 1 by omega]
  ·rw[if_neg h,show min (max (p.rd+-1) 0) 1000=p.rd by omega]
 | false=>
  rw[if_neg (by decide),if_neg (by decide)]
  by_cases h:0 < p.wr
  ·rw[if_pos h,show min (max (p.wr+-1) 0) 1000=p.wr - 1 by omega]
  ·rw[if_neg h,show min (max (p.wr+-1) 0) 1000=p.wr by omega]
theorem Atj (p:Pip)(hF:Ace p=true)(reads:Bool)(d:Int)(hd:d=1∨d=-1)(w:World) :
  Calls Tryz.prog 164 #[.agg #[.string ⟨p.data.toArray⟩,.int .i64 p.rd,.int .i64 p.wr,.int .i64 p.cap],.bool reads,.int .i64 d] w fun e w'=>e=.returned (.agg #[.string ⟨(Agv p reads d).data.toArray⟩,.int .i64 (Agv p reads d).rd,.int .i64 (Agv p reads d).wr,.int .i64 (Agv p reads d).cap])/\Below w.heap.size w w':=by
 obtain⟨g1,g2,g3,g4,g5,g6,g7⟩:=Adt.1 hF
 have HR:=Hd (show IntKind.i64.wrap (p.rd+d)=p.rd+d by rw[IntKind.wrap_i64];omega)
 have HW:=Hd (show IntKind.i64.wrap (p.wr+d)=p.wr+d by rw[IntKind.wrap_i64];omega)
 obtain⟨D,hD⟩:∃ D:ByteArray,D=⟨p.data.toArray⟩:=⟨_,rfl⟩
 obtain⟨hDl,hDs⟩:=Af4 hD
 obtain⟨w2,hw2,hb2,hs2,hA,hB⟩:=Aan w #[.string D,.int .i64 p.rd,.int .i64 p.wr,.int .i64 p.cap] #[.string ⟨#[]⟩,.int .i64 0,.int .i64 0,.int .i64 0] 87 87
 have HA:=Hd hA
 have HBK:=Hd hB
 have HB2:=Hd hb2
 have HD:=Hd hD
 rw[<-hD]
 have hl:=lt_of_block hB
 have q0:=bC hA 0
 have q1:=bC hA 1
 have q2:=bC hA 2
 have q3:=bC hA 3
 have f0:=bF hA 0
 have f1:=bF hA 1
 have f2:=bF hA 2
 have r0:=bC hB 0
 have r1:=bC hB 1
 have r2:=bC hB 2
 have r3:=bC hB 3
 have s0:=bF hB 0
 have s1:=bF hB 1
 have s2:=bF hB 2
 have s3:=bF hB 3
 clear hA hB hb2 hD
 clear hDl hDs g1 g2 g3 g4 g5 g6 g7 hF hd q3 f0 r0 r1 r2 r3 s0 s1 s2 s3 f1 f2
 rw[hw2]at q0 q1 q2 hl
 cases reads with
 | true=>
  go_enter Tryz.func164,Tryz.ntmps164
  go_wp2_with fail
  rw[<-hw2]
  clear hw2 q0 q1 q2 hl
  refine(Ba4 _ _ HR.out _).mono ?_
  rintro e w3 ⟨rfl,hb3⟩
  have hA3:=(hb3.block w.heap.size (by omega)).trans HA.out
  have hB3:=(hb3.block (w.heap.size+1) (by omega)).trans HBK.out
  have HB3:=Hd (HB2.out.trans (hb3.mono (by omega)))
  have hs3:=hb3.size
  have q0:=bC hA3 0
  have q1:=bC hA3 1
  have q2:=bC hA3 2
  have q3:=bC hA3 3
  have f1:=bF hA3 1
  have r0:=bC hB3 0
  have r1:=bC hB3 1
  have r2:=bC hB3 2
  have r3:=bC hB3 3
  have s0:=bF hB3 0
  have s1:=bF hB3 1
  have s2:=bF hB3 2
  have s3:=bF hB3 3
  have hl:=lt_of_block hB3
  have hl2:=lt_of_block hA3
  have HB4:=Hd (show (w3.setCell ⟨w.heap.size,1,none⟩ (.int .i64 (min (max (p.rd+d) 0) 1000))).heap[w.heap.size+1]?=some (.cells #[.string ⟨#[]⟩,.int .i64 0,.int .i64 0,.int .i64 0] 87 (0,0))from(Below.heap_setCell _ _ _ _ (show w.heap.size+1≠w.heap.size by omega)).trans hB3)
  have HLE:=Hd (show Below w.heap.size w (w3.setCell ⟨w.heap.size,1,none⟩ (.int .i64 (min (max (p.rd+d) 0) 1000)))from HB3.out.setCell (Nat.le_refl _) _)
  clear hA3 hB3 hb3
  go_wp2_with fail
  change bodyPost _ _ _ _ _ (put4 (w3.setCell ⟨w.heap.size,1,none⟩ (.int .i64 (min (max (p.rd+d) 0) 1000))) (w.heap.size+1) (.string D) (.int .i64 (min (max (p.rd+d) 0) 1000)) (.int .i64 p.wr) (.int .i64 p.cap))
  obtain⟨c0,c1,c2,c3⟩:=Ah5 HB4.out (.string D) (.int .i64 (min (max (p.rd+d) 0) 1000)) (.int .i64 p.wr) (.int .i64 p.cap)
  exact bodyPost_ret (v:=.agg #[.string D,.int .i64 (min (max (p.rd+d) 0) 1000),.int .i64 p.wr,.int .i64 p.cap]) (by simp[results,Tryz.results164,go_sem,c0,c1,c2,c3]) rfl ⟨by rw[HD.out];rfl,Ac3 HLE.out (by omega) (.string D) (.int .i64 (min (max (p.rd+d) 0) 1000)) (.int .i64 p.wr) (.int .i64 p.cap)⟩
 | false=>
  go_enter Tryz.func164,Tryz.ntmps164
  go_wp2_with fail
  rw[<-hw2]
  clear hw2 q0 q1 q2 hl
  refine(Ba4 _ _ HW.out _).mono ?_
  rintro e w3 ⟨rfl,hb3⟩
  have hA3:=(hb3.block w.heap.size (by omega)).trans HA.out
  have hB3:=(hb3.block (w.heap.size+1) (by omega)).trans HBK.out
  have HB3:=Hd (HB2.out.trans (hb3.mono (by omega)))
  have hs3:=hb3.size
  have q0:=bC hA3 0
  have q1:=bC hA3 1
  have q2:=bC hA3 2
  have q3:=bC hA3 3
  have f1:=bF hA3 2
  have r0:=bC hB3 0
  have r1:=bC hB3 1
  have r2:=bC hB3 2
  have r3:=bC hB3 3
  have s0:=bF hB3 0
  have s1:=bF hB3 1
  have s2:=bF hB3 2
  have s3:=bF hB3 3
  have hl:=lt_of_block hB3
  have hl2:=lt_of_block hA3
  have HB4:=Hd (show (w3.setCell ⟨w.heap.size,2,none⟩ (.int .i64 (min (max (p.wr+d) 0) 1000))).heap[w.heap.size+1]?=some (.cells #[.string ⟨#[]⟩,.int .i64 0,.int .i64 0,.int .i64 0] 87 (0,0))from(Below.heap_setCell _ _ _ _ (show w.heap.size+1≠w.heap.size by omega)).trans hB3)
  have HLE:=Hd (show Below w.heap.size w (w3.setCell ⟨w.heap.size,2,none⟩ (.int .i64 (min (max (p.wr+d) 0) 1000)))from HB3.out.setCell (Nat.le_refl _) _)
  clear hA3 hB3 hb3
  go_wp2_with fail
  change bodyPost _ _ _ _ _ (put4 (w3.setCell ⟨w.heap.size,2,none⟩ (.int .i64 (min (max (p.wr+d) 0) 1000))) (w.heap.size+1) (.string D) (.int .i64 p.rd) (.int .i64 (min (max (p.wr+d) 0) 1000)) (.int .i64 p.cap))
  obtain⟨c0,c1,c2,c3⟩:=Ah5 HB4.out (.string D) (.int .i64 p.rd) (.int .i64 (min (max (p.wr+d) 0) 1000)) (.int .i64 p.cap)
  exact bodyPost_ret (v:=.agg #[.string D,.int .i64 p.rd,.int .i64 (min (max (p.wr+d) 0) 1000),.int .i64 p.cap]) (by simp[results,Tryz.results164,go_sem,c0,c1,c2,c3]) rfl ⟨by rw[HD.out];rfl,Ac3 HLE.out (by omega) (.string D) (.int .i64 p.rd) (.int .i64 (min (max (p.wr+d) 0) 1000)) (.int .i64 p.cap)⟩
end Go.Proofs.YtkdfbliiblojoaaGreatDoor
