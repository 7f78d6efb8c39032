import Derived.RangeFuncLeaves
import Derived.RangeFuncNested
import Derived.RangeFuncBound
import Derived.RangeFuncCalls
import Derived.Shelf.Abstract
import Derived.OwnWalkIn
import Derived.TacticsInMore
import Derived.LoopNIn
import Derived.LoopIn
import Derived.Test.YtkdfbliiblojoaaGreatDoorShelf
import Derived.Test.YtkdfbliiblojoaaGreatDoorK13
set_option linter.all false
set_option maxRecDepth 100000
set_option maxHeartbeats 64000000
namespace Go.Proofs.YtkdfbliiblojoaaGreatDoor
open Go Go.RowKit Go.Shelf
attribute [local go_sem] Oper.semAt_some
def Aqo (Bn:Nat)(W W':World):Prop:=W'.heap[Bn]?=W.heap[Bn]?
theorem Azd {Bn:Nat}{A B C:World}(h:Aqo Bn A B)(k:Aqo Bn B C):Aqo Bn A C:=Eq.trans k h
theorem Azc {Bn:Nat}{w:World}(hb:Bn < w.heap.size)(W:World)(l:Nat)(o o':Obj)(hl:w.heap.size<=l)(_:W.heap[l]?=some o)(_:o.isCells=false)(_:o.isWalk=false):Aqo Bn W (W.putObj l o'):=
 by
 show (W.putObj l o').heap[Bn]?=W.heap[Bn]?
 simp only[World.putObj]
 rw[Array.getElem?_setIfInBounds_ne (by omega)]
def Rest (s:List UInt8)(D:List (List UInt8))(r:List UInt8):Prop:=r.length<=s.length/\Aaq s=D ++ Aaq r
theorem Rest.start (s:List UInt8):Rest s [] s:=⟨Nat.le_refl _,rfl⟩
theorem Rest.skip {s r:List UInt8}{D:List (List UInt8)}(h:Rest s D r)(hh:Ad6 r=[]):Rest s D (Aek r):=by
 refine⟨Nat.le_trans (Aiz r) h.1,?_⟩
 rw[h.2,Akw r,if_pos hh,List.nil_append]
theorem Rest.takes {s r:List UInt8}{D:List (List UInt8)}(h:Rest s D r)(hh:Ad6 r≠[]):Rest s (D ++ [Ad6 r]) (Aek r):=by
 refine⟨Nat.le_trans (Aiz r) h.1,?_⟩
 rw[h.2,Akw r,if_neg hh,List.append_assoc]
theorem Rest.done {s:List UInt8}{D:List (List UInt8)}(h:Rest s D []):D=Aaq s:=by
 rw[h.2]
 simp[Aaq,Ab0]
theorem Rest.pre {s r:List UInt8}{D:List (List UInt8)}(h:Rest s D r):D <+: Aaq s:=⟨Aaq r,h.2.symm⟩
def IRel (s:ByteArray)(Bn:Nat)(J:List (List UInt8)->World->Prop)(r:Value)(wr:World):Prop:=
 ∃ (l:List UInt8) (D:List (List UInt8)),r=.string ⟨l.toArray⟩/\Rest s.data.toList D l/\J D wr/\wr.cell? ⟨Bn,0,none⟩=some (.string s)
def lenOf : Value->Nat
 | .string b=>b.size
 | _=>0
theorem Akp (l:List UInt8):((⟨l.toArray⟩:ByteArray).toList.isEmpty)=l.isEmpty:=by rw[ByteArray.toList_eq]
theorem Apg (l:List UInt8)(hs:l.length<=1073741824)(w:World) :
  Calls Tryz.prog 200 #[.string ⟨l.toArray⟩,.string ⟨#[47]⟩] w fun e w'=>(∃ b,e=.returned (.tuple #[.string ⟨(Ad6 l).toArray⟩,.string ⟨(Aek l).toArray⟩,.bool b]))/\Ayl w w':=
 Ay2 ⟨l.toArray⟩ (by show l.toArray.size<=_;simpa using hs) w
structure Open (F:Fence):Prop where
 fn:∀ f,F.fn f
 ro:F.round=none
 calls:∀ {n:Nat} {P:Program} {f:FuncId} {args:Array Value} {w:World} {R:Ending->World->Prop},Calls P f args w R->CallsIn F n P f args w R
theorem Ahm : Open Fence.wide:=⟨fun _=>trivial,rfl,fun h=>callsIn_wide.2 h⟩
theorem At4 (F:Fence)(hF:Open F)(n:Nat)(hn:1<=n)(l Bn:Nat)(s:ByteArray)(hs:s.size<=1073741824)(J Jx:List (List UInt8)->World->Prop)(hdr:∀ pre W m,J pre W->J pre (W.drewN m))
  (hY:∀ pre x W,J pre W->pre.length < (Aaq s.data.toList).length->YieldAt F (n - 1) Tryz.prog l #[.string ⟨x.toArray⟩] W fun e W'=>
   (e=.returned (.bool true)/\J (pre ++ [x]) W'/\Aqo Bn W W')∨(e=.returned (.bool false)/\Jx (pre ++ [x]) W'))
  (W:World) (hBn:W.cell? ⟨Bn,0,none⟩=some (.string s)) (h0:J [] W) :
  CallsIn F n Tryz.prog 199 #[.func (.yield l) #[] #[],.pointer (some ⟨Bn,0,none⟩)] W fun e W'=>(∃ v,e=.returned v) /\
   ((∃ ys,ys=Aaq s.data.toList/\J ys W')∨(∃ pre,pre <+: Aaq s.data.toList/\Jx pre W')):=by
 have hsl:=Aas s
 have hro:F.round=none:=hF.ro
 have hfc:F.fn 200:=hF.fn _
 refine callsIn_of_wp Tryz.func199 rfl (hF.fn _) ?_ hro
 simp only[Tryz.ntmps199,List.size_toArray,List.length_cons,List.length_nil,Nat.reduceAdd,Nat.reduceSub,Array.replicate_succ,Array.replicate_zero,List.push_toArray,List.append_toArray,List.nil_append,List.cons_append]
 gi_wp2
 gi_loopw [3,4] (fun r _ wr=>IRel s Bn J r wr) (fun r _ _=>lenOf r)
 case atStart=>exact⟨s.data.toList,[],rfl,Rest.start _,h0,hBn⟩
 case round=>
  obtain⟨r,D,rfl,hrest,hJ,hcell⟩:=hrel
  have HR:=Hd hrest
  have HJ:=Hd hJ
  clear hrest hJ
  have he:=Akp r
  cases hr:r.isEmpty with
  | true=>
   obtain rfl:r=[]:=by simpa using hr
   have hfin:=Hd (Rest.done HR.out)
   gi_wp2
   go_end0
   exact⟨⟨_,rfl⟩,.inl ⟨D,hfin.out,HJ.out⟩⟩
  | false=>
   have hrl:r.length<=1073741824:=by have:=HR.out.1;omega
   have hrn:r≠[]:=fun e=>by rw[e]at hr;cases hr
   have htl:=Avd r hrn
   have HT:=Hd htl
   clear htl hrn
   have he2:=Akp (Ad6 r)
   cases hh:(Ad6 r).isEmpty with
   | true=>
    have hnext:=Hd (HR.out.skip (by simpa using hh))
    gi_wp2_with (gi_at_call 200;refine(hF.calls (Apg r hrl _)).mono ?_;rintro e w' ⟨⟨b,rfl⟩,m,rfl⟩)
    refine⟨fun _ h=>(by cases h),?_⟩
    gi_wp2
    go_roundw
    case rel=>exact⟨Aek r,D,rfl,hnext.out,hdr _ _ _ HJ.out,hcell⟩
    case measure=>exact HT.out
   | false=>
    have hnext:=Hd (HR.out.takes (by simpa using hh))
    have hlen:D.length < (Aaq s.data.toList).length:=by
     have:=(Rest.pre hnext.out).length_le
     simp at this
     omega
    gi_wp2_with (gi_at_call 200;refine(hF.calls (Apg r hrl _)).mono ?_;rintro e w' ⟨⟨b,rfl⟩,m,rfl⟩;obtain⟨fn,tmps,assign,body,hy,hR⟩:=hY D (Ad6 r) _ (hdr _ _ m HJ.out) hlen)
    refine hR.mono ?_
    rintro e W3 (⟨rfl,hJ3,hk3⟩|⟨rfl,hJx3⟩)
    ·have hcell3:W3.cell? ⟨Bn,0,none⟩=some (.string s):=(World.cell?_of_block (w:=wr.drewN m) (a:=⟨Bn,0,none⟩) (show W3.heap[Bn]?=(wr.drewN m).heap[Bn]? from hk3)).trans hcell
     gi_wp2
     go_roundw
     case rel=>exact⟨Aek r,D ++ [Ad6 r],rfl,hnext.out,hJ3,hcell3⟩
     case measure=>exact HT.out
    ·have hpre:=Rest.pre hnext.out
     gi_wp2
     refine bodyPost_ret (results_none rfl _ _ _) rfl ?_
     exact⟨⟨_,rfl⟩,.inr ⟨D ++ [Ad6 r],hpre,hJx3⟩⟩
theorem Awz (F:Fence)(hF:Open F)(n:Nat)(s:ByteArray)(w:World) :
  CallsIn F n Tryz.prog 189 #[.string s] w fun e w'=>e=.returned (.func (.func 199) #[] #[.pointer (some ⟨w.heap.size,0,none⟩)])/\w'=w.alloc (.cells #[.string s] 9):=by
 have hro:F.round=none:=hF.ro
 refine callsIn_of_wp Tryz.func189 rfl (hF.fn _) ?_ hro
 simp only[Tryz.ntmps189,List.size_toArray,List.length_cons,List.length_nil,Nat.reduceAdd,Nat.reduceSub,Array.replicate_succ,Array.replicate_zero,List.push_toArray,List.append_toArray,List.nil_append,List.cons_append]
 gi_wp2
 go_ret
 exact⟨rfl,rfl⟩
theorem Ak9 (W:World)(m:Nat):W.grownBy (W.drewN m) none:=⟨rfl,rfl,rfl,Nat.le_refl _,fun _ _ _=>rfl⟩
theorem Aol (F:Fence)(hF:Open F)(n:Nat)(hn:1<=n)(Bn:Nat)(s:ByteArray)(hs:s.size<=1073741824)(w:World)(hBn:Bn < w.heap.size)
  (hc:w.cell? ⟨Bn,0,none⟩=some (.string s)) :
  SeqStopsK F n Tryz.prog 199 #[.pointer (some ⟨Bn,0,none⟩)] (fun x:List UInt8=>#[Value.string ⟨x.toArray⟩]) (Aqo Bn) (fun ys=>ys=Aaq s.data.toList) (fun pre=>pre <+: Aaq s.data.toList) (Aaq s.data.toList).length w:=fun l J Jx W hW hJ _ hY h0=>
 At4 F hF n hn l Bn s hs J Jx (fun pre W m h=>hJ pre W _ none h (Ak9 W m) (fun _ e=>by cases e)) hY W ((hW.cell (p:=⟨Bn,0,none⟩) hBn).trans hc) h0
attribute [local go_sem] Oper.semAt_some
theorem Alp {w:World}{b b':Nat}{e:TypeId}{z n:Nat}{v:Value}{xs:List Value}(h:w.ownsRow b e z v n xs)(hb:b'<=b):w.ownsRow b' e z v n xs:=by
 obtain⟨h1,h2|⟨g,cap,cur,hv,hg,r⟩⟩:=h
 ·exact⟨h1,Or.inl h2⟩
 ·exact⟨h1,Or.inr ⟨g,cap,cur,hv,by omega,r⟩⟩
theorem Axk (l:List UInt8):(Aaq l).length<=l.length+1:=by
 have h:∀ (l cur:List UInt8),(Ab0 cur l).length<=l.length+1:=by
  intro l
  induction l with
  | nil=>intro cur;unfold Ab0;split <;> simp
  | cons c r ih=>
   intro cur
   unfold Ab0
   split
   ·split
    ·have:=ih [];simp;omega
    ·have:=ih [];simp only[List.length_cons];omega
   ·have:=ih (cur ++ [c]);simp only[List.length_cons];omega
 exact h l []
theorem Axj (F:Fence)(hF:Open F)(n:Nat)(hn:3<=n)(s:ByteArray)(hs:s.size<=1073741824)(w:World) :
  CallsIn F n Tryz.prog 172 #[.string s] w fun e W'=>∃ v,e=.returned v/\Ags w.heap.size W' v (Aaq s.data.toList)/\Below w.heap.size w W':=by
 have hro:F.round=none:=hF.ro
 have h23:F.fn 189:=hF.fn _
 have h1:1<=n:=by omega
 have hpl:=Axk s.data.toList
 rw[Aas]at hpl
 obtain⟨i0,hi,hz0,hz1,hz2⟩:=info_parts Ay9
 refine callsIn_of_wp_marks Tryz.func172 rfl (hF.fn _) ?_ hro
 simp only[Tryz.ntmps172,List.size_toArray,List.length_cons,List.length_nil,Nat.reduceAdd,Nat.reduceSub,Array.replicate_succ,Array.replicate_zero,List.push_toArray,List.append_toArray,List.nil_append,List.cons_append]
 gi_wp2_with (gi_at_call 189;refine(Awz F hF (n - 1) _ _).mono ?_;rintro e w' ⟨rfl,rfl⟩)
 have bO:=Boxed.new w 61 (.slice none 0 0)
 have bN:=Boxed.new (w.alloc (.cells #[.slice none 0 0] 61)) 9 (.string s)
 rw[World.size_alloc]at bN
 have hB0:Below w.heap.size w ((w.alloc (.cells #[.slice none 0 0] 61)).alloc (.cells #[.string s] 9)):=((Below.refl _ w).alloc (Nat.le_refl _) _).alloc (by simp) _
 refine wpIn_rangeFunc_ownG hro h1 (gf:=199) (lb:=#[.pointer (some ⟨w.heap.size+1,0,none⟩)]) rfl (hF.fn _) (enters_of Tryz.func199 (by kernel_rfl) rfl)
  (Aol F hF (n - 1) (by omega) (w.heap.size+1) s hs _ (by simp) bN.cell) Azd (Azc (by simp)) (Below.refl _ _) (fun _=>rfl)
  (fun pre W=>(∃ v,Boxed W w.heap.size 61 v/\W.ownsRow (w.heap.size+2) 9 1 v pre.length (pre.map strv)/\True)/\Boxed W (w.heap.size+1) 9 (.string s)/\Below w.heap.size w W)
  (fun _ _ _=>False)
  (OwnFrom.and (Own.from (holdsRow_own (w.heap.size+2) w.heap.size 61 9 1 (fun pre:List (List UInt8)=>pre.length) (fun pre=>pre.map strv) (fun _ _=>True)) _) (OwnFrom.and (Own.from (boxed_own _ _ _) _) (ownFrom_below (Nat.le_refl _) (by simp;omega))))
  (fun _ _ _ _ _ hs _ _=>hs)
  ⟨⟨_,bO.alloc _,World.ownsRow_nil _ _ _ _,trivial⟩,bN,hB0⟩
  (fun x=>{ tmps:=#[.string s,undef,.slice none 0 0,.pointer (some ⟨w.heap.size,0,none⟩),.string ⟨x.toArray⟩,.string s,.func (.func 199) #[] #[.pointer (some ⟨w.heap.size+1,0,none⟩)],.string ⟨x.toArray⟩,undef,undef,undef,undef,undef],defers:=[] }) ?assign ?body ?done ?stop
 case assign=>
  intro l x W K hK
  gi_wp2
  exact hK
 case body=>
  rintro l pre x W ⟨⟨v,hv,hrow,-⟩,hp,hB⟩ hlt
  have hc:=hv.cell
  have hpz:=hp.lt
  have hne:∀ k,v.ownBlock=some k->k≠w.heap.size+1:=fun k e=>by have:=(hrow.lt k e).1;omega
  gi_wp2_with (gi_at_builtin;refine wpListIn_append_own _ rfl _ _ 61 rfl (w.heap.size+2) 9 i0 (.string ByteArray.empty) 1 16 Tryz.underlying61 hi hz0 hz1 hz2 rfl (by decide) _ _ _ rfl (hrow.alloc _) ⟨W.heap.size,0,none⟩ 1 1 [.string ⟨x.toArray⟩] rfl rfl (cell_one_new _ _ _) (fun x hx=>by simp at hx;subst hx;rfl) (by unfold maxLen;omega) (by omega) (by simp;omega) ?_;intro v' w1 hown' hgrow _;obtain⟨g',cap',rfl⟩:=ownsRow_succ hown';obtain⟨hv1,hv2,hr2,hk2,hb2⟩:=hv.appended (by decide) (Alp hrow (Nat.le_add_right _ 2)) hB.size (Nat.le_refl _) (Alp hown' (Nat.le_add_right _ 2)) hgrow;have hc1:=hv1.cell;have hf1:=hv1.frozen)
  have hp1:=(hp.alloc (.cells #[.string ⟨x.toArray⟩] 9)).kept hgrow (fun e=>hne _ e.symm rfl)
  refine⟨hk2.from _,?_,⟨_,hv2,?_,trivial⟩,hp1.other (by omega) _,hB.trans hb2⟩
  ·exact((hp1.other (B':=w.heap.size) (by omega) _).trans hp.symm)
  ·simpa[strv] using hown'.kept (grownBy_setCell' _ w.heap.size _) (.inr (hv1.not_row (by decide) hown').symm)
 case done=>
  rintro D ys W hD rfl ⟨⟨v,hv,hrow,-⟩,-,hB⟩ hK
  have hc:=hv.cell
  gi_wp2
  refine⟨by simp,.inl ⟨_,_,rfl,run_takeDeferred hK,?_⟩⟩
  exact⟨_,results_tmp rfl _ _ _,v,rfl,ownsRow_putObj (Alp hrow (Nat.le_add_right _ 2)) _ hK rfl,hB.trans (belowK_b (w:=w) (Nat.le_refl _) W D _ _ (by simp at hD;omega) hK rfl rfl)⟩
 case stop=>
  rintro D c pre W _ _ h _
  exact h.elim
theorem Ajx (s:ByteArray)(hs:s.size<=1073741824)(w:World) :
  Calls Tryz.prog 172 #[.string s] w fun e W'=>∃ v,e=.returned v/\Ags w.heap.size W' v (Aaq s.data.toList)/\Below w.heap.size w W':=
 callsIn_wide.1 (Axj Fence.wide Ahm 3 (Nat.le_refl _) s hs w)
end Go.Proofs.YtkdfbliiblojoaaGreatDoor
namespace Go.Proofs.YtkdfbliiblojoaaGreatDoor
open Go Go.RowKit
theorem Aic (a:Option Addr)(cap:Nat)(m b k:Int)(L:List Ino)(v:Bool)(hv:dirB L k=v)(w:World)(hN:Aad w a cap L) :
  Calls Tryz.prog 137 #[.agg #[.slice a L.length cap,.int .i64 m,.int .i64 b],.int .i64 k] w fun e w'=>e=.returned (.bool v)/\Below w.heap.size w w':=by
 have hb1:=Aab w (.cells #[.slice a L.length cap,.int .i64 m,.int .i64 b] 24)
 have hM:=hN.below hb1
 have HM:=Hd hM
 have hcap:=hN.1
 have hmax:=hN.2.1
 unfold maxLen at hmax
 clear hM hN
 by_cases h0:0<=k
 ·by_cases h1:k < L.length
  ·obtain⟨n,rfl⟩:∃ n:Nat,k=(n:Int):=⟨k.toNat,by omega⟩
   have hn:n < L.length:=by omega
   have hd:dirB L (n:Int)=(L[n].kind == 2):=by unfold dirB;rw[Ael L n hn,Aae L n hn];rfl
   rw[hd]at hv
   subst hv
   obtain⟨bb,o,rfl,hx⟩:=HM.out.2.2 n hn
   have x0:=hx.kind
   clear hx hd
   go_enter Tryz.func137,Tryz.ntmps137
   go_wp2_with fail
   all_goals
    go_ret
    exact⟨rfl,hb1⟩
  ·have hd:dirB L k=false:=by unfold dirB Aa5;rw[decide_eq_false h1,Bool.and_false,Bool.false_and]
   rw[hd]at hv
   subst hv
   clear hd
   go_enter Tryz.func137,Tryz.ntmps137
   go_wp2_with fail
   all_goals
    go_ret
    exact⟨rfl,hb1⟩
 ·have hd:dirB L k=false:=by unfold dirB Aa5;rw[decide_eq_false h0,Bool.false_and,Bool.false_and]
  rw[hd]at hv
  subst hv
  clear hd
  go_enter Tryz.func137,Tryz.ntmps137
  go_wp2_with fail
  all_goals
   go_ret
   exact⟨rfl,hb1⟩
theorem Apu (n s:List UInt8)(i:Int)(w:World) :
  Calls Tryz.prog 202 #[.agg #[.string ⟨n.toArray⟩,.int .i64 i],.string ⟨s.toArray⟩] w fun e w'=>e=.returned (.int .i64 (Lib.compareBytes n s))/\Below w.heap.size w w':=by
 have HB:=Hd (Aab w (.cells #[.string ⟨n.toArray⟩,.int .i64 i] 139))
 go_enter Tryz.func202,Tryz.ntmps202
 go_wp2_with fail
 refine(Tryz.strings_Compare _ _ _).mono ?_
 rintro e w' ⟨rfl,rfl⟩
 go_wp2_with fail
 go_ret
 exact⟨rfl,HB.out⟩
def BRel (M:List (List UInt8×Int))(s:List UInt8)(w:World)(iv jv:Value)(wr:World):Prop:=
 ∃ i j:Nat,i<=j/\j<=M.length/\iv=.int .i64 i/\jv=.int .i64 j/\Hid (∀ k (hk:k < M.length),k < i->Op.bytesLess M[k].1 s=true)/\Hid (∀ k (hk:k < M.length),j<=k->Op.bytesLess M[k].1 s=false)/\Below w.heap.size w wr
def BAns (M:List (List UInt8×Int))(s:List UInt8)(e:Ending):Prop:=
 ∃ (i:Nat) (v:Bool),e=.returned (.tuple #[.int .i64 i,.bool v])/\i<=M.length/\(v=true↔∃ h:i < M.length,M[i].1=s)/\(∀ k (hk:k < M.length),k < i->Op.bytesLess M[k].1 s=true)/\(∀ k (hk:k < M.length),i<=k->Op.bytesLess M[k].1 s=false)
theorem Aof (M:List (List UInt8×Int))(hM:M.length<=1024)(hR:Af2 M)(s:List UInt8)(ka:Option Addr)(kcap:Nat)(w:World)(hK:Abn w (.slice ka M.length kcap) M) :
  Calls Tryz.prog 201 #[.slice ka M.length kcap,.string ⟨s.toArray⟩,.func (.func 202) #[] #[]] w fun e w'=>BAns M s e/\Below w.heap.size w w':=by
 obtain⟨ka',kcap',e1,hkc,hkm,hkk⟩:=hK
 simp only[Value.slice.injEq]at e1
 obtain⟨rfl,-,rfl⟩:=e1
 unfold maxLen at hkm
 have HK:=Hd hkk
 have HR:=Hd hR
 clear hkk hR
 go_enter Tryz.func201,Tryz.ntmps201
 go_wp2_with fail
 go_loopw [9,10,11] (fun i j _ wr=>BRel M s w i j wr) (fun i j _ _=>(intOf j).toNat - (intOf i).toNat)
 case atStart=>exact⟨0,M.length,by omega,by omega,rfl,rfl,fun _ _ h=>absurd h (Nat.not_lt_zero _),fun k hk h=>absurd hk (by omega),Below.refl _ _⟩
 case round=>
  obtain⟨i,j,hij,hj,rfl,rfl,hlo,hhi,hbr⟩:=hrel
  have HBR:=Hd hbr
  have hszr:=hbr.size
  clear hbr
  by_cases hlt:i < j
  ·have hih:i<=(i+j) / 2:=by omega
   have hhj:(i+j) / 2 < j:=by omega
   have hhM:(i+j) / 2 < M.length:=by omega
   obtain⟨c1,p1,rfl,z0,z1⟩:=HK.out ((i+j) / 2) hhM
   have y0:=Aaa HBR.out z0
   have y1:=Aaa HBR.out z1
   obtain⟨nm,hnm⟩:∃ nm,nm=M[(i+j) / 2].1:=⟨_,rfl⟩
   obtain⟨ino,hino⟩:∃ ino,ino=M[(i+j) / 2].2:=⟨_,rfl⟩
   rw[<-hnm]at y0
   rw[<-hino]at y1
   have HNM:=Hd hnm
   have hc1:=Ask nm s
   clear z0 z1 hnm hino
   go_wp2_with fail
   refine(Apu nm s ino _).mono ?_
   rintro e w2 ⟨rfl,hb2⟩
   have HB2:=Hd (HBR.out.trans (hb2.mono hszr))
   clear hb2 y0 y1
   cases hls:Op.bytesLess nm s with
   | true=>
    have hneg:=Ail.2 hls
    have hlo':=Hd (show ∀ k (hk:k < M.length),k < (i+j) / 2+1->Op.bytesLess M[k].1 s=true from fun k hk hkh=>by
     by_cases e:k=(i+j) / 2
     ·subst e
      rw[<-HNM.out]
      exact hls
     ·refine Ac2 _ _ _ (HR.out.lt k ((i+j) / 2) hhM (by omega)) ?_
      rw[<-HNM.out]
      exact hls)
    clear hls
    go_wp2_with fail
    go_roundw
    case rel=>exact⟨(i+j) / 2+1,j,by omega,hj,by go_num,rfl,hlo',hhi,HB2.out⟩
    case measure=>simp[intOf] <;> omega
   | false=>
    have hneg:¬ Lib.compareBytes nm s < 0:=fun h=>by rw[Ail.1 h]at hls;cases hls
    have hneg':0<=Lib.compareBytes nm s:=by omega
    have hhi':=Hd (show ∀ k (hk:k < M.length),(i+j) / 2<=k->Op.bytesLess M[k].1 s=false from fun k hk hkh=>by
     cases hb:Op.bytesLess M[k].1 s with
     | false=>rfl
     | true=>
      by_cases e:k=(i+j) / 2
      ·subst e
       rw[<-HNM.out,hls]at hb
       cases hb
      ·have h1:=Ac2 _ _ _ (HR.out.lt ((i+j) / 2) k hk (by omega)) hb
       rw[<-HNM.out,hls]at h1
       cases h1)
    clear hls hneg
    go_wp2_with fail
    go_roundw
    case rel=>exact⟨i,(i+j) / 2,hih,by omega,rfl,by go_num,hlo,hhi',HB2.out⟩
    case measure=>simp[intOf] <;> omega
  ·obtain rfl:i=j:=by omega
   have HFIN:=Hd (show ∀ (e:Ending) (v:Bool),e=.returned (.tuple #[.int .i64 i,.bool v])->(v=true↔∃ h:i < M.length,M[i].1=s)->BAns M s e from fun e v h1 h2=>⟨i,v,h1,hj,h2,hlo.out,hhi.out⟩)
   by_cases hin:i < M.length
   ·obtain⟨c1,p1,rfl,z0,z1⟩:=HK.out i hin
    have y0:=Aaa HBR.out z0
    have y1:=Aaa HBR.out z1
    obtain⟨nm,hnm⟩:∃ nm,nm=M[i].1:=⟨_,rfl⟩
    obtain⟨ino,hino⟩:∃ ino,ino=M[i].2:=⟨_,rfl⟩
    rw[<-hnm]at y0
    rw[<-hino]at y1
    have HNM:=Hd hnm
    clear z0 z1 hnm hino hlt
    go_wp2_with fail
    refine(Apu nm s ino _).mono ?_
    rintro e w2 ⟨rfl,hb2⟩
    have HB2:=Hd (HBR.out.trans (hb2.mono hszr))
    clear hb2 y0 y1
    go_wp2_with fail
    go_ret2
    refine⟨HFIN.out _ _ rfl ?_,HB2.out⟩
    rw[beq_iff_eq,Apc,HNM.out]
    exact⟨fun h=>⟨hin,h⟩,fun⟨_,h⟩=>h⟩
   ·have hin':M.length<=i:=by omega
    clear hlt
    go_wp2_with fail
    go_ret2
    exact⟨HFIN.out _ _ rfl (by simp[hin]),HBR.out⟩
theorem Awq (a:Option Addr)(cap:Nat)(m b d:Int)(nm:List UInt8)(L:List Ino)(hR:∀ k (h:k < L.length),L[k].kids.length<=1024/\Af2 L[k].kids)(w:World)(hN:Aad w a cap L) :
  Calls Tryz.prog 193 #[.agg #[.slice a L.length cap,.int .i64 m,.int .i64 b],.int .i64 d,.string ⟨nm.toArray⟩] w fun e w'=>e=.returned (.int .i64 (kidL L d nm))/\Below w.heap.size w w':=by
 have hb1:=Aab w (.cells #[.slice a L.length cap,.int .i64 m,.int .i64 b] 24)
 have hM:=hN.below hb1
 have hcap:=hN.1
 have hmax:=hN.2.1
 unfold maxLen at hmax
 have HM:=Hd hM
 have HB1:=Hd hb1
 have HR:=Hd hR
 clear hM hN hb1 hR
 obtain⟨F,hF⟩:∃ F,F=kidL L d nm:=⟨_,rfl⟩
 rw[<-hF]
 have HF:=Hd hF
 clear hF
 cases hd:dirB L d with
 | false=>
  have HD:=Hd hd
  have hfin:=Hd (show F=-1 by rw[HF.out];unfold kidL;rw[hd];rfl)
  clear hd
  go_enter Tryz.func193,Tryz.ntmps193
  go_wp2_with fail
  refine(Aic _ _ _ _ _ L _ HD.out _ HM.out).mono ?_
  rintro e w2 ⟨rfl,hb2⟩
  have HB2:=Hd (HB1.out.trans (hb2.mono (by simp)))
  clear hb2
  go_wp2_with fail
  go_ret
  exact⟨by rw[hfin.out];rfl,HB2.out⟩
 | true=>
  obtain⟨n,rfl,hn⟩:=Aa7 (show Aa5 L d=true by unfold dirB at hd;rw[Bool.and_eq_true]at hd;exact hd.1)
  have HD:=Hd hd
  obtain⟨bb,o,rfl,hx⟩:=HM.out.2.2 n hn
  obtain⟨kv,hk1,hks⟩:=hx.kids
  obtain⟨M,hMe⟩:∃ M,M=L[n].kids:=⟨_,rfl⟩
  rw[<-hMe]at hks
  obtain⟨ka,kcap,rfl,hkc,hkm,hkk⟩:=hks
  obtain⟨hM1,hM2⟩:M.length<=1024/\Af2 M:=by rw[hMe];exact HR.out n hn
  have HM2:=Hd hM2
  have hfin:=Hd (show F=Af0 M nm by rw[HF.out];unfold kidL;rw[hd,Aae L n hn,hMe];rfl)
  have hd0:(0:Int)<=(n:Int):=by omega
  have HK:=Hd (show Abn _ (.slice ka M.length kcap) M from⟨ka,kcap,rfl,hkc,hkm,hkk⟩)
  unfold maxLen at hkm
  clear hd hx hMe hkk hM2
  go_enter Tryz.func193,Tryz.ntmps193
  go_wp2_with fail
  refine(Aic _ _ _ _ _ L _ HD.out _ HM.out).mono ?_
  rintro e w2 ⟨rfl,hb2⟩
  obtain⟨q0,q1,q2⟩:=box3 hb2
  have h3:=Aaa hb2 hk1
  have HB2:=Hd (HB1.out.trans (hb2.mono (by simp)))
  have HK2:=Hd (HK.out.below hb2)
  have hs2:=HB2.out.size
  clear hb2 hk1
  go_wp2_with fail
  refine(Aof M hM1 HM2.out nm ka kcap _ HK2.out).mono ?_
  rintro e w3 ⟨⟨i,v,rfl,hi,hv,hlo,hhi⟩,hb3⟩
  have HB3:=Hd (HB2.out.trans (hb3.mono hs2))
  have HA:=Hd (Av7 HM2.out nm i hlo hhi)
  have HV:=Hd hv
  have HK3:=Hd (HK2.out.below hb3)
  clear hb3 hlo hhi hv h3 q0 q1 q2
  cases v with
  | false=>
   have HE:=Hd (show F=-1 by
    rw[hfin.out]
    refine HA.out.2 (fun hi e=>?_)
    have h:=HV.out.2 ⟨hi,e⟩
    cases h)
   go_wp2_with fail
   go_ret
   exact⟨by rw[HE.out];rfl,HB3.out⟩
  | true=>
   obtain⟨hil,he⟩:=HV.out.1 (by simp)
   have HE:=Hd (show F=M[i].2 by rw[hfin.out];exact HA.out.1 hil he)
   obtain⟨ka',kcap',e1,-,-,hkk⟩:=HK3.out
   simp only[Value.slice.injEq]at e1
   obtain⟨rfl,-,rfl⟩:=e1
   obtain⟨c1,p1,rfl,z0,z1⟩:=hkk i hil
   have hi0:(0:Int)<=(i:Int):=by omega
   have hil':(i:Int) < (M.length:Int):=by omega
   clear he hkk z0
   go_wp2_with fail
   go_ret
   exact⟨by rw[HE.out];rfl,HB3.out⟩
theorem Afe (a:Option Addr)(cap:Nat)(m b d:Int)(nm:List UInt8)(L:List Ino)(hR:∀ k (h:k < L.length),L[k].kids.length<=1024/\Af2 L[k].kids)(z:Int)(hz:kidL L d nm=z)(w:World)(hN:Aad w a cap L) :
  Calls Tryz.prog 193 #[.agg #[.slice a L.length cap,.int .i64 m,.int .i64 b],.int .i64 d,.string ⟨nm.toArray⟩] w fun e w'=>e=.returned (.int .i64 z)/\Below w.heap.size w w':=by
 subst hz
 exact Awq a cap m b d nm L hR w hN
section
variable {k : Krn} {f : List Int} {er ew : Nat -> Int}
theorem FitE.at_zero (_h:FitE k f er ew){fd:Nat}(hfd:fd < f.length):f.getD fd 0=f[fd]:=Abx f fd hfd 0
theorem FitE.desc (h:FitE k f er ew){fd:Nat}(hfd:fd < f.length)(h0:f[fd]≠0):∃ j:Nat,∃ hj:j < k.opens.length,f[fd]=(j:Int)+1/\k.opens[j].kind≠0/\(f.count ((j:Int)+1):Int)<=k.opens[j].refs:=by
 rcases h.fds fd hfd with h1|⟨j,hj,h2,h3,h4⟩
 ·exact absurd h1 h0
 ·rw[h2]at h4
  exact⟨j,hj,h2,h3,h4⟩
theorem Ah7 (h:FitE k f er ew){fd:Nat}(hfd:fd < f.length):(f[fd]=0/\Abh k f fd=(k,f))∨∃ j:Nat,∃ hj:j < k.opens.length,f[fd]=(j:Int)+1/\k.opens[j].kind≠0/\(f.count ((j:Int)+1):Int)<=k.opens[j].refs/\Abh k f fd=(Abg k j,f.set fd 0):=by
 unfold Abh
 rw[h.at_zero hfd]
 by_cases h0:f[fd]=0
 ·rw[if_pos h0]
  exact .inl ⟨h0,rfl⟩
 ·obtain⟨j,hj,h1,h2,h3⟩:=h.desc hfd h0
  rw[if_neg h0]
  exact .inr ⟨j,hj,h1,h2,h3,by rw[h1,show ((j:Int)+1 - 1).toNat=j by omega]⟩
theorem Alv (h:FitE k f er ew)(her:∀ i,0<=er i)(hew:∀ i,0<=ew i){fd:Nat}(hfd:fd < f.length):FitE (Abh k f fd).1 (Abh k f fd).2 er ew:=by
 rcases Ah7 h hfd with ⟨-,e⟩|⟨j,hj,h1,h2,h3,e⟩
 ·rw[e];exact h
 ·rw[e];exact Awo h her hew hfd hj h1
theorem Anb (h:FitE k f er ew){fd:Nat}(hfd:fd < f.length)(i:Nat):(Abh k f fd).2.getD i 0=if fd=i then 0 else f.getD i 0:=by
 rcases Ah7 h hfd with ⟨h0,e⟩|⟨j,hj,h1,h2,h3,e⟩
 ·rw[e]
  split
  ·rename_i e2
   subst e2
   rw[h.at_zero hfd];exact h0
  ·rfl
 ·rw[e]
  show (f.set fd 0).getD i 0=_
  rw[List.getD_eq_getElem?_getD,List.getD_eq_getElem?_getD,List.getElem?_set]
  split
  ·rename_i e2
   subst e2
   rfl
  ·rfl
theorem Ahr (k:Krn)(f:List Int)(fd:Nat):(Abh k f fd).1.opens.length=k.opens.length/\(Abh k f fd).2.length=f.length:=by
 unfold Abh
 split
 ·exact⟨rfl,rfl⟩
 ·exact⟨Ac1 _ _,List.length_set ..⟩
theorem Ak0 (h:FitE k f er ew){fd:Nat}(hfd:fd < f.length){j:Nat}(hS:Anp k f j):Anp (Abh k f fd).1 (Abh k f fd).2 j:=by
 obtain⟨hj,hk,hc⟩:=hS
 rcases Ah7 h hfd with ⟨-,e⟩|⟨j0,hj0,h1,h2,h3,e⟩
 ·rw[e];exact⟨hj,hk,hc⟩
 ·rw[e]
  have hcs:=Ak8 f fd hfd 0 ((j:Int)+1)
  rw[if_neg (show ¬ (0:Int)=(j:Int)+1 by omega)]at hcs
  refine⟨by rw[Ac1];exact hj,?_⟩
  by_cases ej:j0=j
  ·subst ej
   rw[if_pos h1]at hcs
   have h5:=Ape f fd hfd
   rw[h1]at h5
   have hne:k.opens[j0].refs≠1:=by omega
   have hE:=Adm k j0 hj hne
   have hO:(Abg k j0).opens[j0]'(by rw[Ac1];exact hj)={ k.opens[j0]with refs:=k.opens[j0].refs - 1 }:=by simp only[hE,List.getElem_set_self]
   rw[hO]
   exact⟨hk,by show ((f.set fd 0).count _:Int)+1<=k.opens[j0].refs - 1;omega⟩
  ·rw[if_neg (by omega)]at hcs
   rw[Aen k j0 j ej hj]
   exact⟨hk,by show ((f.set fd 0).count _:Int)+1<=_;omega⟩
theorem Apw (h:FitE k f er ew){fd:Nat}(hfd:fd < f.length)(h0:f[fd]=0){j:Nat}(hS:Anp k f j):FitE k (f.set fd ((j:Int)+1)) er ew:=by
 obtain⟨hj,hk,hc⟩:=hS
 refine⟨h.tree,h.np,h.no,h.o0,h.o1,h.opens,h.pipes,by rw[List.length_set];exact h.len,fun i hi=>?_⟩
 have hi':i < f.length:=by rw[List.length_set]at hi;exact hi
 have hcs:=fun y=>Ak8 f fd hfd ((j:Int)+1) y
 by_cases e:fd=i
 ·subst e
  have e2:(f.set fd ((j:Int)+1))[fd]=(j:Int)+1:=List.getElem_set_self ..
  refine .inr ⟨j,hj,e2,hk,?_⟩
  rw[e2,hcs,if_neg (by omega),if_pos rfl]
  omega
 ·have e2:(f.set fd ((j:Int)+1))[i]=f[i]:=List.getElem_set_ne e ..
  rw[e2]
  rcases h.fds i hi' with h1|⟨j2,hj2,h2,h3,h4⟩
  ·exact .inl h1
  ·refine .inr ⟨j2,hj2,h2,h3,?_⟩
   rw[hcs,if_neg (by omega)]
   by_cases ej:j=j2
   ·subst ej
    rw[if_pos h2.symm]
    rw[h2]at h4 ⊢
    omega
   ·rw[if_neg (by omega)]
    omega
def putK (O:List Opn)(o:Opn):List Opn×Int:=
 match O.findIdx? (fun x=>x.kind == 0)with
 | some i=>(O.set i o,(i:Int)+1)
 | none=>if 64<=O.length then(O,0)else(O ++ [o],(O.length:Int)+1)
theorem Aho {O:List Opn}{o:Opn}{O':List Opn}{a:Int}(hz:putK O o=(O',a))(ha:a≠0) :
  (∃ i:Nat,∃ hi:i < O.length,O[i].kind=0/\O'=O.set i o/\a=(i:Int)+1)∨(O.length < 64/\O'=O ++ [o]/\a=(O.length:Int)+1):=by
 unfold putK at hz
 split at hz
 ·rename_i i hi
  obtain⟨h1,h2,-⟩:=List.findIdx?_eq_some_iff_getElem.1 hi
  simp only[Prod.mk.injEq]at hz
  exact .inl ⟨i,h1,by simpa using h2,hz.1.symm,hz.2.symm⟩
 ·split at hz
  ·simp only[Prod.mk.injEq]at hz
   exact absurd hz.2.symm ha
  ·simp only[Prod.mk.injEq]at hz
   exact .inr ⟨by omega,hz.1.symm,hz.2.symm⟩
def Adb (e:Nat->Int)(kd:Int)(o:Opn):Nat->Int:=fun i=>e i - (if Acw kd i o=true then 1 else 0)
theorem Aup (h:FitE k f er ew){o:Opn}(hg:Abb k.tree k.pipes.length o)(hk:o.kind≠0)(hr:o.refs=1){O':List Opn}{a:Int}(hz:putK k.opens o=(O',a))(ha:a≠0) :
  ∃ j:Nat,a=(j:Int)+1/\Anp { k with opens:=O' } f j/\FitE { k with opens:=O' } f (Adb er 2 o) (Adb ew 3 o)/\(∀ j2,Anp k f j2->Anp { k with opens:=O' } f j2/\j≠j2):=by
 rcases Aho hz ha with ⟨i,hi,h0,rfl,rfl⟩|⟨hlen,rfl,rfl⟩
 ·
  have hno:k.opens[i]=Aav:=Amj (h.opens i hi) h0
  have hends:∀ kd:Int,kd≠0->∀ q,(Abw (k.opens.set i o) kd q:Int)=Abw k.opens kd q+(if Acw kd q o=true then 1 else 0):=fun kd hkd q=>by
   rw[Ahc _ i hi,hno,if_neg (show ¬ Acw kd q Aav=true by rw[Akl kd hkd];decide)]
   omega
  have hcnt:f.count ((i:Int)+1)=0:=by
   rw[List.count_eq_zero]
   intro hm
   obtain⟨q,hq,e⟩:=List.getElem_of_mem hm
   rcases h.fds q hq with h1|⟨j2,hj2,h2,h3,-⟩
   ·omega
   ·obtain rfl:i=j2:=by omega
    exact h3 h0
  refine⟨i,rfl,⟨by show i < (k.opens.set i o).length;rw[List.length_set];exact hi,?_⟩,⟨h.tree,h.np,by show (k.opens.set i o).length<=64;rw[List.length_set];exact h.no,h.o0,h.o1,fun q hq=>?_,fun q hq=>?_,h.len,fun q hq=>?_⟩,fun j2 hS=>?_⟩
  ·have hii:i < (k.opens.set i o).length:=by rw[List.length_set];exact hi
   have e:(k.opens.set i o)[i]=o:=List.getElem_set_self ..
   show (k.opens.set i o)[i].kind≠0/\_<=(k.opens.set i o)[i].refs
   rw[e,hcnt,hr]
   exact⟨hk,by decide⟩
  ·have hq':q < k.opens.length:=by have:q < (k.opens.set i o).length:=hq;rw[List.length_set]at this;exact this
   show Abb k.tree k.pipes.length (k.opens.set i o)[q]
   by_cases e:i=q
   ·subst e
    rw[List.getElem_set_self];exact hg
   ·rw[List.getElem_set_ne e];exact h.opens q hq'
  ·obtain⟨p1,p2,p3⟩:=h.pipes q hq
   have e2:=hends 2 (by decide) q
   have e3:=hends 3 (by decide) q
   show Ace k.pipes[q]=true/\k.pipes[q].rd=(Abw (k.opens.set i o) 2 q:Int)+Adb er 2 o q/\(k.pipes[q].wr=(Abw (k.opens.set i o) 3 q:Int)+Adb ew 3 o q∨(q=0/\k.pipes[q].wr<=(Abw (k.opens.set i o) 3 q:Int)+Adb ew 3 o q))
   unfold Adb
   rw[e2,e3]
   exact⟨p1,by omega,by omega⟩
  ·rcases h.fds q hq with h1|⟨j2,hj2,h2,h3,h4⟩
   ·exact .inl h1
   ·have e:i≠j2:=fun e=>by subst e;exact h3 h0
    have hjj:j2 < (k.opens.set i o).length:=by rw[List.length_set];exact hj2
    refine .inr ⟨j2,hjj,h2,?_⟩
    show (k.opens.set i o)[j2].kind≠0/\_<=(k.opens.set i o)[j2].refs
    rw[List.getElem_set_ne e]
    exact⟨h3,h4⟩
  ·obtain⟨hj,hk2,hc⟩:=hS
   have e:i≠j2:=fun e=>by subst e;exact hk2 h0
   have hjj:j2 < (k.opens.set i o).length:=by rw[List.length_set];exact hj
   refine⟨⟨hjj,?_⟩,e⟩
   show (k.opens.set i o)[j2].kind≠0/\_<=(k.opens.set i o)[j2].refs
   rw[List.getElem_set_ne e]
   exact⟨hk2,hc⟩
 ·
  have hcnt:f.count ((k.opens.length:Int)+1)=0:=by
   rw[List.count_eq_zero]
   intro hm
   obtain⟨q,hq,e⟩:=List.getElem_of_mem hm
   rcases h.fds q hq with h1|⟨j2,hj2,h2,h3,-⟩
   ·omega
   ·omega
  have hlen2:(k.opens ++ [o]).length=k.opens.length+1:=by simp
  refine⟨k.opens.length,rfl,⟨by show k.opens.length < (k.opens ++ [o]).length;omega,?_⟩,⟨h.tree,h.np,by show (k.opens ++ [o]).length<=64;omega,h.o0,h.o1,fun q hq=>?_,fun q hq=>?_,h.len,fun q hq=>?_⟩,fun j2 hS=>?_⟩
  ·have hii:k.opens.length < (k.opens ++ [o]).length:=by omega
   have e:(k.opens ++ [o])[k.opens.length]=o:=List.getElem_concat_length rfl _
   show (k.opens ++ [o])[k.opens.length].kind≠0/\_<=(k.opens ++ [o])[k.opens.length].refs
   rw[e,hcnt,hr]
   exact⟨hk,by decide⟩
  ·have hq':q < (k.opens ++ [o]).length:=hq
   show Abb k.tree k.pipes.length (k.opens ++ [o])[q]
   by_cases e:q < k.opens.length
   ·rw[List.getElem_append_left e];exact h.opens q e
   ·have e2:q=k.opens.length:=by omega
    subst e2
    rw[List.getElem_concat_length rfl];exact hg
  ·obtain⟨p1,p2,p3⟩:=h.pipes q hq
   have e2:=Ain k.opens o 2 q
   have e3:=Ain k.opens o 3 q
   show Ace k.pipes[q]=true/\k.pipes[q].rd=(Abw (k.opens ++ [o]) 2 q:Int)+Adb er 2 o q/\(k.pipes[q].wr=(Abw (k.opens ++ [o]) 3 q:Int)+Adb ew 3 o q∨(q=0/\k.pipes[q].wr<=(Abw (k.opens ++ [o]) 3 q:Int)+Adb ew 3 o q))
   unfold Adb
   rw[e2,e3]
   exact⟨p1,by omega,by omega⟩
  ·rcases h.fds q hq with h1|⟨j2,hj2,h2,h3,h4⟩
   ·exact .inl h1
   ·have hjj:j2 < (k.opens ++ [o]).length:=by omega
    refine .inr ⟨j2,hjj,h2,?_⟩
    show (k.opens ++ [o])[j2].kind≠0/\_<=(k.opens ++ [o])[j2].refs
    rw[List.getElem_append_left hj2]
    exact⟨h3,h4⟩
  ·obtain⟨hj,hk2,hc⟩:=hS
   have hjj:j2 < (k.opens ++ [o]).length:=by omega
   refine⟨⟨hjj,?_⟩,by omega⟩
   show (k.opens ++ [o])[j2].kind≠0/\_<=(k.opens ++ [o])[j2].refs
   rw[List.getElem_append_left hj]
   exact⟨hk2,hc⟩
end
def isFd (fd:Int):Bool:=decide (0<=fd) && decide (fd < 10)
def Aeg (k:Krn)(f:List Int)(fd:Int):Krn×List Int×Int:=
 if isFd fd=false∨f.getD fd.toNat 0=0 then(k,f,9)else((Abh k f fd.toNat).1,(Abh k f fd.toNat).2,0)
def Ade (k:Krn)(j:Nat):Krn:={ k with opens:=k.opens.set j { k.opens.getD j Aav with refs:=(k.opens.getD j Aav).refs+1 } }
def dupK (k:Krn)(f:List Int)(fr to:Int):Krn×List Int×Int:=
 if isFd fr=false∨isFd to=false∨f.getD fr.toNat 0=0 then(k,f,9)else if fr=to then(k,f,0)else
 ((Abh (Ade k (f.getD fr.toNat 0 - 1).toNat) f to.toNat).1,(Abh (Ade k (f.getD fr.toNat 0 - 1).toNat) f to.toNat).2.set to.toNat (f.getD fr.toNat 0),0)
theorem Ac9 {fd:Int}(h:isFd fd=true):∃ n:Nat,fd=(n:Int)/\n < 10:=by
 unfold isFd at h
 simp only[Bool.and_eq_true,decide_eq_true_eq]at h
 exact⟨fd.toNat,by omega,by omega⟩
theorem Ah2 (i:Nat):0<=Am3 i:=Int.le_refl _
theorem Avy {k:Krn}{f:List Int}(h:FitK k f)(fd:Int){k':Krn}{f':List Int}{e:Int}(hz:Aeg k f fd=(k',f',e)):FitK k' f'/\(e≠0->k'=k/\f'=f):=by
 unfold Aeg at hz
 split at hz
 ·simp only[Prod.mk.injEq]at hz
  obtain⟨rfl,rfl,rfl⟩:=hz
  exact⟨h,fun _=>⟨rfl,rfl⟩⟩
 ·rename_i hn
  simp only[Prod.mk.injEq]at hz
  obtain⟨rfl,rfl,rfl⟩:=hz
  have hfd:isFd fd=true:=by
   cases hb:isFd fd with
   | true=>rfl
   | false=>exact absurd (.inl hb) hn
  obtain⟨n,rfl,hn10⟩:=Ac9 hfd
  exact⟨Alv h Ah2 Ah2 (by rw[Int.toNat_natCast,h.len];exact hn10),fun h0=>absurd rfl h0⟩
theorem Am0 {k:Krn}{j:Nat}(hj:j < k.opens.length)(kd:Int)(i:Nat):Abw (Ade k j).opens kd i=Abw k.opens kd i:=by
 have h2:=Ahc k.opens j hj { k.opens[j]with refs:=k.opens[j].refs+1 } kd i
 have h3:Acw kd i { k.opens[j]with refs:=k.opens[j].refs+1 }=Acw kd i k.opens[j]:=rfl
 rw[h3]at h2
 have h1:(Ade k j).opens=k.opens.set j { k.opens[j]with refs:=k.opens[j].refs+1 }:=by
  unfold Ade
  rw[Abx _ j hj]
 rw[h1]
 omega
theorem Alj {k:Krn}{j:Nat}(hj:j < k.opens.length)(i:Nat)(hi:i < k.opens.length):(Ade k j).opens[i]'(by unfold Ade;rw[List.length_set];exact hi)=if j=i then { k.opens[j]with refs:=k.opens[j].refs+1 }else k.opens[i]:=by
 unfold Ade
 simp only[Abx _ j hj,List.getElem_set]
theorem Ahh (k:Krn)(j:Nat):(Ade k j).opens.length=k.opens.length:=by unfold Ade;exact List.length_set ..
theorem Awx {k:Krn}{f:List Int}{er ew:Nat->Int}(h:FitE k f er ew){j:Nat}(hj:j < k.opens.length)(hk:k.opens[j].kind≠0)(hr:k.opens[j].refs<=999):FitE (Ade k j) f er ew:=by
 refine⟨h.tree,h.np,by rw[Ahh];exact h.no,h.o0,h.o1,fun i hi=>?_,fun i hi=>?_,h.len,fun i hi=>?_⟩
 ·have hi':i < k.opens.length:=by rw[Ahh]at hi;exact hi
  rw[Alj hj i hi']
  split
  ·rename_i e
   subst e
   have:=Aje (h.opens j hj) hk
   exact Amk (h.opens j hj) hk (by omega) (by omega)
  ·exact h.opens i hi'
 ·rw[Am0 hj,Am0 hj]
  exact h.pipes i hi
 ·rcases h.fds i hi with h1|⟨j2,hj2,h2,h3,h4⟩
  ·exact .inl h1
  ·refine .inr ⟨j2,by rw[Ahh];exact hj2,h2,?_⟩
   rw[Alj hj j2 hj2]
   split
   ·rename_i e
    subst e
    exact⟨hk,by show _<=k.opens[j].refs+1;omega⟩
   ·exact⟨h3,h4⟩
theorem Ban {k:Krn}{f:List Int}(h:FitK k f)(hr:∀ o∈k.opens,o.refs<=900)(fr to:Int){k':Krn}{f':List Int}{e:Int}(hz:dupK k f fr to=(k',f',e)):FitK k' f'/\(e≠0->k'=k/\f'=f):=by
 unfold dupK at hz
 split at hz
 ·simp only[Prod.mk.injEq]at hz
  obtain⟨rfl,rfl,rfl⟩:=hz
  exact⟨h,fun _=>⟨rfl,rfl⟩⟩
 rename_i hn
 split at hz
 ·simp only[Prod.mk.injEq]at hz
  obtain⟨rfl,rfl,rfl⟩:=hz
  exact⟨h,fun _=>⟨rfl,rfl⟩⟩
 simp only[Prod.mk.injEq]at hz
 obtain⟨rfl,rfl,rfl⟩:=hz
 refine⟨?_,fun h0=>absurd rfl h0⟩
 simp only[not_or]at hn
 obtain⟨n1,n2,n3⟩:=hn
 obtain⟨a,rfl,ha⟩:=Ac9 (show isFd fr=true by simpa using n1)
 obtain⟨c,rfl,hc⟩:=Ac9 (show isFd to=true by simpa using n2)
 rw[Int.toNat_natCast]at n3
 rw[Int.toNat_natCast,Int.toNat_natCast]
 have hal:a < f.length:=by rw[h.len];exact ha
 have hcl:c < f.length:=by rw[h.len];exact hc
 rw[h.at_zero hal]at n3 ⊢
 obtain⟨j,hj,h1,h2,h3⟩:=h.desc hal n3
 rw[h1,show ((j:Int)+1 - 1).toNat=j by omega]
 have hF:=Awx h hj h2 (by have:=hr _ (List.getElem_mem hj);omega)
 have hS:Anp (Ade k j) f j:=by
  refine⟨by rw[Ahh];exact hj,?_⟩
  rw[Alj hj j hj,if_pos rfl]
  exact⟨h2,by show _+1<=k.opens[j].refs+1;omega⟩
 have hF2:=Alv hF Ah2 Ah2 hcl
 have hS2:=Ak0 hF hcl hS
 have hl2:c < (Abh (Ade k j) f c).2.length:=by rw[(Ahr _ _ _).2];exact hcl
 have hz2:=Anb hF hcl c
 rw[if_pos rfl,Abx _ c hl2]at hz2
 exact Apw hF2 hl2 hz2 hS2
theorem Ald {x:Ino}(ha:Abl x=true)(h0:x.kind≠0)(h2:x.kind≠2)(h3:x.kind≠3):x.kind=1:=by
 unfold Abl at ha
 rw[if_neg h0]at ha
 split at ha
 ·cases ha
 split at ha
 ·assumption
 first
 | cases ha
 | (rw[if_neg h3,if_neg h2]at ha;cases ha)
theorem Ajf {L:List Ino}{np:Nat}{o:Opn}(h0:o.off=0)(h1:o.refs=1)(h:(o.kind=1/\(o.flags=1∨o.flags=2∨o.flags=3∨o.flags=6∨o.flags=7)/\∃ n:Nat,∃ hn:n < L.length,o.at_=(n:Int)/\L[n].kind=1) ∨
   (o.kind=2/\(∃ n:Nat,n < np/\o.at_=(n:Int))/\o.off=0/\o.flags=1) ∨
   (o.kind=3/\(∃ n:Nat,n < np/\o.at_=(n:Int))/\o.off=0/\o.flags=2) ∨
   (o.kind=4/\(o.at_=0∨o.at_=1)/\o.off=0/\o.flags=2)):Abb L np o:=.inr ⟨by omega,by omega,by omega,by omega,h⟩
def Aer (L L':List Ino):Prop:=∀ n (hn:n < L.length),L[n].kind=1->∃ hn':n < L'.length,L'[n].kind=1
theorem Ahz (L:List Ino):Aer L L:=fun _ hn h=>⟨hn,h⟩
theorem Aki {L:List Ino}{k:Nat}(hk:k < L.length)(d:List UInt8):Aer L (Ae9 L k d):=fun n hn h=>by
 refine⟨by rw[Afm];exact hn,?_⟩
 unfold Ae9
 rw[List.getElem_set]
 split
 ·rename_i e
  subst e
  rw[Aae L k hk]
  exact h
 ·exact h
def Aat (how:Int):Int×Int:=if how=0 then(4,1)else if how=2 then(2,6)else if how=3 then(6,3)else(2,2)
def Aaw (L:List Ino)(b cwd:Int)(p:List UInt8)(how:Int):List Ino×Int×Int:=
 if (Acp L cwd p true).2=2/\how≠0 then Adr L cwd p 6 else
 if (Acp L cwd p true).2≠0 then(L,0,(Acp L cwd p true).2)else
 if how=4/\(Aai L (Acp L cwd p true).1).kind=1 then(L,0,17)else
 if (Aai L (Acp L cwd p true).1).kind=2/\how≠0 then(L,0,21)else
 if mayL L (Acp L cwd p true).1 (Aat how).1=false then(L,0,13)else
 if (Aai L (Acp L cwd p true).1).kind=2 then(L,0,21)else
 if how=1∨how=4 then((cutW L b (Acp L cwd p true).1 0).1,(Acp L cwd p true).1,(cutW L b (Acp L cwd p true).1 0).2)else(L,(Acp L cwd p true).1,0)
theorem Aj0 {L:List Ino}{m b:Int}(hF:FitP L m b){cwd:Int}{p:List UInt8}{how:Int}{L':List Ino}{ino:Int}(hz:Aaw L b cwd p how=(L',ino,0)) :
  FitP L' m b/\Aer L L'/\∃ n:Nat,∃ hn:n < L'.length,ino=(n:Int)/\L'[n].kind=1:=by
 unfold Aaw at hz
 split at hz
 ·
  obtain⟨-,hM⟩:=(Ai9 hF hz).1 rfl
  obtain⟨d,s,j,rfl,-,hL,⟨hj,hj0⟩,hA,-⟩:=hM.made
  have hfit:=hA.fits
  rw[<-hL]at hfit
  have hd:=hA.dlt
  have hdj:d≠j:=hA.ne
  have hdk:=hA.dir
  refine⟨hfit,fun n hn h1=>?_,j,by rw[hL,Acd];exact hj,rfl,?_⟩
  ·refine⟨by rw[hL,Acd];exact hn,?_⟩
   subst hL
   rw[Agt hd s _ n hn]
   have e1:d≠n:=fun e=>by subst e;omega
   have e2:j≠n:=fun e=>by subst e;omega
   rw[if_neg e1,if_neg e2]
   exact h1
  ·subst hL
   rw[Agt hd s _ j hj,if_neg hdj,if_pos rfl]
   rfl
 split at hz
 ·rename_i h2
  simp only[Prod.mk.injEq]at hz
  exact absurd hz.2.2 h2
 rename_i hw0
 have hw:(Acp L cwd p true).2=0:=by simpa using hw0
 obtain⟨hlive,h3⟩:=(Aj5 hF cwd p).2 hw
 obtain⟨n,hn,hwz,hk0⟩:=Alg hlive
 rw[hwz]at hz h3
 rw[Aae L n hn]at hz h3
 split at hz
 ·simp only[Prod.mk.injEq]at hz
  exact absurd hz.2.2 (by decide)
 split at hz
 ·simp only[Prod.mk.injEq]at hz
  exact absurd hz.2.2 (by decide)
 split at hz
 ·simp only[Prod.mk.injEq]at hz
  exact absurd hz.2.2 (by decide)
 split at hz
 ·simp only[Prod.mk.injEq]at hz
  exact absurd hz.2.2 (by decide)
 rename_i h2
 have h1:L[n].kind=1:=Ald (hF.ins n hn).1 hk0 h2 h3
 split at hz
 ·simp only[Prod.mk.injEq]at hz
  obtain⟨hL,rfl,he⟩:=hz
  have hc:cutW L b (n:Int) 0=(L',0):=Prod.ext hL he
  obtain⟨n',o,hn',e,-,-,-,hL2,hF2⟩:=(Bam hF hc).1 rfl
  obtain rfl:n=n':=by omega
  refine⟨hF2,by rw[hL2];exact Aki hn _,n,by rw[hL2,Afm];exact hn,rfl,?_⟩
  have h5:=Av2 hn (cutL L[n].data o) (by rw[Afm];exact hn)
  subst hL2
  rw[h5]
  exact h1
 ·simp only[Prod.mk.injEq]at hz
  obtain⟨rfl,rfl,-⟩:=hz
  exact⟨hF,Ahz L,n,hn,rfl,h1⟩
theorem Aj6 (how:Int):(Aat how).2=1∨(Aat how).2=2∨(Aat how).2=3∨(Aat how).2=6∨(Aat how).2=7:=by
 unfold Aat
 split
 ·exact .inl rfl
 split
 ·exact .inr (.inr (.inr (.inl rfl)))
 split
 ·exact .inr (.inr (.inl rfl))
 ·exact .inr (.inl rfl)
theorem Auy {k:Krn}{f:List Int}{er ew:Nat->Int}(h:FitE k f er ew){L':List Ino}(hF:FitP L' k.m k.b)(hs:Aer k.tree L'):FitE { k with tree:=L' } f er ew:=
 ⟨hF,h.np,h.no,h.o0,h.o1,fun i hi=>Ami (h.opens i hi) (Nat.le_refl _) hs,h.pipes,h.len,h.fds⟩
def Afc (k:Krn)(f:List Int)(fd cwd:Int)(p:List UInt8)(how:Int):Krn×List Int×Int:=
 if isFd fd=false then(k,f,9)else if how < 0∨5<=how then(k,f,22)else
 if (Aaw k.tree k.b cwd p how).2.2≠0 then(k,f,(Aaw k.tree k.b cwd p how).2.2)else
 if (putK k.opens ⟨1,(Aaw k.tree k.b cwd p how).2.1,0,(Aat how).2,1⟩).2=0 then(k,f,24)else
 ((Abh { k with tree:=(Aaw k.tree k.b cwd p how).1,opens:=(putK k.opens ⟨1,(Aaw k.tree k.b cwd p how).2.1,0,(Aat how).2,1⟩).1 } f fd.toNat).1,
  (Abh { k with tree:=(Aaw k.tree k.b cwd p how).1,opens:=(putK k.opens ⟨1,(Aaw k.tree k.b cwd p how).2.1,0,(Aat how).2,1⟩).1 } f fd.toNat).2.set fd.toNat (putK k.opens ⟨1,(Aaw k.tree k.b cwd p how).2.1,0,(Aat how).2,1⟩).2,0)
theorem Ahf (er:Nat->Int)(kd:Int)(o:Opn)(h:o.kind≠kd):Adb er kd o=er:=by
 funext i
 unfold Adb
 have:¬ Acw kd i o=true:=by
  unfold Acw
  have e:(o.kind == kd)=false:=by simpa using h
  rw[e]
  simp
 rw[if_neg this]
 omega
theorem Aop {k:Krn}{f:List Int}(h:FitK k f){fd cwd:Int}{p:List UInt8}{how:Int}{k':Krn}{f':List Int}{e:Int}(hz:Afc k f fd cwd p how=(k',f',e)):FitK k' f'/\(e≠0->k'=k/\f'=f):=by
 unfold Afc at hz
 split at hz
 ·simp only[Prod.mk.injEq]at hz
  obtain⟨rfl,rfl,rfl⟩:=hz
  exact⟨h,fun _=>⟨rfl,rfl⟩⟩
 rename_i hfd
 split at hz
 ·simp only[Prod.mk.injEq]at hz
  obtain⟨rfl,rfl,rfl⟩:=hz
  exact⟨h,fun _=>⟨rfl,rfl⟩⟩
 obtain⟨⟨L',ino,et⟩,ht⟩:∃ r,Aaw k.tree k.b cwd p how=r:=⟨_,rfl⟩
 rw[ht]at hz
 simp only at hz
 split at hz
 ·simp only[Prod.mk.injEq]at hz
  obtain⟨rfl,rfl,rfl⟩:=hz
  exact⟨h,fun _=>⟨rfl,rfl⟩⟩
 rename_i het
 obtain rfl:et=0:=by simpa using het
 obtain⟨⟨O',a⟩,hp⟩:∃ r,putK k.opens ⟨1,ino,0,(Aat how).2,1⟩=r:=⟨_,rfl⟩
 rw[hp]at hz
 simp only at hz
 split at hz
 ·simp only[Prod.mk.injEq]at hz
  obtain⟨rfl,rfl,rfl⟩:=hz
  exact⟨h,fun _=>⟨rfl,rfl⟩⟩
 rename_i ha
 simp only[Prod.mk.injEq]at hz
 obtain⟨rfl,rfl,rfl⟩:=hz
 refine⟨?_,fun h0=>absurd rfl h0⟩
 obtain⟨q,rfl,hq⟩:=Ac9 (show isFd fd=true by simpa using hfd)
 rw[Int.toNat_natCast]
 obtain⟨hF,hs,n,hn,rfl,h1⟩:=Aj0 h.tree ht
 have hT:=Auy h hF hs
 have hg:Abb L' k.pipes.length ⟨1,(n:Int),0,(Aat how).2,1⟩:=Ajf rfl rfl (.inl ⟨rfl,Aj6 how,n,hn,rfl,h1⟩)
 obtain⟨j,rfl,hS,hE,-⟩:=Aup hT hg (show (1:Int)≠0 by decide) rfl hp ha
 rw[Ahf _ 2 _ (show (1:Int)≠2 by decide),Ahf _ 3 _ (show (1:Int)≠3 by decide)]at hE
 have hql:q < f.length:=by rw[h.len];exact hq
 have hE2:=Alv hE Ah2 Ah2 hql
 have hS2:=Ak0 hE hql hS
 have hl2:q < (Abh { k with tree:=L',opens:=O' } f q).2.length:=by rw[(Ahr _ _ _).2];exact hql
 have hz2:=Anb hE hql q
 rw[if_pos rfl,Abx _ q hl2]at hz2
 exact Apw hE2 hl2 hz2 hS2
def Afz (k:Krn)(j:Nat)(x:Int):Krn:={ k with opens:=k.opens.set j { k.opens.getD j Aav with off:=x } }
def Ajz (k:Krn)(i:Nat)(p:Pip):Krn:={ k with pipes:=k.pipes.set i p }
section
variable {k : Krn} {f : List Int} {er ew : Nat -> Int}
theorem Auc (h:FitE k f er ew){j:Nat}(hj:j < k.opens.length)(h1:k.opens[j].kind=1){x:Int}(hx0:0<=x)(hx1:x<=65536):FitE (Afz k j x) f er ew:=by
 have hO:(Afz k j x).opens=k.opens.set j { k.opens[j]with off:=x }:=by
  unfold Afz
  rw[Abx _ j hj]
 have hlen:(Afz k j x).opens.length=k.opens.length:=by rw[hO];exact List.length_set ..
 have hat:∀ i (hi:i < k.opens.length),(Afz k j x).opens[i]'(by rw[hlen];exact hi)=if j=i then { k.opens[j]with off:=x }else k.opens[i]:=fun i hi=>by simp only[hO,List.getElem_set]
 have hends:∀ kd i,Abw (Afz k j x).opens kd i=Abw k.opens kd i:=fun kd i=>by
  have h2:=Ahc k.opens j hj { k.opens[j]with off:=x } kd i
  have h3:Acw kd i { k.opens[j]with off:=x }=Acw kd i k.opens[j]:=rfl
  rw[h3,<-hO]at h2
  omega
 refine⟨h.tree,h.np,by rw[hlen];exact h.no,h.o0,h.o1,fun i hi=>?_,fun i hi=>?_,h.len,fun i hi=>?_⟩
 ·have hi':i < k.opens.length:=by rw[hlen]at hi;exact hi
  rw[hat i hi']
  split
  ·rename_i e
   subst e
   rcases h.opens j hj with hg|⟨a1,a2,a3,a4,a5⟩
   ·rw[hg]at h1;exact absurd h1 (by decide)
   ·refine .inr ⟨a1,a2,hx0,hx1,?_⟩
    rcases a5 with a5|⟨b,-⟩|⟨b,-⟩|⟨b,-⟩
    ·exact .inl a5
    all_goals omega
  ·exact h.opens i hi'
 ·rw[hends,hends]
  exact h.pipes i hi
 ·rcases h.fds i hi with h2|⟨j2,hj2,h2,h3,h4⟩
  ·exact .inl h2
  ·refine .inr ⟨j2,by rw[hlen];exact hj2,h2,?_⟩
   rw[hat j2 hj2]
   split
   ·rename_i e
    subst e
    exact⟨h3,h4⟩
   ·exact⟨h3,h4⟩
theorem Aul (h:FitE k f er ew){i:Nat}(hi:i < k.pipes.length){p:Pip}(hp:Ace p=true)(hrd:p.rd=k.pipes[i].rd)(hwr:p.wr=k.pipes[i].wr):FitE (Ajz k i p) f er ew:=by
 have hlen:(Ajz k i p).pipes.length=k.pipes.length:=List.length_set ..
 refine⟨h.tree,by rw[hlen];exact h.np,h.no,h.o0,h.o1,fun q hq=>Ami (h.opens q hq) (by rw[hlen];exact Nat.le_refl _) (Ahz _),fun q hq=>?_,h.len,h.fds⟩
 have hq':q < k.pipes.length:=by rw[hlen]at hq;exact hq
 have e:(Ajz k i p).pipes[q]=if i=q then p else k.pipes[q]:=by
  show (k.pipes.set i p)[q]'(by rw[List.length_set];exact hq')=_
  rw[List.getElem_set]
 rw[e]
 split
 ·rename_i e2
  subst e2
  obtain⟨p1,p2,p3⟩:=h.pipes i hi
  refine⟨hp,hrd.trans p2,?_⟩
  rw[hwr]
  exact p3
 ·exact h.pipes q hq'
theorem Auk (h:FitE k f er ew){o0 o1:List UInt8}(h0:o0.length<=65536)(h1:o1.length<=65536):FitE { k with out0:=o0,out1:=o1 } f er ew:=⟨h.tree,h.np,h.no,h0,h1,h.opens,h.pipes,h.len,h.fds⟩
end
theorem Aur {p:Pip}{n:Int}{q:Pip}{t:List UInt8}{e:Int}(hz:Ack p n=(q,t,e)):q.rd=p.rd/\q.wr=p.wr:=by
 unfold Ack at hz
 split at hz
 ·simp only[Prod.mk.injEq]at hz
  rw[<-hz.1];exact⟨rfl,rfl⟩
 split at hz
 ·split at hz
  ·simp only[Prod.mk.injEq]at hz
   rw[<-hz.1];exact⟨rfl,rfl⟩
  ·simp only[Prod.mk.injEq]at hz
   rw[<-hz.1];exact⟨rfl,rfl⟩
 ·simp only[Prod.mk.injEq]at hz
  rw[<-hz.1];exact⟨rfl,rfl⟩
theorem Ar1 {p:Pip}{s:List UInt8}{q:Pip}{n e:Int}(hz:Abu p s=(q,n,e)):q.rd=p.rd/\q.wr=p.wr:=by
 unfold Abu at hz
 split at hz
 ·simp only[Prod.mk.injEq]at hz
  rw[<-hz.1];exact⟨rfl,rfl⟩
 split at hz
 ·simp only[Prod.mk.injEq]at hz
  rw[<-hz.1];exact⟨rfl,rfl⟩
 split at hz
 ·simp only[Prod.mk.injEq]at hz
  rw[<-hz.1];exact⟨rfl,rfl⟩
 ·simp only[Prod.mk.injEq]at hz
  rw[<-hz.1];exact⟨rfl,rfl⟩
def Ad1 (k:Krn)(f:List Int)(fd n:Int):Krn×List UInt8×Int:=
 if isFd fd=false∨f.getD fd.toNat 0=0 then(k,[],9)else
 let j:=(f.getD fd.toNat 0 - 1).toNat
 let o:=k.opens.getD j Aav
 if o.flags % 2=0 then(k,[],9)else if n < 1 then(k,[],22)else
 if o.kind=1 then(if (Aft k.tree o.at_ o.off n).2≠0 then(k,[],(Aft k.tree o.at_ o.off n).2)else(Afz k j (o.off+((Aft k.tree o.at_ o.off n).1.length:Int)),(Aft k.tree o.at_ o.off n).1,0))else
 if (Ack (k.pipes.getD o.at_.toNat Afb) n).2.2≠0 then(k,[],(Ack (k.pipes.getD o.at_.toNat Afb) n).2.2)else
 (Ajz k o.at_.toNat (Ack (k.pipes.getD o.at_.toNat Afb) n).1,(Ack (k.pipes.getD o.at_.toNat Afb) n).2.1,0)
theorem Aos {k:Krn}{f:List Int}(h:FitK k f){fd n:Int}{k':Krn}{s:List UInt8}{e:Int}(hz:Ad1 k f fd n=(k',s,e)):FitK k' f/\(e≠0->k'=k/\s=[]):=by
 unfold Ad1 at hz
 split at hz
 ·simp only[Prod.mk.injEq]at hz
  obtain⟨rfl,rfl,rfl⟩:=hz
  exact⟨h,fun _=>⟨rfl,rfl⟩⟩
 rename_i hn
 simp only[not_or]at hn
 obtain⟨q,rfl,hq⟩:=Ac9 (show isFd fd=true by simpa using hn.1)
 have hql:q < f.length:=by rw[h.len];exact hq
 have hn2:=hn.2
 rw[Int.toNat_natCast,h.at_zero hql]at hn2
 obtain⟨j,hj,h1,h2,-⟩:=h.desc hql hn2
 rw[Int.toNat_natCast,h.at_zero hql,h1,show ((j:Int)+1 - 1).toNat=j by omega]at hz
 simp only at hz
 rw[Abx _ j hj]at hz
 split at hz
 ·simp only[Prod.mk.injEq]at hz
  obtain⟨rfl,rfl,rfl⟩:=hz
  exact⟨h,fun _=>⟨rfl,rfl⟩⟩
 rename_i hfl
 split at hz
 ·simp only[Prod.mk.injEq]at hz
  obtain⟨rfl,rfl,rfl⟩:=hz
  exact⟨h,fun _=>⟨rfl,rfl⟩⟩
 split at hz
 ·rename_i hk1
  split at hz
  ·simp only[Prod.mk.injEq]at hz
   obtain⟨rfl,rfl,rfl⟩:=hz
   exact⟨h,fun _=>⟨rfl,rfl⟩⟩
  ·rename_i he
   simp only[Prod.mk.injEq]at hz
   obtain⟨rfl,rfl,rfl⟩:=hz
   refine⟨?_,fun h0=>absurd rfl h0⟩
   rcases h.opens j hj with hg|⟨-,-,a3,a4,⟨-,-,u,hu,b1,b2⟩|⟨b,-⟩|⟨b,-⟩|⟨b,-⟩⟩
   ·rw[hg]at hk1;exact absurd hk1 (by decide)
   ·refine Auc h hj hk1 (by omega) ?_
    have hdl:=Ah9 k.tree u hu
    obtain⟨-,-,-,l4,l5⟩:=h.tree.limits
    have hb:∀ x:List UInt8×Int,x=Aft k.tree k.opens[j].at_ k.opens[j].off n->k.opens[j].off+(x.1.length:Int)<=65536:=fun x hx=>by
     unfold Aft at hx
     split at hx
     ·rw[hx];show _+((0:Nat):Int)<=_;omega
     split at hx
     ·rw[hx];show _+((0:Nat):Int)<=_;omega
     ·rw[hx,b1,Aae k.tree u hu]
      show _+((((k.tree[u].data.drop k.opens[j].off.toNat).take n.toNat).length:Nat):Int)<=_
      rw[List.length_take,List.length_drop]
      omega
    exact hb _ rfl
   all_goals omega
 ·rename_i hk1
  split at hz
  ·simp only[Prod.mk.injEq]at hz
   obtain⟨rfl,rfl,rfl⟩:=hz
   exact⟨h,fun _=>⟨rfl,rfl⟩⟩
  ·simp only[Prod.mk.injEq]at hz
   obtain⟨rfl,rfl,rfl⟩:=hz
   refine⟨?_,fun h0=>absurd rfl h0⟩
   have hpipe:∃ u:Nat,u < k.pipes.length/\k.opens[j].at_=(u:Int):=by
    rcases h.opens j hj with hg|⟨-,-,-,-,⟨b,-⟩|⟨-,b,-⟩|⟨-,b,-⟩|⟨-,-,-,b⟩⟩
    ·rw[hg]at h2;exact absurd rfl h2
    ·omega
    ·exact b
    ·exact b
    ·rw[b]at hfl;exact absurd rfl hfl
   obtain⟨u,hu,hat⟩:=hpipe
   rw[hat,Int.toNat_natCast,Abx _ u hu]
   obtain⟨⟨p',t,e'⟩,hr⟩:∃ x,Ack k.pipes[u] n=x:=⟨_,rfl⟩
   rw[hr]
   obtain⟨e1,e2⟩:=Aur hr
   exact Aul h hu (Axq (h.pipes u hu).1 hr).1 e1 e2
def Ab9 (k:Krn)(f:List Int)(fd:Int)(s:List UInt8):Krn×Int×Int:=
 if isFd fd=false∨f.getD fd.toNat 0=0 then(k,0,9)else
 let j:=(f.getD fd.toNat 0 - 1).toNat
 let o:=k.opens.getD j Aav
 if o.flags / 2 % 2=0 then(k,0,9)else
 if o.kind=1 then
  let off:=if 4<=o.flags then((Aai k.tree o.at_).data.length:Int)else o.off
  (if (Ae1 k.tree k.b o.at_ off s).2≠0 then(k,0,(Ae1 k.tree k.b o.at_ off s).2)else(Afz { k with tree:=(Ae1 k.tree k.b o.at_ off s).1 } j (off+(s.length:Int)),(s.length:Int),0))
 else if o.kind=4 then
  (if o.at_=0 then(if 65536 - (k.out0.length:Int) < (s.length:Int)then(k,0,28)else({ k with out0:=k.out0 ++ s,out1:=k.out1 },(s.length:Int),0))
   else(if 65536 - (k.out1.length:Int) < (s.length:Int)then(k,0,28)else({ k with out0:=k.out0,out1:=k.out1 ++ s },(s.length:Int),0)))
 else if (Abu (k.pipes.getD o.at_.toNat Afb) s).2.2≠0 then(k,0,(Abu (k.pipes.getD o.at_.toNat Afb) s).2.2)else
 (Ajz k o.at_.toNat (Abu (k.pipes.getD o.at_.toNat Afb) s).1,(Abu (k.pipes.getD o.at_.toNat Afb) s).2.1,0)
theorem Avp {L:List Ino}{m b:Int}(hF:FitP L m b){k off:Int}{s:List UInt8}{L':List Ino}(h0:0<=off)(h1:off<=65536)(hz:Ae1 L b k off s=(L',0)):FitP L' m b/\Aer L L'/\off+(s.length:Int)<=65536:=by
 rcases (Ax2 hF hz).1 rfl with ⟨rfl,rfl⟩|⟨n,o,hn,rfl,rfl,-,h2,hL,hF2⟩
 ·exact⟨hF,Ahz _,by show off+((0:Nat):Int)<=_;omega⟩
 ·exact⟨hF2,by rw[hL];exact Aki hn _,by omega⟩
theorem Aj8 {k:Krn}{f:List Int}(h:FitK k f){fd:Int}{s:List UInt8}{k':Krn}{n e:Int}(hz:Ab9 k f fd s=(k',n,e)):FitK k' f/\(e≠0->k'=k/\n=0):=by
 unfold Ab9 at hz
 split at hz
 ·simp only[Prod.mk.injEq]at hz
  obtain⟨rfl,rfl,rfl⟩:=hz
  exact⟨h,fun _=>⟨rfl,rfl⟩⟩
 rename_i hn
 simp only[not_or]at hn
 obtain⟨q,rfl,hq⟩:=Ac9 (show isFd fd=true by simpa using hn.1)
 have hql:q < f.length:=by rw[h.len];exact hq
 have hn2:=hn.2
 rw[Int.toNat_natCast,h.at_zero hql]at hn2
 obtain⟨j,hj,h1,h2,-⟩:=h.desc hql hn2
 rw[Int.toNat_natCast,h.at_zero hql,h1,show ((j:Int)+1 - 1).toNat=j by omega]at hz
 simp only at hz
 rw[Abx _ j hj]at hz
 split at hz
 ·simp only[Prod.mk.injEq]at hz
  obtain⟨rfl,rfl,rfl⟩:=hz
  exact⟨h,fun _=>⟨rfl,rfl⟩⟩
 rename_i hfl
 split at hz
 ·rename_i hk1
  obtain⟨off,hoff⟩:∃ x:Int,x=if 4<=k.opens[j].flags then((Aai k.tree k.opens[j].at_).data.length:Int)else k.opens[j].off:=⟨_,rfl⟩
  rw[<-hoff]at hz
  have hob:0<=off/\off<=65536:=by
   rcases h.opens j hj with hg|⟨-,-,a3,a4,⟨-,-,u,hu,b1,b2⟩|⟨b,-⟩|⟨b,-⟩|⟨b,-⟩⟩
   ·rw[hg]at hk1;exact absurd hk1 (by decide)
   ·rw[hoff,b1,Aae k.tree u hu]
    have hdl:=Ah9 k.tree u hu
    obtain⟨-,-,-,l4,l5⟩:=h.tree.limits
    split <;> omega
   all_goals omega
  obtain⟨⟨L',e'⟩,hw⟩:∃ x,Ae1 k.tree k.b k.opens[j].at_ off s=x:=⟨_,rfl⟩
  rw[hw]at hz
  simp only at hz
  split at hz
  ·simp only[Prod.mk.injEq]at hz
   obtain⟨rfl,rfl,rfl⟩:=hz
   exact⟨h,fun _=>⟨rfl,rfl⟩⟩
  ·rename_i he
   simp only[Prod.mk.injEq]at hz
   obtain⟨rfl,rfl,rfl⟩:=hz
   refine⟨?_,fun h0=>absurd rfl h0⟩
   obtain rfl:e'=0:=by simpa using he
   obtain⟨w1,w2,w3⟩:=Avp h.tree hob.1 hob.2 hw
   exact Auc (Auy h w1 w2) hj hk1 (by omega) w3
 split at hz
 ·split at hz
  ·split at hz
   ·simp only[Prod.mk.injEq]at hz
    obtain⟨rfl,rfl,rfl⟩:=hz
    exact⟨h,fun _=>⟨rfl,rfl⟩⟩
   ·simp only[Prod.mk.injEq]at hz
    obtain⟨rfl,rfl,rfl⟩:=hz
    exact⟨Auk h (by rw[List.length_append];omega) h.o1,fun h0=>absurd rfl h0⟩
  ·split at hz
   ·simp only[Prod.mk.injEq]at hz
    obtain⟨rfl,rfl,rfl⟩:=hz
    exact⟨h,fun _=>⟨rfl,rfl⟩⟩
   ·simp only[Prod.mk.injEq]at hz
    obtain⟨rfl,rfl,rfl⟩:=hz
    exact⟨Auk h h.o0 (by rw[List.length_append];omega),fun h0=>absurd rfl h0⟩
 ·rename_i hk1 hk4
  split at hz
  ·simp only[Prod.mk.injEq]at hz
   obtain⟨rfl,rfl,rfl⟩:=hz
   exact⟨h,fun _=>⟨rfl,rfl⟩⟩
  ·simp only[Prod.mk.injEq]at hz
   obtain⟨rfl,rfl,rfl⟩:=hz
   refine⟨?_,fun h0=>absurd rfl h0⟩
   have hpipe:∃ u:Nat,u < k.pipes.length/\k.opens[j].at_=(u:Int):=by
    rcases h.opens j hj with hg|⟨-,-,-,-,⟨b,-⟩|⟨-,b,-⟩|⟨-,b,-⟩|⟨b,-⟩⟩
    ·rw[hg]at h2;exact absurd rfl h2
    ·omega
    ·exact b
    ·exact b
    ·omega
   obtain⟨u,hu,hat⟩:=hpipe
   rw[hat,Int.toNat_natCast,Abx _ u hu]
   obtain⟨⟨p',t,e'⟩,hr⟩:∃ x,Abu k.pipes[u] s=x:=⟨_,rfl⟩
   rw[hr]
   obtain⟨e1,e2⟩:=Ar1 hr
   exact Aul h hu (Avn (h.pipes u hu).1 s hr).1 e1 e2
theorem Auo {O:List Opn}{o:Opn}{O':List Opn}{a:Int}(hz:putK O o=(O',a))(ha:a≠0):∃ j:Nat,a=(j:Int)+1/\(∃ hj:j < O'.length,O'[j]=o)/\∀ i (hi:i < O.length),O[i].kind≠0->i≠j/\∃ hi':i < O'.length,O'[i]=O[i]:=by
 rcases Aho hz ha with ⟨i,hi,h0,rfl,rfl⟩|⟨hlen,rfl,rfl⟩
 ·refine⟨i,rfl,⟨by rw[List.length_set];exact hi,List.getElem_set_self ..⟩,fun q hq hk=>?_⟩
  have e:i≠q:=fun e=>by subst e;exact hk h0
  exact⟨fun e2=>e e2.symm,by rw[List.length_set];exact hq,List.getElem_set_ne e ..⟩
 ·have hl:(O ++ [o]).length=O.length+1:=by simp
  exact⟨O.length,rfl,⟨by omega,List.getElem_concat_length rfl _⟩,fun q hq _=>⟨by omega,by omega,List.getElem_append_left hq⟩⟩
def Ahd (L:List Ino)(o:Opn):Bool:=
 (decide (0<=o.at_) && decide (o.at_ < (L.length:Int)) && (Aai L o.at_).kind == 1) && (o.flags == 1 || o.flags == 2 || o.flags == 3 || o.flags == 6 || o.flags == 7)
def endB (np:Nat)(o:Opn):Bool:=decide (0<=o.at_) && decide (o.at_ < (np:Int)) && o.off == 0
def outB (o:Opn):Bool:=decide (0<=o.at_) && decide (o.at_ < 2) && o.off == 0 && o.flags == 2
def Ao5 (o:Opn):Bool:=o.kind == 0 && o.at_ == 0 && o.off == 0 && o.flags == 0 && o.refs == 0
def Ad7 (L:List Ino)(np:Nat)(o:Opn):Bool:=
 if o.kind=0 then Ao5 o else if o.kind=1 then Ahd L o else if o.kind=2 then endB np o && o.flags == 1 else if o.kind=3 then endB np o && o.flags == 2 else if o.kind=4 then outB o else false
theorem Ayh {o:Opn}:Ao5 o=true↔o=Aav:=by
 obtain⟨a,b,c,d,e⟩:=o
 unfold Ao5 Aav
 simp[and_assoc]
theorem As0 {L:List Ino}{o:Opn}:Ahd L o=true↔(o.flags=1∨o.flags=2∨o.flags=3∨o.flags=6∨o.flags=7)/\∃ n:Nat,∃ hn:n < L.length,o.at_=(n:Int)/\L[n].kind=1:=by
 unfold Ahd
 simp only[Bool.and_eq_true,Bool.or_eq_true,decide_eq_true_eq,beq_iff_eq]
 constructor
 ·rintro⟨⟨⟨h1,h2⟩,h3⟩,h4⟩
  obtain⟨n,hn⟩:∃ n:Nat,o.at_=(n:Int):=⟨o.at_.toNat,by omega⟩
  have hl:n < L.length:=by omega
  rw[hn,Aae L n hl]at h3
  exact⟨by omega,n,hl,hn,h3⟩
 ·rintro⟨h4,n,hn,h1,h3⟩
  refine⟨⟨⟨by omega,by omega⟩,?_⟩,by omega⟩
  rw[h1,Aae L n hn]
  exact h3
theorem Amc {np:Nat}{o:Opn}:endB np o=true↔(∃ n:Nat,n < np/\o.at_=(n:Int))/\o.off=0:=by
 unfold endB
 simp only[Bool.and_eq_true,decide_eq_true_eq,beq_iff_eq]
 constructor
 ·rintro⟨⟨h1,h2⟩,h3⟩
  exact⟨⟨o.at_.toNat,by omega,by omega⟩,h3⟩
 ·rintro⟨⟨n,h1,h2⟩,h3⟩
  exact⟨⟨by omega,by omega⟩,h3⟩
def Ans (o:Opn):Bool:=decide (1<=o.refs) && decide (o.refs<=1000) && decide (0<=o.off) && decide (o.off<=65536)
theorem Bas {L:List Ino}{np:Nat}{o:Opn}:Abb L np o↔Ad7 L np o=true/\(o.kind≠0->Ans o=true):=by
 unfold Abb Ad7 Ans
 by_cases h0:o.kind=0
 ·rw[if_pos h0,Ayh]
  constructor
  ·rintro(h|⟨-,-,-,-,⟨h,-⟩|⟨h,-⟩|⟨h,-⟩|⟨h,-⟩⟩)
   ·exact⟨h,fun h1=>absurd h0 h1⟩
   all_goals omega
  ·rintro⟨h,-⟩
   exact .inl h
 rw[if_neg h0]
 have hn:¬ o=Aav:=fun h=>h0 (by rw[h];rfl)
 simp only[Bool.and_eq_true,decide_eq_true_eq]
 by_cases h1:o.kind=1
 ·rw[if_pos h1,As0]
  constructor
  ·rintro(h|⟨a,b,c,d,⟨-,h⟩|⟨h,-⟩|⟨h,-⟩|⟨h,-⟩⟩)
   ·exact absurd h hn
   ·exact⟨h,fun _=>⟨⟨⟨a,b⟩,c⟩,d⟩⟩
   all_goals omega
  ·rintro⟨h,k⟩
   obtain⟨⟨⟨a,b⟩,c⟩,d⟩:=k h0
   exact .inr ⟨a,b,c,d,.inl ⟨h1,h⟩⟩
 rw[if_neg h1]
 by_cases h2:o.kind=2
 ·rw[if_pos h2,Bool.and_eq_true,Amc,beq_iff_eq]
  constructor
  ·rintro(h|⟨a,b,c,d,⟨h,-⟩|⟨-,h,h5,h6⟩|⟨h,-⟩|⟨h,-⟩⟩)
   ·exact absurd h hn
   ·omega
   ·exact⟨⟨⟨h,h5⟩,h6⟩,fun _=>⟨⟨⟨a,b⟩,c⟩,d⟩⟩
   all_goals omega
  ·rintro⟨⟨⟨h,h5⟩,h6⟩,k⟩
   obtain⟨⟨⟨a,b⟩,c⟩,d⟩:=k h0
   exact .inr ⟨a,b,c,d,.inr (.inl ⟨h2,h,h5,h6⟩)⟩
 rw[if_neg h2]
 by_cases h3:o.kind=3
 ·rw[if_pos h3,Bool.and_eq_true,Amc,beq_iff_eq]
  constructor
  ·rintro(h|⟨a,b,c,d,⟨h,-⟩|⟨h,-⟩|⟨-,h,h5,h6⟩|⟨h,-⟩⟩)
   ·exact absurd h hn
   ·omega
   ·omega
   ·exact⟨⟨⟨h,h5⟩,h6⟩,fun _=>⟨⟨⟨a,b⟩,c⟩,d⟩⟩
   ·omega
  ·rintro⟨⟨⟨h,h5⟩,h6⟩,k⟩
   obtain⟨⟨⟨a,b⟩,c⟩,d⟩:=k h0
   exact .inr ⟨a,b,c,d,.inr (.inr (.inl ⟨h3,h,h5,h6⟩))⟩
 rw[if_neg h3]
 by_cases h4:o.kind=4
 ·rw[if_pos h4]
  have ho:outB o=true↔(o.at_=0∨o.at_=1)/\o.off=0/\o.flags=2:=by
   unfold outB
   simp only[Bool.and_eq_true,decide_eq_true_eq,beq_iff_eq]
   constructor
   ·rintro⟨⟨⟨a,b⟩,c⟩,d⟩;exact⟨by omega,c,d⟩
   ·rintro⟨a,b,c⟩;exact⟨⟨⟨by omega,by omega⟩,b⟩,c⟩
  rw[ho]
  constructor
  ·rintro(h|⟨a,b,c,d,⟨h,-⟩|⟨h,-⟩|⟨h,-⟩|⟨-,h⟩⟩)
   ·exact absurd h hn
   ·omega
   ·omega
   ·omega
   ·exact⟨h,fun _=>⟨⟨⟨a,b⟩,c⟩,d⟩⟩
  ·rintro⟨h,k⟩
   obtain⟨⟨⟨a,b⟩,c⟩,d⟩:=k h0
   exact .inr ⟨a,b,c,d,.inr (.inr (.inr ⟨h4,h⟩))⟩
 rw[if_neg h4]
 constructor
 ·rintro(h|⟨-,-,-,-,⟨h,-⟩|⟨h,-⟩|⟨h,-⟩|⟨h,-⟩⟩)
  ·exact absurd h hn
  all_goals omega
 ·rintro⟨h,-⟩
  exact absurd h (by decide)
def Led (k:Krn)(f:List Int)(fd:Nat):Prop:=
 f.getD fd 0=0∨∃ j:Nat,∃ hj:j < k.opens.length,f.getD fd 0=(j:Int)+1/\k.opens[j].kind≠0/\Ad7 k.tree k.pipes.length k.opens[j]=true/\1<=k.opens[j].refs/\k.opens[j].refs<=1000
theorem Af5 {k:Krn}{f:List Int}{er ew:Nat->Int}(h:FitE k f er ew){fd:Nat}(hfd:fd < 10):Led k f fd:=by
 have hl:fd < f.length:=by rw[h.len];exact hfd
 unfold Led
 rw[h.at_zero hl]
 by_cases h0:f[fd]=0
 ·exact .inl h0
 ·obtain⟨j,hj,h1,h2,-⟩:=h.desc hl h0
  have hg:=h.opens j hj
  obtain⟨g1,g2⟩:=Bas.1 hg
  have:=Aje hg h2
  have hc:=g2 h2
  unfold Ans at hc
  simp only[Bool.and_eq_true,decide_eq_true_eq]at hc
  exact .inr ⟨j,hj,h1,h2,g1,by omega,by omega⟩
def Acv (f:List Int)(fd:Int):Int×Bool:=if isFd fd=true/\f.getD fd.toNat 0≠0 then(f.getD fd.toNat 0 - 1,true)else(0,false)
def Agx (k:Krn)(f:List Int)(fd j:Nat):Krn×List Int:=(Ade (Abh k f fd).1 j,(Abh k f fd).2.set fd ((j:Int)+1))
theorem Ad8 {a b:Krn}(h1:a.tree=b.tree)(h2:a.m=b.m)(h3:a.b=b.b)(h4:a.pipes=b.pipes)(h5:a.opens=b.opens)(h6:a.out0=b.out0)(h7:a.out1=b.out1):a=b:=by
 obtain⟨_,_,_,_,_,_,_⟩:=a
 obtain⟨_,_,_,_,_,_,_⟩:=b
 simp only at h1 h2 h3 h4 h5 h6 h7
 subst h1 h2 h3 h4 h5 h6 h7
 rfl
theorem Aiu (k:Krn)(j:Nat)(hj:j < k.opens.length)(h:k.opens[j].refs=1):Abg k j={ k with pipes:=(if k.opens[j].kind=2∨k.opens[j].kind=3 then k.pipes.set k.opens[j].at_.toNat (Aak (k.pipes.getD k.opens[j].at_.toNat Afb) (k.opens[j].kind == 2))else k.pipes),opens:=k.opens.set j Aav }:=by
 unfold Abg
 rw[Abx _ j hj,if_pos (by omega)]
theorem At2 {k:Krn}{i j:Nat}(hi:i < k.opens.length)(hj:j < k.opens.length)(h:i=j->k.opens[j].refs≠1/\k.opens[j].refs≠0):Ade (Abg k i) j=Abg (Ade k j) i:=by
 have hj':j < (Abg k i).opens.length:=by rw[Ac1];exact hj
 have hi':i < (Ade k j).opens.length:=by rw[Ahh];exact hi
 have hm:=Alj hj i hi
 by_cases e:i=j
 ·subst e
  obtain⟨h1,h0⟩:=h rfl
  rw[if_pos rfl]at hm
  rw[Adm k i hi h1,Adm (Ade k i) i hi' (by rw[hm];show k.opens[i].refs+1≠1;omega),hm]
  refine Ad8 rfl rfl rfl rfl ?_ rfl rfl
  show (k.opens.set i _).set i _=(k.opens.set i _).set i _
  rw[List.set_set,List.set_set,Abx _ i (by rw[List.length_set];exact hi),List.getElem_set_self]
  show k.opens.set i { k.opens[i]with refs:=k.opens[i].refs - 1+1 }=k.opens.set i { k.opens[i]with refs:=k.opens[i].refs+1 - 1 }
  rw[show k.opens[i].refs - 1+1=k.opens[i].refs+1 - 1 by omega]
 ·rw[if_neg (fun e2=>e e2.symm)]at hm
  have ho:=Aen k i j e hj
  by_cases h1:k.opens[i].refs=1
  ·rw[Aiu k i hi h1,Aiu (Ade k j) i hi' (by rw[hm];exact h1),hm]
   refine Ad8 rfl rfl rfl rfl ?_ rfl rfl
   show (k.opens.set i Aav).set j _=(k.opens.set j _).set i Aav
   rw[List.set_comm _ _ e]
   congr 1
   rw[Abx _ j (by rw[List.length_set];exact hj),Abx _ j hj,List.getElem_set_ne e]
  ·rw[Adm k i hi h1,Adm (Ade k j) i hi' (by rw[hm];exact h1),hm]
   refine Ad8 rfl rfl rfl rfl ?_ rfl rfl
   show (k.opens.set i _).set j _=(k.opens.set j _).set i _
   rw[List.set_comm _ _ e]
   congr 1
   rw[Abx _ j (by rw[List.length_set];exact hj),Abx _ j hj,List.getElem_set_ne e]
theorem Amw {k:Krn}{f:List Int}{fd j:Nat}(hj:j < k.opens.length)(hf:f.getD fd 0=0∨∃ i:Nat,∃ hi:i < k.opens.length,f.getD fd 0=(i:Int)+1/\(i=j->k.opens[j].refs≠1/\k.opens[j].refs≠0)) :
  Agx k f fd j=((Abh (Ade k j) f fd).1,(Abh (Ade k j) f fd).2.set fd ((j:Int)+1)):=by
 unfold Agx Abh
 rcases hf with h0|⟨i,hi,h1,h2⟩
 ·rw[if_pos h0,if_pos h0]
 ·rw[if_neg (by omega),if_neg (by omega),h1,show ((i:Int)+1 - 1).toNat=i by omega]
  show (Ade (Abg k i) j,(f.set fd 0).set fd ((j:Int)+1))=(Abg (Ade k j) i,(f.set fd 0).set fd ((j:Int)+1))
  rw[At2 hi hj h2]
def dupL (k:Krn)(f:List Int)(fr to:Int):Krn×List Int×Int:=
 if isFd fr=false∨isFd to=false∨f.getD fr.toNat 0=0 then(k,f,9)else if fr=to then(k,f,0)else
 ((Agx k f to.toNat (f.getD fr.toNat 0 - 1).toNat).1,(Agx k f to.toNat (f.getD fr.toNat 0 - 1).toNat).2,0)
theorem Ay0 (f:List Int)(i j:Nat)(hi:i < f.length)(hj:j < f.length)(h:i≠j)(e:f[i]=f[j]):2<=f.count f[i]:=by
 have h1:=Ak8 f i hi (f[i]+1) f[i]
 rw[if_pos rfl,if_neg (by omega)]at h1
 have hj2:j < (f.set i (f[i]+1)).length:=by rw[List.length_set];exact hj
 have h2:(f.set i (f[i]+1))[j]=f[i]:=by rw[List.getElem_set_ne h];exact e.symm
 have h3:=Ape (f.set i (f[i]+1)) j hj2
 rw[h2]at h3
 omega
theorem Av4 {k:Krn}{f:List Int}(h:FitK k f)(fr to:Int):dupL k f fr to=dupK k f fr to:=by
 unfold dupL dupK
 by_cases hn:isFd fr=false∨isFd to=false∨f.getD fr.toNat 0=0
 ·rw[if_pos hn,if_pos hn]
 rw[if_neg hn,if_neg hn]
 by_cases he:fr=to
 ·rw[if_pos he,if_pos he]
 rw[if_neg he,if_neg he]
 simp only[not_or]at hn
 obtain⟨a,rfl,ha⟩:=Ac9 (show isFd fr=true by simpa using hn.1)
 obtain⟨c,rfl,hc⟩:=Ac9 (show isFd to=true by simpa using hn.2.1)
 have hal:a < f.length:=by rw[h.len];exact ha
 have hcl:c < f.length:=by rw[h.len];exact hc
 have h0:=hn.2.2
 rw[Int.toNat_natCast,h.at_zero hal]at h0
 obtain⟨j,hj,h1,h2,h3⟩:=h.desc hal h0
 have hac:a≠c:=fun e=>he (by rw[e])
 rw[Int.toNat_natCast,Int.toNat_natCast,h.at_zero hal,h1,show ((j:Int)+1 - 1).toNat=j by omega,Amw hj]
 rw[h.at_zero hcl]
 by_cases h4:f[c]=0
 ·exact .inl h4
 ·obtain⟨i,hi,h5,h6,h7⟩:=h.desc hcl h4
  refine .inr ⟨i,hi,h5,fun e=>?_⟩
  subst e
  have:=Ay0 f a c hal hcl hac (by rw[h1,h5])
  rw[h1]at this
  omega
theorem Ap5 {O:List Opn}{o:Opn}(hk:o.kind≠0):(putK O { o with refs:=0 }).2=(putK O o).2/\∀ j:Nat,(putK O o).2=(j:Int)+1->∃ hj:j < (putK O { o with refs:=0 }).1.length,(putK O { o with refs:=0 }).1[j]={ o with refs:=0 }/\(putK O { o with refs:=0 }).1.set j o=(putK O o).1:=by
 unfold putK
 cases hf:O.findIdx? (fun x=>x.kind == 0)with
 | some i=>
  obtain⟨hi,-,-⟩:=List.findIdx?_eq_some_iff_getElem.1 hf
  refine⟨rfl,fun j h=>?_⟩
  have h':(i:Int)+1=(j:Int)+1:=h
  obtain rfl:i=j:=by omega
  refine⟨by rw[List.length_set];exact hi,List.getElem_set_self ..,?_⟩
  show (O.set i { o with refs:=0 }).set i o=O.set i o
  rw[List.set_set]
 | none=>
  by_cases h64:64<=O.length
  ·simp only[if_pos h64]
   refine⟨trivial,fun j h=>?_⟩
   have h':(0:Int)=(j:Int)+1:=h
   omega
  ·simp only[if_neg h64]
   refine⟨trivial,fun j h=>?_⟩
   obtain rfl:O.length=j:=by omega
   refine⟨by simp,List.getElem_concat_length rfl _,?_⟩
   rw[List.set_append_right _ _ (Nat.le_refl _),Nat.sub_self]
   rfl
theorem Axn {k:Krn}{o:Opn}(hk:o.kind≠0)(hr:o.refs=1){j:Nat}(hz:(putK k.opens o).2=(j:Int)+1):Ade { k with opens:=(putK k.opens { o with refs:=0 }).1 } j={ k with opens:=(putK k.opens o).1 }:=by
 obtain⟨hj,h1,h2⟩:=(Ap5 (O:=k.opens) hk).2 j hz
 refine Ad8 rfl rfl rfl rfl ?_ rfl rfl
 show (putK k.opens { o with refs:=0 }).1.set j { (putK k.opens { o with refs:=0 }).1.getD j Aav with refs:=((putK k.opens { o with refs:=0 }).1.getD j Aav).refs+1 }=(putK k.opens o).1
 rw[Abx _ j hj,h1,<-h2]
 congr 1
 obtain⟨a,b,c,d,e⟩:=o
 simp only at hr
 subst hr
 rfl
end Go.Proofs.YtkdfbliiblojoaaGreatDoor
