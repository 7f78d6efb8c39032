import Derived.Test.YtkdfbliiblojoaaGreatDoorK19
import Derived.Laws.AppendOwnNone
set_option linter.all false
set_option maxRecDepth 100000
set_option maxHeartbeats 64000000
namespace Go.Proofs.YtkdfbliiblojoaaGreatDoor
open Go Go.RowKit

theorem Aln {L M:List Ino}{m b m' b':Int}(k:Nat)(h1:k < L.length)(h2:k < M.length)(h:L[k]≠M[k]):¬ (⟨L,m,b⟩:Tre)=⟨M,m',b'⟩:=by
 intro e
 simp only[Tre.mk.injEq]at e
 obtain⟨rfl,-,-⟩:=e
 exact h rfl
def Acm (T U:Tre)(w:World)(e:Ending)(w':World):Prop:=(∃ v,e=.returned (.bool v)/\(v=true↔T=U))/\Below w.heap.size w w'
theorem Acm.no {T U:Tre}{w w':World}{e:Ending}(he:e=.returned (.bool false))(h:¬ T=U)(hb:Below w.heap.size w w'):Acm T U w e w':=⟨⟨false,he,by simpa using h⟩,hb⟩
theorem Acm.yes {T U:Tre}{w w':World}{e:Ending}(he:e=.returned (.bool true))(h:T=U)(hb:Below w.heap.size w w'):Acm T U w e w':=⟨⟨true,he,by simpa using h⟩,hb⟩
def Ayq (L M:List Ino)(w1:World)(iv:Value)(wr:World):Prop:=
 ∃ k:Nat,k<=L.length/\iv=.int .i64 k/\Hid (∀ j (h1:j < L.length) (h2:j < M.length),j < k->L[j]=M[j])/\Below w1.heap.size w1 wr
theorem Art (a a':Option Addr)(cap cap':Nat)(m b m' b':Int)(L M:List Ino)(hL:L.length<=1000)(w:World)(hN:Aad w a cap L)(hN':Aad w a' cap' M) :
  Calls Tryz.prog 45 #[.agg #[.slice a L.length cap,.int .i64 m,.int .i64 b],.agg #[.slice a' M.length cap',.int .i64 m',.int .i64 b']] w (Acm ⟨L,m,b⟩ ⟨M,m',b'⟩ w):=by
 have hb1:=((Aab w (.cells #[.slice a L.length cap,.int .i64 m,.int .i64 b] 24)).alloc (by simp) (.cells #[.slice a' M.length cap',.int .i64 m',.int .i64 b'] 24))
 obtain⟨w0,hw0⟩:∃ w0,w0=w.alloc (.cells #[.slice a L.length cap,.int .i64 m,.int .i64 b] 24):=⟨_,rfl⟩
 obtain⟨w1,hw1⟩:∃ w1,w1=w0.alloc (.cells #[.slice a' M.length cap',.int .i64 m',.int .i64 b'] 24):=⟨_,rfl⟩
 by_cases hm:m=m'/\b=b'/\L.length=M.length
 ·obtain⟨rfl,rfl,hlen⟩:=hm
  have hX:∀ W',Below w1.heap.size w1 W'->Aad W' a cap L/\Aad W' a' cap' M/\W'.cell? ⟨w.heap.size,0,none⟩=some (.slice a L.length cap)/\W'.cell? ⟨w.heap.size+1,0,none⟩=some (.slice a' M.length cap'):=by
   intro W' h
   have g1:Below w0.heap.size w0 w1:=by rw[hw1];exact Aab _ _
   have g2:Below w0.heap.size w0 W':=g1.trans (h.mono g1.size)
   have g0:Below w.heap.size w w0:=by rw[hw0];exact Aab _ _
   have g3:Below w.heap.size w W':=g0.trans (g2.mono g0.size)
   have e1:=(box3 (W':=W') (by rw[<-hw0];exact g2)).1
   have e2:=(box3 (W':=W') (by rw[<-hw1];exact h)).1
   have e3:w0.heap.size=w.heap.size+1:=by rw[hw0];simp
   rw[e3]at e2
   exact⟨hN.below g3,hN'.below g3,e1,e2⟩
  have HX:=Hd hX
  have hb2:Below w.heap.size w w1:=by rw[hw1,hw0];exact hb1
  have HB:=Hd hb2
  have hww:w1=(w.alloc (.cells #[.slice a L.length cap,.int .i64 m,.int .i64 b] 24)).alloc (.cells #[.slice a' M.length cap',.int .i64 m,.int .i64 b] 24):=by rw[hw1,hw0]
  clear hX hb1 hb2 hw1 hw0 hN hN'
  have hlc:((L.length:Int) != (M.length:Int))=false:=by simp[hlen]
  have HLEN:=Hd hlen
  clear hlen
  have hsz1:w.heap.size+2<=w1.heap.size:=by rw[hww];simp
  go_enter Tryz.func45,Tryz.ntmps45
  go_wp2_with fail
  rw[<-hww]
  clear hww
  go_loopw [5] (fun k wr=>Ayq L M w1 k wr) (fun k _=>L.length - (intOf k).toNat)
  case atStart=>exact⟨0,by omega,rfl,fun _ _ _ h=>absurd h (Nat.not_lt_zero _),Below.refl _ _⟩
  case round=>
   obtain⟨k,hk,rfl,hsame,hbr⟩:=hrel
   have HBR:=Hd hbr
   obtain⟨hn1,hn2,q1,q2⟩:=HX.out _ hbr
   have HN1:=Hd hn1
   have HN2:=Hd hn2
   clear hbr hn1 hn2
   by_cases hlt:k < L.length
   ·have hlt':k < M.length:=by have:=HLEN.out;omega
    obtain⟨b1,o1,rfl,hx⟩:=HN1.out.2.2 k hlt
    obtain⟨b2,o2,rfl,hy⟩:=HN2.out.2.2 k hlt'
    obtain⟨v1,x4,hkx0⟩:=hx.kids
    obtain⟨v2,y4,hky0⟩:=hy.kids
    obtain⟨P,hP⟩:∃ P,P=L[k].kids:=⟨_,rfl⟩
    obtain⟨R,hR⟩:∃ R,R=M[k].kids:=⟨_,rfl⟩
    rw[<-hP]at hkx0
    rw[<-hR]at hky0
    obtain⟨ka,kc,rfl,hc1,hc2,hkx⟩:=hkx0
    obtain⟨ja,jc,rfl,hd1,hd2,hky⟩:=hky0
    unfold maxLen at hc2 hd2
    have x0:=hx.kind
    have x1:=hx.mode
    have x2:=hx.links
    have x3:=hx.data
    have x5:=hx.up
    have y0:=hy.kind
    have y1:=hy.mode
    have y2:=hy.links
    have y3:=hy.data
    have y5:=hy.up
    have hsz2:=HBR.out.size
    have g0:w.heap.size+1 < wr.heap.size:=by omega
    have g3:w.heap.size < wr.heap.size:=by omega
    have g1:b1 < wr.heap.size:=Aaf x0
    have g2:b2 < wr.heap.size:=Aaf y0
    have HKX:=Hd hkx
    have HKY:=Hd hky
    have HP:=Hd hP
    have HR:=Hd hR
    have HBB:=Hd (show ∀ o o',Below w.heap.size w ((wr.alloc o).alloc o')from fun o o'=>((HB.out.trans (HBR.out.mono HB.out.size)).alloc (by omega) o).alloc (by simp;omega) o')
    clear hx hy hkx hky hP hR
    go_wp2_with fail
    all_goals try(go_ret;exact Acm.no rfl (Aln k hlt hlt' (by intro e;rename_i h;first|exact h (by rw[e])|(rw[HP.out,HR.out,e]at h;simp at h))) (HBB.out _ _))
    rename_i e1 e2 e3 e4 e5 e6
    have hPR:P.length=R.length:=by have h6:((P.length:Int) != (R.length:Int))=false:=e6;rw[bne_eq_false_iff_eq]at h6;omega
    have HE:=Hd (show P=R->L[k]=M[k]from fun h=>by
     have h':L[k].kids=M[k].kids:=by rw[<-HP.out,<-HR.out,h]
     revert e1 e2 e3 e4 e5 h'
     generalize L[k]=X
     generalize M[k]=Y
     intro e1 e2 e3 e4 e5 h'
     cases X
     cases Y
     simp_all)
    have HPR:=Hd hPR
    clear e1 e2 e3 e4 e5 e6 hPR x0 x1 x2 x3 x4 x5 y0 y1 y2 y3 y4 y5 q1 q2
    have kx:((wr.alloc (.cells #[.int .i64 M[k].kind,.int .i64 M[k].mode,.int .i64 M[k].links,.string ⟨M[k].data.toArray⟩,.slice ka P.length kc,.int .i64 M[k].up] 66)).alloc (.cells #[.int .i64 M[k].kind,.int .i64 M[k].mode,.int .i64 M[k].links,.string ⟨M[k].data.toArray⟩,.slice ja R.length jc,.int .i64 M[k].up] 66)).cell? ⟨wr.heap.size,4,none⟩=some (.slice ka P.length kc):=(box6 (Aab _ _)).2.2.2.2.1
    have ky:((wr.alloc (.cells #[.int .i64 M[k].kind,.int .i64 M[k].mode,.int .i64 M[k].links,.string ⟨M[k].data.toArray⟩,.slice ka P.length kc,.int .i64 M[k].up] 66)).alloc (.cells #[.int .i64 M[k].kind,.int .i64 M[k].mode,.int .i64 M[k].links,.string ⟨M[k].data.toArray⟩,.slice ja R.length jc,.int .i64 M[k].up] 66)).cell? ⟨wr.heap.size+1,4,none⟩=some (.slice ja R.length jc):=by
     have h:=(box6 (w:=wr.alloc (.cells #[.int .i64 M[k].kind,.int .i64 M[k].mode,.int .i64 M[k].links,.string ⟨M[k].data.toArray⟩,.slice ka P.length kc,.int .i64 M[k].up] 66)) (x0:=.int .i64 M[k].kind) (x1:=.int .i64 M[k].mode) (x2:=.int .i64 M[k].links) (x3:=.string ⟨M[k].data.toArray⟩) (x4:=.slice ja R.length jc) (x5:=.int .i64 M[k].up) (t:=66) (Below.refl _ _)).2.2.2.2.1
     rw[World.size_alloc]at h
     exact h
    have HBW:=Hd (HBB.out (.cells #[.int .i64 M[k].kind,.int .i64 M[k].mode,.int .i64 M[k].links,.string ⟨M[k].data.toArray⟩,.slice ka P.length kc,.int .i64 M[k].up] 66) (.cells #[.int .i64 M[k].kind,.int .i64 M[k].mode,.int .i64 M[k].links,.string ⟨M[k].data.toArray⟩,.slice ja R.length jc,.int .i64 M[k].up] 66))
    have HKX2:=Hd (show Abn ((wr.alloc (.cells #[.int .i64 M[k].kind,.int .i64 M[k].mode,.int .i64 M[k].links,.string ⟨M[k].data.toArray⟩,.slice ka P.length kc,.int .i64 M[k].up] 66)).alloc (.cells #[.int .i64 M[k].kind,.int .i64 M[k].mode,.int .i64 M[k].links,.string ⟨M[k].data.toArray⟩,.slice ja R.length jc,.int .i64 M[k].up] 66)) (.slice ka P.length kc) P from Abn.below ⟨ka,kc,rfl,hc1,by unfold maxLen;exact hc2,HKX.out⟩ ((Aab wr _).alloc (by simp) _))
    have HKY2:=Hd (show Abn ((wr.alloc (.cells #[.int .i64 M[k].kind,.int .i64 M[k].mode,.int .i64 M[k].links,.string ⟨M[k].data.toArray⟩,.slice ka P.length kc,.int .i64 M[k].up] 66)).alloc (.cells #[.int .i64 M[k].kind,.int .i64 M[k].mode,.int .i64 M[k].links,.string ⟨M[k].data.toArray⟩,.slice ja R.length jc,.int .i64 M[k].up] 66)) (.slice ja R.length jc) R from Abn.below ⟨ja,jc,rfl,hd1,by unfold maxLen;exact hd2,HKY.out⟩ ((Aab wr _).alloc (by simp) _))
    clear HBB HKX HKY
    have HW1:=Hd (show Below w1.heap.size w1 ((wr.alloc (.cells #[.int .i64 M[k].kind,.int .i64 M[k].mode,.int .i64 M[k].links,.string ⟨M[k].data.toArray⟩,.slice ka P.length kc,.int .i64 M[k].up] 66)).alloc (.cells #[.int .i64 M[k].kind,.int .i64 M[k].mode,.int .i64 M[k].links,.string ⟨M[k].data.toArray⟩,.slice ja R.length jc,.int .i64 M[k].up] 66))from(HBR.out.alloc hsz2 _).alloc (by simp;omega) _)
    generalize ((wr.alloc (.cells #[.int .i64 M[k].kind,.int .i64 M[k].mode,.int .i64 M[k].links,.string ⟨M[k].data.toArray⟩,.slice ka P.length kc,.int .i64 M[k].up] 66)).alloc (.cells #[.int .i64 M[k].kind,.int .i64 M[k].mode,.int .i64 M[k].links,.string ⟨M[k].data.toArray⟩,.slice ja R.length jc,.int .i64 M[k].up] 66))=W2 at kx ky HBW HKX2 HKY2 HW1 ⊢
    go_loopw [8] (fun i w'=>∃ j n:Nat,j<=P.length/\i=.int .i64 j/\Hid (∀ t (h1:t < P.length) (h2:t < R.length),t < j->P[t]=R[t])/\w'=W2.drewN n) (fun i _=>P.length - (intOf i).toNat)
    case atStart=>exact⟨0,0,by omega,rfl,fun _ _ _ h=>absurd h (Nat.not_lt_zero _),rfl⟩
    case round=>
     obtain⟨j,n,hj,rfl,hpre,rfl⟩:=hrel
     by_cases hjl:j < P.length
     ·have hjr:j < R.length:=by have:=HPR.out;omega
      obtain⟨a1,g1',e1,-,-,hzx⟩:=HKX2.out
      obtain⟨a2,g2',e2,-,-,hzy⟩:=HKY2.out
      simp only[Value.slice.injEq]at e1 e2
      obtain⟨rfl,-,rfl⟩:=e1
      obtain⟨rfl,-,rfl⟩:=e2
      obtain⟨c1,p1,rfl,z0,z1⟩:=hzx j hjl
      obtain⟨c2,p2,rfl,z2,z3⟩:=hzy j hjr
      clear hzx hzy
      have HBN:=Hd (show ∀ n,Below w.heap.size w (W2.drewN n)from fun n=>⟨HBW.out.os,HBW.out.tape,HBW.out.output,HBW.out.size,HBW.out.block⟩)
      by_cases t1:P[j].fst=R[j].fst
      ·by_cases t2:P[j].snd=R[j].snd
       ·have hp':=Hd (show ∀ t (h1:t < P.length) (h2:t < R.length),t < j+1->P[t]=R[t]from fun t h1 h2 ht=>by
         by_cases e:t=j
         ·subst e
          exact Prod.ext t1 t2
         ·exact hpre.out t h1 h2 (by omega))
        go_wp2_with fail
        go_region
        all_goals
         go_wp2_with fail
         go_roundw
         case rel=>exact⟨j+1,_,by omega,by go_num,hp',rfl⟩
         case measure=>simp[intOf] <;> omega
       ·have hno:=Hd (show L[k]≠M[k]from fun e=>t2 (by
         have:P=R:=by rw[HP.out,HR.out,e]
         subst this
         rfl))
        go_wp2_with fail
        go_region
        all_goals
         go_wp2_with fail
         go_ret
         exact Acm.no rfl (Aln k hlt hlt' hno.out) (HBN.out _)
      ·have hno:=Hd (show L[k]≠M[k]from fun e=>t1 (by
        have:P=R:=by rw[HP.out,HR.out,e]
        subst this
        rfl))
       go_wp2_with fail
       go_region
       all_goals
        go_wp2_with fail
        go_ret
        exact Acm.no rfl (Aln k hlt hlt' hno.out) (HBN.out _)
     ·have hall:=Hd (HE.out (List.ext_getElem HPR.out (fun t h1 h2=>hpre.out t h1 h2 (by omega))))
      have hs':=Hd (show ∀ t (h1:t < L.length) (h2:t < M.length),t < k+1->L[t]=M[t]from fun t h1 h2 ht=>by
       by_cases e:t=k
       ·subst e
        exact hall.out
       ·exact hsame.out t h1 h2 (by omega))
      have HWN:=Hd (show Below w1.heap.size w1 (W2.drewN n)from⟨HW1.out.os,HW1.out.tape,HW1.out.output,HW1.out.size,HW1.out.block⟩)
      go_wp2_with fail
      go_roundw
      case rel=>exact⟨k+1,by omega,by go_num,hs',HWN.out⟩
      case measure=>simp[intOf] <;> omega
   ·have hall:=Hd (List.ext_getElem HLEN.out (fun t h1 h2=>hsame.out t h1 h2 (by omega)))
    go_wp2_with fail
    go_ret
    exact Acm.yes rfl (by rw[hall.out]) (HB.out.trans (HBR.out.mono HB.out.size))
 ·have hne:¬ (⟨L,m,b⟩:Tre)=⟨M,m',b'⟩:=by
   intro e
   simp only[Tre.mk.injEq]at e
   exact hm ⟨e.2.1,e.2.2,by rw[e.1]⟩
  have HNE:=Hd hne
  go_enter Tryz.func45,Tryz.ntmps45
  clear hne
  by_cases c1:m=m'
  ·by_cases c2:b=b'
   ·have c3:((L.length:Int) != (M.length:Int))=true:=by
     rw[bne_iff_ne]
     intro e
     exact hm ⟨c1,c2,by omega⟩
    subst c1 c2
    go_wp2_with fail
    go_ret
    exact Acm.no rfl HNE.out hb1
   ·have c2':(b != b')=true:=by simpa using c2
    subst c1
    go_wp2_with fail
    go_ret
    exact Acm.no rfl HNE.out hb1
  ·have c1':(m != m')=true:=by simpa using c1
   go_wp2_with fail
   go_ret
   exact Acm.no rfl HNE.out hb1
end Go.Proofs.YtkdfbliiblojoaaGreatDoor
