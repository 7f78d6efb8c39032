import Derived.Test.YtkdfbliiblojoaaGreatDoorK18
import Derived.Deep.RegionHeld
import Derived.Test.YtkdfbliiblojoaaGreatDoorK17
import Derived.RegionIn
set_option linter.all false
set_option maxRecDepth 100000
set_option maxHeartbeats 64000000
namespace Go.Proofs.YtkdfbliiblojoaaGreatDoor
open Go Go.RowKit
theorem Amt (N:List (List UInt8))(hN:N.length<=1048576)(v:Value)(w:World)(hV:View w v N)(R:Bool)(hR:(N.any fun x=>decide (64 < x.length))=R) :
  Calls Tryz.prog 171 #[v,.func (.func 173) #[] #[]] w fun e w'=>e=.returned (.bool R)/\w'=w:=by
 have HV:=Hd hV
 have HR:=Hd hR
 clear hV hR
 go_enter Tryz.func171,Tryz.ntmps171
 go_wp2_with fail
 refine(An4 N hN v _ HV.out).mono ?_
 rintro e w' ⟨⟨z,rfl,hz⟩,rfl⟩
 rw[HR.out]at hz
 have HZ:=Hd hz
 clear hz
 go_wp2_with fail
 go_ret
 refine⟨?_,rfl⟩
 rw[<-HZ.out]
 rfl
theorem Aoc (p:List UInt8)(hp:p.length<=1073741824)(w:World) :
  Calls Tryz.prog 172 #[.string ⟨p.toArray⟩] w fun e w'=>∃ v,e=.returned v/\View w' v (Aaq p)/\Below w.heap.size w w':=
 (Ajx ⟨p.toArray⟩ (by rw[Acj];exact hp) w).mono fun e w' ⟨v,h1,h2,h3⟩=>⟨v,h1,h2.view,h3⟩
theorem Aot (a:Option Addr)(cap:Nat)(m b cwd:Int)(p:List UInt8)(hp:p.length<=1073741824)(L:List Ino)(w:World)(hN:Aad w a cap L) :
  Calls Tryz.prog 151 #[.agg #[.slice a L.length cap,.int .i64 m,.int .i64 b],.int .i64 cwd,.string ⟨p.toArray⟩] w fun e w'=>e=.returned (.int .i64 (badW L cwd p))/\Below w.heap.size w w':=by
 have hb1:=Aab w (.cells #[.slice a L.length cap,.int .i64 m,.int .i64 b] 24)
 have HM:=Hd (hN.below hb1)
 have HB1:=Hd hb1
 have hs:=Acj p
 obtain⟨R,hR⟩:∃ R,R=badW L cwd p:=⟨_,rfl⟩
 rw[<-hR]
 have HR:=Hd hR
 clear hN hb1 hR
 by_cases hp0:p=[]
 ·subst hp0
  have HW:=Hd (show R=2 by rw[HR.out];unfold badW;rw[if_pos (Or.inl rfl)])
  go_enter Tryz.func151,Tryz.ntmps151
  go_wp2_with fail
  go_ret
  exact⟨by rw[HW.out];rfl,HB1.out⟩
 ·have hpb:(p == [])=false:=by simpa using hp0
  obtain⟨z,hz⟩:∃ z,Ae2 L cwd=z:=⟨_,rfl⟩
  have HZ:=Hd hz
  have hzd:=Alc (L:=L) (k:=cwd)
  rw[hz]at hzd
  cases hd:dirB L cwd with
  | false=>
   rw[hd]at hzd
   have HW:=Hd (show R=2 by rw[HR.out];unfold badW;rw[if_pos (Or.inr hd)])
   clear hd hp0 hz
   simp only[Bool.not_false]at hzd
   go_enter Tryz.func151,Tryz.ntmps151
   go_wp2_with (first|(go_at_call 155;refine(Aa1 _ _ _ _ _ L _ HZ.out _ HM.out).mono ?_;rintro e w2 ⟨rfl,hb2⟩)|fail)
   go_ret
   exact⟨by rw[HW.out];rfl,HB1.out.trans (hb2.mono (by simp))⟩
  | true=>
   rw[hd]at hzd
   have HW:=Hd (show R=if Agz p then 36 else 0 by rw[HR.out];unfold badW;rw[if_neg (by simp[hp0,hd])])
   clear hd hp0 hz
   simp only[Bool.not_true]at hzd
   by_cases hl:1024 < p.length
   ·have HW2:=Hd (show R=36 by rw[HW.out];unfold Agz;rw[decide_eq_true hl];rfl)
    go_enter Tryz.func151,Tryz.ntmps151
    go_wp2_with (first|(go_at_call 155;refine(Aa1 _ _ _ _ _ L _ HZ.out _ HM.out).mono ?_;rintro e w2 ⟨rfl,hb2⟩)|fail)
    go_ret
    exact⟨by rw[HW2.out];rfl,HB1.out.trans (hb2.mono (by simp))⟩
   ·have hl1:p.length<=1024:=by omega
    have HCL:=Hd (show (Aaq p).length<=1048576 by have:=Aca p;omega)
    have hlf:decide (1024 < p.length)=false:=decide_eq_false hl
    obtain⟨lb,hlb⟩:∃ lb,((Aaq p).any fun x=>decide (64 < x.length))=lb:=⟨_,rfl⟩
    have HLB:=Hd hlb
    have HW2:=Hd (show R=if lb=true then 36 else 0 by rw[HW.out,Ap0 p hl1,hlb])
    clear hl hlb HW
    go_enter Tryz.func151,Tryz.ntmps151
    go_wp2_with fail
    refine(Aa1 _ _ _ _ _ L _ HZ.out _ HM.out).mono ?_
    rintro e w2 ⟨rfl,hb2⟩
    have HB2:=Hd (HB1.out.trans (hb2.mono (by simp)))
    clear hb2
    go_wp2_with fail
    refine(Aoc p hp _).mono ?_
    rintro e w3 ⟨v3,rfl,hv3,hb3⟩
    have HV:=Hd hv3
    have HB3:=Hd (HB2.out.trans (hb3.mono HB2.out.size))
    clear hv3 hb3
    go_wp2_with fail
    refine(Amt _ HCL.out _ _ HV.out lb HLB.out).mono ?_
    rintro e w' ⟨rfl,rfl⟩
    cases lb
    all_goals
     go_wp2_with fail
     go_ret
     exact⟨by rw[HW2.out];rfl,HB3.out⟩
theorem Aa8 {n₀ g:Nat}{T:Value×Value×Value}{W:World}{p:Int}{st:List (List UInt8)}{links:Int}(h:Abr n₀ g T W p st links) :
  W.cell? ⟨g,0,none⟩=some T.1/\W.cell? ⟨g,1,none⟩=some T.2.1/\W.cell? ⟨g,2,none⟩=some T.2.2/\W.cell? ⟨g,3,none⟩=some (.int .i64 p)/\(∃ v,W.cell? ⟨g,4,none⟩=some v/\Held n₀ W v st)/\W.cell? ⟨g,5,none⟩=some (.int .i64 links):=by
 obtain⟨_,v,h1,h2⟩:=h
 exact⟨Aap h1 rfl,Aap h1 rfl,Aap h1 rfl,Aap h1 rfl,⟨v,Aap h1 rfl,h2⟩,Aap h1 rfl⟩
theorem Abk {n₀ g:Nat}{T:Value×Value×Value}{W:World}{p:Int}{st:List (List UInt8)}{links:Int}(h:Abr n₀ g T W p st links)(i:Nat):W.frozen? ⟨g,i,none⟩=false:=by
 obtain⟨_,v,h1,-⟩:=h
 simp only[World.frozen?,h1]
 simp
theorem Atw (n₀ g:Nat)(a:Option Addr)(cap:Nat)(m b p links:Int)(st:List (List UInt8))(x:List UInt8)(L:List Ino)(hF:FitP L m b)(w:World)(hN:Aad w a cap L)(hW:Abr n₀ g (.slice a L.length cap,.int .i64 m,.int .i64 b) w p st links) :
  Calls Tryz.prog 178 #[.pointer (some ⟨g,0,none⟩),.string ⟨x.toArray⟩] w fun e w'=>e=.returned (.tuple #[.int .i64 (Aco L p x).1,.int .i64 (Aco L p x).2])/\Below w.heap.size w w':=by
 obtain⟨c0,c1,c2,c3,-,-⟩:=Aa8 hW
 have hg:=hW.lt
 have HN:=Hd hN
 have HF:=Hd hF
 have HI:=Hd hF.ins
 have hcap:=hN.1
 have hmax:=hN.2.1
 unfold maxLen at hmax
 obtain⟨F,hFe⟩:∃ F,F=Aco L p x:=⟨_,rfl⟩
 rw[<-hFe]
 have HFE:=Hd hFe
 obtain⟨z,hz⟩:∃ z,Ae2 L p=z:=⟨_,rfl⟩
 have HZ:=Hd hz
 have hzd:=Alc (L:=L) (k:=p)
 rw[hz]at hzd
 have H1:=Hd (Aa0 (wb:=w) (fun W hW=>Aa1 a cap m b p L z HZ.out W (HN.out.below hW)))
 have f0:=Aaj c0
 have f1:=Aaj c1
 have f2:=Aaj c2
 have f3:=Aaj c3
 try simp only at f0 f1 f2
 clear hN hF hFe hz hW
 cases hd:dirB L p with
 | false=>
  rw[hd]at hzd
  have HV:=Hd (show F=(0,20) by rw[HFE.out];unfold Aco;rw[hd,if_pos rfl])
  simp only[Bool.not_false]at hzd
  clear hd
  go_enter Tryz.func178,Tryz.ntmps178
  go_wp2_with fail
  refine Aah (by kernel_rfl) (by kernel_rfl) ?_
  repeat(first|go_big_quiet_skip|(go_big_quiet_want;go_big_quiet_op;(first|go_big_quiet_on|(refine⟨_,H1.out,?_⟩;go_big_quiet_on))))
  refine wpQuiet_nil ?_
  intro w8 hw8
  have HB8:=Hd (show Below w.heap.size w w8 from by obtain⟨x,rfl⟩:=hw8;exact x.below)
  clear hw8 f0 f1 f2 f3 H1
  go_wp2_with fail
  go_ret2
  exact⟨by rw[HV.out];rfl,HB8.out⟩
 | true=>
  rw[hd]at hzd
  simp only[Bool.not_true]at hzd
  obtain⟨n,rfl,hn⟩:=Afd hd
  have HD:=Hd hd
  obtain⟨my,hmy⟩:∃ my,mayL L (n:Int) 1=my:=⟨_,rfl⟩
  have HMY:=Hd hmy
  clear hd hmy
  go_enter Tryz.func178,Tryz.ntmps178
  go_wp2_with fail
  refine Aah (by kernel_rfl) (by kernel_rfl) ?_
  repeat(first|go_big_quiet_skip|(go_big_quiet_want;go_big_quiet_op;(first|go_big_quiet_on|(refine⟨_,H1.out,?_⟩;go_big_quiet_on))))
  refine wpQuiet_nil ?_
  intro w1 hw1
  have HB1:=Hd (show Below w.heap.size w w1 from by obtain⟨x,rfl⟩:=hw1;exact x.below)
  clear hw1 f0 f1 f2 f3 H1
  have d0:=Aaa HB1.out c0
  have d1:=Aaa HB1.out c1
  have d2:=Aaa HB1.out c2
  have d3:=Aaa HB1.out c3
  try simp only at d0 d1 d2
  have H2:=Hd (Aa0 (wb:=w1) (fun W hW=>Ady a cap m b (n:Int) 1 L HI.out my HMY.out W (HN.out.below (HB1.out.trans (hW.mono HB1.out.size)))))
  have f0:=Aaj d0
  have f1:=Aaj d1
  have f2:=Aaj d2
  have f3:=Aaj d3
  clear d0 d1 d2 d3
  go_wp2_with fail
  refine Aah (by kernel_rfl) (by kernel_rfl) ?_
  repeat(first|go_big_quiet_skip|(go_big_quiet_want;go_big_quiet_op;(first|go_big_quiet_on|(refine⟨_,H2.out,?_⟩;go_big_quiet_on))))
  refine wpQuiet_nil ?_
  intro w2 hw2
  have hb12:Below w1.heap.size w1 w2:=by obtain⟨x,rfl⟩:=hw2;exact x.below
  have HB2:=Hd (HB1.out.trans (hb12.mono HB1.out.size))
  have HN2:=Hd (HN.out.below HB2.out)
  clear hw2 f0 f1 f2 f3 H2 hb12
  have d0:=Aaa HB2.out c0
  have d1:=Aaa HB2.out c1
  have d2:=Aaa HB2.out c2
  have d3:=Aaa HB2.out c3
  try simp only at d0 d1 d2
  clear c0 c1 c2 c3
  cases my with
  | false=>
   have HV:=Hd (show F=(0,13) by rw[HFE.out];unfold Aco;rw[HD.out,HMY.out,if_neg (by simp),if_pos rfl])
   go_wp2_with fail
   go_ret2
   exact⟨by rw[HV.out];rfl,HB2.out⟩
  | true=>
   have HV:=Hd (show F=if x=[46]then((n:Int),0)else if x=[46,46]then((Aai L (n:Int)).up,0)else if kidL L (n:Int) x < 0 then(0,2)else(kidL L (n:Int) x,0) by rw[HFE.out];unfold Aco;rw[HD.out,HMY.out,if_neg (by simp),if_neg (by simp)])
   have hlive:∀ k,Add L k=true->∃ ku,Ae2 L k=ku/\(ku == 0)=false:=fun k hk=>⟨_,rfl,by have h:=Ajl (L:=L) (k:=k);rw[hk]at h;exact h⟩
   have HLV:=Hd hlive
   clear hlive
   cases hx1:(x == [46])with
   | true=>
    have HW:=Hd (show F=((n:Int),0) by rw[HV.out,if_pos (by simpa using hx1)])
    obtain⟨ku,hku,hku0⟩:=HLV.out (n:Int) (Adw HD.out)
    have HKU:=Hd hku
    clear hku
    go_wp2_with fail
    refine(Aa1 a cap m b (n:Int) L ku HKU.out _ HN2.out).mono ?_
    rintro e w9 ⟨rfl,hb9⟩
    have HB9:=Hd (HB2.out.trans (hb9.mono HB2.out.size))
    clear hb9
    go_wp2_with fail
    go_ret2
    exact⟨by rw[HW.out];rfl,HB9.out⟩
   | false=>
    have hne1:¬ x=[46]:=by simpa using hx1
    cases hx2:(x == [46,46])with
    | true=>
     have HW:=Hd (show F=(L[n].up,0) by rw[HV.out,if_neg hne1,if_pos (by simpa using hx2),Aae L n hn])
     have hud:=Ayf HF.out HD.out
     rw[Aae L n hn]at hud
     obtain⟨ku,hku,hku0⟩:=HLV.out L[n].up (Adw hud)
     have HKU:=Hd hku
     obtain⟨bb,o,rfl,hxx⟩:=HN2.out.2.2 n hn
     have f0:=Aaj d0
     have f1:=Aaj d1
     have f2:=Aaj d2
     have f3:=Aaj d3
     have f5:=Aaj hxx.up
     have hd0:(0:Int)<=(n:Int):=by omega
     have hd1:(n:Int) < (L.length:Int):=by omega
     clear hku hud hne1 hxx
     go_wp2_with fail
     refine Aah (by kernel_rfl) (by kernel_rfl) ?_
     repeat(first|go_big_quiet_skip|(go_big_quiet_want;go_big_quiet_op;go_big_quiet_on))
     refine wpQuiet_nil ?_
     intro w3 hw3
     have hb3:Below w2.heap.size w2 w3:=by obtain⟨x,rfl⟩:=hw3;exact x.below
     have e0:=Aaa hb3 d0
     have e1:=Aaa hb3 d1
     have e2:=Aaa hb3 d2
     have HB3:=Hd (HB2.out.trans (hb3.mono HB2.out.size))
     have HN3:=Hd (HN2.out.below hb3)
     clear hw3 hb3 f0 f1 f2 f3 f5 d0 d1 d2 d3
     go_wp2_with fail
     refine(Aa1 _ cap m b L[n].up L ku HKU.out _ HN3.out).mono ?_
     rintro e w9 ⟨rfl,hb9⟩
     have HB9:=Hd (HB3.out.trans (hb9.mono HB3.out.size))
     clear hb9
     go_wp2_with fail
     go_ret2
     exact⟨by rw[HW.out];rfl,HB9.out⟩
    | false=>
     have hne2:¬ x=[46,46]:=by simpa using hx2
     obtain⟨kz,hkz⟩:∃ kz,kidL L (n:Int) x=kz:=⟨_,rfl⟩
     have HKZ:=Hd hkz
     have HW:=Hd (show F=if kz < 0 then(0,2)else(kz,0) by rw[HV.out,if_neg hne1,if_neg hne2,hkz])
     have hdec:(kz < 0/\Ae2 L kz=0)∨(0<=kz/\∃ ku,Ae2 L kz=ku/\(ku == 0)=false):=by
      by_cases h:kz < 0
      ·refine Or.inl ⟨h,?_⟩
       unfold Ae2 Aa5
       rw[decide_eq_false (by omega)]
       rfl
      ·refine Or.inr ⟨by omega,HLV.out _ ?_⟩
       rw[<-hkz]
       exact Apq HF.out (by omega)
     have H3:=Hd (Aa0 (wb:=w2) (fun W hW=>Afe a cap m b (n:Int) x L (Adk HI.out) kz HKZ.out W (HN2.out.below hW)))
     have f0:=Aaj d0
     have f1:=Aaj d1
     have f2:=Aaj d2
     have f3:=Aaj d3
     clear hkz hne1 hne2
     go_wp2_with fail
     refine Aah (by kernel_rfl) (by kernel_rfl) ?_
     repeat(first|go_big_quiet_skip|(go_big_quiet_want;go_big_quiet_op;(first|go_big_quiet_on|(refine⟨_,H3.out,?_⟩;go_big_quiet_on))))
     refine wpQuiet_nil ?_
     intro w3 hw3
     have hb3:Below w2.heap.size w2 w3:=by obtain⟨x,rfl⟩:=hw3;exact x.below
     have e0:=Aaa hb3 d0
     have e1:=Aaa hb3 d1
     have e2:=Aaa hb3 d2
     have HB3:=Hd (HB2.out.trans (hb3.mono HB2.out.size))
     have HN3:=Hd (HN2.out.below hb3)
     clear hw3 hb3 f0 f1 f2 f3 d0 d1 d2 d3 H3
     rcases hdec with ⟨hk0,hku⟩|⟨hk0,ku,hku,hku0⟩
     ·have HKU:=Hd hku
      have HW2:=Hd (show F=(0,2) by rw[HW.out,if_pos hk0])
      clear hku
      go_wp2_with fail
      refine(Aa1 _ cap m b kz L 0 HKU.out _ HN3.out).mono ?_
      rintro e w9 ⟨rfl,hb9⟩
      have HB9:=Hd (HB3.out.trans (hb9.mono HB3.out.size))
      clear hb9
      go_wp2_with fail
      go_ret2
      exact⟨by rw[HW2.out];rfl,HB9.out⟩
     ·have HKU:=Hd hku
      have HW2:=Hd (show F=(kz,0) by rw[HW.out,if_neg (by omega)])
      clear hku
      go_wp2_with fail
      refine(Aa1 _ cap m b kz L ku HKU.out _ HN3.out).mono ?_
      rintro e w9 ⟨rfl,hb9⟩
      have HB9:=Hd (HB3.out.trans (hb9.mono HB3.out.size))
      clear hb9
      go_wp2_with fail
      go_ret2
      exact⟨by rw[HW2.out];rfl,HB9.out⟩
end Go.Proofs.YtkdfbliiblojoaaGreatDoor
namespace Go.Proofs.YtkdfbliiblojoaaGreatDoor
open Go Go.RowKit Go.Shelf
attribute [local go_sem] Oper.semAt_some
theorem Akq (p:List UInt8)(b:Bool)(h:Ac6 p=b)(w:World):Calls Tryz.prog 175 #[.string ⟨p.toArray⟩,.string ⟨#[47]⟩] w fun e w'=>e=.returned (.bool b)/\w=w':=by
 subst h
 have HL:=Hd (An8 ⟨p.toArray⟩)
 go_enter Tryz.func175,Tryz.ntmps175
 go_wp2_with (first|(go_at_call 190;refine(HL.out _).mono ?_;rintro e w' ⟨rfl,rfl⟩)|fail)
 go_ret
 exact⟨rfl,rfl⟩
def WayX (n₀ g:Nat)(T:Value×Value×Value)(A:Nat->Prop)(W:World)(p:Int)(st:List (List UInt8))(links:Int):Prop:=
 g < n₀/\∃ v,W.heap[g]?=some (.cells #[T.1,T.2.1,T.2.2,.int .i64 p,v,.int .i64 links] 180 (0,0))/\Held n₀ W v st/\∀ k,A k->v.ownBlock≠some k
theorem WayX.way {n₀ g:Nat}{T:Value×Value×Value}{A:Nat->Prop}{W:World}{p:Int}{st:List (List UInt8)}{links:Int}(h:WayX n₀ g T A W p st links):Abr n₀ g T W p st links:=by
 obtain⟨h0,v,h1,h2,-⟩:=h
 exact⟨h0,v,h1,h2⟩
theorem Aqk {β:Type}(n₀ g:Nat)(T:Value×Value×Value)(A:Nat->Prop)(p:β->Int)(st:β->List (List UInt8))(links:β->Int):Own (fun(s:β) W=>WayX n₀ g T A W (p s) (st s) (links s)):=fun s W W' row h hg hr=>by
 obtain⟨h0,v,h1,h2,h3⟩:=h
 refine⟨h0,v,(grownBy_keeps_cells hg hr h1 rfl).trans h1,h2.kept fun k hk=>?_,h3⟩
 obtain⟨-,cur,hc⟩:=h2.own hk
 exact grownBy_keeps_cells hg hr hc rfl
theorem Agb {n₀ g:Nat}{T:Value×Value×Value}{A:Nat->Prop}{W:World}{p:Int}{S:List (List UInt8)}{links:Int}{v v':Value}{x:List UInt8}{w5:World}{tmp:Obj}(h0:g < n₀)
  (hb:W.heap[g]?=some (.cells #[T.1,T.2.1,T.2.2,.int .i64 p,v,.int .i64 links] 180 (0,0))) (hh:Held n₀ W v S) (hap:∀ k,A k->v.ownBlock≠some k) (hA:∀ k,A k->k < W.heap.size)
  (hg5:(W.drew.alloc tmp).grownBy w5 v.ownBlock) (hH5:Held n₀ w5 v' (S ++ [x])) (hf5:∀ k,v'.ownBlock=some k->v.ownBlock=some k∨(W.drew.alloc tmp).heap.size<=k) :
  KeepsOthers W (w5.setCell ⟨g,4,none⟩ v')/\(∀ k,k < W.heap.size->k≠g->v.ownBlock≠some k->(w5.setCell ⟨g,4,none⟩ v').heap[k]?=W.heap[k]?)/\WayX n₀ g T A (w5.setCell ⟨g,4,none⟩ v') p (S ++ [x]) links/\Moved g W (w5.setCell ⟨g,4,none⟩ v'):=by
 have hgW:g < W.heap.size:=(Array.getElem?_eq_some_iff.1 hb).1
 have hown:∀ k,v.ownBlock=some k->g≠k:=fun k hk=>by have:=(hh.own hk).1;omega
 have hal:∀ k,k < W.heap.size->(W.drew.alloc tmp).heap[k]?=W.heap[k]?:=fun k hk=>Below.heap_alloc W.drew tmp k hk
 have hsz:(W.drew.alloc tmp).heap.size=W.heap.size+1:=by rw[World.size_alloc];rfl
 have hw5:∀ k,k < W.heap.size->v.ownBlock≠some k->w5.heap[k]?=W.heap[k]?:=fun k hk hne=>(hg5.block k (by omega) (fun e=>hne e.symm)).trans (hal k hk)
 have hg5g:w5.heap[g]?=some (.cells #[T.1,T.2.1,T.2.2,.int .i64 p,v,.int .i64 links] 180 (0,0)):=(hw5 g hgW (fun e=>hown g e rfl)).trans hb
 have hkept:∀ k,k < W.heap.size->k≠g->v.ownBlock≠some k->(w5.setCell ⟨g,4,none⟩ v').heap[k]?=W.heap[k]?:=fun k hk hne ho=>(Below.heap_setCell w5 ⟨g,4,none⟩ v' k hne).trans (hw5 k hk ho)
 have hrow:∀ (j:Nat) (o:Obj),v.ownBlock=some j->W.heap[j]?=some o->o.isCells=true/\Alo o=false:=fun j o hj ho=>by
  obtain⟨-,cur,hc⟩:=hh.own hj
  rw[hc]at ho
  cases ho
  exact⟨rfl,by simp[Alo]⟩
 have hsize:W.heap.size<=(w5.setCell ⟨g,4,none⟩ v').heap.size:=by
  have:=hg5.size
  simp only[World.setCell,Array.size_modify]
  omega
 refine⟨⟨hsize,fun k o hk ho=>?_⟩,hkept,⟨h0,v',?_,Aiq hH5 h0 4 v',fun k hk e=>?_⟩,⟨?_,fun k o hk hne ho=>?_⟩⟩
 ·have hlt:=(Array.getElem?_eq_some_iff.1 hk).1
  refine(hkept k hlt (fun e=>?_) (fun e=>?_)).trans hk
  ·subst e
   rw[hb]at hk
   cases hk
   cases ho
  ·rw[(hrow k o e hk).1]at ho
   cases ho
 ·have h:=Ahq hg5g 4 v'
  exact h
 ·rcases hf5 k e with h|h
  ·exact hap k hk h
  ·have:=hA k hk
   omega
 ·have hb1:Below g W w5:=⟨hg5.os,hg5.tape,hg5.output,by have:=hg5.size;omega,fun k hk=>hw5 k (by omega) (fun e=>by have:=(hh.own e).1;omega)⟩
  exact hb1.setCell (p:=⟨g,4,none⟩) (Nat.le_refl _) v'
 ·have hlt:=(Array.getElem?_eq_some_iff.1 hk).1
  refine(hkept k hlt hne (fun e=>?_)).trans hk
  rw[(hrow k o e hk).2]at ho
  cases ho
theorem Aex {β:Type}{B:Nat}{g:Nat}{w:World}(hw:w.heap.size<=B)(hg:g<=w.heap.size):OwnFrom B (fun(_:β) W=>Moved g w W):=fun _ X Y row h hgr hr=>by
 refine⟨h.below.grown hgr (Nat.le_trans hg h.below.size) (fun k e=>Nat.le_trans hg (Nat.le_trans hw (hr k e).1)),fun k o hk hne hno=>?_⟩
 have hlt:k < w.heap.size:=(Array.getElem?_eq_some_iff.1 hk).1
 exact(hgr.block k (Nat.lt_of_lt_of_le hlt h.below.size) (fun e=>by have:=(hr k e.symm).1;omega)).trans (h.kept k o hk hne hno)
theorem Adp (W:World)(a:Addr)(v:Value):(W.setCell a v).heap.size=W.heap.size:=by simp[World.setCell]
theorem Al0 {n₀ g:Nat}{T:Value×Value×Value}{W:World}{p:Int}{st:List (List UInt8)}{links:Int}(h:Abr n₀ g T W p st links)(q:Int):Abr n₀ g T (W.setCell ⟨g,3,none⟩ (.int .i64 q)) q st links:=by
 obtain⟨h0,v,h1,h2⟩:=h
 exact⟨h0,v,Ahq h1 3 _,Aiq h2 h0 3 _⟩
theorem Aem {w:World}{o:Obj}{a:Addr}{u:Value}(h:w.cell? a=some u):(w.alloc o).cell? a=some u:=Aaa (Aab w o) h
theorem Af9 {W:World}{g i b j:Nat}{u:Value}(h:b≠g):(W.setCell ⟨g,i,none⟩ u).cell? ⟨b,j,none⟩=W.cell? ⟨b,j,none⟩:=World.cell?_of_block (Below.heap_setCell W ⟨g,i,none⟩ u b h)
theorem Ai1 (w:World)(x:List UInt8):View (w.alloc (.cells #[.string ⟨x.toArray⟩] 9)) (.slice (some ⟨w.heap.size,0,none⟩) 1 1) [x]:=by
 refine⟨_,1,rfl,Nat.le_refl _,by decide,fun i hi=>⟨w.heap.size,0,rfl,?_⟩⟩
 obtain rfl:i=0:=by simpa using hi
 exact Aap (Aag w _) rfl
theorem Av6 (F:Fence)(hwide:F=Fence.wide)(n:Nat)(hn:4<=n)(n₀ g:Nat)(T:Value×Value×Value)(p0 links:Int)(st:List (List UInt8))(p:List UInt8)(hp:p.length<=100000)(hst:st.length<=100000)(w:World)(hn₀:n₀<=w.heap.size)(hW:Abr n₀ g T w p0 st links) :
  CallsIn F n Tryz.prog 153 #[.pointer (some ⟨g,0,none⟩),.string ⟨p.toArray⟩] w fun e w'=>(∃ u,e=.returned u)/\Abr n₀ g T w' (if Ac6 p then 0 else p0) (st ++ (Aaq p).reverse) links/\Moved g w w':=by
 have hO:Open F:=by rw[hwide];exact Ahm
 have hro:F.round=none:=hO.ro
 have h41:F.fn 175:=hO.fn _
 have h38:F.fn 172:=hO.fn _
 have h42:F.fn 176:=hO.fn _
 have h1:1<=n:=by omega
 have hlt:=hW.lt
 obtain⟨c0,c1,c2,c3,-,c5⟩:=Aa8 hW
 have f3:=Abk hW 3
 have f4:=Abk hW 4
 have HW:=Hd hW
 have HWIDE:=Hd hwide
 clear hW hwide
 refine callsIn_of_wp_marks Tryz.func153 rfl (hO.fn _) ?_ hro
 simp only[Tryz.ntmps153,List.size_toArray,List.length_cons,List.length_nil,Nat.reduceAdd,Nat.reduceSub,Array.replicate_succ,Array.replicate_zero,List.push_toArray,List.append_toArray,List.nil_append,List.cons_append]
 cases hwh:Ac6 p with
 | true=>
  have HWH:=Hd hwh
  obtain⟨U,hUe⟩:∃ U,U=(w.setCell ⟨g,3,none⟩ (.int .i64 0)).alloc (.cells #[.pointer (some ⟨g,0,none⟩)] 194):=⟨_,rfl⟩
  have hUs:U.heap.size=w.heap.size+1:=by rw[hUe];simp[World.setCell]
  have HUW:=Hd (show Abr n₀ g T U 0 st links by rw[hUe];exact(Al0 HW.out 0).below (Aab _ _))
  have HUM:=Hd (show Moved g w U by rw[hUe];exact(Moved.set w 3 _).trans (Moved.of_below (Aab _ _) (by rw[Adp];exact Nat.le_of_lt hlt)))
  have HUB:=Hd (show U.heap[w.heap.size]?=some (.cells #[.pointer (some ⟨g,0,none⟩)] 194) by rw[hUe];exact(by have h:=Aag (w.setCell ⟨g,3,none⟩ (.int .i64 0)) (Obj.cells #[.pointer (some ⟨g,0,none⟩)] 194);rw[Adp]at h;exact h))
  gi_wp2_with (first|(gi_at_call 175;refine(hO.calls (Akq p _ HWH.out _)).mono ?_;rintro e w' ⟨rfl,rfl⟩)|(gi_at_call 172;rw[<-hUe];refine(hO.calls (Ajx ⟨p.toArray⟩ (by rw[Acj];omega) U)).mono ?_;rintro e w3 ⟨v3,rfl,hT3,hb3⟩;(obtain⟨na,nc,rfl,-,-,-⟩:=hT3.view);have HT3:=Hd hT3;have HB3:=Hd hb3;clear hT3 hb3)|(gi_at_call 176;refine(Asd F hO (n - 1) _ _ _ _).mono ?_;rintro e w4 ⟨rfl,hw4⟩)|fail)
  obtain⟨N,hNe⟩:∃ N,N=Aaq (⟨p.toArray⟩:ByteArray).data.toList:=⟨_,rfl⟩
  have hNp:N=Aaq p:=hNe
  have hNl:N.length<=100001:=by rw[hNp];have:=Aca p;omega
  rw[<-hNe]at HT3 hw4
  try rw[<-hNe]
  rw[<-hw4]
  obtain⟨v3,hv3⟩:∃ v3,v3=Value.slice na N.length nc:=⟨_,rfl⟩
  have HT:=Hd HT3.out
  rw[<-hv3]at HT
  have hs3:=HB3.out.size
  have hs4:w4.heap.size=w3.heap.size+1:=by rw[hw4];simp
  have hb4:Below w3.heap.size w3 w4:=by rw[hw4];exact Aab _ _
  have hbU:Below U.heap.size U w4:=HB3.out.trans (hb4.mono hs3)
  have hgU:g < U.heap.size:=by omega
  have hown:∀ k,v3.ownBlock=some k->U.heap.size<=k/\k < w3.heap.size:=fun k hk=>⟨(HT.out.held.own hk).1,by obtain⟨-,cur,hc⟩:=HT.out.held.own hk;exact(Array.getElem?_eq_some_iff.1 hc).1⟩
  have hrow:Ai4 w3.heap.size v3 U.heap.size N w4:=⟨by rw[hw4,hv3];exact(Boxed.new w3 61 _).cell,HT.out.held.kept fun k hk=>hb4.block k (hown k hk).2⟩
  have hx4:WayX n₀ g T (fun k=>v3.ownBlock=some k∨k=w3.heap.size) w4 0 (st ++ ([]:List (Nat×List UInt8)).map Prod.snd) links:=by
   obtain⟨h0,v,h1,h2⟩:=HUW.out
   refine⟨h0,v,(hbU.block g hgU).trans h1,?_,fun k hk e=>?_⟩
   ·rw[List.map_nil,List.append_nil]
    exact h2.kept fun k hk=>by obtain⟨-,cur,hc⟩:=h2.own hk;exact hbU.block k (Array.getElem?_eq_some_iff.1 hc).1
   ·obtain⟨-,cur,hc⟩:=h2.own e
    have h3:=(Array.getElem?_eq_some_iff.1 hc).1
    rcases hk with hk|hk
    ·have h4:=(hown k hk).1
     omega
    ·omega
  have hbx:Boxed w4 w.heap.size 194 (.pointer (some ⟨g,0,none⟩)):=(hbU.block _ (by omega)).trans HUB.out
  have hmv:Moved g w w4:=HUM.out.trans (Moved.of_below hbU (by omega))
  have HX4:=Hd hx4
  have HBX:=Hd hbx
  have HMV:=Hd hmv
  have HROW:=Hd hrow
  have HOWN:=Hd hown
  have HNP:=Hd hNp
  clear hx4 hbx hmv hrow hown hb4 hbU hNe hNp HT HT3 HB3 HUB HUM HUW hUe hw4 c0 c1 c2 c3 c5 f3 f4
  rw[<-hv3]
  clear hv3
  refine wpIn_rangeFunc_ownG hro h1 (gf:=191) (lb:=#[.pointer (some ⟨w3.heap.size,0,none⟩)]) rfl (hO.fn _) (enters_of Tryz.func191 (by kernel_rfl) rfl)
   (Ake F hO (n - 1) (by omega) w3.heap.size U.heap.size v3 N (by omega) w4 (by omega) (fun k hk=>by have:=(HOWN.out k hk).2;omega) HROW.out) Atc (Atb (by omega) (fun k hk=>by have:=(HOWN.out k hk).2;omega)) (Below.refl _ _) (fun _=>rfl)
   (fun pre W=>WayX n₀ g T (fun k=>v3.ownBlock=some k∨k=w3.heap.size) W 0 (st ++ pre.map Prod.snd) links/\Boxed W w.heap.size 194 (.pointer (some ⟨g,0,none⟩))/\Moved g w W/\w4.heap.size<=W.heap.size)
   (fun _ _ _=>False)
   (OwnFrom.and (Own.from (Aqk n₀ g T (fun k=>v3.ownBlock=some k∨k=w3.heap.size) (fun _=>0) (fun pre:List (Nat×List UInt8)=>st ++ pre.map Prod.snd) (fun _=>links)) _) (OwnFrom.and (Own.from (boxed_own _ _ _) _) (OwnFrom.and (Aex (by omega) (by omega)) (fun _ X Y row h hg _=>Nat.le_trans h hg.size))))
   (fun _ _ _ _ _ hs _ _=>hs)
   ⟨HX4.out,HBX.out,HMV.out,Nat.le_refl _⟩
   (fun x=>{ tmps:=#[.pointer (some ⟨g,0,none⟩),.string ⟨p.toArray⟩,.pointer (some ⟨w.heap.size,0,none⟩),undef,undef,.string ⟨x.2.toArray⟩,.string ⟨p.toArray⟩,.bool true,.pointer (some ⟨g,0,none⟩),.pointer (some ⟨g,0,none⟩),.pointer (some ⟨g,3,none⟩),.string ⟨p.toArray⟩,v3,.func (.func 191) #[] #[.pointer (some ⟨w3.heap.size,0,none⟩)],.int .i64 (x.1:Nat),.string ⟨x.2.toArray⟩,undef,undef,undef,undef,undef,undef,undef,undef,undef,undef],defers:=[] }) ?assign ?body ?done ?stop
  case assign=>
   intro l x W K hK
   gi_wp2
   exact hK
  case body=>
   rintro l pre x W ⟨hS,hbx,hmv,HSZW⟩ hltn
   obtain⟨h0,v,hb,hh,hap⟩:=hS
   have hbc:=hbx.cell
   have hvc:W.cell? ⟨g,4,none⟩=some v:=Aap hb rfl
   have hfz:W.frozen? ⟨g,4,none⟩=false:=by simp only[World.frozen?,hb];simp
   have hgW:g < W.heap.size:=(Array.getElem?_eq_some_iff.1 hb).1
   have hsw:=hmv.below.size
   have hwW:w.heap.size < W.heap.size:=hbx.lt
   have hw:=HWIDE.out
   subst hw
   have HH:=Hd hh
   have HAP:=Hd hap
   have HHB:=Hd hb
   have HBX2:=Hd hbx
   have HMV2:=Hd hmv
   have HSZ:=Hd (show w4.heap.size<=W.heap.size from HSZW)
   have hpl:(pre.map Prod.snd).length < N.length:=by simpa using hltn
   clear hh hap hb hbx hmv
   gi_wp2
   refine Acb (S:=fun W'=>W'.cell? ⟨w.heap.size,0,none⟩=some (.pointer (some ⟨g,0,none⟩))) (by kernel_rfl) (by kernel_rfl) ?_
   have hHeld:W.drew.cell? ⟨w.heap.size,0,none⟩=some (.pointer (some ⟨g,0,none⟩)):=hbc
   have hAlt:∀ k,(v3.ownBlock=some k∨k=w3.heap.size)->k < W.heap.size:=fun k hk=>by
    have h3:w4.heap.size<=W.heap.size:=HSZ.out
    rcases hk with hk|hk
    ·have:=(HOWN.out k hk).2;omega
    ·omega
   have hAne:∀ k,(v3.ownBlock=some k∨k=w3.heap.size)->k≠g:=fun k hk=>by
    rcases hk with hk|hk
    ·have:=(HOWN.out k hk).1;omega
    ·omega
   have HNB:=Hd (show v.ownBlock≠some w.heap.size from fun e=>by
    obtain⟨-,cur,hc⟩:=HH.out.own e
    have h2:W.heap[w.heap.size]?=_:=HBX2.out
    rw[hc]at h2
    cases h2)
   have HH5:=Hd (show Held n₀ (W.drew.alloc (.cells #[.string ⟨x.2.toArray⟩] 9)) v (st ++ pre.map Prod.snd)from HH.out.kept fun k hk=>by
    obtain⟨-,cur,hc⟩:=HH.out.own hk
    exact Below.heap_alloc W.drew _ k (Array.getElem?_eq_some_iff.1 hc).1)
   refine wpAnyH_take (i:=0) (v:=?_) rfl (by kernel_rfl) (by kernel_rfl) (by kernel_rfl) (fun _ _ _ h=>h) (Or.inl ⟨by rfl,?hyt0⟩) hHeld ?restt0
   case hyt0=>intro W hSw;go_simp <;> with_reducible rfl
   try simp only[Act.put,Zaa]
   refine wpAnyH_take (i:=1) (v:=?_) rfl (by kernel_rfl) (by kernel_rfl) (by kernel_rfl) (fun _ _ _ h=>h) (Or.inl ⟨by rfl,?hyt1⟩) hHeld ?restt1
   case hyt1=>intro W hSw;go_simp <;> with_reducible rfl
   try simp only[Act.put]
   refine wpAnyH_take (i:=2) (v:=?_) rfl (by kernel_rfl) (by kernel_rfl) (by kernel_rfl) (fun _ _ _ h=>h) (Or.inl ⟨by rfl,?hyt2⟩) hHeld ?restt2
   case hyt2=>intro W hSw;go_simp <;> with_reducible rfl
   try simp only[Act.put]
   refine wpAnyH_take (i:=3) (v:=?_) rfl (by kernel_rfl) (by kernel_rfl) (by kernel_rfl) (fun _ _ _ h=>h) (Or.inl ⟨by rfl,?hyt3⟩) hHeld ?restt3
   case hyt3=>intro W hSw;go_simp <;> with_reducible rfl
   try simp only[Act.put]
   refine wpAnyH_take (i:=5) (v:=?_) rfl (by kernel_rfl) (by kernel_rfl) (by kernel_rfl) (fun _ _ _ h=>h) (Or.inl ⟨by rfl,?hyt5⟩) hHeld ?restt5
   case hyt5=>intro W hSw;go_simp <;> with_reducible rfl
   try simp only[Act.put]
   refine wpAnyH_ready (rs:=[4,6]) (by kernel_rfl) (by simp) ?_
   refine AllReadyH.cons rfl (fun K hK=>?_) (AllReadyH.cons rfl (fun K hK=>?_) AllReadyH.nil)
   ·go_simp
    refine hK.out _ _ hHeld (fun hHeld=>?_)
    clear hK K
    try simp only[Act.put,Zaa,Zab,Zac]
    refine wpAnyH_ready (rs:=[6]) (by kernel_rfl) (by simp) ?_
    refine AllReadyH.cons rfl (fun K hK=>?_) AllReadyH.nil
    go_simp
    refine hK.out _ _ (Aem hHeld) (fun hHeld=>?_)
    clear hK K
    try simp only[Act.put,Zaa,Zab,Zac]
    refine wpAnyH_ready (rs:=[7]) (by kernel_rfl) (by simp) ?_
    refine AllReadyH.cons rfl (fun K hK=>?_) AllReadyH.nil
    refine Adc (B:=n₀) (v:=v) (L:=st ++ pre.map Prod.snd) (L2:=[x.2]) (HH5.out) (Ai1 _ _) (by simp only[List.length_append,List.length_cons,List.length_nil];omega) (by rw[World.size_alloc];show n₀<=W.heap.size+1;omega) rfl _ _ rfl rfl rfl ?_
    intro v' w5 hH5 hg5 hf5
    obtain⟨va,vl,vc,hv'⟩:∃ va vl vc,v'=.slice va vl vc:=by
     obtain⟨va,vc,e,-⟩:=hH5.view
     exact⟨va,_,vc,e⟩
    subst hv'
    obtain⟨e1,e2,e3,e4⟩:=Agb h0 HHB.out HH.out HAP.out hAlt hg5 hH5 hf5
    have hc5:w5.cell? ⟨g,4,none⟩=some v:=(World.cell?_of_block (w:=W) (a:=⟨g,4,none⟩) ((hg5.block g (by rw[World.size_alloc];show g < W.heap.size+1;omega) (fun e=>by have:=(HH.out.own e.symm).1;omega)).trans (Below.heap_alloc W.drew _ g hgW))).trans hvc
    have hf5':w5.frozen? ⟨g,4,none⟩=false:=(World.frozen?_of_block (w:=W) (a:=⟨g,4,none⟩) ((hg5.block g (by rw[World.size_alloc];show g < W.heap.size+1;omega) (fun e=>by have:=(HH.out.own e.symm).1;omega)).trans (Below.heap_alloc W.drew _ g hgW))).trans hfz
    have hb5:w5.cell? ⟨w.heap.size,0,none⟩=some (.pointer (some ⟨g,0,none⟩)):=(World.cell?_of_block (w:=W) (a:=⟨w.heap.size,0,none⟩) ((hg5.block w.heap.size (by rw[World.size_alloc];show w.heap.size < W.heap.size+1;omega) (fun e=>HNB.out e.symm)).trans (Below.heap_alloc W.drew _ _ hwW))).trans hbc
    have E1:=Hd e1
    have E2:=Hd e2
    have E3:=Hd e3
    have E4:=Hd e4
    clear e1 e2 e3 e4 hg5 hH5 hf5 hvc hfz
    refine hK.out _ _ hb5 (fun hHeld=>?_)
    clear hK K
    try simp only[Act.put,Zaa]
    refine wpAnyH_take (i:=8) (v:=?_) rfl (by kernel_rfl) (by kernel_rfl) (by kernel_rfl) (fun _ _ _ h=>h) (Or.inl ⟨by rfl,?hyTAt8⟩) hHeld ?restTAt8
    case hyTAt8=>intro W hSw;go_simp <;> with_reducible rfl
    try simp only[Act.put]
    refine wpAnyH_take (i:=9) (v:=?_) rfl (by kernel_rfl) (by kernel_rfl) (by kernel_rfl) (fun _ _ _ h=>h) (Or.inl ⟨by rfl,?hyTAt9⟩) hHeld ?restTAt9
    case hyTAt9=>intro W hSw;go_simp <;> with_reducible rfl
    try simp only[Act.put]
    refine wpAnyH_ready (rs:=[10]) (by kernel_rfl) (by simp) ?_
    refine AllReadyH.cons rfl (fun K hK=>?_) AllReadyH.nil
    go_simp
    refine hK.out _ _ ?_ (fun hHeld=>?_)
    ·rw[Af9 (by omega)];exact hb5
    clear hK K
    refine wpAnyH_done (by kernel_rfl) ⟨rfl,?_⟩ _
    show KeepsFrom w4.heap.size W _/\Ai3 w3.heap.size v3 W _/\WayX _ _ _ _ _ _ _ _/\Boxed _ _ _ _/\Moved g w _/\_
    refine⟨E1.out.from _,⟨E2.out _ (hAlt _ (Or.inr rfl)) (hAne _ (Or.inr rfl)) (HAP.out _ (Or.inr rfl)),fun k hk=>E2.out _ (hAlt _ (Or.inl hk)) (hAne _ (Or.inl hk)) (HAP.out _ (Or.inl hk))⟩,?_,?_,HMV2.out.trans E4.out,Nat.le_trans HSZ.out E1.out.size⟩
    ·rw[List.map_append,<-List.append_assoc];exact E3.out
    ·exact(E2.out _ hwW (by omega) HNB.out).trans HBX2.out
   ·go_simp
    refine hK.out _ _ (Aem hHeld) (fun hHeld=>?_)
    clear hK K
    try simp only[Act.put,Zaa,Zab,Zac]
    have hvc2:=Aem (o:=.cells #[.string ⟨x.2.toArray⟩] 9) (w:=W.drew) hvc
    refine wpAnyH_ready (rs:=[4]) (by kernel_rfl) (by simp) ?_
    refine AllReadyH.cons rfl (fun K hK=>?_) AllReadyH.nil
    go_simp
    refine hK.out _ _ hHeld (fun hHeld=>?_)
    clear hK K hvc2
    try simp only[Act.put,Zaa,Zab,Zac]
    refine wpAnyH_ready (rs:=[7]) (by kernel_rfl) (by simp) ?_
    refine AllReadyH.cons rfl (fun K hK=>?_) AllReadyH.nil
    refine Adc (B:=n₀) (v:=v) (L:=st ++ pre.map Prod.snd) (L2:=[x.2]) (HH5.out) (Ai1 _ _) (by simp only[List.length_append,List.length_cons,List.length_nil];omega) (by rw[World.size_alloc];show n₀<=W.heap.size+1;omega) rfl _ _ rfl rfl rfl ?_
    intro v' w5 hH5 hg5 hf5
    obtain⟨va,vl,vc,hv'⟩:∃ va vl vc,v'=.slice va vl vc:=by
     obtain⟨va,vc,e,-⟩:=hH5.view
     exact⟨va,_,vc,e⟩
    subst hv'
    obtain⟨e1,e2,e3,e4⟩:=Agb h0 HHB.out HH.out HAP.out hAlt hg5 hH5 hf5
    have hc5:w5.cell? ⟨g,4,none⟩=some v:=(World.cell?_of_block (w:=W) (a:=⟨g,4,none⟩) ((hg5.block g (by rw[World.size_alloc];show g < W.heap.size+1;omega) (fun e=>by have:=(HH.out.own e.symm).1;omega)).trans (Below.heap_alloc W.drew _ g hgW))).trans hvc
    have hf5':w5.frozen? ⟨g,4,none⟩=false:=(World.frozen?_of_block (w:=W) (a:=⟨g,4,none⟩) ((hg5.block g (by rw[World.size_alloc];show g < W.heap.size+1;omega) (fun e=>by have:=(HH.out.own e.symm).1;omega)).trans (Below.heap_alloc W.drew _ g hgW))).trans hfz
    have hb5:w5.cell? ⟨w.heap.size,0,none⟩=some (.pointer (some ⟨g,0,none⟩)):=(World.cell?_of_block (w:=W) (a:=⟨w.heap.size,0,none⟩) ((hg5.block w.heap.size (by rw[World.size_alloc];show w.heap.size < W.heap.size+1;omega) (fun e=>HNB.out e.symm)).trans (Below.heap_alloc W.drew _ _ hwW))).trans hbc
    have E1:=Hd e1
    have E2:=Hd e2
    have E3:=Hd e3
    have E4:=Hd e4
    clear e1 e2 e3 e4 hg5 hH5 hf5 hvc hfz
    refine hK.out _ _ hb5 (fun hHeld=>?_)
    clear hK K
    try simp only[Act.put,Zaa]
    refine wpAnyH_take (i:=8) (v:=?_) rfl (by kernel_rfl) (by kernel_rfl) (by kernel_rfl) (fun _ _ _ h=>h) (Or.inl ⟨by rfl,?hyTBt8⟩) hHeld ?restTBt8
    case hyTBt8=>intro W hSw;go_simp <;> with_reducible rfl
    try simp only[Act.put]
    refine wpAnyH_take (i:=9) (v:=?_) rfl (by kernel_rfl) (by kernel_rfl) (by kernel_rfl) (fun _ _ _ h=>h) (Or.inl ⟨by rfl,?hyTBt9⟩) hHeld ?restTBt9
    case hyTBt9=>intro W hSw;go_simp <;> with_reducible rfl
    try simp only[Act.put]
    refine wpAnyH_ready (rs:=[10]) (by kernel_rfl) (by simp) ?_
    refine AllReadyH.cons rfl (fun K hK=>?_) AllReadyH.nil
    go_simp
    refine hK.out _ _ ?_ (fun hHeld=>?_)
    ·rw[Af9 (by omega)];exact hb5
    clear hK K
    refine wpAnyH_done (by kernel_rfl) ⟨rfl,?_⟩ _
    show KeepsFrom w4.heap.size W _/\Ai3 w3.heap.size v3 W _/\WayX _ _ _ _ _ _ _ _/\Boxed _ _ _ _/\Moved g w _/\_
    refine⟨E1.out.from _,⟨E2.out _ (hAlt _ (Or.inr rfl)) (hAne _ (Or.inr rfl)) (HAP.out _ (Or.inr rfl)),fun k hk=>E2.out _ (hAlt _ (Or.inl hk)) (hAne _ (Or.inl hk)) (HAP.out _ (Or.inl hk))⟩,?_,?_,HMV2.out.trans E4.out,Nat.le_trans HSZ.out E1.out.size⟩
    ·rw[List.map_append,<-List.append_assoc];exact E3.out
    ·exact(E2.out _ hwW (by omega) HNB.out).trans HBX2.out
  case done=>
   rintro D ys W hD hys ⟨hS,hbx,hmv,-⟩ hK
   gi_wp2
   refine⟨by simp,.inl ⟨_,_,rfl,run_takeDeferred hK,?_⟩⟩
   refine⟨_,results_none rfl _ _ _,⟨_,rfl⟩,?_,?_⟩
   ·rw[hys,HNP.out]at hS
    exact hS.way.own (grownBy_putObj' W D _) (fun r e=>by cases e;exact⟨_,hK,rfl⟩)
   ·exact Aex (β:=Unit) (B:=w4.heap.size) (by omega) (by omega) () W _ (some D) hmv (grownBy_putObj' W D _) (fun r e=>by cases e;exact⟨hD,_,hK,rfl⟩)
  case stop=>
   rintro D c pre W _ _ h _
   exact h.elim
 | false=>
  have HWH:=Hd hwh
  obtain⟨U,hUe⟩:∃ U,U=w.alloc (.cells #[.pointer (some ⟨g,0,none⟩)] 194):=⟨_,rfl⟩
  have hUs:U.heap.size=w.heap.size+1:=by rw[hUe];simp[]
  have HUW:=Hd (show Abr n₀ g T U p0 st links by rw[hUe];exact HW.out.below (Aab w _))
  have HUM:=Hd (show Moved g w U by rw[hUe];exact Moved.of_below (Aab w _) (Nat.le_of_lt hlt))
  have HUB:=Hd (show U.heap[w.heap.size]?=some (.cells #[.pointer (some ⟨g,0,none⟩)] 194) by rw[hUe];exact Aag w _)
  gi_wp2_with (first|(gi_at_call 175;refine(hO.calls (Akq p _ HWH.out _)).mono ?_;rintro e w' ⟨rfl,rfl⟩)|(gi_at_call 172;rw[<-hUe];refine(hO.calls (Ajx ⟨p.toArray⟩ (by rw[Acj];omega) U)).mono ?_;rintro e w3 ⟨v3,rfl,hT3,hb3⟩;(obtain⟨na,nc,rfl,-,-,-⟩:=hT3.view);have HT3:=Hd hT3;have HB3:=Hd hb3;clear hT3 hb3)|(gi_at_call 176;refine(Asd F hO (n - 1) _ _ _ _).mono ?_;rintro e w4 ⟨rfl,hw4⟩)|fail)
  obtain⟨N,hNe⟩:∃ N,N=Aaq (⟨p.toArray⟩:ByteArray).data.toList:=⟨_,rfl⟩
  have hNp:N=Aaq p:=hNe
  have hNl:N.length<=100001:=by rw[hNp];have:=Aca p;omega
  rw[<-hNe]at HT3 hw4
  try rw[<-hNe]
  rw[<-hw4]
  obtain⟨v3,hv3⟩:∃ v3,v3=Value.slice na N.length nc:=⟨_,rfl⟩
  have HT:=Hd HT3.out
  rw[<-hv3]at HT
  have hs3:=HB3.out.size
  have hs4:w4.heap.size=w3.heap.size+1:=by rw[hw4];simp
  have hb4:Below w3.heap.size w3 w4:=by rw[hw4];exact Aab _ _
  have hbU:Below U.heap.size U w4:=HB3.out.trans (hb4.mono hs3)
  have hgU:g < U.heap.size:=by omega
  have hown:∀ k,v3.ownBlock=some k->U.heap.size<=k/\k < w3.heap.size:=fun k hk=>⟨(HT.out.held.own hk).1,by obtain⟨-,cur,hc⟩:=HT.out.held.own hk;exact(Array.getElem?_eq_some_iff.1 hc).1⟩
  have hrow:Ai4 w3.heap.size v3 U.heap.size N w4:=⟨by rw[hw4,hv3];exact(Boxed.new w3 61 _).cell,HT.out.held.kept fun k hk=>hb4.block k (hown k hk).2⟩
  have hx4:WayX n₀ g T (fun k=>v3.ownBlock=some k∨k=w3.heap.size) w4 p0 (st ++ ([]:List (Nat×List UInt8)).map Prod.snd) links:=by
   obtain⟨h0,v,h1,h2⟩:=HUW.out
   refine⟨h0,v,(hbU.block g hgU).trans h1,?_,fun k hk e=>?_⟩
   ·rw[List.map_nil,List.append_nil]
    exact h2.kept fun k hk=>by obtain⟨-,cur,hc⟩:=h2.own hk;exact hbU.block k (Array.getElem?_eq_some_iff.1 hc).1
   ·obtain⟨-,cur,hc⟩:=h2.own e
    have h3:=(Array.getElem?_eq_some_iff.1 hc).1
    rcases hk with hk|hk
    ·have h4:=(hown k hk).1
     omega
    ·omega
  have hbx:Boxed w4 w.heap.size 194 (.pointer (some ⟨g,0,none⟩)):=(hbU.block _ (by omega)).trans HUB.out
  have hmv:Moved g w w4:=HUM.out.trans (Moved.of_below hbU (by omega))
  have HX4:=Hd hx4
  have HBX:=Hd hbx
  have HMV:=Hd hmv
  have HROW:=Hd hrow
  have HOWN:=Hd hown
  have HNP:=Hd hNp
  clear hx4 hbx hmv hrow hown hb4 hbU hNe hNp HT HT3 HB3 HUB HUM HUW hUe hw4 c0 c1 c2 c3 c5 f3 f4
  rw[<-hv3]
  clear hv3
  refine wpIn_rangeFunc_ownG hro h1 (gf:=191) (lb:=#[.pointer (some ⟨w3.heap.size,0,none⟩)]) rfl (hO.fn _) (enters_of Tryz.func191 (by kernel_rfl) rfl)
   (Ake F hO (n - 1) (by omega) w3.heap.size U.heap.size v3 N (by omega) w4 (by omega) (fun k hk=>by have:=(HOWN.out k hk).2;omega) HROW.out) Atc (Atb (by omega) (fun k hk=>by have:=(HOWN.out k hk).2;omega)) (Below.refl _ _) (fun _=>rfl)
   (fun pre W=>WayX n₀ g T (fun k=>v3.ownBlock=some k∨k=w3.heap.size) W p0 (st ++ pre.map Prod.snd) links/\Boxed W w.heap.size 194 (.pointer (some ⟨g,0,none⟩))/\Moved g w W/\w4.heap.size<=W.heap.size)
   (fun _ _ _=>False)
   (OwnFrom.and (Own.from (Aqk n₀ g T (fun k=>v3.ownBlock=some k∨k=w3.heap.size) (fun _=>p0) (fun pre:List (Nat×List UInt8)=>st ++ pre.map Prod.snd) (fun _=>links)) _) (OwnFrom.and (Own.from (boxed_own _ _ _) _) (OwnFrom.and (Aex (by omega) (by omega)) (fun _ X Y row h hg _=>Nat.le_trans h hg.size))))
   (fun _ _ _ _ _ hs _ _=>hs)
   ⟨HX4.out,HBX.out,HMV.out,Nat.le_refl _⟩
   (fun x=>{ tmps:=#[.pointer (some ⟨g,0,none⟩),.string ⟨p.toArray⟩,.pointer (some ⟨w.heap.size,0,none⟩),undef,undef,.string ⟨x.2.toArray⟩,.string ⟨p.toArray⟩,.bool false,undef,undef,undef,.string ⟨p.toArray⟩,v3,.func (.func 191) #[] #[.pointer (some ⟨w3.heap.size,0,none⟩)],.int .i64 (x.1:Nat),.string ⟨x.2.toArray⟩,undef,undef,undef,undef,undef,undef,undef,undef,undef,undef],defers:=[] }) ?assign ?body ?done ?stop
  case assign=>
   intro l x W K hK
   gi_wp2
   exact hK
  case body=>
   rintro l pre x W ⟨hS,hbx,hmv,HSZW⟩ hltn
   obtain⟨h0,v,hb,hh,hap⟩:=hS
   have hbc:=hbx.cell
   have hvc:W.cell? ⟨g,4,none⟩=some v:=Aap hb rfl
   have hfz:W.frozen? ⟨g,4,none⟩=false:=by simp only[World.frozen?,hb];simp
   have hgW:g < W.heap.size:=(Array.getElem?_eq_some_iff.1 hb).1
   have hsw:=hmv.below.size
   have hwW:w.heap.size < W.heap.size:=hbx.lt
   have hw:=HWIDE.out
   subst hw
   have HH:=Hd hh
   have HAP:=Hd hap
   have HHB:=Hd hb
   have HBX2:=Hd hbx
   have HMV2:=Hd hmv
   have HSZ:=Hd (show w4.heap.size<=W.heap.size from HSZW)
   have hpl:(pre.map Prod.snd).length < N.length:=by simpa using hltn
   clear hh hap hb hbx hmv
   gi_wp2
   refine Acb (S:=fun W'=>W'.cell? ⟨w.heap.size,0,none⟩=some (.pointer (some ⟨g,0,none⟩))) (by kernel_rfl) (by kernel_rfl) ?_
   have hHeld:W.drew.cell? ⟨w.heap.size,0,none⟩=some (.pointer (some ⟨g,0,none⟩)):=hbc
   have hAlt:∀ k,(v3.ownBlock=some k∨k=w3.heap.size)->k < W.heap.size:=fun k hk=>by
    have h3:w4.heap.size<=W.heap.size:=HSZ.out
    rcases hk with hk|hk
    ·have:=(HOWN.out k hk).2;omega
    ·omega
   have hAne:∀ k,(v3.ownBlock=some k∨k=w3.heap.size)->k≠g:=fun k hk=>by
    rcases hk with hk|hk
    ·have:=(HOWN.out k hk).1;omega
    ·omega
   have HNB:=Hd (show v.ownBlock≠some w.heap.size from fun e=>by
    obtain⟨-,cur,hc⟩:=HH.out.own e
    have h2:W.heap[w.heap.size]?=_:=HBX2.out
    rw[hc]at h2
    cases h2)
   have HH5:=Hd (show Held n₀ (W.drew.alloc (.cells #[.string ⟨x.2.toArray⟩] 9)) v (st ++ pre.map Prod.snd)from HH.out.kept fun k hk=>by
    obtain⟨-,cur,hc⟩:=HH.out.own hk
    exact Below.heap_alloc W.drew _ k (Array.getElem?_eq_some_iff.1 hc).1)
   refine wpAnyH_take (i:=0) (v:=?_) rfl (by kernel_rfl) (by kernel_rfl) (by kernel_rfl) (fun _ _ _ h=>h) (Or.inl ⟨by rfl,?hyf0⟩) hHeld ?restf0
   case hyf0=>intro W hSw;go_simp <;> with_reducible rfl
   try simp only[Act.put,Zaa]
   refine wpAnyH_take (i:=1) (v:=?_) rfl (by kernel_rfl) (by kernel_rfl) (by kernel_rfl) (fun _ _ _ h=>h) (Or.inl ⟨by rfl,?hyf1⟩) hHeld ?restf1
   case hyf1=>intro W hSw;go_simp <;> with_reducible rfl
   try simp only[Act.put]
   refine wpAnyH_take (i:=2) (v:=?_) rfl (by kernel_rfl) (by kernel_rfl) (by kernel_rfl) (fun _ _ _ h=>h) (Or.inl ⟨by rfl,?hyf2⟩) hHeld ?restf2
   case hyf2=>intro W hSw;go_simp <;> with_reducible rfl
   try simp only[Act.put]
   refine wpAnyH_take (i:=3) (v:=?_) rfl (by kernel_rfl) (by kernel_rfl) (by kernel_rfl) (fun _ _ _ h=>h) (Or.inl ⟨by rfl,?hyf3⟩) hHeld ?restf3
   case hyf3=>intro W hSw;go_simp <;> with_reducible rfl
   try simp only[Act.put]
   refine wpAnyH_take (i:=5) (v:=?_) rfl (by kernel_rfl) (by kernel_rfl) (by kernel_rfl) (fun _ _ _ h=>h) (Or.inl ⟨by rfl,?hyf5⟩) hHeld ?restf5
   case hyf5=>intro W hSw;go_simp <;> with_reducible rfl
   try simp only[Act.put]
   refine wpAnyH_ready (rs:=[4,6]) (by kernel_rfl) (by simp) ?_
   refine AllReadyH.cons rfl (fun K hK=>?_) (AllReadyH.cons rfl (fun K hK=>?_) AllReadyH.nil)
   ·go_simp
    refine hK.out _ _ hHeld (fun hHeld=>?_)
    clear hK K
    try simp only[Act.put,Zaa,Zab,Zac]
    refine wpAnyH_ready (rs:=[6]) (by kernel_rfl) (by simp) ?_
    refine AllReadyH.cons rfl (fun K hK=>?_) AllReadyH.nil
    go_simp
    refine hK.out _ _ (Aem hHeld) (fun hHeld=>?_)
    clear hK K
    try simp only[Act.put,Zaa,Zab,Zac]
    refine wpAnyH_ready (rs:=[7]) (by kernel_rfl) (by simp) ?_
    refine AllReadyH.cons rfl (fun K hK=>?_) AllReadyH.nil
    refine Adc (B:=n₀) (v:=v) (L:=st ++ pre.map Prod.snd) (L2:=[x.2]) (HH5.out) (Ai1 _ _) (by simp only[List.length_append,List.length_cons,List.length_nil];omega) (by rw[World.size_alloc];show n₀<=W.heap.size+1;omega) rfl _ _ rfl rfl rfl ?_
    intro v' w5 hH5 hg5 hf5
    obtain⟨va,vl,vc,hv'⟩:∃ va vl vc,v'=.slice va vl vc:=by
     obtain⟨va,vc,e,-⟩:=hH5.view
     exact⟨va,_,vc,e⟩
    subst hv'
    obtain⟨e1,e2,e3,e4⟩:=Agb h0 HHB.out HH.out HAP.out hAlt hg5 hH5 hf5
    have hc5:w5.cell? ⟨g,4,none⟩=some v:=(World.cell?_of_block (w:=W) (a:=⟨g,4,none⟩) ((hg5.block g (by rw[World.size_alloc];show g < W.heap.size+1;omega) (fun e=>by have:=(HH.out.own e.symm).1;omega)).trans (Below.heap_alloc W.drew _ g hgW))).trans hvc
    have hf5':w5.frozen? ⟨g,4,none⟩=false:=(World.frozen?_of_block (w:=W) (a:=⟨g,4,none⟩) ((hg5.block g (by rw[World.size_alloc];show g < W.heap.size+1;omega) (fun e=>by have:=(HH.out.own e.symm).1;omega)).trans (Below.heap_alloc W.drew _ g hgW))).trans hfz
    have hb5:w5.cell? ⟨w.heap.size,0,none⟩=some (.pointer (some ⟨g,0,none⟩)):=(World.cell?_of_block (w:=W) (a:=⟨w.heap.size,0,none⟩) ((hg5.block w.heap.size (by rw[World.size_alloc];show w.heap.size < W.heap.size+1;omega) (fun e=>HNB.out e.symm)).trans (Below.heap_alloc W.drew _ _ hwW))).trans hbc
    have E1:=Hd e1
    have E2:=Hd e2
    have E3:=Hd e3
    have E4:=Hd e4
    clear e1 e2 e3 e4 hg5 hH5 hf5 hvc hfz
    refine hK.out _ _ hb5 (fun hHeld=>?_)
    clear hK K
    try simp only[Act.put,Zaa]
    refine wpAnyH_take (i:=8) (v:=?_) rfl (by kernel_rfl) (by kernel_rfl) (by kernel_rfl) (fun _ _ _ h=>h) (Or.inl ⟨by rfl,?hyTAf8⟩) hHeld ?restTAf8
    case hyTAf8=>intro W hSw;go_simp <;> with_reducible rfl
    try simp only[Act.put]
    refine wpAnyH_take (i:=9) (v:=?_) rfl (by kernel_rfl) (by kernel_rfl) (by kernel_rfl) (fun _ _ _ h=>h) (Or.inl ⟨by rfl,?hyTAf9⟩) hHeld ?restTAf9
    case hyTAf9=>intro W hSw;go_simp <;> with_reducible rfl
    try simp only[Act.put]
    refine wpAnyH_ready (rs:=[10]) (by kernel_rfl) (by simp) ?_
    refine AllReadyH.cons rfl (fun K hK=>?_) AllReadyH.nil
    go_simp
    refine hK.out _ _ ?_ (fun hHeld=>?_)
    ·rw[Af9 (by omega)];exact hb5
    clear hK K
    refine wpAnyH_done (by kernel_rfl) ⟨rfl,?_⟩ _
    show KeepsFrom w4.heap.size W _/\Ai3 w3.heap.size v3 W _/\WayX _ _ _ _ _ _ _ _/\Boxed _ _ _ _/\Moved g w _/\_
    refine⟨E1.out.from _,⟨E2.out _ (hAlt _ (Or.inr rfl)) (hAne _ (Or.inr rfl)) (HAP.out _ (Or.inr rfl)),fun k hk=>E2.out _ (hAlt _ (Or.inl hk)) (hAne _ (Or.inl hk)) (HAP.out _ (Or.inl hk))⟩,?_,?_,HMV2.out.trans E4.out,Nat.le_trans HSZ.out E1.out.size⟩
    ·rw[List.map_append,<-List.append_assoc];exact E3.out
    ·exact(E2.out _ hwW (by omega) HNB.out).trans HBX2.out
   ·go_simp
    refine hK.out _ _ (Aem hHeld) (fun hHeld=>?_)
    clear hK K
    try simp only[Act.put,Zaa,Zab,Zac]
    have hvc2:=Aem (o:=.cells #[.string ⟨x.2.toArray⟩] 9) (w:=W.drew) hvc
    refine wpAnyH_ready (rs:=[4]) (by kernel_rfl) (by simp) ?_
    refine AllReadyH.cons rfl (fun K hK=>?_) AllReadyH.nil
    go_simp
    refine hK.out _ _ hHeld (fun hHeld=>?_)
    clear hK K hvc2
    try simp only[Act.put,Zaa,Zab,Zac]
    refine wpAnyH_ready (rs:=[7]) (by kernel_rfl) (by simp) ?_
    refine AllReadyH.cons rfl (fun K hK=>?_) AllReadyH.nil
    refine Adc (B:=n₀) (v:=v) (L:=st ++ pre.map Prod.snd) (L2:=[x.2]) (HH5.out) (Ai1 _ _) (by simp only[List.length_append,List.length_cons,List.length_nil];omega) (by rw[World.size_alloc];show n₀<=W.heap.size+1;omega) rfl _ _ rfl rfl rfl ?_
    intro v' w5 hH5 hg5 hf5
    obtain⟨va,vl,vc,hv'⟩:∃ va vl vc,v'=.slice va vl vc:=by
     obtain⟨va,vc,e,-⟩:=hH5.view
     exact⟨va,_,vc,e⟩
    subst hv'
    obtain⟨e1,e2,e3,e4⟩:=Agb h0 HHB.out HH.out HAP.out hAlt hg5 hH5 hf5
    have hc5:w5.cell? ⟨g,4,none⟩=some v:=(World.cell?_of_block (w:=W) (a:=⟨g,4,none⟩) ((hg5.block g (by rw[World.size_alloc];show g < W.heap.size+1;omega) (fun e=>by have:=(HH.out.own e.symm).1;omega)).trans (Below.heap_alloc W.drew _ g hgW))).trans hvc
    have hf5':w5.frozen? ⟨g,4,none⟩=false:=(World.frozen?_of_block (w:=W) (a:=⟨g,4,none⟩) ((hg5.block g (by rw[World.size_alloc];show g < W.heap.size+1;omega) (fun e=>by have:=(HH.out.own e.symm).1;omega)).trans (Below.heap_alloc W.drew _ g hgW))).trans hfz
    have hb5:w5.cell? ⟨w.heap.size,0,none⟩=some (.pointer (some ⟨g,0,none⟩)):=(World.cell?_of_block (w:=W) (a:=⟨w.heap.size,0,none⟩) ((hg5.block w.heap.size (by rw[World.size_alloc];show w.heap.size < W.heap.size+1;omega) (fun e=>HNB.out e.symm)).trans (Below.heap_alloc W.drew _ _ hwW))).trans hbc
    have E1:=Hd e1
    have E2:=Hd e2
    have E3:=Hd e3
    have E4:=Hd e4
    clear e1 e2 e3 e4 hg5 hH5 hf5 hvc hfz
    refine hK.out _ _ hb5 (fun hHeld=>?_)
    clear hK K
    try simp only[Act.put,Zaa]
    refine wpAnyH_take (i:=8) (v:=?_) rfl (by kernel_rfl) (by kernel_rfl) (by kernel_rfl) (fun _ _ _ h=>h) (Or.inl ⟨by rfl,?hyTBf8⟩) hHeld ?restTBf8
    case hyTBf8=>intro W hSw;go_simp <;> with_reducible rfl
    try simp only[Act.put]
    refine wpAnyH_take (i:=9) (v:=?_) rfl (by kernel_rfl) (by kernel_rfl) (by kernel_rfl) (fun _ _ _ h=>h) (Or.inl ⟨by rfl,?hyTBf9⟩) hHeld ?restTBf9
    case hyTBf9=>intro W hSw;go_simp <;> with_reducible rfl
    try simp only[Act.put]
    refine wpAnyH_ready (rs:=[10]) (by kernel_rfl) (by simp) ?_
    refine AllReadyH.cons rfl (fun K hK=>?_) AllReadyH.nil
    go_simp
    refine hK.out _ _ ?_ (fun hHeld=>?_)
    ·rw[Af9 (by omega)];exact hb5
    clear hK K
    refine wpAnyH_done (by kernel_rfl) ⟨rfl,?_⟩ _
    show KeepsFrom w4.heap.size W _/\Ai3 w3.heap.size v3 W _/\WayX _ _ _ _ _ _ _ _/\Boxed _ _ _ _/\Moved g w _/\_
    refine⟨E1.out.from _,⟨E2.out _ (hAlt _ (Or.inr rfl)) (hAne _ (Or.inr rfl)) (HAP.out _ (Or.inr rfl)),fun k hk=>E2.out _ (hAlt _ (Or.inl hk)) (hAne _ (Or.inl hk)) (HAP.out _ (Or.inl hk))⟩,?_,?_,HMV2.out.trans E4.out,Nat.le_trans HSZ.out E1.out.size⟩
    ·rw[List.map_append,<-List.append_assoc];exact E3.out
    ·exact(E2.out _ hwW (by omega) HNB.out).trans HBX2.out
  case done=>
   rintro D ys W hD hys ⟨hS,hbx,hmv,-⟩ hK
   gi_wp2
   refine⟨by simp,.inl ⟨_,_,rfl,run_takeDeferred hK,?_⟩⟩
   refine⟨_,results_none rfl _ _ _,⟨_,rfl⟩,?_,?_⟩
   ·rw[hys,HNP.out]at hS
    exact hS.way.own (grownBy_putObj' W D _) (fun r e=>by cases e;exact⟨_,hK,rfl⟩)
   ·exact Aex (β:=Unit) (B:=w4.heap.size) (by omega) (by omega) () W _ (some D) hmv (grownBy_putObj' W D _) (fun r e=>by cases e;exact⟨hD,_,hK,rfl⟩)
  case stop=>
   rintro D c pre W _ _ h _
   exact h.elim
attribute [local go_sem] Oper.semAt_some
theorem Ah1 (n₀ g:Nat)(T:Value×Value×Value)(p0 links:Int)(st:List (List UInt8))(p:List UInt8)(hp:p.length<=100000)(hst:st.length<=100000)(w:World)(hn₀:n₀<=w.heap.size)(hW:Abr n₀ g T w p0 st links) :
  Calls Tryz.prog 153 #[.pointer (some ⟨g,0,none⟩),.string ⟨p.toArray⟩] w fun e w'=>(∃ u,e=.returned u)/\Abr n₀ g T w' (if Ac6 p then 0 else p0) (st ++ (Aaq p).reverse) links/\Moved g w w':=
 callsIn_wide.1 (Av6 Fence.wide rfl 4 (Nat.le_refl _) n₀ g T p0 links st p hp hst w hn₀ hW)
theorem Aqm {n₀ g:Nat}{T:Value×Value×Value}{W:World}{p:Int}{st st':List (List UInt8)}{links:Int}{v':Value}(h:Abr n₀ g T W p st links)(hv:Held n₀ W v' st'):Abr n₀ g T (W.setCell ⟨g,4,none⟩ v') p st' links:=by
 obtain⟨h0,v,h1,h2⟩:=h
 exact⟨h0,v',Ahq h1 4 _,Aiq hv h0 4 _⟩
theorem Aqn {n₀ g:Nat}{T:Value×Value×Value}{W:World}{p:Int}{st:List (List UInt8)}{links:Int}(h:Abr n₀ g T W p st links)(q:Int):Abr n₀ g T (W.setCell ⟨g,5,none⟩ (.int .i64 q)) p st q:=by
 obtain⟨h0,v,h1,h2⟩:=h
 exact⟨h0,v,Ahq h1 5 _,Aiq h2 h0 5 _⟩
theorem Atq (n₀ g:Nat)(T:Value×Value×Value)(p links:Int)(w:World)(hW:Abr n₀ g T w p [] links) :
  Calls Tryz.prog 204 #[.pointer (some ⟨g,0,none⟩)] w fun e w'=>e=.returned (.tuple #[.string ⟨#[]⟩,.bool false])/\w'=w:=by
 obtain⟨-,-,-,-,⟨v,c4,hv⟩,-⟩:=Aa8 hW
 obtain⟨na,nc,rfl,-,-,-⟩:=hv.view
 have hg:=hW.lt
 clear hW hv
 go_enter Tryz.func204,Tryz.ntmps204
 go_wp2_with fail
 go_ret2
 exact⟨rfl,rfl⟩
theorem Ajp (n₀ g:Nat)(T:Value×Value×Value)(p links:Int)(x:List UInt8)(r:List (List UInt8))(w:World)(hW:Abr n₀ g T w p (x :: r) links) :
  Calls Tryz.prog 204 #[.pointer (some ⟨g,0,none⟩)] w fun e w'=>e=.returned (.tuple #[.string ⟨x.toArray⟩,.bool true])/\Abr n₀ g T w' p r links/\Moved g w w':=by
 obtain⟨-,-,-,-,⟨v,c4,hv⟩,-⟩:=Aa8 hW
 have f4:=Abk hW 4
 have hg:=hW.lt
 have HW:=Hd hW
 obtain⟨nb,no,nc,rfl,hc1,hc2,hx⟩:=Ann hv.view
 have HT:=Hd hv.tail
 unfold maxLen at hc2
 obtain⟨ta,hta⟩:∃ ta,(if nc=1 then(some ⟨nb,no,none⟩:Option Addr)else some ⟨nb,no+1,none⟩)=ta:=⟨_,rfl⟩
 have ht2:=HT.out
 rw[hta]at ht2
 have HT2:=Hd ht2
 have hi1:(1:Int)<=((r.length:Int)+1):=by omega
 have hi2:((r.length:Int)+1)<=(nc:Int):=by omega
 have hi3:(0:Int) < ((r.length:Int)+1):=by omega
 have hi4:(((r.length:Int)+1) == 0)=false:=by rw[beq_eq_false_iff_ne];omega
 clear hW hv HT ht2
 go_enter Tryz.func204,Tryz.ntmps204
 go_wp2_with fail
 go_ret2
 exact⟨rfl,Aqm HW.out HT2.out,Moved.set w 4 _⟩
theorem Atp (F:Fence)(hF:Open F)(n:Nat)(g:Nat)(w:World) :
  CallsIn F n Tryz.prog 177 #[.pointer (some ⟨g,0,none⟩)] w fun e w'=>e=.returned (.func (.func 192) #[] #[.pointer (some ⟨w.heap.size,0,none⟩)])/\w'=w.alloc (.cells #[.pointer (some ⟨g,0,none⟩)] 194):=by
 have hro:F.round=none:=hF.ro
 refine callsIn_of_wp Tryz.func177 rfl (hF.fn _) ?_ hro
 simp only[Tryz.ntmps177,List.size_toArray,List.length_cons,List.length_nil,Nat.reduceAdd,Nat.reduceSub,Array.replicate_succ,Array.replicate_zero,List.push_toArray,List.append_toArray,List.nil_append,List.cons_append]
 gi_wp2
 go_ret
 exact⟨rfl,rfl⟩
attribute [local go_sem] Oper.semAt_some
structure St where
 x:List UInt8
 N:List (List UInt8)
 p:Int
 k:Nat
def IW (n₀ g:Nat)(T:Value×Value×Value)(Base:World->Prop)(Gh:Nat->List (List UInt8)->Int->Prop)(s:St)(W:World):Prop:=Abr n₀ g T W s.p s.N.reverse s.k/\Base W/\Gh s.k s.N s.p
def IpW (n₀ g:Nat)(T:Value×Value×Value)(Base:World->Prop)(Gh:Nat->List (List UInt8)->Int->Prop)(s:St)(W:World):Prop:=Abr n₀ g T W s.p s.N.reverse s.k/\Base W/\Gh s.k (s.x :: s.N) s.p
def NxW (s s':St):Prop:=(8 - s'.k) * 30000+s'.N.length<=(8 - s.k) * 30000+s.N.length
def mW (g:Nat)(W:World):Nat:=match W.heap[g]? with
 | some (.cells cs _ _)=>(8 - (intOf (cs.getD 5 undef)).toNat) * 30000+Agm (cs.getD 4 undef)
 | _=>0
theorem Ba5 {n₀ g:Nat}{T:Value×Value×Value}{W:World}{p:Int}{st:List (List UInt8)}{k:Nat}(h:Abr n₀ g T W p st (k:Int)):mW g W=(8 - k) * 30000+st.length:=by
 obtain⟨_,v,h1,h2⟩:=h
 unfold mW
 rw[h1]
 obtain⟨na,nc,rfl,-,-,-⟩:=h2.view
 simp[intOf,Agm]
theorem Aoa (F:Fence)(hwide:F=Fence.wide)(n:Nat)(hn:1<=n)(n₀ g Bp:Nat)(T:Value×Value×Value)(Base:World->Prop)(Gh:Nat->List (List UInt8)->Int->Prop)(hlen:∀ k N p,Gh k N p->N.length<=1000000)
  (hbox:∀ W,Base W->W.cell? ⟨Bp,0,none⟩=some (.pointer (some ⟨g,0,none⟩))) (hset:∀ W v,Base W->Base (W.setCell ⟨g,4,none⟩ v).drew) (s0:St) :
  Bad F n Tryz.prog 192 #[.pointer (some ⟨Bp,0,none⟩)] (fun s:St=>#[Value.string ⟨s.x.toArray⟩]) (IW n₀ g T Base Gh) (IpW n₀ g T Base Gh) NxW (fun W=>∃ s:St,s.N=[]/\IW n₀ g T Base Gh s W) s0:=by
 intro l G Jx W hG hY h0 hG0
 have hF:Open F:=by rw[hwide];exact Ahm
 have hro:F.round=none:=hF.ro
 have HWIDE:=Hd hwide
 clear hwide
 have HY:=Hd hY
 have HGS:=Hd hG
 have HBOX:=Hd hbox
 have HSET:=Hd hset
 have HLEN:=Hd hlen
 clear hY hG hbox hset hlen
 refine callsIn_of_wp Tryz.func192 rfl (hF.fn _) ?_ hro
 simp only[Tryz.ntmps192,List.size_toArray,List.length_cons,List.length_nil,Nat.reduceAdd,Nat.reduceSub,Array.replicate_succ,Array.replicate_zero,List.push_toArray,List.append_toArray,List.nil_append,List.cons_append]
 gi_wp2
 gi_loopw [3,4] (fun _ _ wr=>∃ s:St,Hid (IW n₀ g T Base Gh s wr)/\Hid (G wr)) (fun _ _ wr=>mW g wr)
 case atStart=>exact⟨s0,h0,hG0⟩
 case round=>
  obtain⟨s,hI,hGw⟩:=hrel
  obtain⟨x0,N,p,k⟩:=s
  obtain⟨hway,hbase,hgh⟩:=hI.out
  have HWAY:=Hd hway
  have hb:=HBOX.out _ hbase
  have hm:=Ba5 hway
  obtain⟨-,-,-,-,⟨v,c4,hv⟩,-⟩:=Aa8 hway
  have f4:=Abk hway 4
  have hg:=hway.lt
  have hgb:=Aaf hb
  simp only at hm c4 hv hgh
  cases N with
  | nil=>
   obtain⟨na,nc,rfl,-,-,-⟩:=hv.view
   have HFIN:=Hd (show ∃ s:St,s.N=[]/\IW n₀ g T Base Gh s wr from⟨⟨x0,[],p,k⟩,rfl,hI.out⟩)
   clear hway hbase hgh hm hv hI
   gi_wp2
   go_end0
   exact⟨⟨_,rfl⟩,.inl ⟨HFIN.out,hGw.out⟩⟩
  | cons x r=>
   rw[List.reverse_cons]at hv hm
   have hrl:=HLEN.out _ _ _ hgh
   obtain⟨R,hR⟩:∃ R,R=r.reverse:=⟨_,rfl⟩
   rw[<-hR]at hv hm
   have hRl:R.length=r.length:=by rw[hR,List.length_reverse]
   obtain⟨a0,nc,rfl,hc1,hc2,hcell⟩:=hv.view
   obtain⟨nb,no,rfl,hx⟩:=hcell R.length (by simp)
   have hx0:(R ++ [x])[R.length]'(by simp)=x:=by simp
   rw[hx0]at hx
   unfold strv at hx
   have hl1:(R ++ [x]).length=R.length+1:=by simp
   rw[hl1]at hv c4 hc1
   have HI2:=Hd hv.init
   unfold maxLen at hc2
   have HPOP:=Hd (show IpW n₀ g T Base Gh ⟨x,r,p,k⟩ (wr.setCell ⟨g,4,none⟩ (.slice (some ⟨nb,no,none⟩) R.length nc)).drew from⟨by
    have h:=(Aqm HWAY.out HI2.out).drew
    rw[hR]at h
    rw[hR]
    exact h,HSET.out _ _ hbase,hgh⟩)
   have HGP:=Hd (show G (wr.setCell ⟨g,4,none⟩ (.slice (some ⟨nb,no,none⟩) R.length nc)).drew from HGS.out _ _ hGw.out ((KeepsOthers.setCell wr _ _).trans (KeepsOthers.drew _)))
   obtain⟨fn,tmps,assign,body,hy,hRd⟩:=HY.out ⟨x,r,p,k⟩ _ HPOP.out HGP.out
   simp only at hy
   have HRD:=Hd hRd
   have hj1:(R.length:Int) < ((R.length:Int)+1):=by omega
   have hj2:(0:Int) < ((R.length:Int)+1):=by omega
   have hj3:(0:Int)<=(R.length:Int):=by omega
   have hj4:(R.length:Int)<=(nc:Int):=by omega
   have HM:=Hd hm
   have HRL:=Hd hRl
   have hR5:R.length<=1000000:=by simp only[List.length_cons]at hrl;omega
   clear hway hbase hgh hm hv hI hcell hx0 hl1 hRd hR hRl hrl
   gi_wp2
   have hw:=HWIDE.out
   subst hw
   refine Acb (ro:=none) (S:=fun W'=>W'.cell? ⟨Bp,0,none⟩=some (.pointer (some ⟨g,0,none⟩))) (by kernel_rfl) (by kernel_rfl) ?_
   have hHeld:wr.drew.cell? ⟨Bp,0,none⟩=some (.pointer (some ⟨g,0,none⟩)):=hb
   refine wpAnyH_take (i:=0) (v:=?_) rfl (by kernel_rfl) (by kernel_rfl) (by kernel_rfl) (fun _ _ _ h=>nomatch h.1) (Or.inl ⟨by rfl,?hy0⟩) hHeld ?rest0
   case hy0=>intro W hSw;go_simp <;> with_reducible rfl
   try simp only[Act.put,Zaa]
   refine wpAnyH_take (i:=1) (v:=?_) rfl (by kernel_rfl) (by kernel_rfl) (by kernel_rfl) (fun _ _ _ h=>nomatch h.1) (Or.inl ⟨by rfl,?hy1⟩) hHeld ?rest1
   case hy1=>intro W hSw;go_simp <;> with_reducible rfl
   try simp only[Act.put]
   refine wpAnyH_take (i:=2) (v:=?_) rfl (by kernel_rfl) (by kernel_rfl) (by kernel_rfl) (fun _ _ _ h=>nomatch h.1) (Or.inl ⟨by rfl,?hy2⟩) hHeld ?rest2
   case hy2=>intro W hSw;go_simp <;> with_reducible rfl
   try simp only[Act.put]
   refine wpAnyH_take (i:=3) (v:=?_) rfl (by kernel_rfl) (by kernel_rfl) (by kernel_rfl) (fun _ _ _ h=>nomatch h.1) (Or.inl ⟨by rfl,?hy3⟩) hHeld ?rest3
   case hy3=>intro W hSw;go_simp <;> with_reducible rfl
   try simp only[Act.put]
   refine wpAnyH_take (i:=5) (v:=?_) rfl (by kernel_rfl) (by kernel_rfl) (by kernel_rfl) (fun _ _ _ h=>nomatch h.1) (Or.inl ⟨by rfl,?hy5⟩) hHeld ?rest5
   case hy5=>intro W hSw;go_simp <;> with_reducible rfl
   try simp only[Act.put]
   refine wpAnyH_ready (rs:=[4]) (by kernel_rfl) (by simp) ?_
   refine AllReadyH.cons rfl (fun K hK=>?_) AllReadyH.nil
   go_simp
   refine hK.out _ _ hHeld (fun hHeld=>?_)
   clear hK K
   try simp only[Act.put,Zaa,Zab,Zac]
   refine wpAnyH_take (i:=6) (v:=?_) rfl (by kernel_rfl) (by kernel_rfl) (by kernel_rfl) (fun _ _ _ h=>nomatch h.1) (Or.inl ⟨by rfl,?hy6⟩) hHeld ?rest6
   case hy6=>intro W hSw;go_simp <;> with_reducible rfl
   try simp only[Act.put,Zaa]
   refine wpAnyH_take (i:=7) (v:=?_) rfl (by kernel_rfl) (by kernel_rfl) (by kernel_rfl) (fun _ _ _ h=>nomatch h.1) (Or.inl ⟨by rfl,?hy7⟩) hHeld ?rest7
   case hy7=>intro W hSw;go_simp <;> with_reducible rfl
   try simp only[Act.put]
   refine wpAnyH_take (i:=8) (v:=?_) rfl (by kernel_rfl) (by kernel_rfl) (by kernel_rfl) (fun _ _ _ h=>nomatch h.1) (Or.inl ⟨by rfl,?hy8⟩) hHeld ?rest8
   case hy8=>intro W hSw;go_simp <;> with_reducible rfl
   try simp only[Act.put]
   refine wpAnyH_ready (rs:=[9]) (by kernel_rfl) (by simp) ?_
   refine AllReadyH.cons rfl (fun K hK=>?_) AllReadyH.nil
   go_simp
   refine hK.out _ _ ?_ (fun hHeld=>?_)
   ·have h:=HBOX.out _ HPOP.out.2.1
    exact h
   clear hK K
   refine wpAnyH_done (by kernel_rfl) ⟨rfl,?_⟩ _
   gi_wp2
   refine HRD.out.mono ?_
   rintro e W3 (⟨rfl,s',hnx,hI3,hG3⟩|⟨rfl,hJ3⟩)
   ·have hm3:=Ba5 hI3.1
    have hnx':(8 - s'.k) * 30000+s'.N.length<=(8 - k) * 30000+r.length:=hnx
    have HI3:=Hd hI3
    have HG3:=Hd hG3
    have HM3:=Hd (show mW g W3 < mW g wr by
     rw[hm3,HM.out,List.length_reverse,List.length_append,List.length_cons,List.length_nil,HRL.out]
     omega)
    clear hnx hnx' hm3 hI3 hG3
    gi_wp2
    go_roundw
    case rel=>exact⟨s',HI3,HG3⟩
    case measure=>exact HM3.out
   ·have HJ3:=Hd hJ3
    clear hJ3
    gi_wp2
    refine bodyPost_ret (results_none rfl _ _ _) rfl ?_
    exact⟨⟨_,rfl⟩,.inr HJ3.out⟩
end Go.Proofs.YtkdfbliiblojoaaGreatDoor
