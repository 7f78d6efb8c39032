import Derived.Test.YtkdfbliiblojoaaGreatDoorK11
import Derived.Test.YtkdfbliiblojoaaGreatDoorK8
set_option linter.all false
set_option maxRecDepth 100000
set_option maxHeartbeats 64000000
namespace Go.Proofs.YtkdfbliiblojoaaGreatDoor
open Go Go.RowKit
theorem Awp {L:List Ino}{n:Nat}(hn:n < L.length):Add L (n:Int)=(L[n].kind != 0):=by
 unfold Add
 rw[Ael L n hn,Aae L n hn,Bool.true_and]
theorem Ae7 (a:Option Addr)(cap:Nat)(m b k:Int)(L:List Ino)(v:Bool)(hv:Add L k=v)(w:World)(hN:Aad w a cap L) :
  Calls Tryz.prog 120 #[.agg #[.slice a L.length cap,.int .i64 m,.int .i64 b],.int .i64 k] w fun e w'=>e=.returned (.bool v)/\Below w.heap.size w w':=by
 subst hv
 have hb1:=Aab w (.cells #[.slice a L.length cap,.int .i64 m,.int .i64 b] 24)
 have HB1:=Hd hb1
 have hcap:=hN.1
 have hmax:=hN.2.1
 unfold maxLen at hmax
 cases ht:Aa5 L k with
 | true=>
  obtain⟨n,rfl,hn⟩:=Aa7 ht
  obtain⟨bb,o,rfl,hx⟩:=(hN.below hb1).2.2 n hn
  have h1:=hx.kind
  have hd0:(0:Int)<=(n:Int):=by omega
  have hd1:(n:Int) < (L.length:Int):=by omega
  have HV:=Hd (Awp (L:=L) hn)
  clear hN hb1 ht hx
  cases hk:(L[n].kind != 0)
  all_goals
   have HK:=Hd hk
   go_enter Tryz.func120,Tryz.ntmps120
   go_wp2_with fail
   go_ret
   exact⟨by rw[HV.out,HK.out];rfl,HB1.out⟩
 | false=>
  have hv:Add L k=false:=by unfold Add;rw[ht];rfl
  have HV:=Hd hv
  rcases Anh ht with h|h
  ·clear hN hb1 ht hv
   go_enter Tryz.func120,Tryz.ntmps120
   go_wp2_with fail
   go_ret
   exact⟨by rw[HV.out];rfl,HB1.out⟩
  ·have h0:(0:Int)<=k:=by omega
   have h1:¬ k < (L.length:Int):=by omega
   have h2:decide (k < (L.length:Int))=false:=decide_eq_false h1
   clear hN hb1 ht hv
   go_enter Tryz.func120,Tryz.ntmps120
   go_wp2_with fail
   go_ret
   exact⟨by rw[HV.out];rfl,HB1.out⟩
theorem Av3 (L:List Ino)(k:Int):dirB L k=(Add L k && (Aai L k).kind == 2):=by
 unfold dirB Add
 cases Aa5 L k with
 | false=>rfl
 | true=>
  rw[Bool.true_and,Bool.true_and]
  by_cases h:(Aai L k).kind=2
  ·rw[h];rfl
  ·have:((Aai L k).kind == 2)=false:=by simpa using h
   rw[this,Bool.and_false]
theorem Ab2 (a:Option Addr)(cap:Nat)(m b k:Int)(L:List Ino)(v:Bool)(hv:dirB L k=v)(w:World)(hN:Aad w a cap L) :
  Calls Tryz.prog 80 #[.agg #[.slice a L.length cap,.int .i64 m,.int .i64 b],.int .i64 k] w fun e w'=>e=.returned (.bool v)/\Below w.heap.size w w':=by
 subst hv
 have hb1:=Aab w (.cells #[.slice a L.length cap,.int .i64 m,.int .i64 b] 24)
 have HB1:=Hd hb1
 have hcap:=hN.1
 have hmax:=hN.2.1
 unfold maxLen at hmax
 have HM:=Hd (hN.below hb1)
 have HD:=Hd (Av3 L k)
 cases hl:Add L k with
 | false=>
  have HL:=Hd hl
  have HV:=Hd (show dirB L k=false by rw[HD.out,hl];rfl)
  clear hN hb1 hl
  go_enter Tryz.func80,Tryz.ntmps80
  go_wp2_with (first|(go_at_call 120;refine(Ae7 _ _ _ _ _ L _ HL.out _ HM.out).mono ?_;rintro e w2 ⟨rfl,hb2⟩)|fail)
  go_ret
  exact⟨by rw[HV.out];rfl,HB1.out.trans (hb2.mono (by simp))⟩
 | true=>
  obtain⟨n,rfl,hn⟩:=Aa7 (Adx hl)
  have HL:=Hd hl
  obtain⟨bb,o,rfl,hx⟩:=HM.out.2.2 n hn
  have h1:=hx.kind
  have hd0:(0:Int)<=(n:Int):=by omega
  have hd1:(n:Int) < (L.length:Int):=by omega
  have HV:=Hd (show dirB L (n:Int)=(L[n].kind == 2) by rw[HD.out,hl,Bool.true_and,Aae L n hn])
  clear hN hb1 hl hx
  cases hk:(L[n].kind == 2)
  all_goals
   have HK:=Hd hk
   go_enter Tryz.func80,Tryz.ntmps80
   go_wp2_with (first|(go_at_call 120;refine(Ae7 _ _ _ _ _ L _ HL.out _ HM.out).mono ?_;rintro e w2 ⟨rfl,hb2⟩;obtain⟨q0,q1,q2⟩:=box3 hb2;have h2:=Aaa hb2 h1)|fail)
   go_ret
   exact⟨by rw[HV.out,HK.out];rfl,HB1.out.trans (hb2.mono (by simp))⟩
theorem Aww (a:Option Addr)(cap:Nat)(m b k what:Int)(L:List Ino)(h:what < 0∨7 < what)(w:World) :
  Calls Tryz.prog 86 #[.agg #[.slice a L.length cap,.int .i64 m,.int .i64 b],.int .i64 k,.int .i64 what] w fun e w'=>e=.returned (.bool false)/\Below w.heap.size w w':=by
 have HB1:=Hd (Aab w (.cells #[.slice a L.length cap,.int .i64 m,.int .i64 b] 24))
 rcases h with h|h
 ·go_enter Tryz.func86,Tryz.ntmps86
  go_wp2_with fail
  go_ret
  exact⟨rfl,HB1.out⟩
 ·have h0:¬ what < 0:=by omega
  go_enter Tryz.func86,Tryz.ntmps86
  go_wp2_with fail
  go_ret
  exact⟨rfl,HB1.out⟩
theorem Akr (a:Option Addr)(cap:Nat)(m b k what:Int)(L:List Ino)(hw1:0<=what)(hw2:what<=7)(hI:Aef L)(w:World)(hN:Aad w a cap L) :
  Calls Tryz.prog 86 #[.agg #[.slice a L.length cap,.int .i64 m,.int .i64 b],.int .i64 k,.int .i64 what] w fun e w'=>e=.returned (.bool (mayL L k what))/\Below w.heap.size w w':=by
 have hb1:=Aab w (.cells #[.slice a L.length cap,.int .i64 m,.int .i64 b] 24)
 have HB1:=Hd hb1
 have hcap:=hN.1
 have hmax:=hN.2.1
 unfold maxLen at hmax
 have HM:=Hd (hN.below hb1)
 cases hl:Add L k with
 | false=>
  have HL:=Hd hl
  have HV:=Hd (show mayL L k what=false by unfold mayL;rw[hl];simp)
  clear hN hb1 hl
  go_enter Tryz.func86,Tryz.ntmps86
  go_wp2_with (first|(go_at_call 120;refine(Ae7 _ _ _ _ _ L _ HL.out _ HM.out).mono ?_;rintro e w2 ⟨rfl,hb2⟩)|fail)
  go_ret
  exact⟨by rw[HV.out];rfl,HB1.out.trans (hb2.mono (by simp))⟩
 | true=>
  obtain⟨n,rfl,hn⟩:=Aa7 (Adx hl)
  have HL:=Hd hl
  obtain⟨bb,o,rfl,hx⟩:=HM.out.2.2 n hn
  have h1:=hx.mode
  have hd0:(0:Int)<=(n:Int):=by omega
  have hd1:(n:Int) < (L.length:Int):=by omega
  have HV:=Hd (show mayL L (n:Int) what=Aqt L[n].mode what by unfold mayL;rw[hl,Aae L n hn,decide_eq_true hw1,decide_eq_true hw2];rfl)
  have hmr:=Aks hI (Ael L n hn)
  rw[Aae L n hn]at hmr
  obtain⟨q,hq⟩:∃ q,q=L[n].mode:=⟨_,rfl⟩
  rw[<-hq]at h1 HV hmr
  obtain⟨hq1,hq2⟩:=hmr
  rw[HV.out]
  have HB2:=Hd (show ∀ w2,Below (w.alloc (.cells #[.slice (some ⟨bb,o,none⟩) L.length cap,.int .i64 m,.int .i64 b] 24)).heap.size (w.alloc (.cells #[.slice (some ⟨bb,o,none⟩) L.length cap,.int .i64 m,.int .i64 b] 24)) w2->Below w.heap.size w w2 from fun w2 h=>HB1.out.trans (h.mono (by simp)))
  clear hN hb1 hl hx hq hI
  go_enter Tryz.func86,Tryz.ntmps86
  go_wp2_with (first|(go_at_call 120;refine(Ae7 _ _ _ _ _ L _ HL.out _ HM.out).mono ?_;rintro e w2 ⟨rfl,hb2⟩;obtain⟨q0,q1,q2⟩:=box3 hb2;have h2:=Aaa hb2 h1)|fail)
  all_goals
   go_ret
   refine⟨?_,HB2.out _ hb2⟩
   show Ending.returned (Value.bool _)=Ending.returned (Value.bool _)
   congr 2
   unfold Aqt
   simp[*]
theorem Ali (a:Option Addr)(cap:Nat)(m b k what:Int)(L:List Ino)(hI:Aef L)(v:Bool)(hv:mayL L k what=v)(w:World)(hN:Aad w a cap L) :
  Calls Tryz.prog 86 #[.agg #[.slice a L.length cap,.int .i64 m,.int .i64 b],.int .i64 k,.int .i64 what] w fun e w'=>e=.returned (.bool v)/\Below w.heap.size w w':=by
 subst hv
 by_cases h:0<=what/\what<=7
 ·exact Akr a cap m b k what L h.1 h.2 hI w hN
 ·have e:mayL L k what=false:=by
   unfold mayL
   by_cases h1:0<=what
   ·rw[decide_eq_false (show ¬ what<=7 from fun h2=>h ⟨h1,h2⟩)]
    simp
   ·rw[decide_eq_false h1]
    rfl
  rw[e]
  exact Aww a cap m b k what L (by omega) w
theorem Aky (a:Option Addr)(cap:Nat)(m b d:Int)(nm:List UInt8)(L:List Ino)(z:Int)(hz:kidL L d nm=z)(w:World)(hN:Aad w a cap L) :
  Calls Tryz.prog 150 #[.agg #[.slice a L.length cap,.int .i64 m,.int .i64 b],.int .i64 d,.string ⟨nm.toArray⟩] w fun e w'=>e=.returned (.int .i64 z)/\Below w.heap.size w w':=by
 subst hz
 exact Axs a cap m b d nm L w hN
theorem Avc (a:Option Addr)(cap:Nat)(m b p:Int)(x:List UInt8)(L:List Ino)(hI:Aef L)(w:World)(hN:Aad w a cap L) :
  Calls Tryz.prog 118 #[.agg #[.slice a L.length cap,.int .i64 m,.int .i64 b],.int .i64 p,.string ⟨x.toArray⟩] w fun e w'=>e=.returned (.tuple #[.int .i64 (Aco L p x).1,.int .i64 (Aco L p x).2])/\Below w.heap.size w w':=by
 obtain⟨w1,hw1⟩:∃ w1,w1=w.alloc (.cells #[.slice a L.length cap,.int .i64 m,.int .i64 b] 24):=⟨_,rfl⟩
 have hb1:=Aab w (.cells #[.slice a L.length cap,.int .i64 m,.int .i64 b] 24)
 have hM:=hN.below hb1
 have hsz:w1.heap.size=w.heap.size+1:=by rw[hw1];simp
 have hbox:∀ W',Below w1.heap.size w1 W'->W'.cell? ⟨w.heap.size,0,none⟩=some (.slice a L.length cap)/\W'.cell? ⟨w.heap.size,1,none⟩=some (.int .i64 m)/\W'.cell? ⟨w.heap.size,2,none⟩=some (.int .i64 b):=fun W' h=>box3 (by rw[<-hw1];exact h)
 rw[<-hw1]at hM hb1
 have HM:=Hd hM
 have HB:=Hd hb1
 have HX:=Hd hbox
 have HEND:=Hd (show ∀ W',Below w1.heap.size w1 W'->Below w.heap.size w W' from fun W' h=>HB.out.trans (h.mono (by rw[hsz];omega)))
 have hcap:=hN.1
 have hmax:=hN.2.1
 unfold maxLen at hmax
 have HI:=Hd hI
 obtain⟨F,hF⟩:∃ F,F=Aco L p x:=⟨_,rfl⟩
 rw[<-hF]
 have HF:=Hd hF
 clear hM hN hb1 hbox hsz hI hF
 cases hd:dirB L p with
 | false=>
  have HD:=Hd hd
  have HV:=Hd (show F=(0,20) by rw[HF.out];unfold Aco;rw[hd,if_pos rfl])
  clear hd
  go_enter Tryz.func118,Tryz.ntmps118
  go_wp2_with fail
  rw[<-hw1]
  refine(Ab2 _ _ _ _ _ L _ HD.out _ HM.out).mono ?_
  rintro e w2 ⟨rfl,hb2⟩
  go_wp2_with fail
  go_ret2
  exact⟨by rw[HV.out];rfl,HEND.out _ hb2⟩
 | true=>
  obtain⟨n,rfl,hn⟩:=Afd hd
  obtain⟨bb,o,rfl,hx⟩:=HM.out.2.2 n hn
  have h5':=hx.up
  have HD:=Hd hd
  have hd0:(0:Int)<=(n:Int):=by omega
  have hd1:(n:Int) < (L.length:Int):=by omega
  clear hx hd
  cases hm:mayL L (n:Int) 1 with
  | false=>
   have HMY:=Hd hm
   have HV:=Hd (show F=(0,13) by rw[HF.out];unfold Aco;rw[HD.out,hm,if_neg (by simp),if_pos rfl])
   clear hm
   go_enter Tryz.func118,Tryz.ntmps118
   go_wp2_with fail
   rw[<-hw1]
   refine(Ab2 _ _ _ _ _ L _ HD.out _ HM.out).mono ?_
   rintro e w2 ⟨rfl,hb2⟩
   have HB2:=Hd hb2
   obtain⟨q0,q1,q2⟩:=HX.out _ hb2
   clear hb2 h5'
   go_wp2_with fail
   refine(Ali _ _ _ _ _ _ L HI.out _ HMY.out _ (HM.out.below HB2.out)).mono ?_
   rintro e w3 ⟨rfl,hb3⟩
   have HB3:=Hd (HB2.out.trans (hb3.mono HB2.out.size))
   clear hb3 q0 q1 q2
   go_wp2_with fail
   go_ret2
   exact⟨by rw[HV.out];rfl,HEND.out _ HB3.out⟩
  | true=>
   have HMY:=Hd hm
   have HV:=Hd (show F=if x=[46]then((n:Int),0)else if x=[46,46]then((Aai L (n:Int)).up,0)else if kidL L (n:Int) x < 0 then(0,2)else(kidL L (n:Int) x,0) by rw[HF.out];unfold Aco;rw[HD.out,hm,if_neg (by simp),if_neg (by simp)])
   clear hm
   go_enter Tryz.func118,Tryz.ntmps118
   go_wp2_with fail
   rw[<-hw1]
   refine(Ab2 _ _ _ _ _ L _ HD.out _ HM.out).mono ?_
   rintro e w2 ⟨rfl,hb2⟩
   have HB2:=Hd hb2
   obtain⟨q0,q1,q2⟩:=HX.out _ hb2
   have h5'':=Aaa hb2 h5'
   clear hb2 h5' hw1
   go_wp2_with fail
   refine(Ali _ _ _ _ _ _ L HI.out _ HMY.out _ (HM.out.below HB2.out)).mono ?_
   rintro e w3 ⟨rfl,hb3⟩
   have HB3:=Hd (HB2.out.trans (hb3.mono HB2.out.size))
   have h5:=Aaa hb3 h5''
   clear hb3 q0 q1 q2 h5''
   obtain⟨q0,q1,q2⟩:=HX.out _ HB3.out
   cases hx1:(x == [46])with
   | true=>
    have HW:=Hd (show F=((n:Int),0) by rw[HV.out,if_pos (by simpa using hx1)])
    go_wp2_with fail
    go_ret2
    exact⟨by rw[HW.out];rfl,HEND.out _ HB3.out⟩
   | false=>
    have hne1:¬ x=[46]:=by simpa using hx1
    cases hx2:(x == [46,46])with
    | true=>
     have HW:=Hd (show F=(L[n].up,0) by rw[HV.out,if_neg hne1,if_pos (by simpa using hx2),Aae L n hn])
     clear hne1
     go_wp2_with fail
     go_ret2
     exact⟨by rw[HW.out];rfl,HEND.out _ HB3.out⟩
    | false=>
     have hne2:¬ x=[46,46]:=by simpa using hx2
     obtain⟨z,hz⟩:∃ z,kidL L (n:Int) x=z:=⟨_,rfl⟩
     have HZ:=Hd hz
     have HW:=Hd (show F=if z < 0 then(0,2)else(z,0) by rw[HV.out,if_neg hne1,if_neg hne2,hz])
     clear hne1 hne2 hz
     go_wp2_with fail
     refine(Aky _ _ _ _ _ _ L z HZ.out _ (HM.out.below HB3.out)).mono ?_
     rintro e w4 ⟨rfl,hb4⟩
     have HB4:=Hd (HB3.out.trans (hb4.mono HB3.out.size))
     clear hb4 q0 q1 q2 h5
     by_cases hz0:z < 0
     ·have HW2:=Hd (show F=(0,2) by rw[HW.out,if_pos hz0])
      go_wp2_with fail
      go_ret2
      exact⟨by rw[HW2.out];rfl,HEND.out _ HB4.out⟩
     ·have HW2:=Hd (show F=(z,0) by rw[HW.out,if_neg hz0])
      have hz1:0<=z:=by omega
      clear hz0
      go_wp2_with fail
      go_ret2
      exact⟨by rw[HW2.out];rfl,HEND.out _ HB4.out⟩
theorem Aqr (cwd:Int)(p:List UInt8)(w:World) :
  Calls Tryz.prog 78 #[.int .i64 cwd,.string ⟨p.toArray⟩] w fun e w'=>e=.returned (.int .i64 (Adi cwd p))/\w=w':=by
 cases h:Ac6 p
 all_goals
  have HV:=Hd h
  have hw:=Akz ⟨p.toArray⟩ w
  have e1:(⟨p.toArray⟩:ByteArray).data.toList=p:=rfl
  rw[e1,h]at hw
  have HW:=Hd hw
  clear hw h e1
  go_enter Tryz.func78,Tryz.ntmps78
  go_wp2_with (first|(go_at_call 119;refine HW.out.mono ?_;rintro e w' ⟨rfl,rfl⟩)|fail)
  go_ret
  exact⟨by unfold Adi;rw[HV.out];rfl,rfl⟩
def Agm : Value->Nat
 | .slice _ n _=>n
 | _=>0
def WRel (L:List Ino)(last:Bool)(R:Int×Int)(w1:World)(pv nv lv:Value)(wr:World):Prop:=
 ∃ (n k:Nat) (N:List (List UInt8)) (p:Int),k+n=8/\pv=.int .i64 p/\lv=.int .i64 k/\N.length<=5000+k * 2000/\Hid (View wr nv N)/\Hid (R=wayW L last n N p)/\Below w1.heap.size w1 wr
theorem Ann {wr:World}{nv:Value}{x:List UInt8}{r:List (List UInt8)}(h:View wr nv (x :: r)):∃ b o cap,nv=.slice (some ⟨b,o,none⟩) (r.length+1) cap/\r.length+1<=cap/\cap<=maxLen/\wr.cell? ⟨b,o,none⟩=some (.string ⟨x.toArray⟩):=by
 obtain⟨a,cap,rfl,h1,h2,h3⟩:=h
 obtain⟨b,o,e,hc⟩:=h3 0 (by simp)
 subst e
 exact⟨b,o,cap,rfl,h1,h2,hc⟩
theorem Aqh (a:Option Addr)(cap:Nat)(m b p0:Int)(last:Bool)(N0:List (List UInt8))(hN0:N0.length<=5000)(v0:Value)(L:List Ino)(hF:FitP L m b)(w:World)(hN:Aad w a cap L)(hV:View w v0 N0) :
  Calls Tryz.prog 77 #[.agg #[.slice a L.length cap,.int .i64 m,.int .i64 b],.int .i64 p0,v0,.bool last] w fun e w'=>e=.returned (.tuple #[.int .i64 (wayW L last 8 N0 p0).1,.int .i64 (wayW L last 8 N0 p0).2])/\Below w.heap.size w w':=by
 obtain⟨w1,hw1⟩:∃ w1,w1=w.alloc (.cells #[.slice a L.length cap,.int .i64 m,.int .i64 b] 24):=⟨_,rfl⟩
 have hb1:=Aab w (.cells #[.slice a L.length cap,.int .i64 m,.int .i64 b] 24)
 have hM:=hN.below hb1
 have hVM:=hV.below hb1
 have hsz:w1.heap.size=w.heap.size+1:=by rw[hw1];simp
 have hbox:∀ W',Below w1.heap.size w1 W'->W'.cell? ⟨w.heap.size,0,none⟩=some (.slice a L.length cap)/\W'.cell? ⟨w.heap.size,1,none⟩=some (.int .i64 m)/\W'.cell? ⟨w.heap.size,2,none⟩=some (.int .i64 b):=fun W' h=>box3 (by rw[<-hw1];exact h)
 rw[<-hw1]at hM hb1 hVM
 have HM:=Hd hM
 have HB:=Hd hb1
 have HX:=Hd hbox
 have HEND:=Hd (show ∀ W',Below w1.heap.size w1 W'->Below w.heap.size w W' from fun W' h=>HB.out.trans (h.mono (by rw[hsz];omega)))
 have hcap:=hN.1
 have hmax:=hN.2.1
 unfold maxLen at hmax
 have HF:=Hd hF
 have HVM:=Hd hVM
 have hgw:w.heap.size < w1.heap.size:=by omega
 obtain⟨R,hR⟩:∃ R,R=wayW L last 8 N0 p0:=⟨_,rfl⟩
 rw[<-hR]
 have HR:=Hd hR
 clear hM hN hV hVM hb1 hbox hsz hF hR
 go_enter Tryz.func77,Tryz.ntmps77
 go_wp2_with fail
 rw[<-hw1]
 clear hw1
 go_loopw [1,2,10,11,12,13,14] (fun pv nv lv _ _ _ _ wr=>WRel L last R w1 pv nv lv wr) (fun _ nv lv _ _ _ _ _=>(8 - (intOf lv).toNat) * 30000+Agm nv)
 case atStart=>exact⟨8,0,N0,p0,rfl,rfl,rfl,by omega,HVM,HR,Below.refl _ _⟩
 case round=>
  obtain⟨n,k,N,p,hkn,rfl,rfl,hNl,hview,hgoal,hbr⟩:=hrel
  have HVW:=Hd hview.out
  have HG:=Hd hgoal.out
  have HBR:=Hd hbr
  have hszr:=hbr.size
  obtain⟨q0,q1,q2⟩:=HX.out _ hbr
  clear hview hgoal hbr
  cases N with
  | nil=>
   obtain⟨na,ncap,rfl,-,-,-⟩:=HVW.out
   have HW:=Hd (show R=(p,0) by rw[HG.out,Aqj])
   clear q0 q1 q2
   go_wp2_with fail
   go_ret2
   exact⟨by rw[HW.out];rfl,HEND.out _ HBR.out⟩
  | cons x r=>
   obtain⟨nb,no,ncap,rfl,hc1,hc2,hx0⟩:=Ann HVW.out
   unfold maxLen at hc2
   simp only[List.length_cons]at hNl
   obtain⟨z,hz⟩:∃ z,z=(Aco L p x).1:=⟨_,rfl⟩
   obtain⟨er,her⟩:∃ er,er=(Aco L p x).2:=⟨_,rfl⟩
   have HST:=Hd (show Aco L p x=(z,er) by rw[hz,her])
   have H1:=Hd (Aa0 (wb:=wr) (fun W hW=>by
    have h:=Avc a cap m b p x L HF.out.ins W (HM.out.below (HBR.out.trans (hW.mono hszr)))
    rw[HST.out]at h
    exact h))
   have f0:=Aaj q0
   have f1:=Aaj q1
   have f2:=Aaj q2
   have f3:=Aaj hx0
   have hi1:(1:Int)<=((r.length:Int)+1):=by omega
   have hi2:((r.length:Int)+1)<=(ncap:Int):=by omega
   have hi3:(0:Int) < ((r.length:Int)+1):=by omega
   have hpos:(0:Int) < ((r.length+1:Nat):Int):=by omega
   clear hz her q0 q1 q2 hx0
   go_wp2_with fail
   refine Aah (by kernel_rfl) (by kernel_rfl) ?_
   repeat(first|go_big_quiet_skip|(go_big_quiet_want;go_big_quiet_op;(first|go_big_quiet_on|(refine⟨_,H1.out,?_⟩;go_big_quiet_on))))
   refine wpQuiet_nil ?_
   intro w8 hw8
   have hbg:Below wr.heap.size wr w8:=by obtain⟨x,rfl⟩:=hw8;exact x.below
   have HB8:=Hd (HBR.out.trans (hbg.mono hszr))
   have HV8:=Hd (HVW.out.below hbg)
   obtain⟨q0,q1,q2⟩:=HX.out _ HB8.out
   have hs8:=HB8.out.size
   clear hw8 hbg f0 f1 f2 f3 H1
   cases he:(er != 0)with
   | true=>
    have HW:=Hd (show R=(0,er) by rw[HG.out,Aqi _ _ _ _ _ _ (by rw[HST.out];simpa using he),HST.out])
    go_wp2_with fail
    go_ret2
    exact⟨by rw[HW.out];rfl,HEND.out _ HB8.out⟩
   | false=>
    have he0:er=0:=by simpa using he
    subst he0
    have hlive:=Ao0 HF.out (show (Aco L p x).2=0 by rw[HST.out])
    rw[HST.out]at hlive
    obtain⟨u,hu,hul⟩:=Aa7 (Adx hlive)
    have hzu:z=(u:Int):=hu
    subst hzu
    obtain⟨bb,o,rfl,hx⟩:=(HM.out.below HB8.out).2.2 u hul
    have x0:=hx.kind
    have x3:=hx.data
    have hd0:(0:Int)<=(u:Int):=by omega
    have hd1:(u:Int) < (L.length:Int):=by omega
    obtain⟨ta,hta⟩:∃ ta,(if ncap=1 then(some ⟨nb,no,none⟩:Option Addr)else some ⟨nb,no+1,none⟩)=ta:=⟨_,rfl⟩
    have htl:=HV8.out.tail
    rw[hta]at htl
    have HTL:=Hd htl
    have HND:=Hd (Aae L u hul)
    clear hx hlive hu he htl
    cases hk3:(L[u].kind != 3)with
    | true=>
     have HGO:=Hd (show R=wayW L last n r (u:Int) by rw[HG.out,Alz _ _ _ _ _ _ _ HST.out (Or.inl (by rw[HND.out];simpa using hk3))])
     clear x3
     go_wp2_with fail
     go_roundw
     case rel=>exact⟨n,k,r,(u:Int),hkn,rfl,rfl,by omega,HTL,HGO,HB8.out⟩
     case measure=>simp[intOf,Agm] <;> omega
    | false=>
     have hk3':L[u].kind=3:=by simpa using hk3
     by_cases hlast:r=[]/\last=false
     ·obtain⟨rfl,rfl⟩:=hlast
      have HGO:=Hd (show R=wayW L false n [] (u:Int) by rw[HG.out,Alz _ _ _ _ _ _ _ HST.out (Or.inr ⟨rfl,rfl⟩)])
      clear x3
      go_wp2_with fail
      go_roundw
      case rel=>exact⟨n,k,[],(u:Int),hkn,rfl,rfl,by simp,HTL,HGO,HB8.out⟩
      case measure=>simp[intOf,Agm] <;> omega
     ·have HNL:=Hd (show ¬ ((Aai L (u:Int)).kind≠3∨(r=[]/\last=false))from fun h=>by
       rcases h with h|h
       ·exact h (by rw[HND.out];exact hk3')
       ·exact hlast h)
      obtain⟨hd1024,-⟩:=Amy HF.out.ins (Ael L u hul) (by rw[HND.out];exact hk3')
      rw[HND.out]at hd1024
      obtain⟨d,hde⟩:∃ d,d=L[u].data:=⟨_,rfl⟩
      rw[<-hde]at x3 hd1024
      have HDE:=Hd (show (Aai L (u:Int)).data=d by rw[HND.out,hde])
      have HTLV:=Hd HTL.out
      cases n with
      | zero=>
       obtain rfl:k=8:=by omega
       have HW:=Hd (show R=(0,40) by rw[HG.out,Anm _ _ _ _ _ _ HST.out HNL.out])
       clear hde x3
       by_cases hr0:r=[]
       ·subst hr0
        obtain rfl:last=true:=by
         cases last with
         | true=>rfl
         | false=>exact absurd ⟨rfl,rfl⟩ hlast
        go_wp2_with fail
        go_ret2
        exact⟨by rw[HW.out];rfl,HEND.out _ HB8.out⟩
       ·have hrl:((r.length:Int) == 0)=false:=by
         rw[beq_eq_false_iff_ne]
         exact fun e=>hr0 (List.length_eq_zero_iff.1 (by omega))
        clear hr0
        go_wp2_with fail
        go_ret2
        exact⟨by rw[HW.out];rfl,HEND.out _ HB8.out⟩
      | succ n=>
       have hk8:(k:Int) < 8:=by omega
       have HP:=Hd (show (Aaq d).length<=1025 by have:=Aca d;omega)
       have HGO:=Hd (show R=wayW L last n (Aaq d ++ r) (if Ac6 d then 0 else p) by rw[HG.out,Anl _ _ _ _ _ _ _ HST.out HNL.out,HDE.out])
       have hwh:=Akz ⟨d.toArray⟩
       have e1:(⟨d.toArray⟩:ByteArray).data.toList=d:=rfl
       rw[e1]at hwh
       have HWH:=Hd hwh
       have hpa:=Agj ⟨d.toArray⟩ (by show d.toArray.size<=_;simp;omega)
       rw[e1]at hpa
       have HPA:=Hd hpa
       have HRL:=Hd (show r.length<=5000+k * 2000 by omega)
       clear hde hwh hpa e1 HTL
       have hcase:(((r.length:Int) == 0)=true/\last=true)∨((r.length:Int) == 0)=false:=by
        by_cases hr0:r=[]
        ·subst hr0
         cases last with
         | true=>exact Or.inl ⟨by simp,rfl⟩
         | false=>exact absurd ⟨rfl,rfl⟩ hlast
        ·refine Or.inr ?_
         rw[beq_eq_false_iff_ne]
         exact fun e=>hr0 (List.length_eq_zero_iff.1 (by omega))
       clear hlast
       rcases hcase with ⟨hrl,rfl⟩|hrl
       all_goals
        cases hw:Ac6 d
        all_goals
         have HW:=Hd hw
         rw[hw]at HWH HGO
         clear hw
         go_wp2_with (first|(go_at_call 119;refine(HWH.out _).mono ?_;rintro e w' ⟨rfl,rfl⟩)|(go_at_call 79;refine(HPA.out _).mono ?_;rintro e w9 ⟨v9,rfl,hT9,hb9⟩;have HV9:=Hd hT9.view;have HB9:=Hd (HB8.out.trans (hb9.mono hs8));have HTL9:=Hd (HTLV.out.below hb9);have HP2:=Hd HP.out;clear hT9 hb9 HPA)|(at_builtin;refine Ai7 (B:=w9.heap.size) (L:=[]) (Or.inl ⟨rfl,rfl⟩) HV9.out (by have:=HP2.out;simp only[List.length_nil];omega) (Nat.le_refl _) rfl _ _ rfl rfl rfl ?_;intro v10 w10 hH10 hg10;rw[List.nil_append]at hH10;have hB10:Below w9.heap.size w9 w10:=(Below.refl _ _).grown hg10 (Nat.le_refl _) (fun k hk=>by cases hk);have HTL10:=Hd (HTL9.out.below hB10);have HH10:=Hd hH10;have hs10:=hB10.size;have HB10:=Hd hB10;clear hH10 hg10 hB10 HP2)|(at_builtin;refine Ai7 HH10.out HTL10.out (by have:=HP.out;have:=HRL.out;omega) hs10 rfl _ _ rfl rfl rfl ?_;intro v11 w11 hH11 hg11;have HB11:=Hd (HB9.out.trans ((HB10.out.trans ((Below.refl _ _).grown hg11 hs10 (fun k hk=>(HH10.out.own hk).1))).mono HB9.out.size));(obtain⟨N2,hN2⟩:∃ N2,N2=Aaq d ++ r:=⟨_,rfl⟩);rw[<-hN2]at hH11;have HN2:=Hd hN2;have HV11:=Hd hH11.view;(obtain⟨na,nc,hv11⟩:∃ na nc,v11=.slice na N2.length nc:=(by obtain⟨na,nc,e,-⟩:=HV11.out;exact⟨na,nc,e⟩));clear hH11 hg11 hN2;subst hv11)|fail)
         go_roundw
         case rel=>exact⟨n,k+1,N2,_,by omega,rfl,by go_num,by have:=HP.out;have:=HRL.out;rw[HN2.out,List.length_append];omega,HV11,by rw[HN2.out];exact HGO,HB11.out⟩
         case measure=>
          have:=HP.out
          have:=HRL.out
          have h2:N2.length=(Aaq d).length+r.length:=by rw[HN2.out,List.length_append]
          simp only[intOf,Agm]
          omega
theorem Ap0 (p:List UInt8)(h:p.length<=1024):Agz p=(Aaq p).any fun x=>decide (64 < x.length):=by
 unfold Agz
 rw[decide_eq_false (by omega),Bool.false_or]
theorem Avu (a:Option Addr)(cap:Nat)(m b cwd:Int)(p:List UInt8)(hp:p.length<=1073741824)(L:List Ino)(w:World)(hN:Aad w a cap L) :
  Calls Tryz.prog 76 #[.agg #[.slice a L.length cap,.int .i64 m,.int .i64 b],.int .i64 cwd,.string ⟨p.toArray⟩] w fun e w'=>e=.returned (.int .i64 (badW L cwd p))/\Below w.heap.size w w':=by
 have hb1:=Aab w (.cells #[.slice a L.length cap,.int .i64 m,.int .i64 b] 24)
 have HM:=Hd (hN.below hb1)
 have HB1:=Hd hb1
 have hs:=Acj p
 obtain⟨R,hR⟩:∃ R,R=badW L cwd p:=⟨_,rfl⟩
 rw[<-hR]
 have HR:=Hd hR
 clear hN hb1 hR
 by_cases hp0:p=[]
 ·subst hp0
  have HW:=Hd (show R=2 by rw[HR.out];unfold badW;rw[if_pos (Or.inl rfl)])
  go_enter Tryz.func76,Tryz.ntmps76
  go_wp2_with fail
  go_ret
  exact⟨by rw[HW.out];rfl,HB1.out⟩
 ·have hpb:(p == [])=false:=by simpa using hp0
  cases hd:dirB L cwd with
  | false=>
   have HD:=Hd hd
   have HW:=Hd (show R=2 by rw[HR.out];unfold badW;rw[if_pos (Or.inr hd)])
   clear hd hp0
   go_enter Tryz.func76,Tryz.ntmps76
   go_wp2_with (first|(go_at_call 80;refine(Ab2 _ _ _ _ _ L _ HD.out _ HM.out).mono ?_;rintro e w2 ⟨rfl,hb2⟩)|fail)
   go_ret
   exact⟨by rw[HW.out];rfl,HB1.out.trans (hb2.mono (by simp))⟩
  | true=>
   have HD:=Hd hd
   have HW:=Hd (show R=if Agz p then 36 else 0 by rw[HR.out];unfold badW;rw[if_neg (by simp[hp0,hd])])
   clear hd hp0
   by_cases hl:1024 < p.length
   ·have HW2:=Hd (show R=36 by rw[HW.out];unfold Agz;rw[decide_eq_true hl];rfl)
    go_enter Tryz.func76,Tryz.ntmps76
    go_wp2_with (first|(go_at_call 80;refine(Ab2 _ _ _ _ _ L _ HD.out _ HM.out).mono ?_;rintro e w2 ⟨rfl,hb2⟩)|fail)
    go_ret
    exact⟨by rw[HW2.out];rfl,HB1.out.trans (hb2.mono (by simp))⟩
   ·have HW2:=Hd (show R=if (Aaq p).any fun x=>decide (64 < x.length)then 36 else 0 by rw[HW.out,Ap0 p (by omega)])
    have hpa:=Agj ⟨p.toArray⟩ (by rw[hs];exact hp)
    have e1:(⟨p.toArray⟩:ByteArray).data.toList=p:=rfl
    rw[e1]at hpa
    have HPA:=Hd hpa
    have HCL:=Hd (Aca p)
    obtain⟨N,hNe⟩:∃ N,N=Aaq p:=⟨_,rfl⟩
    rw[<-hNe]at HPA HW2 HCL
    have hl1:p.length<=1024:=by omega
    clear hpa e1 hNe hl HW
    go_enter Tryz.func76,Tryz.ntmps76
    go_wp2_with fail
    refine(Ab2 _ _ _ _ _ L _ HD.out _ HM.out).mono ?_
    rintro e w2 ⟨rfl,hb2⟩
    have HB2:=Hd (HB1.out.trans (hb2.mono (by simp)))
    have hs2:=HB2.out.size
    clear hb2
    go_wp2_with fail
    refine(HPA.out _).mono ?_
    rintro e w3 ⟨v3,rfl,hT3,hb3⟩
    obtain⟨na,ncap,rfl,hc1,hc2,hcell⟩:=hT3.view
    have HC:=Hd hcell
    have HB3:=Hd (HB2.out.trans (hb3.mono hs2))
    have hN1:N.length<=1025:=by have:=HCL.out;omega
    unfold maxLen at hc2
    clear hT3 hb3 hcell HPA
    go_wp2_with fail
    go_loop [8] (fun iv=>∃ k:Nat,k<=N.length/\iv=.int .i64 k/\Hid (∀ j (hj:j < N.length),j < k->N[j].length<=64)) (fun iv=>N.length - (intOf iv).toNat)
    case atStart=>exact⟨0,by omega,rfl,fun _ _ h=>absurd h (Nat.not_lt_zero _)⟩
    case round=>
     obtain⟨k,hk,rfl,hok⟩:=hrel
     by_cases hlt:k < N.length
     ·obtain⟨nb,no,rfl,hx⟩:=HC.out k hlt
      unfold strv at hx
      have hsx:=Acj N[k]
      have hk0:(0:Int)<=(k:Int):=by omega
      by_cases h64:64 < N[k].length
      ·have HW3:=Hd (show R=36 by
        rw[HW2.out,if_pos]
        rw[List.any_eq_true]
        exact⟨N[k],List.getElem_mem _,decide_eq_true h64⟩)
       go_wp2_with fail
       go_ret
       exact⟨by rw[HW3.out];rfl,HB3.out⟩
      ·have HOK:=Hd (show ∀ j (hj:j < N.length),j < k+1->N[j].length<=64 from fun j hj hjk=>by
        by_cases e:j=k
        ·subst e;omega
        ·exact hok.out j hj (by omega))
       go_wp2_with fail
       go_round
       case rel=>exact⟨k+1,by omega,by go_num,HOK⟩
       case measure=>simp[intOf] <;> omega
     ·have HW3:=Hd (show R=0 by
       rw[HW2.out,if_neg]
       rw[List.any_eq_true]
       rintro⟨x,hx,h⟩
       obtain⟨j,hj,rfl⟩:=List.getElem_of_mem hx
       have h1:=hok.out j hj (by omega)
       have h2:=of_decide_eq_true h
       omega)
      go_wp2_with fail
      go_ret
      exact⟨by rw[HW3.out];rfl,HB3.out⟩
end Go.Proofs.YtkdfbliiblojoaaGreatDoor
