import Derived.Test.YtkdfbliiblojoaaGreatDoorK12
import Derived.Test.YtkdfbliiblojoaaGreatDoorK14
set_option linter.all false
set_option maxRecDepth 100000
set_option maxHeartbeats 64000000
namespace Go.Proofs.YtkdfbliiblojoaaGreatDoor
open Go Go.RowKit
theorem Aa1 (a:Option Addr)(cap:Nat)(m b k:Int)(L:List Ino)(v:Int)(hv:Ae2 L k=v)(w:World)(hN:Aad w a cap L) :
  Calls Tryz.prog 155 #[.agg #[.slice a L.length cap,.int .i64 m,.int .i64 b],.int .i64 k] w fun e w'=>e=.returned (.int .i64 v)/\Below w.heap.size w w':=by
 subst hv
 have hb1:=Aab w (.cells #[.slice a L.length cap,.int .i64 m,.int .i64 b] 24)
 have HB1:=Hd hb1
 have hcap:=hN.1
 have hmax:=hN.2.1
 unfold maxLen at hmax
 cases ht:Aa5 L k with
 | true=>
  obtain⟨n,rfl,hn⟩:=Aa7 ht
  obtain⟨bb,o,rfl,hx⟩:=(hN.below hb1).2.2 n hn
  have h1:=hx.kind
  have hd0:(0:Int)<=(n:Int):=by omega
  have hd1:(n:Int) < (L.length:Int):=by omega
  have HV:=Hd (show Ae2 L (n:Int)=L[n].kind by unfold Ae2;rw[ht,if_pos rfl,Aae L n hn])
  clear hN hb1 ht hx
  go_enter Tryz.func155,Tryz.ntmps155
  go_wp2_with fail
  go_ret
  exact⟨by rw[HV.out];rfl,HB1.out⟩
 | false=>
  have HV:=Hd (show Ae2 L k=0 by unfold Ae2;rw[ht];rfl)
  rcases Anh ht with h|h
  ·clear hN hb1 ht
   go_enter Tryz.func155,Tryz.ntmps155
   go_wp2_with fail
   go_ret
   exact⟨by rw[HV.out];rfl,HB1.out⟩
  ·have h0:(0:Int)<=k:=by omega
   clear hN hb1 ht
   go_enter Tryz.func155,Tryz.ntmps155
   go_wp2_with fail
   go_ret
   exact⟨by rw[HV.out];rfl,HB1.out⟩
theorem Alc {L:List Ino}{k:Int}:(Ae2 L k != 2)=!dirB L k:=by
 unfold Ae2 dirB
 cases Aa5 L k with
 | false=>rfl
 | true=>rw[if_pos rfl,Bool.true_and];rfl
theorem Ajl {L:List Ino}{k:Int}:(Ae2 L k == 0)=!Add L k:=by
 unfold Ae2 Add
 cases Aa5 L k with
 | false=>rfl
 | true=>rw[if_pos rfl,Bool.true_and];simp[bne]
theorem Avv : ∀ q:Nat,q < 8->∀ x:Nat,x < 8->(bits BinOp.and IntKind.i64 (q:Int) (x:Int) == (x:Int))=Aqt (q:Int) (x:Int):=by decide +kernel
theorem Ayx (q x:Int)(h1:0<=q)(h2:q<=7)(h3:0<=x)(h4:x<=7):(bits BinOp.and IntKind.i64 q x == x)=Aqt q x:=by
 obtain⟨n,rfl⟩:∃ n:Nat,q=(n:Int):=⟨q.toNat,by omega⟩
 obtain⟨k,rfl⟩:∃ k:Nat,x=(k:Int):=⟨x.toNat,by omega⟩
 exact Avv n (by omega) k (by omega)
theorem Ady (a:Option Addr)(cap:Nat)(m b k what:Int)(L:List Ino)(hI:Aef L)(v:Bool)(hv:mayL L k what=v)(w:World)(hN:Aad w a cap L) :
  Calls Tryz.prog 159 #[.agg #[.slice a L.length cap,.int .i64 m,.int .i64 b],.int .i64 k,.int .i64 what] w fun e w'=>e=.returned (.bool v)/\Below w.heap.size w w':=by
 subst hv
 have hb1:=Aab w (.cells #[.slice a L.length cap,.int .i64 m,.int .i64 b] 24)
 have HB1:=Hd hb1
 have hcap:=hN.1
 have hmax:=hN.2.1
 unfold maxLen at hmax
 have HM:=Hd (hN.below hb1)
 by_cases hw:0<=what/\what<=7
 ·obtain⟨hw1,hw2⟩:=hw
  cases hl:Add L k with
  | false=>
   obtain⟨z,hz⟩:∃ z,Ae2 L k=z:=⟨_,rfl⟩
   have hz0:z=0:=by have h:=Ajl (L:=L) (k:=k);rw[hl,hz]at h;simpa using h
   subst hz0
   have HZ:=Hd hz
   have HV:=Hd (show mayL L k what=false by unfold mayL;rw[hl];simp)
   clear hN hb1 hl hz
   go_enter Tryz.func159,Tryz.ntmps159
   go_wp2_with (first|(go_at_call 155;refine(Aa1 _ _ _ _ _ L _ HZ.out _ HM.out).mono ?_;rintro e w2 ⟨rfl,hb2⟩)|fail)
   go_ret
   exact⟨by rw[HV.out];rfl,HB1.out.trans (hb2.mono (by simp))⟩
  | true=>
   obtain⟨n,rfl,hn⟩:=Aa7 (Adx hl)
   obtain⟨z,hz⟩:∃ z,Ae2 L (n:Int)=z:=⟨_,rfl⟩
   have hz0:(z == 0)=false:=by have h:=Ajl (L:=L) (k:=(n:Int));rw[hl,hz]at h;simpa using h
   have HZ:=Hd hz
   obtain⟨bb,o,rfl,hx⟩:=HM.out.2.2 n hn
   have h1:=hx.mode
   have hd0:(0:Int)<=(n:Int):=by omega
   have hd1:(n:Int) < (L.length:Int):=by omega
   have HV:=Hd (show mayL L (n:Int) what=Aqt L[n].mode what by unfold mayL;rw[hl,Aae L n hn,decide_eq_true hw1,decide_eq_true hw2];rfl)
   have hmr:=Aks hI (Ael L n hn)
   rw[Aae L n hn]at hmr
   obtain⟨q,hq⟩:∃ q,q=L[n].mode:=⟨_,rfl⟩
   rw[<-hq]at h1 HV hmr
   obtain⟨hq1,hq2⟩:=hmr
   rw[HV.out]
   clear hN hb1 hl hx hq hI hz
   go_enter Tryz.func159,Tryz.ntmps159
   go_wp2_with (first|(go_at_call 155;refine(Aa1 _ _ _ _ _ L _ HZ.out _ HM.out).mono ?_;rintro e w2 ⟨rfl,hb2⟩;obtain⟨q0,q1,q2⟩:=box3 hb2;have h2:=Aaa hb2 h1)|fail)
   go_ret
   refine⟨?_,HB1.out.trans (hb2.mono (by simp))⟩
   show Ending.returned (Value.bool _)=Ending.returned (Value.bool _)
   congr 2
   exact Ayx q what hq1 hq2 hw1 hw2
 ·have HV:=Hd (show mayL L k what=false by
   unfold mayL
   by_cases h1:0<=what
   ·rw[decide_eq_false (show ¬ what<=7 from fun h2=>hw ⟨h1,h2⟩)]
    simp
   ·rw[decide_eq_false h1]
    rfl)
  by_cases h1:what < 0
  ·clear hN hb1 hw
   go_enter Tryz.func159,Tryz.ntmps159
   go_wp2_with fail
   go_ret
   exact⟨by rw[HV.out];rfl,HB1.out⟩
  ·have h2:7 < what:=by omega
   clear hN hb1 hw
   go_enter Tryz.func159,Tryz.ntmps159
   go_wp2_with fail
   go_ret
   exact⟨by rw[HV.out];rfl,HB1.out⟩
theorem Ap1 (x:List UInt8)(w:World):Calls Tryz.prog 173 #[.string ⟨x.toArray⟩] w fun e w'=>e=.returned (.bool (decide (64 < x.length)))/\w'=w:=by
 have hs:=Acj x
 by_cases h:64 < x.length
 all_goals
  have hh:decide (64 < x.length)=_:=(by first|exact decide_eq_true h|exact decide_eq_false h)
  have HH:=Hd hh
  clear hh
  go_enter Tryz.func173,Tryz.ntmps173
  go_wp2_with fail
  go_ret
  refine⟨?_,rfl⟩
  rw[HH.out]
  show Ending.returned (Value.bool _)=Ending.returned (Value.bool _)
  congr 2
  simp
  omega
theorem An4 (N:List (List UInt8))(hN:N.length<=1048576)(v:Value)(w:World)(hV:View w v N) :
  Calls Tryz.prog 188 #[v,.func (.func 173) #[] #[]] w fun e w'=>(∃ z:Int,e=.returned (.int .i64 z)/\decide (0<=z)=N.any fun x=>decide (64 < x.length))/\w'=w:=by
 obtain⟨na,nc,rfl,hc1,hc2,hcell⟩:=hV
 unfold maxLen at hc2
 have HC:=Hd hcell
 obtain⟨R,hR⟩:∃ R,R=N.any fun x=>decide (64 < x.length):=⟨_,rfl⟩
 have HR:=Hd hR
 rw[<-hR]
 clear hcell hR
 go_enter Tryz.func188,Tryz.ntmps188
 go_wp2_with fail
 go_loop [5,8] (fun _ iv=>∃ k:Nat,k<=N.length/\iv=.int .i64 k/\Hid (∀ j (hj:j < N.length),j < k->N[j].length<=64)) (fun _ iv=>N.length - (intOf iv).toNat)
 case atStart=>exact⟨0,by omega,rfl,fun _ _ h=>absurd h (Nat.not_lt_zero _)⟩
 case round=>
  obtain⟨k,hk,rfl,hok⟩:=hrel
  by_cases hlt:k < N.length
  ·obtain⟨nb,no,rfl,hx⟩:=HC.out k hlt
   unfold strv at hx
   have hk0:(0:Int)<=(k:Int):=by omega
   by_cases h64:64 < N[k].length
   ·have HL:=Hd (Ap1 N[k])
    have HW3:=Hd (show R=true by
     rw[HR.out,List.any_eq_true]
     exact⟨N[k],List.getElem_mem _,decide_eq_true h64⟩)
    have HD:=Hd (decide_eq_true h64)
    go_wp2_with (first|(go_at_call 173;refine(HL.out _).mono ?_;rintro e w' ⟨rfl,rfl⟩;rw[HD.out])|fail)
    go_ret
    exact⟨⟨(k:Int),rfl,by rw[HW3.out];exact decide_eq_true hk0⟩,rfl⟩
   ·have HOK:=Hd (show ∀ j (hj:j < N.length),j < k+1->N[j].length<=64 from fun j hj hjk=>by
     by_cases e:j=k
     ·subst e;omega
     ·exact hok.out j hj (by omega))
    have HL:=Hd (Ap1 N[k])
    have HD:=Hd (decide_eq_false h64)
    go_wp2_with (first|(go_at_call 173;refine(HL.out _).mono ?_;rintro e w' ⟨rfl,rfl⟩;rw[HD.out])|fail)
    go_round
    case rel=>exact⟨k+1,by omega,by go_num,HOK⟩
    case measure=>simp[intOf] <;> omega
  ·have HW3:=Hd (show R=false by
    rw[HR.out,List.any_eq_false]
    intro x hx
    obtain⟨j,hj,rfl⟩:=List.getElem_of_mem hx
    have h1:=hok.out j hj (by omega)
    simpa using h1)
   go_wp2_with fail
   go_ret
   exact⟨⟨-1,rfl,by rw[HW3.out];rfl⟩,rfl⟩
end Go.Proofs.YtkdfbliiblojoaaGreatDoor
