import Derived.Test.YtkdfbliiblojoaaGreatDoorK11
set_option linter.all false
set_option maxRecDepth 100000
set_option maxHeartbeats 64000000
namespace Go.Proofs.YtkdfbliiblojoaaGreatDoor
open Go Go.RowKit
def Awh (kd:Int):Int:=if kd=0 then 2 else if kd=2 then 21 else if kd≠1 then 22 else 0
theorem Akh (L:List Ino)(k:Int):(k < 0/\Adj L k=2)∨((L.length:Int)<=k/\0<=k/\Adj L k=2)∨∃ n:Nat,∃ hn:n < L.length,k=(n:Int)/\Adj L k=Awh L[n].kind:=by
 by_cases h:Aa5 L k=true
 ·obtain⟨n,rfl,hn⟩:=Aa7 h
  refine .inr (.inr ⟨n,hn,rfl,?_⟩)
  unfold Adj Awh
  rw[h,Aae L n hn]
  by_cases h0:L[n].kind=0
  ·rw[if_pos h0,if_pos (.inr h0)]
  ·rw[if_neg h0,if_neg (by simpa using h0)]
 ·have hf:Aa5 L k=false:=by simpa using h
  have e:Adj L k=2:=by unfold Adj;rw[if_pos (.inl hf)]
  unfold Aa5 at h
  by_cases h0:k < 0
  ·exact .inl ⟨h0,e⟩
  ·refine .inr (.inl ⟨?_,by omega,e⟩)
   rw[decide_eq_true (by omega:0<=k),Bool.true_and,decide_eq_true_eq]at h
   omega
def refW (L:List Ino)(k least:Int):Int:=if Adj L k≠0 then Adj L k else if least < 0 then 22 else 0
theorem Bbb (a:Option Addr)(cap:Nat)(m b k:Int)(L:List Ino)(v:Int)(hv:Adj L k=v)(w:World)(hN:Aad w a cap L) :
  Calls Tryz.prog 112 #[.agg #[.slice a L.length cap,.int .i64 m,.int .i64 b],.int .i64 k] w fun e w'=>e=.returned (.int .i64 v)/\Below w.heap.size w w':=by
 have hb1:=Aab w (.cells #[.slice a L.length cap,.int .i64 m,.int .i64 b] 24)
 have HB1:=Hd hb1
 rcases Akh L k with ⟨h1,h2⟩|⟨h1,h0,h2⟩|⟨n,hn,rfl,h2⟩
 ·rw[h2]at hv
  subst hv
  have h1d:decide (k < 0)=true:=decide_eq_true h1
  clear hN hb1 h2
  go_enter Tryz.func112,Tryz.ntmps112
  go_wp2_with fail
  go_ret
  exact⟨rfl,HB1.out⟩
 ·rw[h2]at hv
  subst hv
  have h1d:decide ((L.length:Int)<=k)=true:=decide_eq_true h1
  have h0d:decide (k < 0)=false:=decide_eq_false (by omega)
  clear hN hb1 h2
  go_enter Tryz.func112,Tryz.ntmps112
  go_wp2_with fail
  go_ret
  exact⟨rfl,HB1.out⟩
 ·obtain⟨bb,o,rfl,hx⟩:=(hN.below hb1).2.2 n hn
  have c0:=hx.kind
  have hbl:=Aaf c0
  obtain⟨kd,hkd⟩:∃ kd,kd=L[n].kind:=⟨_,rfl⟩
  rw[<-hkd]at c0 h2
  rw[h2]at hv
  have hd0:(0:Int)<=(n:Int):=by omega
  have hd1:(n:Int) < (L.length:Int):=by omega
  have hd0f:decide ((n:Int) < 0)=false:=decide_eq_false (by omega)
  have hd1f:decide ((L.length:Int)<=(n:Int))=false:=decide_eq_false (by omega)
  unfold Awh at hv
  clear hN hb1 hx h2 hkd
  by_cases k0:kd=0
  ·rw[if_pos k0]at hv
   subst hv
   subst k0
   go_enter Tryz.func112,Tryz.ntmps112
   go_wp2_with fail
   go_ret
   exact⟨rfl,HB1.out⟩
  ·have k0b:(kd == 0)=false:=by simpa using k0
   rw[if_neg k0]at hv
   by_cases k2:kd=2
   ·rw[if_pos k2]at hv
    subst hv
    subst k2
    go_enter Tryz.func112,Tryz.ntmps112
    go_wp2_with fail
    go_ret
    exact⟨rfl,HB1.out⟩
   ·have k2b:(kd == 2)=false:=by simpa using k2
    rw[if_neg k2]at hv
    by_cases k1:kd=1
    ·rw[if_neg (by simpa using k1)]at hv
     subst hv
     subst k1
     go_enter Tryz.func112,Tryz.ntmps112
     go_wp2_with fail
     go_ret
     exact⟨rfl,HB1.out⟩
    ·rw[if_pos k1]at hv
     subst hv
     have k1b:(kd != 1)=true:=by simpa using k1
     go_enter Tryz.func112,Tryz.ntmps112
     go_wp2_with fail
     go_ret
     exact⟨rfl,HB1.out⟩
theorem Alh (a:Option Addr)(cap:Nat)(m b k least:Int)(L:List Ino)(v:Int)(hv:refW L k least=v)(w:World)(hN:Aad w a cap L) :
  Calls Tryz.prog 160 #[.agg #[.slice a L.length cap,.int .i64 m,.int .i64 b],.int .i64 k,.int .i64 least] w fun e w'=>e=.returned (.int .i64 v)/\Below w.heap.size w w':=by
 have hb1:=Aab w (.cells #[.slice a L.length cap,.int .i64 m,.int .i64 b] 24)
 have HB1:=Hd hb1
 unfold refW at hv
 rcases Akh L k with ⟨h1,h2⟩|⟨h1,h0,h2⟩|⟨n,hn,rfl,h2⟩
 ·rw[h2,if_pos (by decide)]at hv
  subst hv
  have h1d:decide (k < 0)=true:=decide_eq_true h1
  clear hN hb1 h2
  go_enter Tryz.func160,Tryz.ntmps160
  go_wp2_with fail
  go_ret
  exact⟨rfl,HB1.out⟩
 ·rw[h2,if_pos (by decide)]at hv
  subst hv
  have h1d:decide ((L.length:Int)<=k)=true:=decide_eq_true h1
  have h0d:decide (k < 0)=false:=decide_eq_false (by omega)
  clear hN hb1 h2
  go_enter Tryz.func160,Tryz.ntmps160
  go_wp2_with fail
  go_ret
  exact⟨rfl,HB1.out⟩
 ·obtain⟨bb,o,rfl,hx⟩:=(hN.below hb1).2.2 n hn
  have c0:=hx.kind
  have hbl:=Aaf c0
  obtain⟨kd,hkd⟩:∃ kd,kd=L[n].kind:=⟨_,rfl⟩
  rw[<-hkd]at c0 h2
  rw[h2]at hv
  have hd0:(0:Int)<=(n:Int):=by omega
  have hd1:(n:Int) < (L.length:Int):=by omega
  have hd0f:decide ((n:Int) < 0)=false:=decide_eq_false (by omega)
  have hd1f:decide ((L.length:Int)<=(n:Int))=false:=decide_eq_false (by omega)
  unfold Awh at hv
  clear hN hb1 hx h2 hkd
  by_cases k0:kd=0
  ·subst k0
   simp at hv
   subst hv
   go_enter Tryz.func160,Tryz.ntmps160
   go_wp2_with fail
   go_ret
   exact⟨rfl,HB1.out⟩
  ·have k0b:(kd == 0)=false:=by simpa using k0
   rw[if_neg k0]at hv
   by_cases k2:kd=2
   ·subst k2
    simp at hv
    subst hv
    go_enter Tryz.func160,Tryz.ntmps160
    go_wp2_with fail
    go_ret
    exact⟨rfl,HB1.out⟩
   ·have k2b:(kd == 2)=false:=by simpa using k2
    rw[if_neg k2]at hv
    by_cases k1:kd=1
    ·subst k1
     simp at hv
     by_cases hl:least < 0
     ·rw[if_pos hl]at hv
      subst hv
      have hld:decide (least < 0)=true:=decide_eq_true hl
      go_enter Tryz.func160,Tryz.ntmps160
      go_wp2_with fail
      go_ret
      exact⟨rfl,HB1.out⟩
     ·rw[if_neg hl]at hv
      subst hv
      have hld:decide (least < 0)=false:=decide_eq_false hl
      go_enter Tryz.func160,Tryz.ntmps160
      go_wp2_with fail
      go_ret
      exact⟨rfl,HB1.out⟩
    ·have k1b:(kd != 1)=true:=by simpa using k1
     simp[k1]at hv
     subst hv
     go_enter Tryz.func160,Tryz.ntmps160
     go_wp2_with fail
     go_ret
     exact⟨rfl,HB1.out⟩
theorem Aqf : ∀ (L:List Ino) (k:Nat) (h:k < L.length),L[k].data.length<=Aax L
 | x :: r,0,_=>by show x.data.length<=x.data.length+Aax r;omega
 | x :: r,k+1,h=>by
  have:=Aqf r k (Nat.lt_of_succ_lt_succ h)
  show (r[k]'(Nat.lt_of_succ_lt_succ h)).data.length<=x.data.length+Aax r
  omega
theorem Anc {L:List Ino}{m b:Int}(hF:FitP L m b):Al4 L:=fun k hk=>by
 obtain⟨l1,l2,l3,l4,l5⟩:=hF.limits
 have h1:=Aqf L k hk
 refine⟨by omega,fun e he=>?_⟩
 have:=(Arc (Alk hF.ins hk he).1).2.2.2.1
 omega
structure MadeOk (L:List Ino)(m b:Int)(cwd:Int)(p:List UInt8)(x:Ino)(L':List Ino)(k:Int):Prop where
 made:∃ (d:Nat) (s:List UInt8) (j:Nat),k=(j:Int)/\Aa6 L cwd p=((d:Int),s,0)/\L'=addL L d j s { x with links:=1 }/\(∃ h:j < L.length,L[j].kind=0)/\Adds L m b d j s { x with links:=1 }/\j≠0
theorem Au4 {L:List Ino}{m b:Int}(hF:FitP L m b)(h:0 < L.length):L[0].kind=2:=(Acs (n:=0) h).1 hF.root
theorem Apa {L:List Ino}{m b:Int}(hF:FitP L m b){cwd:Int}{p:List UInt8}{dirs:Bool}(h:(Abc L cwd p dirs).2.2=0){x:Ino}(ha:Abl { x with links:=1 }=true)(h0:x.kind≠0)(hkids:x.kids=[])(hup:x.kind=2->x.up=(Abc L cwd p dirs).1)(hub:(Aax L:Int)+x.data.length<=b)
  {L':List Ino} {k e:Int} (hz:Afy L (Abc L cwd p dirs).1 (Abc L cwd p dirs).2.1 x=(L',k,e)):(e=0->MadeOk L m b cwd p x L' k)/\(e≠0->L'=L/\k=0):=by
 obtain⟨d,s,hd,hp,hf,hdir,hs,hn,-⟩:=Aip hF h
 rw[hf]at hz hup
 unfold Afy at hz
 split at hz
 ·cases hz
  exact⟨(fun h=>by cases h),fun _=>⟨rfl,rfl⟩⟩
 ·rename_i hroom
  have hroom':L[d].kids.length < 1024:=by
   have h1:¬ 1024<=(Aai L (d:Int)).kids.length:=hroom
   rw[Aae L d hd]at h1
   omega
  split at hz
  ·cases hz
   exact⟨(fun h=>by cases h),fun _=>⟨rfl,rfl⟩⟩
  ·rename_i j hj
   obtain⟨hjl,hj0,hA⟩:=Aqp hF hd hdir hs hn hj hroom' ha h0 hkids hup hub
   cases hz
   refine⟨fun _=>⟨d,s,j,rfl,hp,by rw[Int.toNat_natCast],⟨hjl,hj0⟩,hA,fun e=>?_⟩,fun h=>absurd rfl h⟩
   subst e
   rw[Au4 hF hjl]at hj0
   cases hj0
theorem Apl {L:List Ino}{cwd:Int}{p:List UInt8}{dirs:Bool}{A B:List Ino×Int×Int}{z:List Ino×Int×Int}(h:(if (Abc L cwd p dirs).2.2≠0 then A else B)=z):((Abc L cwd p dirs).2.2≠0/\A=z)∨((Abc L cwd p dirs).2.2=0/\B=z):=by
 by_cases h0:(Abc L cwd p dirs).2.2=0
 ·rw[if_neg (by simp[h0])]at h
  exact Or.inr ⟨h0,h⟩
 ·rw[if_pos h0]at h
  exact Or.inl ⟨h0,h⟩
theorem Az9 {L:List Ino}{m b:Int}(hF:FitP L m b){cwd:Int}{p:List UInt8}{q:Int}{L':List Ino}{k e:Int}(hz:Ap3 L cwd p q=(L',k,e)):(e=0->Af1 q=true/\∃ u,MadeOk L m b cwd p (Ad9 2 q [] u) L' k)/\(e≠0->L'=L/\k=0):=by
 obtain⟨-,-,-,l4,-⟩:=hF.limits
 unfold Ap3 at hz
 split at hz
 ·cases hz
  exact⟨(fun h=>by cases h),fun _=>⟨rfl,rfl⟩⟩
 ·rename_i hq
  have hq':Af1 q=true:=by simpa using hq
  rcases Apl hz with ⟨h1,h2⟩|⟨h1,h2⟩
  ·cases h2
   exact⟨fun h=>absurd h h1,fun _=>⟨rfl,rfl⟩⟩
  ·have:=Apa hF h1 (x:=Ad9 2 q [] (Abc L cwd p true).1) (Asc q _ hq') (by show (2:Int)≠0;decide) rfl (fun _=>rfl) (by show (Aax L:Int)+(0:Nat)<=b;omega) h2
   exact⟨fun h=>⟨hq',_,this.1 h⟩,this.2⟩
theorem Ai9 {L:List Ino}{m b:Int}(hF:FitP L m b){cwd:Int}{p:List UInt8}{q:Int}{L':List Ino}{k e:Int}(hz:Adr L cwd p q=(L',k,e)):(e=0->Af1 q=true/\MadeOk L m b cwd p (Ad9 1 q [] 0) L' k)/\(e≠0->L'=L/\k=0):=by
 obtain⟨-,-,-,l4,-⟩:=hF.limits
 unfold Adr at hz
 split at hz
 ·cases hz
  exact⟨(fun h=>by cases h),fun _=>⟨rfl,rfl⟩⟩
 ·rename_i hq
  have hq':Af1 q=true:=by simpa using hq
  rcases Apl hz with ⟨h1,h2⟩|⟨h1,h2⟩
  ·cases h2
   exact⟨fun h=>absurd h h1,fun _=>⟨rfl,rfl⟩⟩
  ·have:=Apa hF h1 (x:=Ad9 1 q [] 0) (Aqq q hq') (by show (1:Int)≠0;decide) rfl (fun h=>by cases h) (by show (Aax L:Int)+(0:Nat)<=b;omega) h2
   exact⟨fun h=>⟨hq',this.1 h⟩,this.2⟩
end Go.Proofs.YtkdfbliiblojoaaGreatDoor
