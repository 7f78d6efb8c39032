import Derived.Test.YtkdfbliiblojoaaGreatDoorK24
set_option linter.all false
set_option maxRecDepth 100000
set_option maxHeartbeats 64000000
namespace Go.Proofs.YtkdfbliiblojoaaGreatDoor
open Go Go.RowKit
theorem Au7 (a:Option Addr)(cap:Nat)(m b:Int)(L:List Ino)(hL:L.length<=1000)(hB:Aax L<=1099511627776)(w:World)(hN:Aad w a cap L) :
  Calls Tryz.prog 148 #[.agg #[.slice a L.length cap,.int .i64 m,.int .i64 b]] w fun e w'=>e=.returned (.tuple #[.int .i64 (Ahu L),.int .i64 (Aax L)])/\Below w.heap.size w w':=by
 have hb1:=Aab w (.cells #[.slice a L.length cap,.int .i64 m,.int .i64 b] 24)
 have hM:=hN.below hb1
 have HM:=Hd hM
 clear hM hN
 go_enter Tryz.func148,Tryz.ntmps148
 go_wp2_with fail
 go_loop [4,5,6] (fun n b i=>∃ k:Nat,k<=L.length/\i=.int .i64 k/\n=.int .i64 (Ahu (L.take k))/\b=.int .i64 (Aax (L.take k))) (fun _ _ i=>L.length - (intOf i).toNat)
 case atStart=>exact⟨0,by omega,rfl,rfl,rfl⟩
 case round=>
  obtain⟨k,hk,rfl,rfl,rfl⟩:=hrel
  by_cases hlt:k < L.length
  ·obtain⟨bb,o,rfl,hx⟩:=HM.out.2.2 k hlt
   have h1:=hx.kind
   have h2:=hx.data
   have hs:=Acj L[k].data
   have hu1:=Ak5 L k
   have hu2:=Ak4 L (k+1)
   have hn1:=Ah8 (L.take k) L[k]
   have hn2:=Agn (L.take k) L[k]
   rw[<-List.take_succ_eq_append_getElem hlt]at hn1 hn2
   cases hz:(L[k].kind != 0)with
   | true=>
    have hz':L[k].kind≠0:=by simpa using hz
    rw[if_neg hz']at hn1
    have H1:=Hd hn1
    have H2:=Hd hn2
    have hb2:Aax (L.take k)+L[k].data.length<=1099511627776:=by omega
    clear hn1 hn2 hu2 hz'
    go_wp2_with fail
    go_round
    case rel=>exact⟨k+1,by omega,by go_num,by rw[H1.out];go_num,by rw[H2.out];go_num⟩
    case measure=>simp[intOf] <;> omega
   | false=>
    have hz':L[k].kind=0:=by simpa using hz
    rw[if_pos hz']at hn1
    have H1:=Hd hn1
    have H2:=Hd hn2
    have hb2:Aax (L.take k)+L[k].data.length<=1099511627776:=by omega
    clear hn1 hn2 hu2 hz'
    go_wp2_with fail
    go_round
    case rel=>exact⟨k+1,by omega,by go_num,by rw[H1.out];rfl,by rw[H2.out];go_num⟩
    case measure=>simp[intOf] <;> omega
  ·go_wp2_with fail
   go_ret2
   rw[List.take_of_length_le (by omega)]
   exact⟨rfl,Aab _ _⟩
def Avq (L:List Ino)(w1:World)(n b i:Value)(wr:World):Prop:=
 ∃ k:Nat,k<=L.length/\i=.int .i64 k/\n=.int .i64 (Ahu (L.take k))/\b=.int .i64 (Aax (L.take k))/\Below w1.heap.size w1 wr
theorem Atx (a:Option Addr)(cap:Nat)(m b:Int)(L:List Ino)(hL:L.length<=1000)(hB:Aax L<=4611686018427387904)(w:World)(hN:Aad w a cap L) :
  Calls Tryz.prog 165 #[.agg #[.slice a L.length cap,.int .i64 m,.int .i64 b]] w fun e w'=>e=.returned (.tuple #[.int .i64 (Ahu L),.int .i64 (Aax L)])/\Below w.heap.size w w':=by
 have hb1:=Aab w (.cells #[.slice a L.length cap,.int .i64 m,.int .i64 b] 24)
 obtain⟨w1,hw1⟩:∃ w1,w1=w.alloc (.cells #[.slice a L.length cap,.int .i64 m,.int .i64 b] 24):=⟨_,rfl⟩
 have hM:=hN.below hb1
 have hsz:w1.heap.size=w.heap.size+1:=by rw[hw1];simp
 rw[<-hw1]at hM hb1
 have HM:=Hd hM
 have HB1:=Hd hb1
 have HSZ:=Hd hsz
 clear hM hN hb1 hsz
 go_enter Tryz.func165,Tryz.ntmps165
 go_wp2_with fail
 rw[<-hw1]
 clear hw1
 go_loopw [4,5,11] (fun n b i wr=>Avq L w1 n b i wr) (fun _ _ i _=>L.length - (intOf i).toNat)
 case atStart=>exact⟨0,by omega,rfl,rfl,rfl,Below.refl _ _⟩
 case round=>
  obtain⟨k,hk,rfl,rfl,rfl,hbr⟩:=hrel
  have HBR:=Hd hbr
  have hszr:=hbr.size
  clear hbr
  by_cases hlt:k < L.length
  ·obtain⟨bb,o,rfl,hx⟩:=(HM.out.below HBR.out).2.2 k hlt
   have h0:=hx.kind
   have h1:=hx.mode
   have h2:=hx.links
   have h3:=hx.data
   obtain⟨kv,h4,hks⟩:=hx.kids
   have h5:=hx.up
   obtain⟨ka,kcap,rfl,-,-,-⟩:=hks
   have hs:=Acj L[k].data
   have hu1:=Ak5 L k
   have hu2:=Ak4 L (k+1)
   have hn1:=Ah8 (L.take k) L[k]
   have hn2:=Agn (L.take k) L[k]
   rw[<-List.take_succ_eq_append_getElem hlt]at hn1 hn2
   have HBA:=Hd (show ∀ o,Below w1.heap.size w1 (wr.alloc o)from fun o=>HBR.out.alloc hszr o)
   clear hx
   cases hz:(L[k].kind != 0)with
   | true=>
    have hz':L[k].kind≠0:=by simpa using hz
    rw[if_neg hz']at hn1
    have H1:=Hd hn1
    have H2:=Hd hn2
    have hb2:Aax (L.take k)+L[k].data.length<=4611686018427387904:=by omega
    clear hn1 hn2 hu2 hz'
    go_wp2_with fail
    go_roundw
    case rel=>exact⟨k+1,by omega,by go_num,by rw[H1.out];go_num,by rw[H2.out];go_num,HBA.out _⟩
    case measure=>simp[intOf] <;> omega
   | false=>
    have hz':L[k].kind=0:=by simpa using hz
    rw[if_pos hz']at hn1
    have H1:=Hd hn1
    have H2:=Hd hn2
    have hb2:Aax (L.take k)+L[k].data.length<=4611686018427387904:=by omega
    clear hn1 hn2 hu2 hz'
    go_wp2_with fail
    go_roundw
    case rel=>exact⟨k+1,by omega,by go_num,by rw[H1.out];rfl,by rw[H2.out];go_num,HBA.out _⟩
    case measure=>simp[intOf] <;> omega
  ·go_wp2_with fail
   go_ret2
   rw[List.take_of_length_le (by omega)]
   exact⟨rfl,HB1.out.trans (HBR.out.mono (by rw[HSZ.out];omega))⟩
theorem Ajq (a:Option Addr)(cap:Nat)(m b:Int)(n:Int)(hn:-281474976710656<=n/\n<=281474976710656)(L:List Ino)(hL:L.length<=1000)(hB:Aax L<=1048576)(w:World)(hN:Aad w a cap L) :
  Calls Tryz.prog 183 #[.agg #[.slice a L.length cap,.int .i64 m,.int .i64 b],.int .i64 n] w fun e w'=>e=.returned (.bool (decide ((Aax L:Int)+n<=b)))/\Below w.heap.size w w':=by
 have hb1:=Aab w (.cells #[.slice a L.length cap,.int .i64 m,.int .i64 b] 24)
 have HM:=Hd (hN.below hb1)
 have HB1:=Hd hb1
 clear hN hb1
 go_enter Tryz.func183,Tryz.ntmps183
 go_wp2_with fail
 refine(Atx _ _ _ _ L hL (by omega) _ HM.out).mono ?_
 rintro e w2 ⟨rfl,hb2⟩
 obtain⟨q0,q1,q2⟩:=box3 hb2
 have HB2:=Hd (HB1.out.trans (hb2.mono (by simp)))
 have hw:IntKind.i64.wrap ((Aax L:Int)+n)=(Aax L:Int)+n:=by rw[IntKind.wrap_i64];omega
 clear hb2
 go_wp2_with fail
 go_ret
 exact⟨rfl,HB2.out⟩
theorem Ahg (q:Int)(v:Bool)(h:Af1 q=v)(w:World):Calls Tryz.prog 156 #[.int .i64 q] w fun e w'=>e=.returned (.bool v)/\w=w':=by
 subst h
 unfold Af1
 by_cases h0:0<=q
 ·have hb0:decide ((0:Int)<=q)=true:=decide_eq_true h0
  rw[hb0]
  go_enter Tryz.func156,Tryz.ntmps156
  go_wp2_with fail
  go_ret
  exact⟨by rfl,rfl⟩
 ·have hb0:decide ((0:Int)<=q)=false:=decide_eq_false h0
  rw[hb0]
  go_enter Tryz.func156,Tryz.ntmps156
  go_wp2_with fail
  go_ret
  exact⟨by rfl,rfl⟩
theorem An6 (c0 c1 c2 c5:Int)(c3:ByteArray)(c4:Value)(w:World):Calls Tryz.prog 182 #[.agg #[.int .i64 c0,.int .i64 c1,.int .i64 c2,.string c3,c4,.int .i64 c5]] w fun e w'=>e=.returned (.bool (c0 == 0))/\Below w.heap.size w w':=by
 have HB:=Hd (Aab w (.cells #[.int .i64 c0,.int .i64 c1,.int .i64 c2,.string c3,c4,.int .i64 c5] 66))
 go_enter Tryz.func182,Tryz.ntmps182
 go_wp2_with fail
 go_ret
 exact⟨rfl,HB.out⟩
def Ahe (L:List Ino):Int:=match Afa L L.length 0 with|none=>-1|some k=>k
theorem Ah0 : ∀ (n k:Nat) (L:List Ino) (j:Nat),k<=j->j<=k+n->(∀ t,k<=t->t < j->(Aai L (t:Int)).kind≠0)->Afa L n k=Afa L (k+n - j) j
 | 0,k,L,j,h1,h2,_=>by
  have:j=k:=by omega
  subst this
  rw[Nat.add_zero,Nat.sub_self]
 | n+1,k,L,j,h1,h2,h3=>by
  by_cases e:j=k
  ·subst e
   rw[show j+(n+1) - j=n+1 by omega]
  ·rw[Afa,if_neg (h3 k (Nat.le_refl _) (by omega)),Ah0 n (k+1) L j (by omega) (by omega) (fun t h4 h5=>h3 t (by omega) h5),show k+1+n - j=k+(n+1) - j by omega]
theorem Atm (a:Option Addr)(cap:Nat)(L:List Ino)(hL:L.length<=1000)(w:World)(hN:Aad w a cap L) :
  Calls Tryz.prog 181 #[.slice a L.length cap,.func (.func 182) #[] #[]] w fun e w'=>e=.returned (.int .i64 (Ahe L))/\Below w.heap.size w w':=by
 have HN:=Hd hN
 clear hN
 go_enter Tryz.func181,Tryz.ntmps181
 go_wp2_with fail
 go_loopw [5,8] (fun _ iv wr=>∃ K:Nat,K<=L.length/\iv=.int .i64 K/\Hid (∀ t,t < K->(Aai L (t:Int)).kind≠0)/\Hid (Below w.heap.size w wr)) (fun _ iv _=>L.length - (intOf iv).toNat)
 case atStart=>exact⟨0,Nat.zero_le _,rfl,fun _ h=>absurd h (Nat.not_lt_zero _),Below.refl _ _⟩
 case round=>
  obtain⟨K,hK,rfl,HFR,HBR⟩:=hrel
  by_cases hlt:K < L.length
  ·obtain⟨bb,o,rfl,hx⟩:=(HN.out.below HBR.out).2.2 K hlt
   have h0:=hx.kind
   have h1:=hx.mode
   have h2:=hx.links
   have h3:=hx.data
   obtain⟨kv,h4,hks⟩:=hx.kids
   have h5:=hx.up
   obtain⟨ka,kcap,rfl,-,-,-⟩:=hks
   have hlt':(K:Int) < (L.length:Int):=by omega
   have hk0:(0:Int)<=(K:Int):=by omega
   clear hx
   obtain⟨kd,hkd⟩:∃ kd,kd=L[K].kind:=⟨_,rfl⟩
   have HKD:=Hd (show (Aai L (K:Int)).kind=kd by rw[Aae L K hlt,hkd])
   rw[<-hkd]at h0
   clear hkd
   go_wp2_with fail
   refine(An6 _ _ _ _ _ _ _).mono ?_
   rintro e w2 ⟨rfl,hb2⟩
   have HB2:=Hd (HBR.out.trans (hb2.mono HBR.out.size))
   clear hb2 h0 h1 h2 h3 h4 h5
   cases hz:(kd == 0)with
   | true=>
    have hfin:=Hd (show Ahe L=(K:Int) by
     unfold Ahe
     rw[Ah0 L.length 0 L K (Nat.zero_le _) (by omega) (fun t _ h=>HFR.out t h),show 0+L.length - K=(L.length - K - 1)+1 by omega,Afa,if_pos (by rw[HKD.out];simpa using hz)])
    go_wp2_with fail
    go_ret
    exact⟨by rw[hfin.out];rfl,HB2.out⟩
   | false=>
    have hfr:=Hd (show ∀ t,t < K+1->(Aai L (t:Int)).kind≠0 from fun t ht=>by
     by_cases e:t=K
     ·subst e
      rw[HKD.out]
      simpa using hz
     ·exact HFR.out t (by omega))
    go_wp2_with fail
    go_roundw
    case rel=>exact⟨K+1,by omega,by go_num,hfr,HB2⟩
    case measure=>simp[intOf] <;> omega
  ·have hfin:=Hd (show Ahe L=-1 by
    unfold Ahe
    rw[Ah0 L.length 0 L L.length (Nat.zero_le _) (by omega) (fun t _ h=>HFR.out t (by omega)),show 0+L.length - L.length=0 by omega]
    rfl)
   go_wp2_with fail
   go_ret
   exact⟨by rw[hfin.out];rfl,HBR.out⟩
def Ach (L:List Ino)(d:Int)(sl:Bool)(kind:Int):Int:=if sl=true/\kind≠2 then 20 else if 1024<=(Aai L d).kids.length then 28 else 0
theorem Aoe (a:Option Addr)(cap:Nat)(m b:Int)(d:Nat)(s:ByteArray)(sl:Bool)(kind:Int)(L:List Ino)(_hL:L.length<=1000)(hd:d < L.length)(w:World)(hN:Aad w a cap L) :
  Calls Tryz.prog 180 #[.agg #[.int .i64 d,.string s,.bool sl],.agg #[.slice a L.length cap,.int .i64 m,.int .i64 b],.int .i64 kind] w fun e w'=>e=.returned (.int .i64 (Ach L d sl kind))/\Below w.heap.size w w':=by
 obtain⟨w2,hw2,hb2,hs2,hA,hB⟩:=Aan w #[.int .i64 d,.string s,.bool sl] #[.slice a L.length cap,.int .i64 m,.int .i64 b] 203 24
 subst hw2
 have HB2:=Hd hb2
 obtain⟨bb,o,rfl,hx⟩:=hN.2.2 d hd
 obtain⟨kv,h4,hks⟩:=hx.kids
 obtain⟨K,hK⟩:∃ K,K=L[d].kids:=⟨_,rfl⟩
 rw[<-hK]at hks
 obtain⟨ka,kcap,rfl,hkc,hkm,-⟩:=hks
 have HKK:=Hd (show (Aai L (d:Int)).kids=K by rw[Aae L d hd,hK])
 have hbl:=Aaf h4
 have hlt':(d:Int) < (L.length:Int):=by omega
 have hk0:(0:Int)<=(d:Int):=by omega
 unfold maxLen at hkm
 clear hx hA hB hN hb2 hs2 hK
 cases sl with
 | true=>
  by_cases hk:kind=2
  ·subst hk
   by_cases hl:1024<=K.length
   ·have hfin:=Hd (show Ach L d true 2=28 by unfold Ach;rw[if_neg (by simp),if_pos (by rw[HKK.out];exact hl)])
    have hl':(1024:Int)<=(K.length:Int):=by omega
    go_enter Tryz.func180,Tryz.ntmps180
    go_wp2_with fail
    go_ret
    exact⟨by rw[hfin.out];rfl,HB2.out⟩
   ·have hfin:=Hd (show Ach L d true 2=0 by unfold Ach;rw[if_neg (by simp),if_neg (by rw[HKK.out];exact hl)])
    have hl':¬ (1024:Int)<=(K.length:Int):=by omega
    go_enter Tryz.func180,Tryz.ntmps180
    go_wp2_with fail
    go_ret
    exact⟨by rw[hfin.out];rfl,HB2.out⟩
  ·have hfin:=Hd (show Ach L d true kind=20 by unfold Ach;rw[if_pos ⟨rfl,hk⟩])
   have hkb:(kind != 2)=true:=by simpa using hk
   go_enter Tryz.func180,Tryz.ntmps180
   go_wp2_with fail
   go_ret
   exact⟨by rw[hfin.out];rfl,HB2.out⟩
 | false=>
  by_cases hl:1024<=K.length
  ·have hfin:=Hd (show Ach L d false kind=28 by unfold Ach;rw[if_neg (by simp),if_pos (by rw[HKK.out];exact hl)])
   have hl':(1024:Int)<=(K.length:Int):=by omega
   go_enter Tryz.func180,Tryz.ntmps180
   go_wp2_with fail
   go_ret
   exact⟨by rw[hfin.out];rfl,HB2.out⟩
  ·have hfin:=Hd (show Ach L d false kind=0 by unfold Ach;rw[if_neg (by simp),if_neg (by rw[HKK.out];exact hl)])
   have hl':¬ (1024:Int)<=(K.length:Int):=by omega
   go_enter Tryz.func180,Tryz.ntmps180
   go_wp2_with fail
   go_ret
   exact⟨by rw[hfin.out];rfl,HB2.out⟩
end Go.Proofs.YtkdfbliiblojoaaGreatDoor
