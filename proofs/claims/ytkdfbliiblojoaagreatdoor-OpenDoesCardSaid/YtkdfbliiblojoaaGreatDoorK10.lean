import Derived.Test.YtkdfbliiblojoaaGreatDoorK9
set_option linter.all false
set_option maxRecDepth 100000
set_option maxHeartbeats 64000000
namespace Go.Proofs.YtkdfbliiblojoaaGreatDoor
open Go Go.RowKit
structure RA (L:List Ino)(j:Nat)(h:j < L.length):Prop where
 alone:Abl L[j]=true
 data:L[j].data.length<=65536
 dir:L[j].kind=2->Aa5 L L[j].up=true/\L[j].kids.length<=1024/\Ad4 L j L[j].kids
def RB (L:List Ino)(j:Nat)(h:j < L.length):Prop:=
 L[j].links=(Aeh L)[j]'(by rw[Ab1];exact h)/\¬ (L[j].kind≠0/\0 < j/\(Aeh L)[j]'(by rw[Ab1];exact h)=0) /\
  ¬ (L[j].kind=2/\(Ag1 L (j:Int)=false∨0 < j/\(Aeh L)[j]'(by rw[Ab1];exact h)≠1))
structure RHead (L:List Ino)(m b:Int):Prop where
 one:1<=L.length
 lim:(L.length:Int)<=m
 cap:m<=256
 b0:0<=b
 b1:b<=65536
 root:(Aai L 0).kind=2
 up:(Aai L 0).up=0
structure RFitP (L:List Ino)(m b:Int):Prop where
 head:RHead L m b
 ins:∀ j (h:j < L.length),RA L j h
 nam:∀ j (h:j < L.length),RB L j h
 bytes:(Aax L:Int)<=b
def RF1 (L:List Ino)(C:Nat)(w1:World)(bv iv:Value)(wr:World):Prop:=
 ∃ k:Nat,k<=L.length/\iv=.int .i64 k/\bv=.int .i64 (Aax (L.take k))/\Hid (∀ j (h:j < L.length),j < k->RA L j h)/\Abt wr C (bump (Agp L.length) (Abi (L.take k)))/\Below w1.heap.size w1 wr
def RF2 (L:List Ino)(C:Nat)(w1:World)(iv:Value)(wr:World):Prop:=
 ∃ k:Nat,k<=L.length/\iv=.int .i64 k/\Hid (∀ j (h:j < L.length),j < k->RB L j h)/\Abt wr C (Aeh L)/\Below w1.heap.size w1 wr
theorem Aom {x:Ino}(h:Abl x=true)(h2:x.kind≠2):x.kids=[]:=by
 cases hk:x.kids with
 | nil=>rfl
 | cons e r=>exact absurd (Ads h (by rw[hk];simp)) h2
theorem Au0 (a:Option Addr)(cap:Nat)(m b:Int)(L:List Ino)(hL:L.length<=1000)(hh:¬ RHead L m b)(w:World)(hN:Aad w a cap L) :
  Calls Tryz.prog 15 #[.agg #[.slice a L.length cap,.int .i64 m,.int .i64 b]] w fun e w'=>Acu (RFitP L m b) e/\Below w.heap.size w w':=by
 have hb1:=Aab w (.cells #[.slice a L.length cap,.int .i64 m,.int .i64 b] 24)
 have HM:=Hd (hN.below hb1)
 have HB:=Hd hb1
 have HNO:=Hd (show ¬ RFitP L m b from fun h=>hh h.head)
 obtain⟨R,hR⟩:∃ R,R=RFitP L m b:=⟨_,rfl⟩
 rw[<-hR]at HNO ⊢
 clear hN hb1 hR
 by_cases h1:1<=L.length
 ·by_cases h2:(L.length:Int)<=m
  ·by_cases h3:m<=256
   ·by_cases h4:0<=b
    ·by_cases h5:b<=65536
     ·obtain⟨bb,o,rfl,hx⟩:=HM.out.2.2 0 (by omega)
      have x0:=hx.kind
      have x5:=hx.up
      rw[Nat.zero_mul,Nat.add_zero]at x0 x5
      have HN0:=Hd (show Aai L 0=L[0]from Aae L 0 (by omega))
      have hlen:(0:Int) < (L.length:Int):=by omega
      clear hx
      by_cases h6:L[0].kind=2
      ·have hk:(L[0].kind != 2)=false:=by simpa using h6
       have h7:¬ L[0].up=0:=fun e=>hh ⟨h1,h2,h3,h4,h5,by rw[HN0.out];exact h6,by rw[HN0.out];exact e⟩
       have hu:(L[0].up != 0)=true:=by simpa using h7
       clear h6 h7 hh
       go_enter Tryz.func15,Tryz.ntmps15
       go_wp2_with fail
       go_ret
       exact⟨Acu.no rfl HNO.out,HB.out⟩
      ·have hk:(L[0].kind != 2)=true:=by simpa using h6
       clear h6 hh
       go_enter Tryz.func15,Tryz.ntmps15
       go_wp2_with fail
       go_ret
       exact⟨Acu.no rfl HNO.out,HB.out⟩
     ·clear hh
      go_enter Tryz.func15,Tryz.ntmps15
      go_wp2_with fail
      go_ret
      exact⟨Acu.no rfl HNO.out,HB.out⟩
    ·clear hh
     go_enter Tryz.func15,Tryz.ntmps15
     go_wp2_with fail
     go_ret
     exact⟨Acu.no rfl HNO.out,HB.out⟩
   ·clear hh
    go_enter Tryz.func15,Tryz.ntmps15
    go_wp2_with fail
    go_ret
    exact⟨Acu.no rfl HNO.out,HB.out⟩
  ·clear hh
   go_enter Tryz.func15,Tryz.ntmps15
   go_wp2_with fail
   go_ret
   exact⟨Acu.no rfl HNO.out,HB.out⟩
 ·clear hh
  go_enter Tryz.func15,Tryz.ntmps15
  go_wp2_with fail
  go_ret
  exact⟨Acu.no rfl HNO.out,HB.out⟩
theorem Ayc : ∀ (n:Nat) (f:Nat->Nat),(∀ i,i<=n->f i < n)->∃ i j,i < j/\j<=n/\f i=f j
 | 0,f,h=>absurd (h 0 (Nat.le_refl _)) (Nat.not_lt_zero _)
 | n+1,f,h=>by
  by_cases hx:∃ i,i<=n/\f i=f (n+1)
  ·obtain⟨i,hi,he⟩:=hx
   exact⟨i,n+1,by omega,Nat.le_refl _,he⟩
  ·have hne:∀ i,i<=n->f i≠f (n+1):=fun i hi e=>hx ⟨i,hi,e⟩
   obtain⟨i,j,hij,hj,he⟩:=Ayc n (fun i=>if f i=n then f (n+1)else f i) (fun i hi=>by
    have h1:=h i (by omega)
    have h2:=h (n+1) (Nat.le_refl _)
    have h3:=hne i hi
    by_cases e:f i=n
    ·simp only[e,if_true];omega
    ·simp only[e,if_false];omega)
   refine⟨i,j,hij,by omega,?_⟩
   have h3:=hne i (by omega)
   have h4:=hne j hj
   by_cases e1:f i=n
   ·by_cases e2:f j=n
    ·omega
    ·simp only[e1,e2,if_true,if_false]at he
     exact absurd he.symm h4
   ·by_cases e2:f j=n
    ·simp only[e1,e2,if_true,if_false]at he
     exact absurd he h3
    ·simp only[e1,e2,if_false]at he
     exact he
def upN (L:List Ino):Nat->Int->Int
 | 0,k=>k
 | i+1,k=>upN L i (Aai L k).up
theorem Ao2 (L:List Ino):∀ (i j:Nat) (k:Int),upN L (i+j) k=upN L j (upN L i k)
 | 0,j,k=>by rw[Nat.zero_add];rfl
 | i+1,j,k=>by
  rw[show i+1+j=(i+j)+1 by omega]
  exact Ao2 L i j (Aai L k).up
theorem Amx (L:List Ino):∀ (n:Nat) (k:Int),Ae5 L n k=true↔∃ i,i < n/\upN L i k=0
 | 0,k=>by simp[Ae5]
 | n+1,k=>by
  rw[Adv]
  by_cases h:k=0
  ·rw[if_pos h]
   exact⟨fun _=>⟨0,by omega,h⟩,fun _=>rfl⟩
  ·rw[if_neg h,Amx L n]
   constructor
   ·rintro⟨i,hi,he⟩
    exact⟨i+1,by omega,he⟩
   ·rintro⟨i,hi,he⟩
    cases i with
    | zero=>exact absurd he h
    | succ i=>exact⟨i,by omega,he⟩
theorem As4 (L:List Ino):∀ (n:Nat) (k:Int),Adq L n k=true->∃ i,i < n/\upN L i k=0/\∀ j,j < i->dirB L (upN L (j+1) k)=true
 | 0,k,h=>by simp[Adq]at h
 | n+1,k,h=>by
  rw[Ao3]at h
  by_cases h0:k=0
  ·exact⟨0,by omega,h0,fun j hj=>absurd hj (Nat.not_lt_zero _)⟩
  ·rw[if_neg h0]at h
   by_cases hd:dirB L (Aai L k).up=true
   ·rw[if_pos hd]at h
    obtain⟨i,hi,he,hj⟩:=As4 L n _ h
    refine⟨i+1,by omega,he,fun j hji=>?_⟩
    cases j with
    | zero=>exact hd
    | succ j=>exact hj j (by omega)
   ·rw[if_neg hd]at h
    cases h
theorem Afd {L:List Ino}{k:Int}(h:dirB L k=true):∃ n:Nat,k=(n:Int)/\n < L.length:=Aa7 (by unfold dirB at h;rw[Bool.and_eq_true]at h;exact h.1)
theorem Aqd {L:List Ino}{k:Int}(hk:dirB L k=true)(h:Adq L (L.length+1) k=true):Ae5 L L.length k=true:=by
 rw[Amx]
 obtain⟨i,hi,he,hd⟩:=As4 L _ _ h
 have hmin:∃ t,t<=i/\upN L t k=0/\∀ s,s < t->upN L s k≠0:=by
  clear hd hi
  induction i using Nat.strongRecOn with
  | _ i ih=>
   by_cases hx:∃ s,s < i/\upN L s k=0
   ·obtain⟨s,hs,hs0⟩:=hx
    obtain⟨t,ht,h1,h2⟩:=ih s hs hs0
    exact⟨t,by omega,h1,h2⟩
   ·exact⟨i,Nat.le_refl _,he,fun s hs e=>hx ⟨s,hs,e⟩⟩
 obtain⟨t,ht,ht0,htm⟩:=hmin
 refine⟨t,?_,ht0⟩
 have hin:∀ j,j<=t->dirB L (upN L j k)=true:=fun j hj=>by
  cases j with
  | zero=>exact hk
  | succ j=>exact hd j (by omega)
 by_cases hlt:t < L.length
 ·exact hlt
 ·obtain⟨p,q,hpq,hq,e⟩:=Ayc L.length (fun j=>(upN L j k).toNat) (fun j hj=>by
   obtain⟨n,hn,hn2⟩:=Afd (hin j (by omega))
   show (upN L j k).toNat < _
   rw[hn]
   omega)
  have e':upN L p k=upN L q k:=by
   obtain⟨n1,hn1,_⟩:=Afd (hin p (by omega))
   obtain⟨n2,hn2,_⟩:=Afd (hin q (by omega))
   have e2:(upN L p k).toNat=(upN L q k).toNat:=e
   rw[hn1,hn2]at e2 ⊢
   omega
  exfalso
  refine htm (p+(t - q)) (by omega) ?_
  rw[Ao2,e',<-Ao2,show q+(t - q)=t by omega]
  exact ht0
theorem Alf {L:List Ino}(hU:Baf L):∀ (n n':Nat) (k:Int),n<=n'->dirB L k=true->Ae5 L n k=true->Adq L n' k=true
 | 0,_,k,_,_,h=>by simp[Ae5]at h
 | n+1,0,k,hn,_,_=>by omega
 | n+1,n'+1,k,hn,hk,h=>by
  rw[Adv]at h
  rw[Ao3]
  by_cases h0:k=0
  ·rw[if_pos h0]
  ·rw[if_neg h0]at h ⊢
   obtain⟨i,rfl,hi⟩:=Afd hk
   have hd:dirB L (Aai L (i:Int)).up=true:=by
    rw[Aae L i hi]
    exact hU i hi ((Acs hi).1 hk)
   rw[if_pos hd]
   exact Alf hU n n' _ (by omega) hd h
theorem Ah9 (L:List Ino):∀ (k:Nat) (h:k < L.length),L[k].data.length<=Aax L:=by
 induction L with
 | nil=>intro k h;exact absurd h (Nat.not_lt_zero _)
 | cons x r ih=>
  intro k h
  cases k with
  | zero=>simp only[Aax];exact Nat.le_add_right _ _
  | succ k=>simp only[Aax];have:=ih k (Nat.lt_of_succ_lt_succ h);exact Nat.le_trans this (Nat.le_add_left _ _)
theorem Ajr {M:List (List UInt8×Int)}{e:List UInt8×Int}(he:e∈M):1<=Aay M e.2:=
 List.length_pos_of_mem (List.mem_filter.2 ⟨he,by simp⟩)
theorem Are {M:List (List UInt8×Int)}{k:Int}(h:∀ e∈M,e.2≠k):Aay M k=0:=by
 unfold Aay
 rw[List.length_eq_zero_iff,List.filter_eq_nil_iff]
 intro e he
 simpa using h e he
theorem Ab7 {L:List Ino}{k:Int}(h:dirB L k=true):(Aai L k).kind=2:=by
 unfold dirB at h
 rw[Bool.and_eq_true]at h
 simpa using h.2
theorem Aq0 {L:List Ino}{m b:Int}(h:RFitP L m b):FitP L m b:=by
 obtain⟨hh,hA,hB,hbytes⟩:=h
 have hlen:=hh.one
 have hroot:dirB L 0=true:=by
  unfold dirB
  rw[show (0:Int)=((0:Nat):Int)from rfl,Ael L 0 (by omega)]
  simpa using hh.root
 have hI:Aef L:=fun k hk=>⟨(hA k hk).alone,by
  by_cases h2:L[k].kind=2
  ·obtain⟨h3,h4,h5⟩:=(hA k hk).dir h2
   exact⟨h4,fun i hi=>⟨(h5 i hi).name,(h5 i hi).order,(h5 i hi).there⟩⟩
  ·rw[Aom (hA k hk).alone h2]
   exact⟨Nat.zero_le _,fun i hi=>absurd hi (Nat.not_lt_zero _)⟩⟩
 have hKid:∀ e∈Abi L,∃ d,∃ hd:d < L.length,∃ i,∃ hi:i < L[d].kids.length,e=L[d].kids[i]/\KidOk L d L[d].kids i hi:=fun e he=>by
  obtain⟨d,hd,he'⟩:=Aeo.1 he
  obtain⟨i,hi,rfl⟩:=List.getElem_of_mem he'
  have h2:=Ads (hA d hd).alone (List.ne_nil_of_mem he')
  exact⟨d,hd,i,hi,rfl,((hA d hd).dir h2).2.2 i hi⟩
 have hcnt:=fun k hk=>Acq L (Ad2 (Acr hI)) k hk
 refine⟨⟨hlen,hh.lim,hh.cap,hbytes,hh.b1⟩,hroot,hh.up,hI,⟨fun d hd e he hde=>?_,fun k hk=>⟨(hB k hk).1,?_⟩⟩,fun k hk hd=>?_⟩
 ·obtain⟨i,hi,rfl⟩:=List.getElem_of_mem he
  have h2:=Ads (hA d hd).alone (List.ne_nil_of_mem he)
  have h3:=(((hA d hd).dir h2).2.2 i hi).dir
  by_cases hu:(Aai L L[d].kids[i].2).up=(d:Int)
  ·exact hu
  ·exact absurd ⟨Ab7 hde,Or.inr hu⟩ h3
 ·obtain⟨-,h2,h3⟩:=hB k hk
  unfold Aed
  by_cases h0:(k:Int)=0∨L[k].kind=0
  ·rw[if_pos h0,hcnt k hk,Are]
   ·rfl
   ·intro e he hek
    obtain⟨d,hd,i,hi,rfl,ok⟩:=hKid e he
    rcases h0 with h0|h0
    ·refine ok.dir ⟨?_,Or.inl (by rw[hek];exact h0)⟩
     rw[hek,h0]
     exact hh.root
    ·refine ok.kind ?_
     rw[hek,Aae L k hk]
     exact h0
  ·rw[if_neg h0]
   have hk0:0 < k:=by
    by_cases e:k=0
    ·exact absurd (Or.inl (by omega)) h0
    ·omega
   by_cases hk2:L[k].kind=2
   ·rw[if_pos hk2]
    by_cases hc:(Aeh L)[k]'(by rw[Ab1];exact hk)=1
    ·exact hc
    ·exact absurd ⟨hk2,Or.inr ⟨hk0,hc⟩⟩ h3
   ·rw[if_neg hk2]
    by_cases hc:(Aeh L)[k]'(by rw[Ab1];exact hk)=0
    ·exact absurd ⟨fun e=>h0 (Or.inr e),hk0,hc⟩ h2
    ·rw[hcnt k hk]at hc ⊢
     omega
 ·refine Aqd hd ?_
  cases hr:Ag1 L (k:Int)with
  | true=>exact hr
  | false=>exact absurd ⟨(Acs hk).1 hd,Or.inl hr⟩ (hB k hk).2.2
theorem Aro {L:List Ino}{m b:Int}(h:FitP L m b):RFitP L m b:=by
 obtain⟨hl,hroot,hup,hI,hN,hLead⟩:=h
 have hU:=Ank hroot hup hI hN
 obtain⟨l1,l2,l3,l4,l5⟩:=hl
 have hcnt:=fun k hk=>Acq L (Ad2 (Acr hI)) k hk
 have hmay:∀ k (hk:k < L.length),Aed L[k].kind k (Aay (Abi L) k:Int):=fun k hk=>by rw[<-hcnt k hk];exact(hN.2 k hk).2
 refine⟨⟨l1,l2,l3,by omega,l5,Ab7 hroot,hup⟩,fun k hk=>⟨(hI k hk).1,by have:=Ah9 L k hk;omega,fun h2=>?_⟩,fun k hk=>⟨(hN.2 k hk).1,?_,?_⟩,l4⟩
 ·have h3:=hU k hk h2
  refine⟨by unfold dirB at h3;rw[Bool.and_eq_true]at h3;exact h3.1,(hI k hk).2.1,fun i hi=>?_⟩
  have h4:=(hI k hk).2.2 i hi
  have hmem:L[k].kids[i]∈Abi L:=Aeo.2 ⟨k,hk,List.getElem_mem _⟩
  obtain⟨u,hu,hul⟩:=Aa7 h4.there
  have hpos:=Ajr hmem
  rw[hu]at hpos
  have hm:=hmay u hul
  unfold Aed at hm
  refine⟨h4.name,h4.order,h4.there,?_,?_⟩
  ·intro e
   rw[hu,Aae L u hul]at e
   rw[if_pos (Or.inr e)]at hm
   omega
  ·rintro⟨e1,e2|e2⟩
   ·rw[hu]at e2
    rw[if_pos (Or.inl e2)]at hm
    omega
   ·refine e2 (hN.1 k hk _ (List.getElem_mem _) ?_)
    unfold dirB
    rw[h4.there]
    simpa using e1
 ·rintro⟨e1,e2,e3⟩
  have hm:=hmay k hk
  rw[hcnt k hk]at e3
  unfold Aed at hm
  rw[if_neg (by omega)]at hm
  split at hm <;> omega
 ·rintro⟨e1,e2|⟨e2,e3⟩⟩
  ·have h2:=Alf hU L.length (L.length+1) (k:Int) (by omega) ((Acs hk).2 e1) (hLead k hk ((Acs hk).2 e1))
   unfold Ag1 at e2
   rw[h2]at e2
   cases e2
  ·have hm:=hmay k hk
   rw[hcnt k hk]at e3
   unfold Aed at hm
   rw[if_neg (by omega),if_pos e1]at hm
   exact e3 hm
theorem Azx {L:List Ino}{m b:Int}:RFitP L m b↔FitP L m b:=⟨Aq0,Aro⟩
structure Reach (L:List Ino):Prop where
 nodes:L.length<=281474976710656
 kids:∀ k (h:k < L.length),L[k].kids.length<=281474976710656
 texts:Al4 L
 data:∀ k (h:k < L.length),L[k].data.length<=140737488355328
theorem As2 {L:List Ino}{m b:Int}(h:FitP L m b):L.length<=256/\Aax L<=65536/\b<=65536:=by
 obtain⟨h1,h2,h3,h4,h5⟩:=h.limits
 exact⟨by omega,by omega,h5⟩
theorem Adk {L:List Ino}(h:Aef L):∀ k (h:k < L.length),L[k].kids.length<=1024/\Af2 L[k].kids:=fun k hk=>⟨(h k hk).2.1,fun i hi t ht=>((h k hk).2.2 i hi).order t ht⟩
theorem Amh {M:List (List UInt8×Int)}(hR:Af2 M)(i:Nat)(hi:i < M.length):Af0 M M[i].1=M[i].2:=by
 refine Akj M M[i].1 i hi rfl (fun k hk e=>?_)
 have h:=hR.lt k i hi hk
 rw[e,Acy]at h
 cases h
theorem Amg : ∀ (M:List (List UInt8×Int)) (s:List UInt8),0<=Af0 M s->∃ e∈M,e.1=s
 | [],_,h=>absurd (show (0:Int)<=-1 from h) (by decide)
 | e :: r,s,h=>by
  unfold Af0 at h
  by_cases hs:e.1=s
  ·exact⟨e,List.mem_cons_self,hs⟩
  ·rw[if_neg hs]at h
   obtain⟨e',he,hs'⟩:=Amg r s h
   exact⟨e',List.mem_cons_of_mem _ he,hs'⟩
theorem Bau {L:List Ino}{m b:Int}(hF:FitP L m b)(d:Nat)(hd:d < L.length)(i:Nat)(hi:i < L[d].kids.length):kidL L (d:Int) L[d].kids[i].1=L[d].kids[i].2:=by
 have h2:=Ads (hF.ins d hd).1 (List.ne_nil_of_mem (List.getElem_mem hi))
 unfold kidL
 rw[(Acs hd).2 h2,if_pos rfl,Aae L d hd]
 exact Amh (Adk hF.ins d hd).2 i hi
theorem Arc {x:List UInt8}(h:Abd x=true):x≠[]/\Ac6 x=false/\x.getLast?≠some 47/\x.length<=64/\∀ c∈x,c≠47:=by
 unfold Abd at h
 simp only[Bool.and_eq_true,List.all_eq_true,decide_eq_true_eq]at h
 obtain⟨⟨⟨⟨h1,h2⟩,h3⟩,-⟩,-⟩:=h
 have hc:∀ c∈x,c≠47:=fun c hc=>by
  have:=(h1 c hc).1
  simpa using this
 refine⟨fun e=>by subst e;simp at h2,?_,fun e=>hc 47 (List.mem_of_getLast? e) rfl,h3,hc⟩
 cases x with
 | nil=>rfl
 | cons c r=>
  have:=hc c List.mem_cons_self
  simpa[Ac6] using this
theorem Alk {L:List Ino}(h:Aef L){d:Nat}(hd:d < L.length){e:List UInt8×Int}(he:e∈L[d].kids):Abd e.1=true/\Aa5 L e.2=true:=by
 obtain⟨i,hi,rfl⟩:=List.getElem_of_mem he
 exact⟨((h d hd).2.2 i hi).name,((h d hd).2.2 i hi).there⟩
theorem Ayg {L:List Ino}{m b:Int}(hF:FitP L m b):∀ (i:Nat) (k:Int),dirB L k=true->dirB L (upN L i k)=true
 | 0,_,h=>h
 | i+1,k,h=>by
  obtain⟨z,rfl,hz⟩:=Afd h
  refine Ayg hF i _ ?_
  rw[Aae L z hz]
  exact Ank hF.root hF.rootUp hF.ins hF.names z hz ((Acs hz).1 h)
theorem Aff (A B:List (List UInt8×Int))(c:Int):Aay (A ++ B) c=Aay A c+Aay B c:=by
 unfold Aay
 rw[List.filter_append,List.length_append]
def sumL {α:Type}:List α->(α->Nat)->Nat
 | [],_=>0
 | e :: r,g=>g e+sumL r g
theorem Ajs (c:Int):∀ M:List (List UInt8×Int),Aay M c=sumL M (fun e=>if e.2=c then 1 else 0)
 | []=>rfl
 | e :: r=>by
  show Aay (e :: r) c=(if e.2=c then 1 else 0)+sumL r (fun e=>if e.2=c then 1 else 0)
  rw[<-Ajs c r]
  unfold Aay
  by_cases h:e.2=c
  ·rw[if_pos h,List.filter_cons_of_pos (by simpa using h),List.length_cons]
   omega
  ·rw[if_neg h,List.filter_cons_of_neg (by simpa using h)]
   omega
theorem Ard (e:List UInt8×Int)(r:List (List UInt8×Int))(c:Int):Aay (e :: r) c=(if e.2=c then 1 else 0)+Aay r c:=by
 rw[Ajs,Ajs]
 rfl
def Aa3 : List (List UInt8×Int)->List UInt8->Int->List (List UInt8×Int)
 | [],s,k=>[(s,k)]
 | e :: r,s,k=>if Op.bytesLess e.1 s=true then e :: Aa3 r s k else(s,k) :: (e :: r).filter fun e=>e.1 != s
theorem Azk {a b:List UInt8}(h1:¬ Op.bytesLess a b=true)(h2:a≠b):Op.bytesLess b a=true:=by
 rcases Af3 a b with ⟨-,h⟩|⟨-,h⟩|⟨-,h⟩
 ·exact absurd h h1
 ·exact absurd h h2
 ·exact h
theorem Aqx {M:List (List UInt8×Int)}{s:List UInt8}(h:∀ e∈M,e.1≠s):M.filter (fun e=>e.1 != s)=M:=List.filter_eq_self.2 fun e he=>by simpa using h e he
theorem Agf : ∀ (M:List (List UInt8×Int)) (s:List UInt8) (k:Int),(∀ e∈M,e.1≠s)->∃ A B,M=A ++ B/\Aa3 M s k=A ++ (s,k) :: B/\(∀ e∈A,Op.bytesLess e.1 s=true)/\∀ e r,B=e :: r->Op.bytesLess s e.1=true
 | [],s,k,_=>⟨[],[],rfl,rfl,(fun _ h=>by cases h),(fun _ _ h=>by cases h)⟩
 | e :: r,s,k,h=>by
  rw[Aa3]
  by_cases hl:Op.bytesLess e.1 s=true
  ·obtain⟨A,B,h1,h2,h3,h4⟩:=Agf r s k (fun x hx=>h x (List.mem_cons_of_mem _ hx))
   rw[if_pos hl,h2]
   refine⟨e :: A,B,by rw[h1];rfl,rfl,fun x hx=>?_,h4⟩
   rcases List.mem_cons.1 hx with rfl|hx
   ·exact hl
   ·exact h3 x hx
  ·rw[if_neg hl,Aqx h]
   refine⟨[],e :: r,rfl,rfl,(fun _ h=>by cases h),fun x y hxy=>?_⟩
   cases hxy
   exact Azk hl (h e List.mem_cons_self)
theorem At3 {M:List (List UInt8×Int)}{s:List UInt8}(k:Int)(h:∀ e∈M,e.1≠s):(Aa3 M s k).length=M.length+1:=by
 obtain⟨A,B,h1,h2,-,-⟩:=Agf M s k h
 rw[h2,h1,List.length_append,List.length_append,List.length_cons]
 omega
theorem Am1 {M:List (List UInt8×Int)}{s:List UInt8}(k:Int)(h:∀ e∈M,e.1≠s){e:List UInt8×Int}:e∈Aa3 M s k↔e=(s,k)∨e∈M:=by
 obtain⟨A,B,h1,h2,-,-⟩:=Agf M s k h
 rw[h2,h1,List.mem_append,List.mem_append,List.mem_cons]
 constructor
 ·rintro(h|h|h)
  ·exact Or.inr (Or.inl h)
  ·exact Or.inl h
  ·exact Or.inr (Or.inr h)
 ·rintro(h|h|h)
  ·exact Or.inr (Or.inl h)
  ·exact Or.inl h
  ·exact Or.inr (Or.inr h)
theorem Aoj {M:List (List UInt8×Int)}{s:List UInt8}(k:Int)(h:∀ e∈M,e.1≠s)(c:Int):Aay (Aa3 M s k) c=Aay M c+(if k=c then 1 else 0):=by
 obtain⟨A,B,h1,h2,-,-⟩:=Agf M s k h
 rw[h2,h1,Aff,Aff,Ard]
 show _+((if k=c then 1 else 0)+_)=_
 omega
theorem Arr (M:List (List UInt8×Int)):Af2 M↔M.Pairwise fun a b=>Op.bytesLess a.1 b.1=true:=by
 constructor
 ·intro h
  rw[List.pairwise_iff_getElem]
  intro i j hi hj hij
  exact h.lt i j hj hij
 ·intro h k hk t ht
  subst ht
  exact(List.pairwise_iff_getElem.1 h) t (t+1) (by omega) hk (by omega)
theorem Aok {M:List (List UInt8×Int)}{s:List UInt8}(k:Int)(h:∀ e∈M,e.1≠s)(hR:Af2 M):Af2 (Aa3 M s k):=by
 obtain⟨A,B,h1,h2,h3,h4⟩:=Agf M s k h
 rw[Arr]at hR ⊢
 rw[h1,List.pairwise_append]at hR
 obtain⟨hA,hB,hAB⟩:=hR
 rw[h2,List.pairwise_append,List.pairwise_cons]
 refine⟨hA,⟨fun x hx=>?_,hB⟩,fun a ha x hx=>?_⟩
 ·cases B with
  | nil=>cases hx
  | cons e r=>
   have he:=h4 e r rfl
   rcases List.mem_cons.1 hx with rfl|hx
   ·exact he
   ·exact Ac2 _ _ _ he ((List.pairwise_cons.1 hB).1 x hx)
 ·rcases List.mem_cons.1 hx with rfl|hx
  ·exact h3 a ha
  ·exact hAB a ha x hx
theorem Ahi : ∀ (L:List Ino) (k:Nat) (h:k < L.length) (x:Ino) (c:Int),Aay (Abi (L.set k x)) c+Aay L[k].kids c=Aay (Abi L) c+Aay x.kids c
 | y :: r,0,_,x,c=>by
  show Aay (x.kids ++ Abi r) c+Aay y.kids c=Aay (y.kids ++ Abi r) c+_
  rw[Aff,Aff]
  omega
 | y :: r,k+1,h,x,c=>by
  have ih:=Ahi r k (Nat.lt_of_succ_lt_succ h) x c
  show Aay (y.kids ++ Abi (r.set k x)) c+Aay (r[k]'(Nat.lt_of_succ_lt_succ h)).kids c=Aay (y.kids ++ Abi r) c+_
  rw[Aff,Aff]
  omega
theorem Aht : ∀ (L:List Ino) (k:Nat) (h:k < L.length) (x:Ino),Aax (L.set k x)+L[k].data.length=Aax L+x.data.length
 | y :: r,0,_,x=>by
  show x.data.length+Aax r+y.data.length=y.data.length+Aax r+_
  omega
 | y :: r,k+1,h,x=>by
  have ih:=Aht r k (Nat.lt_of_succ_lt_succ h) x
  show y.data.length+Aax (r.set k x)+(r[k]'(Nat.lt_of_succ_lt_succ h)).data.length=y.data.length+Aax r+_
  omega
theorem Anj (L:List Ino)(k:Nat)(x:Ino)(c:Int):Aa5 (L.set k x) c=Aa5 L c:=by
 unfold Aa5
 rw[List.length_set]
def Ad3 (y:Ino)(M:List (List UInt8×Int)):Ino:={ y with kids:=M }
def addL (L:List Ino)(d k:Nat)(s:List UInt8)(x:Ino):List Ino:=(L.set k x).set d (Ad3 (Aai L d) (Aa3 (Aai L d).kids s k))
theorem Acd (L:List Ino)(d k:Nat)(s:List UInt8)(x:Ino):(addL L d k s x).length=L.length:=by unfold addL;rw[List.length_set,List.length_set]
theorem Agt {L:List Ino}{d k:Nat}(hd:d < L.length)(s:List UInt8)(x:Ino)(j:Nat)(hj:j < L.length) :
  (addL L d k s x)[j]'(by rw[Acd];exact hj)=if d=j then Ad3 L[d] (Aa3 L[d].kids s k)else if k=j then x else L[j]:=by
 simp only[addL,List.getElem_set,Aae L d hd]
theorem Ao8 {L:List Ino}{d k:Nat}(hd:d < L.length)(s:List UInt8)(x:Ino)(j:Nat)(hj:j < L.length) :
  Aai (addL L d k s x) (j:Int)=if d=j then Ad3 L[d] (Aa3 L[d].kids s k)else if k=j then x else L[j]:=by
 rw[Aae _ j (by rw[Acd];exact hj)]
 exact Agt hd s x j hj
theorem Ai6 (L:List Ino)(d k:Nat)(s:List UInt8)(x:Ino)(c:Int):Aa5 (addL L d k s x) c=Aa5 L c:=by
 unfold Aa5
 rw[Acd]
structure Adds (L:List Ino)(m b:Int)(d k:Nat)(s:List UInt8)(x:Ino):Prop where
 fit:FitP L m b
 dlt:d < L.length
 dir:L[d].kind=2
 klt:k < L.length
 nodir:L[k].kind≠2
 name:Abd s=true
 new:∀ e∈L[d].kids,e.1≠s
 room:L[d].kids.length < 1024
 alone:Abl x=true
 used:x.kind≠0
 kids:x.kids=[]
 links:x.links=L[k].links+1
 up:x.kind=2->x.up=d/\L[k].kind=0
 bytes:(Aax L:Int)+x.data.length<=b+L[k].data.length
section
variable {L : List Ino} {m b : Int} {d k : Nat} {s : List UInt8} {x : Ino}
theorem Adds.ne (h:Adds L m b d k s x):d≠k:=fun e=>by
 have h1:=h.dir
 subst e
 exact h.nodir h1
theorem As3 (hF:FitP L m b)(hk:k < L.length)(h:L[k].kind≠2):L[k].kids=[]:=by
 cases hq:L[k].kids with
 | nil=>rfl
 | cons e r=>exact absurd (Ads (hF.ins k hk).1 (by rw[hq];simp)) h
theorem Adds.names (h:Adds L m b d k s x)(c:Int):Aay (Abi (addL L d k s x)) c=Aay (Abi L) c+(if (k:Int)=c then 1 else 0):=by
 have h1:=Ahi L k h.klt x c
 have hd:d < (L.set k x).length:=by rw[List.length_set];exact h.dlt
 have h2:=Ahi (L.set k x) d hd (Ad3 (Aai L d) (Aa3 (Aai L d).kids s k)) c
 have e1:(L.set k x)[d]=L[d]'h.dlt:=by rw[List.getElem_set,if_neg (fun e=>h.ne e.symm)]
 rw[e1]at h2
 have h3:Aay (Aa3 (Aai L d).kids s k) c=Aay (Aai L d).kids c+(if (k:Int)=c then 1 else 0):=Aoj (k:Int) (by rw[Aae L d h.dlt];exact h.new) c
 have h4:Aay (Abi (addL L d k s x)) c+Aay (L[d]'h.dlt).kids c=Aay (Abi (L.set k x)) c+Aay (Aa3 (Aai L d).kids s k) c:=h2
 rw[h3,Aae L d h.dlt]at h4
 rw[As3 h.fit h.klt h.nodir,h.kids]at h1
 omega
theorem Adds.bytesUsed (h:Adds L m b d k s x):Aax (addL L d k s x)+(L[k]'h.klt).data.length=Aax L+x.data.length:=by
 have h1:=Aht L k h.klt x
 have hd:d < (L.set k x).length:=by rw[List.length_set];exact h.dlt
 have h2:=Aht (L.set k x) d hd (Ad3 (Aai L d) (Aa3 (Aai L d).kids s k))
 have e1:(L.set k x)[d]=L[d]'h.dlt:=by rw[List.getElem_set,if_neg (fun e=>h.ne e.symm)]
 rw[e1]at h2
 have h4:Aax (addL L d k s x)+(L[d]'h.dlt).data.length=Aax (L.set k x)+(Aai L d).data.length:=h2
 rw[Aae L d h.dlt]at h4
 omega
theorem Adds.node (h:Adds L m b d k s x)(j:Nat)(hj:j < L.length)(hjk:j≠k):(Aai (addL L d k s x) (j:Int)).kind=L[j].kind/\(Aai (addL L d k s x) (j:Int)).up=L[j].up/\(Aai (addL L d k s x) (j:Int)).links=L[j].links:=by
 rw[Ao8 h.dlt s x j hj]
 by_cases e:d=j
 ·subst e
  rw[if_pos rfl]
  exact⟨rfl,rfl,rfl⟩
 ·rw[if_neg e,if_neg (fun e=>hjk e.symm)]
  exact⟨rfl,rfl,rfl⟩
theorem Adds.nodeK (h:Adds L m b d k s x):Aai (addL L d k s x) (k:Int)=x:=by rw[Ao8 h.dlt s x k h.klt,if_neg h.ne,if_pos rfl]
theorem Adds.dirs (h:Adds L m b d k s x){c:Int}(hc:c≠(k:Int)):dirB (addL L d k s x) c=dirB L c:=by
 unfold dirB
 rw[Ai6]
 cases ht:Aa5 L c with
 | false=>rfl
 | true=>
  obtain⟨j,rfl,hj⟩:=Aa7 ht
  rw[(h.node j hj (fun e=>hc (by rw[e]))).1,Aae L j hj]
theorem Adds.ins (h:Adds L m b d k s x):Aef (addL L d k s x):=fun j hj=>by
 rw[Acd]at hj
 rw[Agt h.dlt s x j hj]
 by_cases e:d=j
 ·subst e
  rw[if_pos rfl]
  have hI:=h.fit.ins d h.dlt
  refine⟨?_,?_,fun i hi=>?_⟩
  ·have h1:=hI.1
   unfold Abl at h1 ⊢
   simpa[Ad3,h.dir] using h1
  ·show (Aa3 L[d].kids s k).length<=1024
   rw[At3 _ h.new]
   have:=h.room
   omega
  ·have hR:=Aok (k:Int) h.new (Adk h.fit.ins d h.dlt).2
   have hi':i < (Aa3 L[d].kids s k).length:=hi
   have hm:(Aa3 L[d].kids s k)[i]∈Aa3 L[d].kids s k:=List.getElem_mem _
   rw[Am1 (k:Int) h.new]at hm
   refine⟨?_,fun t ht=>hR i hi' t ht,?_⟩
   ·show Abd (Aa3 L[d].kids s k)[i].1=true
    rcases hm with hm|hm
    ·rw[hm];exact h.name
    ·exact(Alk h.fit.ins h.dlt hm).1
   ·show Aa5 (addL L d k s x) (Aa3 L[d].kids s k)[i].2=true
    rw[Ai6]
    rcases hm with hm|hm
    ·rw[hm];exact Ael L k h.klt
    ·exact(Alk h.fit.ins h.dlt hm).2
 ·rw[if_neg e]
  by_cases e2:k=j
  ·rw[if_pos e2]
   refine⟨h.alone,by rw[h.kids];exact Nat.zero_le _,fun i hi=>?_⟩
   rw[h.kids]at hi
   exact absurd hi (Nat.not_lt_zero _)
  ·rw[if_neg e2]
   have hI:=h.fit.ins j hj
   exact⟨hI.1,hI.2.1,fun i hi=>⟨(hI.2.2 i hi).name,(hI.2.2 i hi).order,by rw[Ai6];exact(hI.2.2 i hi).there⟩⟩
theorem Adds.count (h:Adds L m b d k s x)(j:Nat)(hj:j < L.length):(Aeh (addL L d k s x))[j]'(by rw[Ab1,Acd];exact hj)=(Aay (Abi L) j:Int)+(if k=j then 1 else 0):=by
 rw[Acq _ (Ad2 (Acr h.ins)) j (by rw[Acd];exact hj),h.names]
 by_cases e:k=j
 ·rw[if_pos e,if_pos (by rw[e])];rfl
 ·rw[if_neg e,if_neg (fun e2=>e (by omega))];rfl
theorem Adds.noname (h:Adds L m b d k s x)(hx:x.kind=2):∀ e∈Abi L,e.2≠(k:Int):=fun e he ek=>by
 have h0:=(h.up hx).2
 have hm:=(h.fit.names.2 k h.klt).2
 rw[Acq L (Ad2 (Acr h.fit.ins)) k h.klt]at hm
 unfold Aed at hm
 rw[if_pos (Or.inr h0)]at hm
 have:=Ajr he
 rw[ek]at this
 omega
theorem Adds.upfits (h:Adds L m b d k s x):Ax5 (addL L d k s x):=fun d' hd' e he hdir=>by
 rw[Acd]at hd'
 have old:∀ (c:Nat) (hc:c < L.length),e∈L[c].kids->(Aai (addL L d k s x) e.2).up=(c:Int):=fun c hc he2=>by
  have hk:e∈Abi L:=Aeo.2 ⟨c,hc,he2⟩
  by_cases ek:e.2=(k:Int)
  ·rw[ek]at hdir
   have hx:x.kind=2:=by
    have:=Ab7 hdir
    rw[h.nodeK]at this
    exact this
   exact absurd ek (h.noname hx e hk)
  ·rw[h.dirs ek]at hdir
   obtain⟨j,hj1,hj⟩:=Afd hdir
   have h2:=h.fit.names.1 c hc e he2 hdir
   rw[hj1]at h2 ek ⊢
   rw[(h.node j hj (fun e3=>ek (by rw[e3]))).2.1,<-Aae L j hj]
   exact h2
 rw[Agt h.dlt s x d' hd']at he
 by_cases e1:d=d'
 ·subst e1
  rw[if_pos rfl]at he
  have he':e∈Aa3 L[d].kids s k:=he
  rw[Am1 (k:Int) h.new]at he'
  rcases he' with he'|he'
  ·rw[he']at hdir ⊢
   have hx:x.kind=2:=by
    have:=Ab7 hdir
    rw[h.nodeK]at this
    exact this
   rw[h.nodeK]
   exact(h.up hx).1
  ·exact old d h.dlt he'
 ·rw[if_neg e1]at he
  by_cases e2:k=d'
  ·rw[if_pos e2,h.kids]at he
   cases he
  ·rw[if_neg e2]at he
   exact old d' hd' he
theorem Adds.linksfit (h:Adds L m b d k s x):Ao6 (addL L d k s x):=fun j hj=>by
 have hj':=hj
 rw[Acd]at hj'
 rw[h.count j hj']
 obtain⟨h1,h2⟩:=h.fit.names.2 j hj'
 rw[Acq L (Ad2 (Acr h.fit.ins)) j hj']at h1 h2
 have hn:=Aae (addL L d k s x) j hj
 by_cases e:k=j
 ·subst e
  rw[if_pos rfl,<-hn,h.nodeK]
  refine⟨by rw[h.links,h1],?_⟩
  have hk0:k≠0:=fun e0=>by
   subst e0
   have hr:=h.fit.root
   have hr2:L[0].kind=2:=(Acs (n:=0) h.klt).1 hr
   exact h.nodir hr2
  unfold Aed
  rw[if_neg (by rintro(e0|e0);exact hk0 (by omega);exact h.used e0)]
  split
  ·rename_i hx
   unfold Aed at h2
   rw[if_pos (Or.inr (h.up hx).2)]at h2
   omega
  ·omega
 ·obtain⟨n1,n2,n3⟩:=h.node j hj' (fun e2=>e e2.symm)
  rw[hn]at n1 n3
  rw[if_neg e,n1,n3,Int.add_zero]
  exact⟨h1,h2⟩
theorem Adds.root (h:Adds L m b d k s x):dirB (addL L d k s x) 0=true/\(Aai (addL L d k s x) 0).up=0:=by
 have hp:0 < L.length:=Nat.lt_of_le_of_lt (Nat.zero_le _) h.klt
 have hr2:L[0].kind=2:=(Acs (n:=0) hp).1 h.fit.root
 have hk0:0≠k:=fun e0=>by
  subst e0
  exact h.nodir hr2
 refine⟨(h.dirs (c:=0) (by omega)).trans h.fit.root,?_⟩
 have h1:=(h.node 0 hp hk0).2.1
 have h2:=h.fit.rootUp
 rw[show (0:Int)=((0:Nat):Int)from rfl,Aae L 0 hp]at h2
 exact h1.trans h2
theorem Adds.same (h:Adds L m b d k s x):∀ (n:Nat) (c:Int),dirB L c=true->Ae5 (addL L d k s x) n c=Ae5 L n c
 | 0,_,_=>rfl
 | n+1,c,hc=>by
  obtain⟨j,rfl,hj⟩:=Afd hc
  have hjk:j≠k:=fun e=>by
   subst e
   exact h.nodir ((Acs hj).1 hc)
  rw[Adv,Adv,(h.node j hj hjk).2.1,Aae L j hj]
  split
  ·rfl
  ·exact Adds.same h n _ (Ank h.fit.root h.fit.rootUp h.fit.ins h.fit.names j hj ((Acs hj).1 hc))
theorem Adds.fits (h:Adds L m b d k s x):FitP (addL L d k s x) m b:=by
 have hU:=Ank h.root.1 h.root.2 h.ins ⟨h.upfits,h.linksfit⟩
 refine⟨?_,h.root.1,h.root.2,h.ins,⟨h.upfits,h.linksfit⟩,fun j hj hdir=>?_⟩
 ·obtain⟨l1,l2,l3,l4,l5⟩:=h.fit.limits
  have h1:=h.bytesUsed
  have h2:=h.bytes
  refine⟨by rw[Acd];exact l1,by rw[Acd];exact l2,l3,by omega,l5⟩
 ·have hj':=hj
  rw[Acd]at hj'
  by_cases e:j=k
  ·subst e
   have hx:x.kind=2:=by
    have:=Ab7 hdir
    rw[h.nodeK]at this
    exact this
   have hdd:=(Acs h.dlt).2 h.dir
   have h1:Ae5 (addL L d j s x) (L.length+1) (j:Int)=true:=by
    rw[Adv,h.nodeK,(h.up hx).1]
    split
    ·rfl
    ·rw[h.same _ _ hdd]
     exact h.fit.leads d h.dlt hdd
   refine Aqd hdir ?_
   rw[Acd]
   exact Alf hU _ _ _ (Nat.le_refl _) hdir h1
  ·have hdl:dirB L (j:Int)=true:=by
    rw[h.dirs (by omega)]at hdir
    exact hdir
   rw[Acd,h.same _ _ hdl]
   exact h.fit.leads j hj' hdl
end
section
variable {L : List Ino} {m b : Int} {k : Nat} {x : Ino}
structure Puts (L:List Ino)(m b:Int)(k:Nat)(x:Ino):Prop where
 fit:FitP L m b
 klt:k < L.length
 kind:x.kind=L[k].kind
 links:x.links=L[k].links
 kids:x.kids=L[k].kids
 up:x.up=L[k].up
 alone:Abl x=true
 bytes:(Aax L:Int)+x.data.length<=b+L[k].data.length
theorem Puts.at (h:Puts L m b k x)(j:Nat)(hj:j < L.length):((L.set k x)[j]'(by rw[List.length_set];exact hj)).kind=L[j].kind/\((L.set k x)[j]'(by rw[List.length_set];exact hj)).links=L[j].links/\((L.set k x)[j]'(by rw[List.length_set];exact hj)).kids=L[j].kids/\((L.set k x)[j]'(by rw[List.length_set];exact hj)).up=L[j].up:=by
 rw[List.getElem_set]
 by_cases e:k=j
 ·subst e
  rw[if_pos rfl]
  exact⟨h.kind,h.links,h.kids,h.up⟩
 ·rw[if_neg e]
  exact⟨rfl,rfl,rfl,rfl⟩
theorem Puts.node (h:Puts L m b k x)(j:Nat)(hj:j < L.length):(Aai (L.set k x) (j:Int)).kind=L[j].kind/\(Aai (L.set k x) (j:Int)).up=L[j].up:=by
 rw[Aae _ j (by rw[List.length_set];exact hj)]
 exact⟨(h.at j hj).1,(h.at j hj).2.2.2⟩
theorem Puts.dirs (h:Puts L m b k x)(c:Int):dirB (L.set k x) c=dirB L c:=by
 unfold dirB
 rw[Anj]
 cases ht:Aa5 L c with
 | false=>rfl
 | true=>
  obtain⟨j,rfl,hj⟩:=Aa7 ht
  rw[(h.node j hj).1,Aae L j hj]
theorem Puts.names (h:Puts L m b k x)(c:Int):Aay (Abi (L.set k x)) c=Aay (Abi L) c:=by
 have h1:=Ahi L k h.klt x c
 rw[h.kids]at h1
 omega
theorem Puts.ins (h:Puts L m b k x):Aef (L.set k x):=fun j hj=>by
 rw[List.length_set]at hj
 have hI:=h.fit.ins j hj
 refine⟨?_,?_⟩
 ·rw[List.getElem_set]
  split
  ·exact h.alone
  ·exact hI.1
 ·rw[(h.at j hj).2.2.1]
  exact⟨hI.2.1,fun i hi=>⟨(hI.2.2 i hi).name,(hI.2.2 i hi).order,by rw[Anj];exact(hI.2.2 i hi).there⟩⟩
theorem Puts.leads (h:Puts L m b k x):∀ (n:Nat) (c:Int),dirB L c=true->Ae5 (L.set k x) n c=Ae5 L n c
 | 0,_,_=>rfl
 | n+1,c,hc=>by
  obtain⟨j,rfl,hj⟩:=Afd hc
  rw[Adv,Adv,(h.node j hj).2,Aae L j hj]
  split
  ·rfl
  ·exact Puts.leads h n _ (Ank h.fit.root h.fit.rootUp h.fit.ins h.fit.names j hj ((Acs hj).1 hc))
theorem Puts.fits (h:Puts L m b k x):FitP (L.set k x) m b:=by
 have hp:0 < L.length:=Nat.lt_of_le_of_lt (Nat.zero_le _) h.klt
 refine⟨?_,(h.dirs 0).trans h.fit.root,?_,h.ins,⟨fun d hd e he hdir=>?_,fun j hj=>?_⟩,fun j hj hdir=>?_⟩
 ·obtain⟨l1,l2,l3,l4,l5⟩:=h.fit.limits
  have h1:=Aht L k h.klt x
  have h2:=h.bytes
  refine⟨by rw[List.length_set];exact l1,by rw[List.length_set];exact l2,l3,by omega,l5⟩
 ·have h2:=h.fit.rootUp
  rw[show (0:Int)=((0:Nat):Int)from rfl,Aae L 0 hp]at h2
  exact(h.node 0 hp).2.trans h2
 ·rw[List.length_set]at hd
  rw[(h.at d hd).2.2.1]at he
  rw[h.dirs]at hdir
  have h2:=h.fit.names.1 d hd e he hdir
  obtain⟨j,hj1,hj⟩:=Afd hdir
  rw[hj1]at h2 ⊢
  rw[(h.node j hj).2,<-Aae L j hj]
  exact h2
 ·have hj':=hj
  rw[List.length_set]at hj'
  obtain⟨h1,h2⟩:=h.fit.names.2 j hj'
  rw[Acq L (Ad2 (Acr h.fit.ins)) j hj']at h1 h2
  rw[Acq _ (Ad2 (Acr h.ins)) j hj,h.names,(h.at j hj').1,(h.at j hj').2.1]
  exact⟨h1,h2⟩
 ·rw[List.length_set]at hj
  rw[h.dirs]at hdir
  rw[List.length_set,h.leads _ _ hdir]
  exact h.fit.leads j hj hdir
end
end Go.Proofs.YtkdfbliiblojoaaGreatDoor
