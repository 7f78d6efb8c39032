import Derived.Test.YtkdfbliiblojoaaGreatDoorK10
import Derived.Test.YtkdfbliiblojoaaGreatDoorK6
set_option linter.all false
set_option maxRecDepth 100000
set_option maxHeartbeats 64000000
namespace Go.Proofs.YtkdfbliiblojoaaGreatDoor
open Go Go.RowKit
def Adj (L:List Ino)(k:Int):Int:=
 if Aa5 L k=false∨(Aai L k).kind=0 then 2 else if (Aai L k).kind=2 then 21 else if (Aai L k).kind≠1 then 22 else 0
def Ale (old:List UInt8)(off:Nat)(s:List UInt8):List UInt8:=(old ++ List.replicate (off - old.length) 0).take off ++ s ++ old.drop (off+s.length)
def cutL (old:List UInt8)(n:Nat):List UInt8:=old.take n ++ List.replicate (n - old.length) 0
def Aft (L:List Ino)(k off n:Int):List UInt8×Int:=
 if Adj L k≠0 then([],Adj L k)else if off < 0∨n < 0 then([],22)else(((Aai L k).data.drop off.toNat).take n.toNat,0)
def Ae9 (L:List Ino)(k:Nat)(d:List UInt8):List Ino:=L.set k { Aai L k with data:=d }
def Aee (L:List Ino)(b:Int)(k:Nat)(d:List UInt8):List Ino×Int:=
 if b < (Aax L:Int) - ((Aai L k).data.length:Int)+(d.length:Int)then(L,28)else(Ae9 L k d,0)
def Ae1 (L:List Ino)(b:Int)(k off:Int)(s:List UInt8):List Ino×Int:=
 if Adj L k≠0 then(L,Adj L k)else if off < 0 then(L,22)else if s=[]then(L,0)else if 65536 < off∨65536 - off < (s.length:Int)then(L,27)else
 Aee L b k.toNat (Ale (Aai L k).data off.toNat s)
def cutW (L:List Ino)(b:Int)(k n:Int):List Ino×Int:=
 if Adj L k≠0 then(L,Adj L k)else if n < 0 then(L,22)else if 65536 < n then(L,27)else Aee L b k.toNat (cutL (Aai L k).data n.toNat)
theorem Ag5 (old:List UInt8)(off:Nat):((old ++ List.replicate (off - old.length) 0).take off).length=off:=by
 rw[List.length_take,List.length_append,List.length_replicate]
 omega
theorem Aps (old:List UInt8)(off:Nat)(s:List UInt8):(Ale old off s).length=off+s.length+(old.length - (off+s.length)):=by
 unfold Ale
 rw[List.length_append,List.length_append,Ag5,List.length_drop]
theorem Aga (old:List UInt8)(n:Nat):(cutL old n).length=n:=by
 unfold cutL
 rw[List.length_append,List.length_take,List.length_replicate]
 omega
theorem Azv (old:List UInt8)(z i:Nat):(old ++ List.replicate z 0)[i]?=if i < old.length then old[i]? else if i < old.length+z then some 0 else none:=by
 rw[List.getElem?_append]
 by_cases h:i < old.length
 ·rw[if_pos h,if_pos h]
 ·rw[if_neg h,if_neg h,List.getElem?_replicate]
  by_cases h2:i < old.length+z
  ·rw[if_pos h2,if_pos (by omega)]
  ·rw[if_neg h2,if_neg (by omega)]
theorem Awk (old:List UInt8)(off:Nat)(s:List UInt8)(i:Nat):(Ale old off s)[i]?=if i < off then(if i < old.length then old[i]? else some 0)else if i < off+s.length then s[i - off]? else old[i]?:=by
 unfold Ale
 rw[List.getElem?_append,List.length_append,Ag5]
 by_cases h1:i < off
 ·rw[if_pos h1,if_pos (by omega),List.getElem?_append,Ag5,if_pos h1,List.getElem?_take,if_pos h1,Azv]
  by_cases h2:i < old.length
  ·rw[if_pos h2,if_pos h2]
  ·rw[if_neg h2,if_neg h2,if_pos (by omega)]
 ·rw[if_neg h1]
  by_cases h2:i < off+s.length
  ·rw[if_pos h2,if_pos h2,List.getElem?_append,Ag5,if_neg h1]
  ·rw[if_neg h2,if_neg h2,List.getElem?_drop]
   congr 1
   omega
theorem Apf (old:List UInt8)(n i:Nat):(cutL old n)[i]?=if i < n then(if i < old.length then old[i]? else some 0)else none:=by
 unfold cutL
 rw[List.getElem?_append,List.length_take]
 by_cases h1:i < n
 ·rw[if_pos h1]
  by_cases h2:i < old.length
  ·rw[if_pos (by omega),if_pos h2,List.getElem?_take,if_pos h1]
  ·rw[if_neg (by omega),if_neg h2,List.getElem?_replicate,if_pos (by omega)]
 ·rw[if_neg h1,if_neg (by omega),List.getElem?_replicate,if_neg (by omega)]
theorem Afm (L:List Ino)(k:Nat)(d:List UInt8):(Ae9 L k d).length=L.length:=List.length_set ..
section
variable {L : List Ino} {m b : Int}
theorem Ahy {k:Int}(h:Adj L k=0):∃ n:Nat,∃ hn:n < L.length,k=(n:Int)/\L[n].kind=1:=by
 unfold Adj at h
 split at h
 ·exact absurd h (by decide)
 rename_i h1
 split at h
 ·exact absurd h (by decide)
 split at h
 ·exact absurd h (by decide)
 rename_i h3
 have ht:Aa5 L k=true:=by simpa using fun e=>h1 (.inl e)
 obtain⟨n,rfl,hn⟩:=Aa7 ht
 exact⟨n,hn,rfl,by rw[Aae L n hn]at h3;omega⟩
theorem Asr (hF:FitP L m b){k:Nat}(hk:k < L.length)(h1:L[k].kind=1){d:List UInt8}(hd:¬ b < (Aax L:Int) - (L[k].data.length:Int)+(d.length:Int)):Puts L m b k { L[k]with data:=d }:=by
 refine⟨hF,hk,rfl,rfl,rfl,rfl,?_,by show (Aax L:Int)+d.length<=b+L[k].data.length;omega⟩
 have ha:=(hF.ins k hk).1
 unfold Abl at ha ⊢
 rw[h1]at ha
 show (if L[k].kind=0 then _ else if L[k].mode < 0∨7 < L[k].mode then false else if L[k].kind=1 then decide (L[k].kids.length=0) && (L[k].up == 0)else _)=true
 rw[h1]
 simpa using ha
theorem Amf (hF:FitP L m b){k:Nat}(hk:k < L.length)(h1:L[k].kind=1){d:List UInt8}{L':List Ino}{e:Int}(hz:Aee L b k d=(L',e)) :
  (e=0->L'=Ae9 L k d/\FitP L' m b)/\(e≠0->L'=L/\e=28):=by
 unfold Aee at hz
 rw[Aae L k hk]at hz
 split at hz
 ·obtain⟨rfl,rfl⟩:=Prod.mk.inj hz
  exact⟨fun h=>absurd h (by decide),fun _=>⟨rfl,rfl⟩⟩
 ·rename_i h
  obtain⟨rfl,rfl⟩:=Prod.mk.inj hz
  refine⟨fun _=>⟨rfl,?_⟩,fun h=>absurd rfl h⟩
  unfold Ae9
  rw[Aae L k hk]
  exact(Asr hF hk h1 h).fits
theorem Ax2 (hF:FitP L m b){k off:Int}{s:List UInt8}{L':List Ino}{e:Int}(hz:Ae1 L b k off s=(L',e)) :
  (e=0->(s=[]/\L'=L)∨∃ n o:Nat,∃ hn:n < L.length,k=(n:Int)/\off=(o:Int)/\L[n].kind=1/\o+s.length<=65536/\L'=Ae9 L n (Ale L[n].data o s)/\FitP L' m b)/\(e≠0->L'=L):=by
 unfold Ae1 at hz
 by_cases h0:Adj L k=0
 ·rw[if_neg (by simpa using h0)]at hz
  obtain⟨n,hn,rfl,h1⟩:=Ahy h0
  split at hz
  ·obtain⟨rfl,rfl⟩:=Prod.mk.inj hz
   exact⟨fun h=>absurd h (by decide),fun _=>rfl⟩
  rename_i h2
  split at hz
  ·rename_i h3
   obtain⟨rfl,rfl⟩:=Prod.mk.inj hz
   exact⟨fun _=>.inl ⟨h3,rfl⟩,fun h=>absurd rfl h⟩
  split at hz
  ·obtain⟨rfl,rfl⟩:=Prod.mk.inj hz
   exact⟨fun h=>absurd h (by decide),fun _=>rfl⟩
  rename_i h4
  rw[Int.toNat_natCast,Aae L n hn]at hz
  obtain⟨p1,p2⟩:=Amf hF hn h1 hz
  refine⟨fun h=>.inr ⟨n,off.toNat,hn,rfl,by omega,h1,by omega,(p1 h).1,(p1 h).2⟩,fun h=>(p2 h).1⟩
 ·rw[if_pos h0]at hz
  obtain⟨rfl,rfl⟩:=Prod.mk.inj hz
  exact⟨fun h=>absurd h h0,fun _=>rfl⟩
theorem Bam (hF:FitP L m b){k z:Int}{L':List Ino}{e:Int}(hz:cutW L b k z=(L',e)) :
  (e=0->∃ n o:Nat,∃ hn:n < L.length,k=(n:Int)/\z=(o:Int)/\L[n].kind=1/\o<=65536/\L'=Ae9 L n (cutL L[n].data o)/\FitP L' m b)/\(e≠0->L'=L):=by
 unfold cutW at hz
 by_cases h0:Adj L k=0
 ·rw[if_neg (by simpa using h0)]at hz
  obtain⟨n,hn,rfl,h1⟩:=Ahy h0
  split at hz
  ·obtain⟨rfl,rfl⟩:=Prod.mk.inj hz
   exact⟨fun h=>absurd h (by decide),fun _=>rfl⟩
  rename_i h2
  split at hz
  ·obtain⟨rfl,rfl⟩:=Prod.mk.inj hz
   exact⟨fun h=>absurd h (by decide),fun _=>rfl⟩
  rename_i h3
  rw[Int.toNat_natCast,Aae L n hn]at hz
  obtain⟨p1,p2⟩:=Amf hF hn h1 hz
  exact⟨fun h=>⟨n,z.toNat,hn,rfl,by omega,h1,by omega,(p1 h).1,(p1 h).2⟩,fun h=>(p2 h).1⟩
 ·rw[if_pos h0]at hz
  obtain⟨rfl,rfl⟩:=Prod.mk.inj hz
  exact⟨fun h=>absurd h h0,fun _=>rfl⟩
theorem Asq {k:Nat}(hk:k < L.length)(d:List UInt8):Aai (Ae9 L k d) (k:Int)={ L[k]with data:=d }:=by
 rw[Aae _ k (by rw[Afm];exact hk)]
 simp only[Ae9,List.getElem_set_self,Aae L k hk]
end
theorem Av2 {L:List Ino}{k:Nat}(hk:k < L.length)(d:List UInt8)(h:k < (Ae9 L k d).length):(Ae9 L k d)[k]={ L[k]with data:=d }:=by
 have h1:=Asq hk d
 rw[Aae _ k h]at h1
 exact h1
structure Opn where
 kind:Int
 at_:Int
 off:Int
 flags:Int
 refs:Int
def Aav : Opn:=⟨0,0,0,0,0⟩
def Afb : Pip:=⟨[],0,0,0⟩
structure Krn where
 tree:List Ino
 m:Int
 b:Int
 pipes:List Pip
 opens:List Opn
 out0:List UInt8
 out1:List UInt8
def Abb (L:List Ino)(np:Nat)(o:Opn):Prop:=
 o=Aav∨(1<=o.refs/\o.refs<=1000/\0<=o.off/\o.off<=65536 /\
  ((o.kind=1/\(o.flags=1∨o.flags=2∨o.flags=3∨o.flags=6∨o.flags=7)/\∃ n:Nat,∃ hn:n < L.length,o.at_=(n:Int)/\L[n].kind=1) ∨
   (o.kind=2/\(∃ n:Nat,n < np/\o.at_=(n:Int))/\o.off=0/\o.flags=1) ∨
   (o.kind=3/\(∃ n:Nat,n < np/\o.at_=(n:Int))/\o.off=0/\o.flags=2) ∨
   (o.kind=4/\(o.at_=0∨o.at_=1)/\o.off=0/\o.flags=2)))
def Acw (kd:Int)(i:Nat)(o:Opn):Bool:=o.kind == kd && o.at_ == (i:Int)
def Abw (O:List Opn)(kd:Int)(i:Nat):Nat:=O.countP (Acw kd i)
structure FitE (k:Krn)(f:List Int)(er ew:Nat->Int):Prop where
 tree:FitP k.tree k.m k.b
 np:k.pipes.length<=32
 no:k.opens.length<=64
 o0:k.out0.length<=65536
 o1:k.out1.length<=65536
 opens:∀ i (hi:i < k.opens.length),Abb k.tree k.pipes.length k.opens[i]
 pipes:∀ i (hi:i < k.pipes.length),Ace k.pipes[i]=true/\k.pipes[i].rd=Abw k.opens 2 i+er i/\(k.pipes[i].wr=Abw k.opens 3 i+ew i∨(i=0/\k.pipes[i].wr<=Abw k.opens 3 i+ew i))
 len:f.length=10
 fds:∀ i (hi:i < f.length),f[i]=0∨∃ j:Nat,∃ hj:j < k.opens.length,f[i]=(j:Int)+1/\k.opens[j].kind≠0/\(f.count f[i]:Int)<=k.opens[j].refs
def Am3 : Nat->Int:=fun _=>0
def FitK (k:Krn)(f:List Int):Prop:=FitE k f Am3 Am3
def Anp (k:Krn)(f:List Int)(j:Nat):Prop:=∃ hj:j < k.opens.length,k.opens[j].kind≠0/\(f.count ((j:Int)+1):Int)+1<=k.opens[j].refs
theorem Ahc (O:List Opn)(j:Nat)(hj:j < O.length)(o:Opn)(kd:Int)(i:Nat):(Abw (O.set j o) kd i:Int)=Abw O kd i - (if Acw kd i O[j]=true then 1 else 0)+(if Acw kd i o=true then 1 else 0):=by
 unfold Abw
 rw[List.countP_set hj]
 by_cases h:Acw kd i O[j]=true
 ·have h1:0 < O.countP (Acw kd i):=List.countP_pos_iff.2 ⟨_,List.getElem_mem hj,h⟩
  rw[if_pos h,if_pos h]
  split <;> omega
 ·rw[if_neg h,if_neg h]
  split <;> omega
theorem Ain (O:List Opn)(o:Opn)(kd:Int)(i:Nat):(Abw (O ++ [o]) kd i:Int)=Abw O kd i+(if Acw kd i o=true then 1 else 0):=by
 unfold Abw
 rw[List.countP_append,List.countP_singleton]
 split <;> omega
theorem Ak8 (f:List Int)(i:Nat)(hi:i < f.length)(x y:Int):((f.set i x).count y:Int)=f.count y - (if f[i]=y then 1 else 0)+(if x=y then 1 else 0):=by
 rw[List.count_set hi]
 by_cases h:f[i]=y
 ·have h1:0 < f.count y:=List.count_pos_iff.2 (h ▸ List.getElem_mem hi)
  rw[if_pos (by simpa using h),if_pos h]
  by_cases h2:x=y
  ·rw[if_pos (by simpa using h2),if_pos h2];omega
  ·rw[if_neg (by simpa using h2),if_neg h2];omega
 ·rw[if_neg (by simpa using h),if_neg h]
  by_cases h2:x=y
  ·rw[if_pos (by simpa using h2),if_pos h2];omega
  ·rw[if_neg (by simpa using h2),if_neg h2];omega
theorem Ape (f:List Int)(i:Nat)(hi:i < f.length):1<=f.count f[i]:=List.count_pos_iff.2 (List.getElem_mem hi)
theorem Akl (kd:Int)(h:kd≠0)(i:Nat):Acw kd i Aav=false:=by
 unfold Acw Aav
 have:((0:Int) == kd)=false:=by simpa using fun e:(0:Int)=kd=>h e.symm
 simp[this]
theorem Aje {L:List Ino}{np:Nat}{o:Opn}(h:Abb L np o)(hk:o.kind≠0):1<=o.refs:=by
 rcases h with rfl|⟨h1,-⟩
 ·exact absurd rfl hk
 ·exact h1
theorem Amj {L:List Ino}{np:Nat}{o:Opn}(h:Abb L np o)(hk:o.kind=0):o=Aav:=by
 rcases h with h|⟨-,-,-,-,⟨h,-⟩|⟨h,-⟩|⟨h,-⟩|⟨h,-⟩⟩
 ·exact h
 all_goals omega
theorem Amk {L:List Ino}{np:Nat}{o:Opn}(h:Abb L np o)(hk:o.kind≠0){r:Int}(h1:1<=r)(h2:r<=1000):Abb L np { o with refs:=r }:=by
 rcases h with rfl|⟨-,-,h3,h4,h5⟩
 ·exact absurd rfl hk
 ·exact .inr ⟨h1,h2,h3,h4,h5⟩
theorem Ami {L L':List Ino}{np np':Nat}{o:Opn}(h:Abb L np o)(hnp:np<=np')(hL:∀ n (hn:n < L.length),L[n].kind=1->∃ hn':n < L'.length,L'[n].kind=1):Abb L' np' o:=by
 rcases h with rfl|⟨h1,h2,h3,h4,h5⟩
 ·exact .inl rfl
 ·refine .inr ⟨h1,h2,h3,h4,?_⟩
  rcases h5 with ⟨a,b,n,hn,c,d⟩|⟨a,⟨n,hn,c⟩,d⟩|⟨a,⟨n,hn,c⟩,d⟩|h5
  ·obtain⟨hn',d'⟩:=hL n hn d
   exact .inl ⟨a,b,n,hn',c,d'⟩
  ·exact .inr (.inl ⟨a,⟨n,by omega,c⟩,d⟩)
  ·exact .inr (.inr (.inl ⟨a,⟨n,by omega,c⟩,d⟩))
  ·exact .inr (.inr (.inr h5))
theorem Al9 {p:Pip}(h:Ace p=true)(reads:Bool):Ace (Aak p reads)=true:=by
 have hf:=Adt.1 h
 unfold Aak
 cases reads
 ·rw[if_neg (by decide)]
  split
  ·exact Adt.2 ⟨hf.1,hf.2.1,by show 0<=p.wr - 1;omega,by show p.wr - 1<=1000;omega,hf.2.2.2.2⟩
  ·exact h
 ·rw[if_pos rfl]
  split
  ·exact Adt.2 ⟨by show 0<=p.rd - 1;omega,by show p.rd - 1<=1000;omega,hf.2.2⟩
  ·exact h
def Abg (k:Krn)(j:Nat):Krn:=
 if (k.opens.getD j Aav).refs - 1=0 then
  { k with pipes:=if (k.opens.getD j Aav).kind=2∨(k.opens.getD j Aav).kind=3 then k.pipes.set (k.opens.getD j Aav).at_.toNat (Aak (k.pipes.getD (k.opens.getD j Aav).at_.toNat Afb) ((k.opens.getD j Aav).kind == 2))else k.pipes,opens:=k.opens.set j Aav }
 else { k with opens:=k.opens.set j { k.opens.getD j Aav with refs:=(k.opens.getD j Aav).refs - 1 } }
def Abh (k:Krn)(f:List Int)(fd:Nat):Krn×List Int:=if f.getD fd 0=0 then(k,f)else(Abg k (f.getD fd 0 - 1).toNat,f.set fd 0)
theorem Abx {T:Type}(l:List T)(i:Nat)(h:i < l.length)(x:T):l.getD i x=l[i]:=by
 rw[List.getD_eq_getElem?_getD,List.getElem?_eq_getElem h]
 rfl
section
variable {k : Krn} {f : List Int} {er ew : Nat -> Int}
theorem Ac1 (k:Krn)(j:Nat):(Abg k j).opens.length=k.opens.length:=by
 unfold Abg
 split <;> exact List.length_set ..
theorem Aew (k:Krn)(j:Nat):(Abg k j).pipes.length=k.pipes.length:=by
 unfold Abg
 split
 ·show (if _ then _ else _:List Pip).length=_
  split
  ·exact List.length_set ..
  ·rfl
 ·rfl
theorem Ajo (k:Krn)(j:Nat):(Abg k j).tree=k.tree/\(Abg k j).m=k.m/\(Abg k j).b=k.b/\(Abg k j).out0=k.out0/\(Abg k j).out1=k.out1:=by
 unfold Abg
 split <;> exact⟨rfl,rfl,rfl,rfl,rfl⟩
theorem Aen (k:Krn)(j i:Nat)(h:j≠i)(hi:i < k.opens.length):(Abg k j).opens[i]'(by rw[Ac1];exact hi)=k.opens[i]:=by
 unfold Abg
 split <;> exact List.getElem_set_ne h ..
theorem Adm (k:Krn)(j:Nat)(hj:j < k.opens.length)(h:k.opens[j].refs≠1):Abg k j={ k with opens:=k.opens.set j { k.opens[j]with refs:=k.opens[j].refs - 1 } }:=by
 unfold Abg
 rw[Abx _ j hj,if_neg (by omega)]
theorem Awo (h:FitE k f er ew)(her:∀ i,0<=er i)(hew:∀ i,0<=ew i){fd j:Nat}(hfd:fd < f.length)(hj:j < k.opens.length)(hf:f[fd]=(j:Int)+1):FitE (Abg k j) (f.set fd 0) er ew:=by
 have hk:k.opens[j].kind≠0/\(f.count ((j:Int)+1):Int)<=k.opens[j].refs:=by
  rcases h.fds fd hfd with h0|⟨j2,hj2,h2,h3,h4⟩
  ·omega
  ·obtain rfl:j=j2:=by omega
   rw[hf]at h4
   exact⟨h3,h4⟩
 have hg:=h.opens j hj
 have hr:=Aje hg hk.1
 obtain⟨t1,t2,t3,t4,t5⟩:=Ajo k j
 have hfds:∀ i (hi:i < (f.set fd 0).length),(f.set fd 0)[i]=0∨∃ j2:Nat,∃ hj2:j2 < (Abg k j).opens.length,(f.set fd 0)[i]=(j2:Int)+1/\(Abg k j).opens[j2].kind≠0/\((f.set fd 0).count (f.set fd 0)[i]:Int)<=(Abg k j).opens[j2].refs:=fun i hi=>by
  by_cases e:fd=i
  ·subst e
   exact .inl (List.getElem_set_self ..)
  have hi':i < f.length:=by rw[List.length_set]at hi;exact hi
  have e2:(f.set fd 0)[i]=f[i]:=List.getElem_set_ne e ..
  rcases h.fds i hi' with h0|⟨j2,hj2,h2,h3,h4⟩
  ·exact .inl (e2.trans h0)
  have hc:=Ak8 f fd hfd 0 f[i]
  rw[hf,if_neg (show ¬ (0:Int)=f[i] by omega)]at hc
  refine .inr ⟨j2,by rw[Ac1];exact hj2,e2.trans h2,?_⟩
  by_cases ej:j=j2
  ·subst ej
   rw[if_pos h2.symm]at hc
   have h5:=Ape (f.set fd 0) i hi
   rw[e2]at h5 ⊢
   have hne:k.opens[j].refs≠1:=by omega
   have hE:=Adm k j hj hne
   have hO:(Abg k j).opens[j]'(by rw[Ac1];exact hj)={ k.opens[j]with refs:=k.opens[j].refs - 1 }:=by
    simp only[hE,List.getElem_set_self]
   rw[hO]
   exact⟨hk.1,by show _<=k.opens[j].refs - 1;omega⟩
  ·rw[Aen k j j2 ej hj2,e2]
   rw[if_neg (show ¬ (j:Int)+1=f[i] by omega)]at hc
   exact⟨h3,by omega⟩
 by_cases hone:k.opens[j].refs=1
 ·
  have hO:(Abg k j).opens=k.opens.set j Aav:=by
   unfold Abg
   rw[Abx _ j hj,if_pos (by omega)]
  have hP:(Abg k j).pipes=if k.opens[j].kind=2∨k.opens[j].kind=3 then k.pipes.set k.opens[j].at_.toNat (Aak (k.pipes.getD k.opens[j].at_.toNat Afb) (k.opens[j].kind == 2))else k.pipes:=by
   unfold Abg
   rw[Abx _ j hj,if_pos (by omega)]
  have hends:∀ kd:Int,kd≠0->∀ i,(Abw (Abg k j).opens kd i:Int)=Abw k.opens kd i - (if Acw kd i k.opens[j]=true then 1 else 0):=fun kd hkd i=>by
   rw[hO,Ahc _ j hj,if_neg (show ¬ Acw kd i Aav=true by rw[Akl kd hkd];decide)]
   omega
  refine⟨by rw[t1,t2,t3];exact h.tree,by rw[Aew];exact h.np,by rw[Ac1];exact h.no,by rw[t4];exact h.o0,by rw[t5];exact h.o1,fun i hi=>?_,fun i hi=>?_,by rw[List.length_set];exact h.len,hfds⟩
  ·rw[t1,Aew]
   have hi':i < k.opens.length:=by rw[Ac1]at hi;exact hi
   by_cases e:j=i
   ·subst e
    have:(Abg k j).opens[j]=Aav:=by simp only[hO,List.getElem_set_self]
    rw[this]
    exact .inl rfl
   ·rw[Aen k j i e hi']
    exact h.opens i hi'
  ·have hi':i < k.pipes.length:=by rw[Aew]at hi;exact hi
   obtain⟨p1,p2,p3⟩:=h.pipes i hi'
   rw[hends 2 (by decide) i,hends 3 (by decide) i]
   by_cases hkd:k.opens[j].kind=2∨k.opens[j].kind=3
   ·obtain⟨n,hn,hat⟩:∃ n:Nat,n < k.pipes.length/\k.opens[j].at_=(n:Int):=by
     rcases hg with hg|⟨-,-,-,-,⟨a,-⟩|⟨a,b,-⟩|⟨a,b,-⟩|⟨a,-⟩⟩
     ·rw[hg]at hk;exact absurd rfl hk.1
     ·omega
     ·exact b
     ·exact b
     ·omega
    have hPi:(Abg k j).pipes[i]=if n=i then Aak k.pipes[i] (k.opens[j].kind == 2)else k.pipes[i]:=by
     simp only[hP,if_pos hkd,hat,Int.toNat_natCast,Abx _ n hn,List.getElem_set]
     split
     ·rename_i e;subst e;rfl
     ·rfl
    rw[hPi]
    by_cases e:n=i
    ·subst e
     rw[if_pos rfl]
     have h1:=Ape
     rcases hkd with h2|h2
     ·
      have i2:Acw 2 n k.opens[j]=true:=by unfold Acw;rw[h2,hat];simp
      have i3:¬ Acw 3 n k.opens[j]=true:=by unfold Acw;rw[h2];simp
      have hpos:1<=Abw k.opens 2 n:=List.countP_pos_iff.2 ⟨_,List.getElem_mem hj,i2⟩
      have:=her n
      rw[if_pos i2,if_neg i3,show (k.opens[j].kind == 2)=true by simpa using h2]
      refine⟨Al9 p1 _,?_,?_⟩
      ·unfold Aak
       rw[if_pos rfl,if_pos (by omega)]
       show k.pipes[n].rd - 1=_
       omega
      ·have e3:(Aak k.pipes[n] true).wr=k.pipes[n].wr:=by
        unfold Aak
        rw[if_pos rfl]
        split <;> rfl
       rw[e3]
       rcases p3 with p3|⟨p3,p4⟩
       ·exact .inl (by omega)
       ·exact .inr ⟨p3,by omega⟩
     ·
      have i2:¬ Acw 2 n k.opens[j]=true:=by unfold Acw;rw[h2];simp
      have i3:Acw 3 n k.opens[j]=true:=by unfold Acw;rw[h2,hat];simp
      have hpos:1<=Abw k.opens 3 n:=List.countP_pos_iff.2 ⟨_,List.getElem_mem hj,i3⟩
      have:=hew n
      rw[if_neg i2,if_pos i3,show (k.opens[j].kind == 2)=false by rw[h2];decide]
      refine⟨Al9 p1 _,?_,?_⟩
      ·have e3:(Aak k.pipes[n] false).rd=k.pipes[n].rd:=by
        unfold Aak
        rw[if_neg (by decide)]
        split <;> rfl
       rw[e3]
       omega
      ·unfold Aak
       rw[if_neg (by decide)]
       by_cases hw:0 < k.pipes[n].wr
       ·rw[if_pos hw]
        show k.pipes[n].wr - 1=_∨(n=0/\k.pipes[n].wr - 1<=_)
        rcases p3 with p3|⟨p3,p4⟩
        ·exact .inl (by omega)
        ·exact .inr ⟨p3,by omega⟩
       ·rw[if_neg hw]
        rcases p3 with p3|⟨p3,p4⟩
        ·omega
        ·exact .inr ⟨p3,by omega⟩
    ·rw[if_neg e]
     have hne:∀ kd,¬ Acw kd i k.opens[j]=true:=fun kd=>by
      unfold Acw
      rw[hat]
      simp
      intro _
      omega
     rw[if_neg (hne 2),if_neg (hne 3)]
     exact⟨p1,by omega,by omega⟩
   ·have hPi:(Abg k j).pipes[i]=k.pipes[i]:=by simp only[hP,if_neg hkd]
    have hne:∀ kd,kd=2∨kd=3->¬ Acw kd i k.opens[j]=true:=fun kd hk2 hE=>by
     unfold Acw at hE
     simp only[Bool.and_eq_true,beq_iff_eq]at hE
     omega
    rw[hPi,if_neg (hne 2 (.inl rfl)),if_neg (hne 3 (.inr rfl))]
    exact⟨p1,by omega,by omega⟩
 ·
  have hE:=Adm k j hj hone
  have hends:∀ kd i,Abw (Abg k j).opens kd i=Abw k.opens kd i:=fun kd i=>by
   have h1:(Abg k j).opens=k.opens.set j { k.opens[j]with refs:=k.opens[j].refs - 1 }:=by rw[hE]
   have h2:=Ahc k.opens j hj { k.opens[j]with refs:=k.opens[j].refs - 1 } kd i
   rw[<-h1]at h2
   have h3:Acw kd i { k.opens[j]with refs:=k.opens[j].refs - 1 }=Acw kd i k.opens[j]:=rfl
   rw[h3]at h2
   omega
  have hP:(Abg k j).pipes=k.pipes:=by rw[hE]
  have hr2:k.opens[j].refs<=1000:=by
   rcases hg with hg|⟨-,h2,-⟩
   ·rw[hg]at hk;exact absurd rfl hk.1
   ·exact h2
  refine⟨by rw[t1,t2,t3];exact h.tree,by rw[Aew];exact h.np,by rw[Ac1];exact h.no,by rw[t4];exact h.o0,by rw[t5];exact h.o1,fun i hi=>?_,fun i hi=>?_,by rw[List.length_set];exact h.len,hfds⟩
  ·rw[t1,Aew]
   have hi':i < k.opens.length:=by rw[Ac1]at hi;exact hi
   by_cases e:j=i
   ·subst e
    have:(Abg k j).opens[j]={ k.opens[j]with refs:=k.opens[j].refs - 1 }:=by simp only[hE,List.getElem_set_self]
    rw[this]
    exact Amk hg hk.1 (by omega) (by omega)
   ·rw[Aen k j i e hi']
    exact h.opens i hi'
  ·have hi':i < k.pipes.length:=by rw[Aew]at hi;exact hi
   have hPi:(Abg k j).pipes[i]=k.pipes[i]:=by simp only[hP]
   rw[hends,hends,hPi]
   exact h.pipes i hi'
end
def Add (L:List Ino)(k:Int):Bool:=Aa5 L k && (Aai L k).kind != 0
def Ae2 (L:List Ino)(k:Int):Int:=if Aa5 L k then(Aai L k).kind else 0
def Aqt (m what:Int):Bool:=(what / 4 == 0 || m / 4 == 1) && (what / 2 % 2 == 0 || m / 2 % 2 == 1) && (what % 2 == 0 || m % 2 == 1)
def mayL (L:List Ino)(k what:Int):Bool:=decide (0<=what) && decide (what<=7) && Add L k && Aqt (Aai L k).mode what
def Aco (L:List Ino)(a:Int)(x:List UInt8):Int×Int:=
 if dirB L a=false then(0,20)else if mayL L a 1=false then(0,13)else if x=[46]then(a,0)else if x=[46,46]then((Aai L a).up,0)
 else if kidL L a x < 0 then(0,2)else(kidL L a x,0)
def Ago (L:List Ino)(last:Bool)(f:List (List UInt8)->Int->Int×Int):List (List UInt8)->Int->Int×Int
 | [],a=>(a,0)
 | x :: r,a=>if (Aco L a x).2≠0 then(0,(Aco L a x).2)else
  if (Aai L (Aco L a x).1).kind≠3∨(r=[]/\last=false)then Ago L last f r (Aco L a x).1
  else f (Aaq (Aai L (Aco L a x).1).data ++ r) (if Ac6 (Aai L (Aco L a x).1).data then 0 else a)
def wayW (L:List Ino)(last:Bool):Nat->List (List UInt8)->Int->Int×Int
 | 0=>Ago L last (fun _ _=>(0,40))
 | n+1=>Ago L last (wayW L last n)
theorem Aqj (L:List Ino)(last:Bool)(n:Nat)(a:Int):wayW L last n [] a=(a,0):=by cases n <;> rfl
theorem Aqi (L:List Ino)(last:Bool)(n:Nat)(x:List UInt8)(r:List (List UInt8))(a:Int)(h:(Aco L a x).2≠0):wayW L last n (x :: r) a=(0,(Aco L a x).2):=by
 cases n <;> (unfold wayW Ago;rw[if_pos h])
theorem Alz (L:List Ino)(last:Bool)(n:Nat)(x:List UInt8)(r:List (List UInt8))(a k:Int)(h:Aco L a x=(k,0))(h2:(Aai L k).kind≠3∨(r=[]/\last=false)):wayW L last n (x :: r) a=wayW L last n r k:=by
 cases n with
 | zero=>show Ago L last _ (x :: r) a=_;rw[Ago,h];simp only[ne_eq,not_true,if_false];rw[if_pos h2];rfl
 | succ n=>show Ago L last _ (x :: r) a=_;rw[Ago,h];simp only[ne_eq,not_true,if_false];rw[if_pos h2];rfl
theorem Anm (L:List Ino)(last:Bool)(x:List UInt8)(r:List (List UInt8))(a k:Int)(h:Aco L a x=(k,0))(h2:¬ ((Aai L k).kind≠3∨(r=[]/\last=false))):wayW L last 0 (x :: r) a=(0,40):=by
 show Ago L last _ (x :: r) a=_
 rw[Ago,h];simp only[ne_eq,not_true,if_false];rw[if_neg h2]
theorem Anl (L:List Ino)(last:Bool)(n:Nat)(x:List UInt8)(r:List (List UInt8))(a k:Int)(h:Aco L a x=(k,0))(h2:¬ ((Aai L k).kind≠3∨(r=[]/\last=false))) :
  wayW L last (n+1) (x :: r) a=wayW L last n (Aaq (Aai L k).data ++ r) (if Ac6 (Aai L k).data then 0 else a):=by
 show Ago L last _ (x :: r) a=_
 rw[Ago,h];simp only[ne_eq,not_true,if_false];rw[if_neg h2]
def Agz (p:List UInt8):Bool:=decide (1024 < p.length) || (Aaq p).any fun x=>decide (64 < x.length)
def badW (L:List Ino)(cwd:Int)(p:List UInt8):Int:=if p=[]∨dirB L cwd=false then 2 else if Agz p then 36 else 0
def Adi (cwd:Int)(p:List UInt8):Int:=if Ac6 p then 0 else cwd
def Acp (L:List Ino)(cwd:Int)(p:List UInt8)(follow:Bool):Int×Int:=
 if badW L cwd p≠0 then(0,badW L cwd p)else
  if (wayW L (follow || endL p) 8 (Aaq p) (Adi cwd p)).2≠0 then(0,(wayW L (follow || endL p) 8 (Aaq p) (Adi cwd p)).2)else
   if endL p=true/\dirB L (wayW L (follow || endL p) 8 (Aaq p) (Adi cwd p)).1=false then(0,20)else((wayW L (follow || endL p) 8 (Aaq p) (Adi cwd p)).1,0)
def Aa6 (L:List Ino)(cwd:Int)(p:List UInt8):Int×List UInt8×Int:=
 if badW L cwd p≠0 then(0,[],badW L cwd p)else if Aaq p=[]then(0,[],17)else
  if (wayW L true 8 (Aaq p).dropLast (Adi cwd p)).2≠0 then(0,[],(wayW L true 8 (Aaq p).dropLast (Adi cwd p)).2)else
   if dirB L (wayW L true 8 (Aaq p).dropLast (Adi cwd p)).1=false then(0,[],20)else((wayW L true 8 (Aaq p).dropLast (Adi cwd p)).1,(Aaq p).getLastD [],0)
theorem Aca (l:List UInt8):(Aaq l).length<=l.length+1:=by
 have h:∀ L:List (List UInt8),L.length<=Aj2 L:=by
  intro L
  induction L with
  | nil=>simp[Aj2]
  | cons x r ih=>simp only[List.length_cons,Aj2];omega
 exact Nat.le_trans (h _) (Aj3 l)
theorem Adw {L:List Ino}{k:Int}(h:dirB L k=true):Add L k=true:=by
 have h2:=Ab7 h
 unfold dirB at h
 unfold Add
 rw[Bool.and_eq_true]at h ⊢
 exact⟨h.1,by rw[h2];rfl⟩
theorem Adx {L:List Ino}{k:Int}(h:Add L k=true):Aa5 L k=true:=by
 unfold Add at h
 rw[Bool.and_eq_true]at h
 exact h.1
theorem Ayf {L:List Ino}{m b:Int}(hF:FitP L m b){k:Int}(h:dirB L k=true):dirB L (Aai L k).up=true:=Ayg hF 1 k h
theorem Apq {L:List Ino}{m b:Int}(hF:FitP L m b){d:Int}{x:List UInt8}(h:0<=kidL L d x):Add L (kidL L d x)=true:=by
 unfold kidL at h ⊢
 by_cases hd:dirB L d=true
 ·rw[if_pos hd]at h ⊢
  obtain⟨z,rfl,hz⟩:=Afd hd
  rw[Aae L z hz]at h ⊢
  obtain⟨e,he,hex⟩:=Amg _ _ h
  obtain⟨i,hi,rfl⟩:=List.getElem_of_mem he
  have hk:=Amh (Adk hF.ins z hz).2 i hi
  rw[<-hex,hk]at h ⊢
  have ht:=(Alk hF.ins hz he).2
  obtain⟨u,hu,hul⟩:=Aa7 ht
  unfold Add
  rw[ht,Bool.true_and]
  rw[hu,Aae L u hul]
  cases hk0:(L[u].kind != 0)with
  | true=>rfl
  | false=>
   exfalso
   have hk0':L[u].kind=0:=by simpa[bne] using hk0
   have h1:=(hF.names.2 u hul).2
   rw[Acq L (Ad2 (Acr hF.ins)) u hul]at h1
   unfold Aed at h1
   rw[if_pos (Or.inr hk0')]at h1
   have h2:=Ajr (Aeo.2 ⟨z,hz,he⟩)
   rw[hu]at h2
   have h3:Aay (Abi L) (u:Int)=0:=Int.ofNat.inj h1
   omega
 ·rw[if_neg hd]at h
  exact absurd h (by decide)
theorem Ao0 {L:List Ino}{m b:Int}(hF:FitP L m b){a:Int}{x:List UInt8}(h:(Aco L a x).2=0):Add L (Aco L a x).1=true:=by
 unfold Aco at h ⊢
 cases hd:dirB L a with
 | false=>rw[hd,if_pos rfl]at h;cases h
 | true=>
  rw[hd,if_neg (by simp)]at h
  rw[if_neg (by simp)]
  cases hm:mayL L a 1 with
  | false=>rw[hm,if_pos rfl]at h;cases h
  | true=>
   rw[hm,if_neg (by simp)]at h
   rw[if_neg (by simp)]
   by_cases h1:x=[46]
   ·rw[if_pos h1];exact Adw hd
   ·rw[if_neg h1]at h ⊢
    by_cases h2:x=[46,46]
    ·rw[if_pos h2];exact Adw (Ayf hF hd)
    ·rw[if_neg h2]at h ⊢
     by_cases h3:kidL L a x < 0
     ·rw[if_pos h3]at h;cases h
     ·rw[if_neg h3]
      exact Apq hF (by omega)
theorem Amy {L:List Ino}(hI:Aef L){k:Int}(ht:Aa5 L k=true):(Aai L k).kind=3->(Aai L k).data.length<=1024/\(Aai L k).data≠[]:=by
 obtain⟨u,rfl,hu⟩:=Aa7 ht
 rw[Aae L u hu]
 intro h3
 have h:=(hI u hu).1
 unfold Abl at h
 rw[if_neg (show ¬ L[u].kind=0 by omega)]at h
 split at h
 ·cases h
 ·rename_i hm
  rw[if_neg (show ¬ L[u].kind=1 by omega)]at h
  try rw[if_pos h3]at h
  simp only[Bool.and_eq_true,decide_eq_true_eq,Bool.not_eq_true']at h
  exact⟨h.2,by
   have:=h.1.2
   intro e
   rw[e]at this
   cases this⟩
theorem Aks {L:List Ino}(hI:Aef L){k:Int}(ht:Aa5 L k=true):0<=(Aai L k).mode/\(Aai L k).mode<=7:=by
 obtain⟨u,rfl,hu⟩:=Aa7 ht
 rw[Aae L u hu]
 have h:=(hI u hu).1
 unfold Abl at h
 by_cases h0:L[u].kind=0
 ·rw[if_pos h0]at h
  simp only[Bool.and_eq_true,decide_eq_true_eq]at h
  have:=h.1.1.1.1
  omega
 ·rw[if_neg h0]at h
  split at h
  ·cases h
  ·omega
theorem Avl {L:List Ino}{m b:Int}(hF:FitP L m b)(last:Bool)(f:List (List UInt8)->Int->Int×Int)(hf:∀ N a,Add L a=true->(f N a).2=0->Add L (f N a).1=true/\(last=true->(N=[]->(Aai L a).kind≠3)->(Aai L (f N a).1).kind≠3)) :
  ∀ (N:List (List UInt8)) (a:Int),Add L a=true->(Ago L last f N a).2=0->Add L (Ago L last f N a).1=true/\(last=true->(N=[]->(Aai L a).kind≠3)->(Aai L (Ago L last f N a).1).kind≠3)
 | [],a,ha,_=>⟨ha,fun _ h=>h rfl⟩
 | x :: r,a,ha,h=>by
  unfold Ago at h ⊢
  by_cases h1:(Aco L a x).2≠0
  ·rw[if_pos h1]at h;exact absurd h h1
  ·rw[if_neg h1]at h ⊢
   have hk:=Ao0 hF (by simpa using h1)
   by_cases h2:(Aai L (Aco L a x).1).kind≠3∨(r=[]/\last=false)
   ·rw[if_pos h2]at h ⊢
    obtain⟨i1,i2⟩:=Avl hF last f hf r _ hk h
    refine⟨i1,fun hl _=>i2 hl fun hr=>?_⟩
    rcases h2 with h2|⟨_,h2⟩
    ·exact h2
    ·rw[hl]at h2;cases h2
   ·rw[if_neg h2]at h ⊢
    have hd:dirB L a=true:=by
     cases hd:dirB L a with
     | true=>rfl
     | false=>
      exfalso
      apply h1
      unfold Aco
      rw[hd,if_pos rfl]
      decide
    have hb:Add L (if Ac6 (Aai L (Aco L a x).1).data then 0 else a)=true:=by
     split
     ·exact Adw hF.root
     ·exact ha
    obtain⟨i1,i2⟩:=hf _ _ hb h
    refine⟨i1,fun hl _=>i2 hl fun _=>?_⟩
    split
    ·rw[Ab7 hF.root];decide
    ·rw[Ab7 hd];decide
theorem Aql {L:List Ino}{m b:Int}(hF:FitP L m b)(last:Bool):∀ (n:Nat) (N:List (List UInt8)) (a:Int),Add L a=true->(wayW L last n N a).2=0->Add L (wayW L last n N a).1=true/\(last=true->(N=[]->(Aai L a).kind≠3)->(Aai L (wayW L last n N a).1).kind≠3)
 | 0,N,a,ha,h=>Avl hF last _ (fun _ _ _ h=>absurd h (by decide)) N a ha h
 | n+1,N,a,ha,h=>Avl hF last _ (fun N' a' h1 h2=>Aql hF last n N' a' h1 h2) N a ha h
theorem Aqs {L:List Ino}{m b:Int}(hF:FitP L m b){cwd:Int}{p:List UInt8}(h:badW L cwd p=0):dirB L (Adi cwd p)=true:=by
 unfold badW at h
 split at h
 ·cases h
 ·rename_i h1
  unfold Adi
  split
  ·exact hF.root
  ·cases hd:dirB L cwd with
   | true=>rfl
   | false=>exact absurd (Or.inr hd) h1
theorem Aj5 {L:List Ino}{m b:Int}(hF:FitP L m b)(cwd:Int)(p:List UInt8):((Acp L cwd p true).2≠0->(Acp L cwd p true).1=0)/\((Acp L cwd p true).2=0->Add L (Acp L cwd p true).1=true/\(Aai L (Acp L cwd p true).1).kind≠3):=by
 unfold Acp
 by_cases h1:badW L cwd p≠0
 ·rw[if_pos h1]
  exact⟨fun _=>rfl,fun h=>absurd h h1⟩
 ·rw[if_neg h1]
  have hb:=Aqs hF (by simpa using h1)
  split
  ·rename_i h2
   exact⟨fun _=>rfl,fun h=>absurd h h2⟩
  ·rename_i h2
   obtain⟨i1,i2⟩:=Aql hF (true || endL p) 8 (Aaq p) (Adi cwd p) (Adw hb) (by simpa using h2)
   split
   ·exact⟨fun _=>rfl,fun h=>absurd h (by decide)⟩
   ·exact⟨fun h=>absurd rfl h,fun _=>⟨i1,i2 (by simp) (fun _=>by rw[Ab7 hb];decide)⟩⟩
def Abc (L:List Ino)(cwd:Int)(p:List UInt8)(dirs:Bool):Int×List UInt8×Int:=
 if (Aa6 L cwd p).2.2≠0 then(0,[],(Aa6 L cwd p).2.2)else
 if (Aa6 L cwd p).2.1=[46]∨(Aa6 L cwd p).2.1=[46,46]∨0<=kidL L (Aa6 L cwd p).1 (Aa6 L cwd p).2.1 then(0,[],17)else
 if Abd (Aa6 L cwd p).2.1=false then(0,[],22)else
 if mayL L (Aa6 L cwd p).1 3=false then(0,[],13)else
 if dirs=false/\endL p=true then(0,[],20)else((Aa6 L cwd p).1,(Aa6 L cwd p).2.1,0)
def Afa (L:List Ino):Nat->Nat->Option Nat
 | 0,_=>none
 | n+1,k=>if (Aai L (k:Int)).kind=0 then some k else Afa L n (k+1)
def Afy (L:List Ino)(d:Int)(s:List UInt8)(x:Ino):List Ino×Int×Int:=
 if 1024<=(Aai L d).kids.length then(L,0,28)else
 match Afa L L.length 0 with
 | none=>(L,0,28)
 | some k=>(addL L d.toNat k s { x with links:=1 },(k:Int),0)
def Ad9 (kind mode:Int)(data:List UInt8)(up:Int):Ino:=⟨kind,mode,0,data,[],up⟩
def Af1 (q:Int):Bool:=decide (0<=q) && decide (q<=7)
def Ap3 (L:List Ino)(cwd:Int)(p:List UInt8)(q:Int):List Ino×Int×Int:=
 if Af1 q=false then(L,0,22)else
 if (Abc L cwd p true).2.2≠0 then(L,0,(Abc L cwd p true).2.2)else Afy L (Abc L cwd p true).1 (Abc L cwd p true).2.1 (Ad9 2 q [] (Abc L cwd p true).1)
def Adr (L:List Ino)(cwd:Int)(p:List UInt8)(q:Int):List Ino×Int×Int:=
 if Af1 q=false then(L,0,22)else
 if (Abc L cwd p false).2.2≠0 then(L,0,(Abc L cwd p false).2.2)else Afy L (Abc L cwd p false).1 (Abc L cwd p false).2.1 (Ad9 1 q [] 0)
theorem Azf {L:List Ino}{m b:Int}(hF:FitP L m b){d:Nat}(hd:d < L.length){s:List UInt8}(h:¬ 0<=kidL L (d:Int) s):∀ e∈L[d].kids,e.1≠s:=fun e he hs=>by
 obtain⟨i,hi,rfl⟩:=List.getElem_of_mem he
 have h1:=Bau hF d hd i hi
 rw[hs]at h1
 have h2:=Ani (((hF.ins d hd).2.2 i hi).there)
 rw[h1]at h
 exact h h2
theorem Aip {L:List Ino}{m b:Int}(hF:FitP L m b){cwd:Int}{p:List UInt8}{dirs:Bool}(h:(Abc L cwd p dirs).2.2=0) :
  ∃ (d:Nat) (s:List UInt8) (hd:d < L.length),Aa6 L cwd p=((d:Int),s,0)/\Abc L cwd p dirs=((d:Int),s,0)/\L[d].kind=2/\Abd s=true/\(∀ e∈L[d].kids,e.1≠s)/\mayL L (d:Int) 3=true:=by
 unfold Abc at h ⊢
 split at h
 ·rename_i h1
  exact absurd h h1
 rename_i h1
 rw[if_neg h1]
 split at h
 ·exact absurd h (by decide)
 rename_i h2
 rw[if_neg h2]
 split at h
 ·exact absurd h (by decide)
 rename_i h3
 rw[if_neg h3]
 split at h
 ·exact absurd h (by decide)
 rename_i h4
 rw[if_neg h4]
 split at h
 ·exact absurd h (by decide)
 rename_i h5
 rw[if_neg h5]
 have hdir:dirB L (Aa6 L cwd p).1=true:=by
  have h6:(Aa6 L cwd p).2.2=0:=by simpa using h1
  unfold Aa6 at h6 ⊢
  split at h6
  ·rename_i g1;exact absurd h6 g1
  ·rename_i g1
   rw[if_neg g1]
   split at h6
   ·exact absurd h6 (by decide)
   ·rename_i g2
    rw[if_neg g2]
    split at h6
    ·rename_i g3;exact absurd h6 g3
    ·rename_i g3
     rw[if_neg g3]
     split at h6
     ·exact absurd h6 (by decide)
     ·rename_i g4
      rw[if_neg g4]
      simpa using g4
 obtain⟨d,hde,hd⟩:=Afd hdir
 have h3':Abd (Aa6 L cwd p).2.1=true:=by simpa using h3
 have h4':mayL L (Aa6 L cwd p).1 3=true:=by simpa using h4
 have h2':¬ 0<=kidL L (Aa6 L cwd p).1 (Aa6 L cwd p).2.1:=fun g=>h2 (Or.inr (Or.inr g))
 rw[hde]at h2' h4' hdir
 refine⟨d,(Aa6 L cwd p).2.1,hd,?_,?_,(Acs hd).1 hdir,h3',Azf hF hd h2',h4'⟩
 ·exact Prod.ext hde (Prod.ext rfl (by simpa using h1))
 ·rw[hde]
theorem Ajc : ∀ (n k:Nat) {L:List Ino} {t:Nat},Afa L n k=some t->k<=t/\t < k+n/\(Aai L (t:Int)).kind=0
 | 0,_,_,_,h=>by cases h
 | n+1,k,L,t,h=>by
  rw[Afa]at h
  split at h
  ·rename_i h0
   cases h
   exact⟨Nat.le_refl _,by omega,h0⟩
  ·obtain⟨h1,h2,h3⟩:=Ajc n (k+1) h
   exact⟨by omega,by omega,h3⟩
theorem Aq1 {x:Ino}(h:Abl x=true)(h0:x.kind=0):x.links=0/\x.data=[]:=by
 unfold Abl at h
 rw[if_pos h0]at h
 simp only[Bool.and_eq_true,decide_eq_true_eq,List.isEmpty_iff]at h
 exact⟨h.1.1.1.2,h.1.1.2⟩
theorem Aqp {L:List Ino}{m b:Int}(hF:FitP L m b){d:Nat}(hd:d < L.length)(hdir:L[d].kind=2){s:List UInt8}(hs:Abd s=true)(hn:∀ e∈L[d].kids,e.1≠s){k:Nat}(hk:Afa L L.length 0=some k)(hroom:L[d].kids.length < 1024)
  {x:Ino} (ha:Abl { x with links:=1 }=true) (h0:x.kind≠0) (hkids:x.kids=[]) (hup:x.kind=2->x.up=d) (hub:(Aax L:Int)+x.data.length<=b):∃ h:k < L.length,L[k].kind=0/\Adds L m b d k s { x with links:=1 }:=by
 obtain⟨-,h1,h2⟩:=Ajc L.length 0 hk
 have hkl:k < L.length:=by omega
 rw[Aae L k hkl]at h2
 obtain⟨h3,h4⟩:=Aq1 (hF.ins k hkl).1 h2
 exact⟨hkl,h2,⟨hF,hd,hdir,hkl,by rw[h2];decide,hs,hn,hroom,ha,h0,hkids,by rw[h3];rfl,fun hx=>⟨hup hx,h2⟩,by rw[h4];simpa using hub⟩⟩
theorem Asc (q:Int)(d:Int)(hq:Af1 q=true):Abl { Ad9 2 q [] d with links:=1 }=true:=by
 unfold Af1 at hq
 rw[Bool.and_eq_true,decide_eq_true_eq,decide_eq_true_eq]at hq
 show Abl ⟨2,q,1,[],[],d⟩=true
 unfold Abl
 simp
 omega
theorem Aqq (q:Int)(hq:Af1 q=true):Abl { Ad9 1 q [] 0 with links:=1 }=true:=by
 unfold Af1 at hq
 rw[Bool.and_eq_true,decide_eq_true_eq,decide_eq_true_eq]at hq
 show Abl ⟨1,q,1,[],[],0⟩=true
 unfold Abl
 simp
 omega
theorem Alg {L:List Ino}{c:Int}(h:Add L c=true):∃ (k:Nat) (hk:k < L.length),c=(k:Int)/\L[k].kind≠0:=by
 obtain⟨k,rfl,hk⟩:=Aa7 (Adx h)
 unfold Add at h
 rw[Bool.and_eq_true,Aae L k hk]at h
 exact⟨k,hk,rfl,by simpa using h.2⟩
end Go.Proofs.YtkdfbliiblojoaaGreatDoor
