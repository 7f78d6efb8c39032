import Derived.Laws.MakeOwn
import Derived.Test.YtkdfbliiblojoaaGreatDoorK7
set_option linter.all false
set_option maxRecDepth 100000
set_option maxHeartbeats 64000000
namespace Go.Proofs.YtkdfbliiblojoaaGreatDoor
open Go Go.RowKit
def Acu (p:Prop)(e:Ending):Prop:=∃ v,e=.returned (.bool v)/\(v=true↔p)
theorem Acu.no {p:Prop}{e:Ending}(he:e=.returned (.bool false))(h:¬ p):Acu p e:=⟨false,he,by simpa using h⟩
theorem Acu.of {p:Prop}{e:Ending}{b:Bool}(he:e=.returned (.bool b))(h:b=true↔p):Acu p e:=⟨b,he,h⟩
def Aed (kind ino n:Int):Prop:=if ino=0∨kind=0 then n=0 else if kind=2 then n=1 else 1<=n
def Ae5 (L:List Ino):Nat->Int->Bool
 | 0,_=>false
 | n+1,k=>if k=0 then true else Ae5 L n (Aai L k).up
theorem Adv (L:List Ino)(n:Nat)(k:Int):Ae5 L (n+1) k=if k=0 then true else Ae5 L n (Aai L k).up:=rfl
def Baf (L:List Ino):Prop:=∀ k (h:k < L.length),L[k].kind=2->dirB L L[k].up=true
theorem Acs {L:List Ino}{n:Nat}(hn:n < L.length):dirB L (n:Int)=true↔L[n].kind=2:=by
 unfold dirB
 rw[Ael L n hn,Aae L n hn]
 simp
def Ayi (L:List Ino):Prop:=∀ k (_:k < L.length),dirB L (k:Int)=true->Ae5 L L.length (k:Int)=true
theorem Ay8 : (Tryz.prog.info? 3).map (fun i=>(i.zero,i.size,i.bytes))=some (some (.int .i64 0),1,8):=by kernel_rfl
theorem Awv (n:Nat):madeCells (Value.int .i64 0).cells (n * 1)=((List.replicate n (0:Int)).map intv).toArray:=by
 unfold madeCells
 apply Array.ext
 ·simp
 ·intro i h1 h2
  simp only[Array.getElem_map,List.getElem_toArray,List.getElem_map,List.getElem_replicate,Array.getElem_range]
  show (#[Value.int .i64 0]:Array Value)[i % 1]! = intv 0
  rw[Nat.mod_one]
  rfl
theorem Avw (A B:List (List UInt8×Int))(c:List Int):bump c (A ++ B)=bump (bump c A) B:=by
 unfold bump
 rw[List.foldl_append]
theorem Awt (M:List (List UInt8×Int)):∀ (c:List Int) (x:Int),0<=x->Low c x->Low (bump c M) (x+M.length):=by
 induction M with
 | nil=>intro c x _ h;simpa[bump] using h
 | cons e r ih=>
  intro c x hx h
  have h1:=ih (bump1 c e.2) (x+1) (by omega) (h.bump1 e.2 hx)
  rw[show x+((e :: r).length:Int)=x+1+(r.length:Int) by simp only[List.length_cons];omega]
  exact h1
def Agp (n:Nat):List Int:=List.replicate n 0
theorem Atr (n:Nat):Low (Agp n) 0:=by
 intro z hz
 have:=List.eq_of_mem_replicate hz
 omega
def Abi (L:List Ino):List (List UInt8×Int):=L.flatMap (·.kids)
theorem Ajk (L:List Ino)(d:Nat)(hd:d < L.length):Abi (L.take (d+1))=Abi (L.take d) ++ L[d].kids:=by
 unfold Abi
 rw[List.take_succ_eq_append_getElem hd,List.flatMap_append]
 simp
theorem Akm (c:Nat):∀ (L:List Ino),(∀ k (h:k < L.length),L[k].kids.length<=c)->(Abi L).length<=L.length * c
 | [],_=>Nat.zero_le _
 | x :: r,h=>by
  have h0:x.kids.length<=c:=h 0 (Nat.succ_pos _)
  have h1:=Akm c r (fun k hk=>h (k+1) (Nat.succ_lt_succ hk))
  unfold Abi at h1 ⊢
  simp only[List.flatMap_cons,List.length_append,List.length_cons]
  rw[Nat.succ_mul]
  omega
def Aeh (L:List Ino):List Int:=bump (Agp L.length) (Abi L)
theorem Ab1 (L:List Ino):(Aeh L).length=L.length:=by unfold Aeh;rw[Ag7];simp[Agp]
def Ax5 (L:List Ino):Prop:=∀ d (h:d < L.length),∀ e∈L[d].kids,dirB L e.2=true->(Aai L e.2).up=d
def Ao6 (L:List Ino):Prop:=∀ k (h:k < L.length),L[k].links=(Aeh L)[k]'(by rw[Ab1];exact h)/\Aed L[k].kind k ((Aeh L)[k]'(by rw[Ab1];exact h))
def Ao7 (L:List Ino):Prop:=Ax5 L/\Ao6 L
def Al3 (L:List Ino):Prop:=∀ k (h:k < L.length),L[k].kids.length<=1024/\∀ e∈L[k].kids,Aa5 L e.2=true
structure NameFit (L:List Ino)(M:List (List UInt8×Int))(k:Nat)(h:k < M.length):Prop where
 name:Abd M[k].1=true
 order:∀ t (ht:k=t+1),Op.bytesLess (M[t]'(by omega)).1 M[k].1=true
 there:Aa5 L M[k].2=true
def Ayo (L:List Ino)(M:List (List UInt8×Int)):Prop:=M.length<=1024/\∀ k (h:k < M.length),NameFit L M k h
def Al4 (L:List Ino):Prop:=∀ k (h:k < L.length),L[k].data.length<=4611686018427387904/\∀ e∈L[k].kids,e.1.length<=4611686018427387904
def Aef (L:List Ino):Prop:=∀ k (h:k < L.length),Abl L[k]=true/\Ayo L L[k].kids
def Baa (L:List Ino)(m b:Int):Prop:=1<=L.length/\(L.length:Int)<=m/\m<=256/\(Aax L:Int)<=b/\b<=65536
theorem Aly (c:Nat):∀ (L:List Ino),(∀ k (h:k < L.length),L[k].data.length<=c)->Aax L<=L.length * c
 | [],_=>Nat.zero_le _
 | x :: r,h=>by
  have h0:=h 0 (Nat.succ_pos _)
  have h1:=Aly c r (fun k hk=>h (k+1) (Nat.succ_lt_succ hk))
  simp only[Aax,List.length_cons]
  have h0':x.data.length<=c:=h0
  rw[Nat.succ_mul]
  omega
def Aay (M:List (List UInt8×Int))(k:Int):Nat:=(M.filter fun e=>e.2 == k).length
theorem Ase (c:List Int)(j:Int)(hj:0<=j)(k:Nat)(hk:k < c.length):(bump1 c j)[k]'(by simpa[bump1] using hk)=c[k]+(if j=(k:Int)then 1 else 0):=by
 unfold bump1
 rw[List.getElem_set]
 by_cases h:j.toNat=k
 ·rw[if_pos h,if_pos (by omega),List.getD_eq_getElem?_getD]
  subst h
  rw[List.getElem?_eq_getElem hk]
  rfl
 ·rw[if_neg h,if_neg (by omega)]
  omega
theorem Avx (M:List (List UInt8×Int)):∀ (c:List Int) (k:Nat) (hk:k < c.length),(∀ e∈M,0<=e.2)->(bump c M)[k]'(by rw[Ag7];exact hk)=c[k]+(Aay M k:Int):=by
 induction M with
 | nil=>intro c k hk _;simp[bump,Aay]
 | cons e r ih=>
  intro c k hk hM
  have h1:=Ase c e.2 (hM e (by simp)) k hk
  have h2:=ih (bump1 c e.2) k (by simpa[bump1] using hk) (fun x hx=>hM x (by simp[hx]))
  refine(show _=_ from h2).trans ?_
  rw[h1]
  unfold Aay
  by_cases h:e.2=(k:Int)
  ·rw[if_pos h,List.filter_cons_of_pos (by simpa using h),List.length_cons]
   omega
  ·rw[if_neg h,List.filter_cons_of_neg (by simpa using h)]
   omega
theorem Acq (L:List Ino)(h0:∀ e∈Abi L,0<=e.2)(k:Nat)(hk:k < L.length):(Aeh L)[k]'(by rw[Ab1];exact hk)=(Aay (Abi L) k:Int):=by
 unfold Aeh
 rw[Avx (Abi L) (Agp L.length) k (by simpa[Agp] using hk) h0]
 simp[Agp]
theorem Aeo {L:List Ino}{e:List UInt8×Int}:e∈Abi L↔∃ d,∃ h:d < L.length,e∈L[d].kids:=by
 unfold Abi
 rw[List.mem_flatMap]
 constructor
 ·rintro⟨x,hx,he⟩
  obtain⟨d,hd,rfl⟩:=List.getElem_of_mem hx
  exact⟨d,hd,he⟩
 ·rintro⟨d,hd,he⟩
  exact⟨L[d],List.getElem_mem _,he⟩
structure FitP (L:List Ino)(m b:Int):Prop where
 limits:Baa L m b
 root:dirB L 0=true
 rootUp:(Aai L 0).up=0
 ins:Aef L
 names:Ao7 L
 leads:Ayi L
theorem Acr {L:List Ino}(h:Aef L):Al3 L:=fun k hk=>⟨(h k hk).2.1,fun e he=>by
 obtain⟨i,hi,rfl⟩:=List.getElem_of_mem he
 exact((h k hk).2.2 i hi).there⟩
theorem Ani {L:List Ino}{k:Int}(h:Aa5 L k=true):0<=k:=by
 obtain⟨n,rfl,_⟩:=Aa7 h
 omega
theorem Ad2 {L:List Ino}(h:Al3 L):∀ e∈Abi L,0<=e.2:=fun e he=>by
 obtain⟨d,hd,he⟩:=Aeo.1 he
 exact Ani ((h d hd).2 e he)
theorem Ads {x:Ino}(h:Abl x=true)(hk:x.kids≠[]):x.kind=2:=by
 have hl:x.kids.length≠0:=fun e=>hk (List.length_eq_zero_iff.1 e)
 unfold Abl at h
 split at h
 ·simp[hl]at h
 ·split at h
  ·cases h
  ·split at h
   ·simp[hl]at h
   ·split at h
    ·simp[hl]at h
    ·split at h
     ·assumption
     ·cases h
theorem Ank {L:List Ino}(hr:dirB L 0=true)(hu:(Aai L 0).up=0)(hI:Aef L)(hN:Ao7 L):Baf L:=by
 intro k hk h2
 by_cases hk0:k=0
 ·subst hk0
  have e:Aai L 0=L[0]:=Aae L 0 hk
  rw[e]at hu
  rw[hu]
  exact hr
 ·obtain⟨_,hm⟩:=hN.2 k hk
  rw[Acq L (Ad2 (Acr hI)) k hk]at hm
  unfold Aed at hm
  rw[if_neg (by omega),if_pos h2]at hm
  have hpos:0 < Aay (Abi L) k:=by omega
  obtain⟨e,he⟩:=List.exists_mem_of_length_pos hpos
  obtain⟨he1,he2⟩:=List.mem_filter.1 he
  obtain⟨d,hd,hed⟩:=Aeo.1 he1
  have hek:e.2=(k:Int):=by simpa using he2
  have hup:=hN.1 d hd e hed (by rw[hek];exact(Acs hk).2 h2)
  rw[hek,Aae L k hk]at hup
  rw[hup]
  exact(Acs hd).2 (Ads (hI d hd).1 (List.ne_nil_of_mem hed))
end Go.Proofs.YtkdfbliiblojoaaGreatDoor
