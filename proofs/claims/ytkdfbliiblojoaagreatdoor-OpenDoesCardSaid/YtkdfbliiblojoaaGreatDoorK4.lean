import Derived.Test.YtkdfbliiblojoaaGreatDoorK2
import Derived.Deep.QuietTactic
import Derived.BigQuiet
import Derived.Lib.Bytealg
import Derived.Test.YtkdfbliiblojoaaGreatDoorK3
import Derived.Lib.IndexLaws
import Derived.Lib.Strings
import Derived.Deep.Draws
import Derived.Laws.Strings3
set_option linter.all false
set_option maxRecDepth 100000
set_option maxHeartbeats 64000000
namespace Go.Proofs.YtkdfbliiblojoaaGreatDoor
open Go Go.RowKit
theorem Aqb (l:List UInt8)(n:Nat):l.take (min n l.length)=l.take n:=by
 rw[List.take_eq_take_iff]
 omega
theorem Apj (l:List UInt8)(n:Nat):l.drop (min n l.length)=l.drop n:=by
 by_cases h:n<=l.length
 ·rw[Nat.min_eq_left h]
 ·rw[Nat.min_eq_right (by omega),List.drop_of_length_le (Nat.le_refl _),List.drop_of_length_le (by omega)]
theorem Api (s:ByteArray)(f k:Nat)(d:List UInt8)(h:(s.data.toList.take k).drop f=d):s.extract f k=⟨d.toArray⟩:=by
 apply ByteArray.ext
 apply Array.ext'
 rw[Ae4,h]
theorem Ap9 (s:ByteArray)(z:Int)(n:Nat)(hz:z=(n:Int))(hn:n<=s.size)(W:World):(Instr.slice 9 (.string s) (some (.int .i64 z)) none none).run Tryz.prog W=.ok (.string ⟨(s.data.toList.drop n).toArray⟩) W:=by
 subst hz
 have h:=run_slice_string_l (P:=Tryz.prog) W 9 s Tryz.underlying9 .i64 (n:Int) (by omega) (by omega)
 rw[Int.toNat_natCast,Api s n s.size (s.data.toList.drop n) (by rw[List.take_of_length_le (by rw[Array.length_toList];exact Nat.le_refl _)])]at h
 exact h
theorem Aiy (s:ByteArray)(z:Int)(n:Nat)(hz:z=(n:Int))(hn:n<=s.size)(W:World):(Instr.slice 9 (.string s) none (some (.int .i64 z)) none).run Tryz.prog W=.ok (.string ⟨(s.data.toList.take n).toArray⟩) W:=by
 subst hz
 have h:=run_slice_string_h (P:=Tryz.prog) W 9 s Tryz.underlying9 .i64 (n:Int) (by omega) (by omega)
 rw[Int.toNat_natCast,Api s 0 n (s.data.toList.take n) (by rw[List.drop_zero])]at h
 exact h
theorem Aqc {s:ByteArray}(h:s.data.toList=[]):s=⟨#[]⟩:=by
 cases s with
 | mk d=>simp at h;rw[h]
structure Pip where
 data:List UInt8
 rd:Int
 wr:Int
 cap:Int
def Ace (p:Pip):Bool:=decide (0<=p.rd) && decide (p.rd<=1000) && decide (0<=p.wr) && decide (p.wr<=1000) && decide (1<=p.cap) && decide (p.cap<=65536) && decide ((p.data.length:Int)<=p.cap)
def Ack (p:Pip)(n:Int):Pip×List UInt8×Int:=
 if n < 1 then(p,[],22)else if p.data=[]then(if p.wr=0 then(p,[],0)else(p,[],11))else({ p with data:=p.data.drop n.toNat },p.data.take n.toNat,0)
def Abu (p:Pip)(s:List UInt8):Pip×Int×Int:=
 if p.rd=0 then(p,0,32)else if s=[]then(p,0,0)else if p.cap - (p.data.length:Int)=0 then(p,0,11)else
 ({ p with data:=p.data ++ s.take (p.cap - (p.data.length:Int)).toNat },min (p.cap - (p.data.length:Int)) (s.length:Int),0)
def Aak (p:Pip)(reads:Bool):Pip:=if reads=true then(if 0 < p.rd then { p with rd:=p.rd - 1 }else p)else(if 0 < p.wr then { p with wr:=p.wr - 1 }else p)
theorem Adt {p:Pip}:Ace p=true↔0<=p.rd/\p.rd<=1000/\0<=p.wr/\p.wr<=1000/\1<=p.cap/\p.cap<=65536/\(p.data.length:Int)<=p.cap:=by
 simp[Ace,and_assoc]
theorem Avn {p:Pip}(hF:Ace p=true)(s:List UInt8){q:Pip}{k e:Int}(hz:Abu p s=(q,k,e)) :
  Ace q=true/\q.cap=p.cap/\(e=0->0<=k/\k<=(s.length:Int)/\q.data=p.data ++ s.take k.toNat)/\(e≠0->q=p)/\(e=0∨e=11∨e=32):=by
 have hf:=Adt.1 hF
 unfold Abu at hz
 split at hz
 ·simp only[Prod.mk.injEq]at hz
  obtain⟨rfl,rfl,rfl⟩:=hz
  exact⟨hF,rfl,fun h=>absurd h (by decide),fun _=>rfl,.inr (.inr rfl)⟩
 split at hz
 ·simp only[Prod.mk.injEq]at hz
  obtain⟨rfl,rfl,rfl⟩:=hz
  exact⟨hF,rfl,fun _=>⟨Int.le_refl _,by omega,by simp⟩,fun h=>absurd rfl h,.inl rfl⟩
 split at hz
 ·simp only[Prod.mk.injEq]at hz
  obtain⟨rfl,rfl,rfl⟩:=hz
  exact⟨hF,rfl,fun h=>absurd h (by decide),fun _=>rfl,.inr (.inl rfl)⟩
 ·simp only[Prod.mk.injEq]at hz
  obtain⟨rfl,rfl,rfl⟩:=hz
  refine⟨Adt.2 ⟨hf.1,hf.2.1,hf.2.2.1,hf.2.2.2.1,hf.2.2.2.2.1,hf.2.2.2.2.2.1,?_⟩,rfl,fun _=>⟨by omega,by omega,?_⟩,fun h=>absurd rfl h,.inl rfl⟩
  ·show ((p.data ++ s.take (p.cap - (p.data.length:Int)).toNat).length:Int)<=p.cap
   rw[List.length_append,List.length_take]
   omega
  ·show p.data ++ s.take (p.cap - (p.data.length:Int)).toNat=p.data ++ s.take (min (p.cap - (p.data.length:Int)) (s.length:Int)).toNat
   congr 1
   rw[List.take_eq_take_iff]
   omega
theorem Axq {p:Pip}(hF:Ace p=true){n:Int}{q:Pip}{t:List UInt8}{e:Int}(hz:Ack p n=(q,t,e)) :
  Ace q=true/\q.cap=p.cap/\t ++ q.data=p.data/\(e≠0->q=p/\t=[])/\(1<=n->e=0∨e=11):=by
 have hf:=Adt.1 hF
 unfold Ack at hz
 split at hz
 ·rename_i h
  simp only[Prod.mk.injEq]at hz
  obtain⟨rfl,rfl,rfl⟩:=hz
  exact⟨hF,rfl,rfl,fun _=>⟨rfl,rfl⟩,fun h2=>by omega⟩
 split at hz
 ·split at hz
  ·simp only[Prod.mk.injEq]at hz
   obtain⟨rfl,rfl,rfl⟩:=hz
   exact⟨hF,rfl,rfl,fun _=>⟨rfl,rfl⟩,fun _=>.inl rfl⟩
  ·simp only[Prod.mk.injEq]at hz
   obtain⟨rfl,rfl,rfl⟩:=hz
   exact⟨hF,rfl,rfl,fun _=>⟨rfl,rfl⟩,fun _=>.inr rfl⟩
 ·simp only[Prod.mk.injEq]at hz
  obtain⟨rfl,rfl,rfl⟩:=hz
  refine⟨Adt.2 ⟨hf.1,hf.2.1,hf.2.2.1,hf.2.2.2.1,hf.2.2.2.2.1,hf.2.2.2.2.2.1,?_⟩,rfl,List.take_append_drop ..,fun h=>absurd rfl h,fun _=>.inl rfl⟩
  show ((p.data.drop n.toNat).length:Int)<=p.cap
  rw[List.length_drop]
  omega
structure Grown (wb:World) where
 W:World
 below:Below wb.heap.size wb W
instance (wb:World):Nonempty (Grown wb):=⟨⟨wb,Below.refl _ _⟩⟩
theorem Aah {P:Program}{id:Nat}{Q:Exit->Act->World->Prop}{a:Act}{w:World}{l:List Oper}(hm:P.follows .mixedOrders=true)(hB:Region.lexB .any l.toArray=true)
  (h:wpQuiet P l.toArray (fun w'=>∃ x:Grown w,w'=x.W) (fun a'=>∀ w',(∃ x:Grown w,w'=x.W)->Q .normal a' w') l a):(Code.region id l.toArray true).wp P Q a w:=
 wp_region_quiet (C:=fun w'=>∃ x:Grown w,w'=x.W) hm hB ⟨⟨{ w with drawn:=w.drawn+1 },⟨rfl,rfl,rfl,Nat.le_refl _,fun _ _=>rfl⟩⟩,rfl⟩ (by simpa using h)
theorem Aa0 {wb:World}{P:Program}{f:FuncId}{args:Array Value}{v:Value}(h:∀ W,Below wb.heap.size wb W->Calls P f args W fun e w'=>e=.returned v/\Below W.heap.size W w') :
  ∀ x:Grown wb,Calls P f args x.W fun e w''=>e=.returned v/\∃ y:Grown wb,w''=y.W:=
 fun x=>(h x.W x.below).mono fun _e w'' h'=>⟨h'.1,⟨w'',x.below.trans (h'.2.mono x.below.size)⟩,rfl⟩
theorem Aaj {wb:World}{a:Addr}{v:Value}(h:wb.cell? a=some v):∀ x:Grown wb,x.W.cell? a=some v:=fun x=>Aaa x.below h
theorem Acy : ∀ a:List UInt8,Op.bytesLess a a=false
 | []=>rfl
 | c :: r=>by
  simp only[Op.bytesLess,Acy r,Bool.and_false,Bool.or_false,decide_eq_false_iff_not]
  exact UInt8.lt_irrefl c
theorem Ac2 : ∀ a b c:List UInt8,Op.bytesLess a b=true->Op.bytesLess b c=true->Op.bytesLess a c=true
 | _,[],_,h,_=>by simp[Op.bytesLess]at h
 | _,_ :: _,[],_,h=>by simp[Op.bytesLess]at h
 | [],_ :: _,_ :: _,_,_=>rfl
 | x :: a,y :: b,z :: c,h1,h2=>by
  simp only[Op.bytesLess,Bool.or_eq_true,decide_eq_true_eq,Bool.and_eq_true,beq_iff_eq]at h1 h2 ⊢
  rcases h1 with h1|⟨rfl,h1⟩
  ·rcases h2 with h2|⟨rfl,h2⟩
   ·exact Or.inl (UInt8.lt_trans h1 h2)
   ·exact Or.inl h1
  ·rcases h2 with h2|⟨rfl,h2⟩
   ·exact Or.inl h2
   ·exact Or.inr ⟨rfl,Ac2 a b c h1 h2⟩
theorem Af3 : ∀ a b:List UInt8,(Lib.compareBytes a b=-1/\Op.bytesLess a b=true)∨(Lib.compareBytes a b=0/\a=b)∨(Lib.compareBytes a b=1/\Op.bytesLess b a=true)
 | [],[]=>Or.inr (Or.inl ⟨rfl,rfl⟩)
 | [],_ :: _=>Or.inl ⟨rfl,rfl⟩
 | _ :: _,[]=>Or.inr (Or.inr ⟨rfl,rfl⟩)
 | x :: a,y :: b=>by
  simp only[Lib.compareBytes,Op.bytesLess,Bool.or_eq_true,decide_eq_true_eq,Bool.and_eq_true,beq_iff_eq]
  by_cases h1:x < y
  ·rw[if_pos h1]
   exact Or.inl ⟨rfl,Or.inl h1⟩
  ·rw[if_neg h1]
   by_cases h2:y < x
   ·rw[if_pos h2]
    exact Or.inr (Or.inr ⟨rfl,Or.inl h2⟩)
   ·rw[if_neg h2]
    have e:x=y:=by
     apply UInt8.toNat_inj.1
     have a1:¬ x.toNat < y.toNat:=h1
     have a2:¬ y.toNat < x.toNat:=h2
     omega
    subst e
    rcases Af3 a b with ⟨h,h'⟩|⟨h,rfl⟩|⟨h,h'⟩
    ·exact Or.inl ⟨h,Or.inr ⟨rfl,h'⟩⟩
    ·exact Or.inr (Or.inl ⟨h,rfl⟩)
    ·exact Or.inr (Or.inr ⟨h,Or.inr ⟨rfl,h'⟩⟩)
theorem Ail {a b:List UInt8}:Lib.compareBytes a b < 0↔Op.bytesLess a b=true:=by
 rcases Af3 a b with ⟨h,h'⟩|⟨h,rfl⟩|⟨h,h'⟩
 ·simp[h,h']
 ·simp[h,Acy]
 ·constructor
  ·intro h2;omega
  ·intro h2
   have:=Ac2 a b a h2 h'
   rw[Acy]at this
   cases this
theorem Apc {a b:List UInt8}:Lib.compareBytes a b=0↔a=b:=by
 rcases Af3 a b with ⟨h,h'⟩|⟨h,rfl⟩|⟨h,h'⟩
 ·constructor
  ·intro h2;omega
  ·rintro rfl;rw[Acy]at h';cases h'
 ·simp[h]
 ·constructor
  ·intro h2;omega
  ·rintro rfl;rw[Acy]at h';cases h'
theorem Ask (a b:List UInt8):-1<=Lib.compareBytes a b/\Lib.compareBytes a b<=1:=by
 rcases Af3 a b with ⟨h,_⟩|⟨h,_⟩|⟨h,_⟩ <;> omega
def Af2 (M:List (List UInt8×Int)):Prop:=∀ k (h:k < M.length),∀ t (ht:k=t+1),Op.bytesLess (M[t]'(by omega)).1 M[k].1=true
theorem Af2.lt {M:List (List UInt8×Int)}(h:Af2 M)(i:Nat):∀ (j:Nat) (hj:j < M.length) (hij:i < j),Op.bytesLess (M[i]'(by omega)).1 M[j].1=true:=by
 intro j
 induction j with
 | zero=>intro _ h;omega
 | succ j ih=>
  intro hj hij
  have h1:=h (j+1) hj j rfl
  by_cases e:i=j
  ·subst e
   exact h1
  ·exact Ac2 _ _ _ (ih (by omega) (by omega)) h1
theorem Aqz (M:List (List UInt8×Int))(s:List UInt8)(h:∀ k (hk:k < M.length),M[k].1≠s):Af0 M s=-1:=by
 induction M with
 | nil=>rfl
 | cons e r ih=>
  unfold Af0
  rw[if_neg (show e.1≠s from h 0 (Nat.succ_pos _))]
  exact ih (fun k hk=>h (k+1) (Nat.succ_lt_succ hk))
theorem Akj (M:List (List UInt8×Int))(s:List UInt8)(i:Nat)(hi:i < M.length)(hs:M[i].1=s)(h:∀ k (hk:k < i),(M[k]'(by omega)).1≠s):Af0 M s=M[i].2:=by
 induction M generalizing i with
 | nil=>exact absurd hi (Nat.not_lt_zero _)
 | cons e r ih=>
  unfold Af0
  cases i with
  | zero=>
   rw[if_pos (show e.1=s from hs)]
   rfl
  | succ i=>
   rw[if_neg (show e.1≠s from h 0 (Nat.succ_pos _))]
   exact ih i (Nat.lt_of_succ_lt_succ hi) hs (fun k hk=>h (k+1) (Nat.succ_lt_succ hk))
theorem Av7 {M:List (List UInt8×Int)}(h:Af2 M)(s:List UInt8)(i:Nat)(h1:∀ k (hk:k < M.length),k < i->Op.bytesLess M[k].1 s=true)(h2:∀ k (hk:k < M.length),i<=k->Op.bytesLess M[k].1 s=false) :
  (∀ hi:i < M.length,M[i].1=s->Af0 M s=M[i].2)/\((∀ hi:i < M.length,M[i].1≠s)->Af0 M s=-1):=by
 have ha:∀ k (hk:k < M.length),k < i->M[k].1≠s:=fun k hk hki e=>by
  have:=h1 k hk hki
  rw[e,Acy]at this
  cases this
 refine⟨fun hi e=>Akj M s i hi e (fun k hk=>ha k (by omega) hk),fun hn=>Aqz M s (fun k hk=>?_)⟩
 by_cases hki:k < i
 ·exact ha k hk hki
 ·by_cases e:k=i
  ·subst e
   exact hn hk
  ·intro es
   have h3:=h.lt i k hk (by omega)
   rw[es]at h3
   rw[h2 i (by omega) (Nat.le_refl _)]at h3
   cases h3

def Ad6 : List UInt8->List UInt8
 | []=>[]
 | c :: r=>if c=47 then []else c :: Ad6 r
def Aek : List UInt8->List UInt8
 | []=>[]
 | c :: r=>if c=47 then r else Aek r
theorem Aiz : ∀ r:List UInt8,(Aek r).length<=r.length
 | []=>Nat.le_refl _
 | c :: r=>by
  unfold Aek
  split
  ·simp
  ·have:=Aiz r;simp only[List.length_cons];omega
theorem Avd (r:List UInt8)(h:r≠[]):(Aek r).length < r.length:=by
 cases r with
 | nil=>exact absurd rfl h
 | cons c r=>
  unfold Aek
  split
  ·simp
  ·have:=Aiz r;simp only[List.length_cons];omega
theorem As5 : ∀ (r cur:List UInt8),Ab0 cur r=(if cur ++ Ad6 r=[]then []else [cur ++ Ad6 r]) ++ Aaq (Aek r)
 | [],cur=>by simp[Ab0,Ad6,Aek,Aaq]
 | c :: r,cur=>by
  by_cases hc:c=47
  ·subst hc
   by_cases h:cur=[]
   ·simp[Ab0,Ad6,Aek,Aaq,h]
   ·simp[Ab0,Ad6,Aek,Aaq,h]
  ·have ih:=As5 r (cur ++ [c])
   simp only[Ab0,Ad6,Aek,if_neg hc]
   rw[ih]
   simp
theorem Akw (r:List UInt8):Aaq r=(if Ad6 r=[]then []else [Ad6 r]) ++ Aaq (Aek r):=As5 r []
theorem Aph : ∀ (r:List UInt8),Lib.indexByte r 47=-1->Ad6 r=r/\Aek r=[]
 | [],_=>⟨rfl,rfl⟩
 | c :: r,h=>by
  have hn:=Lib.indexByte_none h
  have hc:c≠47:=fun e=>hn 0 (by rw[e];rfl)
  have hr:Lib.indexByte r 47=-1:=by
   unfold Lib.indexByte at h
   rw[if_neg (by simpa using hc)]at h
   split at h
   ·rename_i h1;simpa using h1
   ·have:=Lib.indexByte_ge r 47;omega
  have ih:=Aph r hr
  simp only[Ad6,Aek,if_neg hc]
  exact⟨by rw[ih.1],ih.2⟩
theorem Aso : ∀ (r:List UInt8) (i:Nat),Lib.indexByte r 47=(i:Int)->i < r.length/\Ad6 r=r.take i/\Aek r=r.drop (i+1)
 | [],i,h=>by
  simp only[Lib.indexByte]at h
  omega
 | c :: r,i,h=>by
  unfold Lib.indexByte at h
  by_cases hc:c=47
  ·rw[if_pos (by simpa using hc)]at h
   obtain rfl:i=0:=by omega
   simp[Ad6,Aek,hc]
  ·rw[if_neg (by simpa using hc)]at h
   split at h
   ·omega
   ·rename_i hne
    have hge:=Lib.indexByte_ge r 47
    have hne':Lib.indexByte r 47≠-1:=fun e=>hne (by simpa using e)
    obtain⟨j,rfl⟩:∃ j,i=j+1:=⟨i - 1,by omega⟩
    have ih:=Aso r j (by push_cast at h;omega)
    simp only[Ad6,Aek,if_neg hc]
    refine⟨by simp only[List.length_cons];omega,by rw[ih.2.1];rfl,by rw[ih.2.2];rfl⟩
theorem Anw (r:List UInt8):Lib.indexByte r 47=-1∨∃ i:Nat,Lib.indexByte r 47=(i:Int):=by
 have:=Lib.indexByte_ge r 47
 by_cases h:Lib.indexByte r 47=-1
 ·exact Or.inl h
 ·exact Or.inr ⟨(Lib.indexByte r 47).toNat,by omega⟩
theorem Apz (s:ByteArray)(c:Int)(w:World) :
  Calls Tryz.prog 198 #[.string s,.int .u8 c] w fun e w'=>e=.returned (.int .i64 (Lib.indexByte s.data.toList c.toNat.toUInt8))/\w=w':=by
 go_enter Tryz.func198,Tryz.ntmps198
 go_wp2_with fail
 rw[run_callFunc_extern Tryz.func209 (by kernel_rfl) (by kernel_rfl) (by kernel_rfl) (e:=Extern.BytealgIndexByte.indexByte) (by kernel_rfl),Lib.run_indexByteString]
 simp only[Result.andThen]
 rw[Oper.upon_value]
 go_wp2_with fail
 go_ret
 exact⟨rfl,rfl⟩
theorem As7 (s:ByteArray)(c:Int)(w:World) :
  Calls Tryz.prog 186 #[.string s,.int .u8 c] w fun e w'=>e=.returned (.int .i64 (Lib.indexByte s.data.toList c.toNat.toUInt8))/\w=w':=by
 go_enter Tryz.func186,Tryz.ntmps186
 go_wp2_with fail
 refine(Apz _ _ _).mono ?_
 rintro e w' ⟨rfl,rfl⟩
 go_wp2_with fail
 go_ret
 exact⟨rfl,rfl⟩
theorem Ajg (s:ByteArray)(w:World) :
  Calls Tryz.prog 214 #[.string s,.string ⟨#[47]⟩] w fun e w'=>e=.returned (.int .i64 (Lib.indexByte s.data.toList 47))/\w=w':=by
 go_enter Tryz.func214,Tryz.ntmps214
 go_wp2_with (go_at_call 198;refine(Apz _ _ _).mono ?_;rintro e w' ⟨rfl,rfl⟩)
 ·rename_i h
  go_ret
  refine⟨?_,rfl⟩
  have e:s.data.toList=[47]:=by
   have h':=beq_iff_eq.1 h
   rw[ByteArray.toList_eq]at h'
   exact h'.symm
  rw[e]
  rfl
 ·go_ret
  exact⟨rfl,rfl⟩
end Go.Proofs.YtkdfbliiblojoaaGreatDoor
