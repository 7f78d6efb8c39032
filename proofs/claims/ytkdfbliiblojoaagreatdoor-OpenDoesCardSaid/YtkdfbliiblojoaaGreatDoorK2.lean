/-
  Texts of the proof, joined.
-/
import Derived.WalkKit
import Derived.Lib.Hide
import Derived.Maps.AppendAt
import Derived.Test.YtkdfbliiblojoaaGreatDoorProg
import Derived.Test.YtkdfbliiblojoaaGreatDoorK1
set_option linter.all false
set_option maxRecDepth 100000
set_option maxHeartbeats 64000000
namespace Go.Proofs.YtkdfbliiblojoaaGreatDoor
open Go
def Ab0 (cur:List UInt8):List UInt8->List (List UInt8)
 | []=>if cur=[]then []else [cur]
 | c :: r=>if c=47 then(if cur=[]then Ab0 [] r else cur :: Ab0 [] r)else Ab0 (cur ++ [c]) r
def Aaq (l:List UInt8):List (List UInt8):=Ab0 [] l
def strv (l:List UInt8):Value:=.string ⟨l.toArray⟩
theorem Ae4 (s:ByteArray)(f k:Nat):(s.extract f k).data.toList=(s.data.toList.take k).drop f:=by
 rw[ByteArray.data_extract, Array.toList_extract]
 show List.take (k - f) (List.drop f s.data.toList)=_
 rw[List.drop_take]
theorem Afn (s:ByteArray)(f k:Nat):Value.string (s.extract f k)=strv ((s.data.toList.take k).drop f):=by
 unfold strv
 congr 1
 apply ByteArray.ext
 apply Array.ext'
 rw[Ae4]
def Cut (s:List UInt8)(k f:Nat)(D:List (List UInt8)):Prop:=
 (k<=s.length/\f<=k/\Aaq s=D ++ Ab0 ((s.take k).drop f) (s.drop k))∨(k=s.length+1/\Aaq s=D)
theorem Cut.start (s:List UInt8):Cut s 0 0 []:=Or.inl ⟨Nat.zero_le _, Nat.le_refl _, by simp[Aaq]⟩
theorem Ave (s:List UInt8)(k f:Nat)(hk:k < s.length)(hf:f<=k):(s.take (k+1)).drop f=(s.take k).drop f ++ [s[k]]:=by
 rw[List.take_succ_eq_append_getElem hk, List.drop_append_of_le_length (by simp;omega)]
theorem Afi (s:List UInt8)(k f:Nat)(hk:k<=s.length)(hf:f<=k):(s.take k).drop f=[]↔f=k:=by
 rw[<-List.length_eq_zero_iff]
 simp
 omega
theorem Cut.goes (s:List UInt8)(k f:Nat)(D:List (List UInt8))(h:Cut s k f D)(hk:k < s.length)(hc:s[k]≠47):Cut s (k+1) f D:=by
 rcases h with ⟨_, hf, h⟩|⟨e, _⟩
 ·refine Or.inl ⟨by omega, by omega, ?_⟩
  rw[h, List.drop_eq_getElem_cons hk, Ave s k f hk hf]
  simp only[Ab0, if_neg hc]
 ·omega
theorem Cut.blank (s:List UInt8)(k:Nat)(D:List (List UInt8))(h:Cut s k k D)(hk:k < s.length)(hc:s[k]=47):Cut s (k+1) (k+1) D:=by
 rcases h with ⟨hk', hf, h⟩|⟨e, _⟩
 ·refine Or.inl ⟨by omega, by omega, ?_⟩
  have e0:=(Afi s k k hk' hf).2 rfl
  have e1:=(Afi s (k+1) (k+1) (by omega) (Nat.le_refl _)).2 rfl
  rw[h, List.drop_eq_getElem_cons hk, e0, e1]
  simp only[Ab0, if_pos hc, if_true]
 ·omega
theorem Cut.ends (s:List UInt8)(k f:Nat)(D:List (List UInt8))(h:Cut s k f D)(hk:k < s.length)(hc:s[k]=47)(hf:f < k):Cut s (k+1) (k+1) (D ++ [(s.take k).drop f]):=by
 rcases h with ⟨hk', hf', h⟩|⟨e, _⟩
 ·refine Or.inl ⟨by omega, by omega, ?_⟩
  have e0:¬ (s.take k).drop f=[]:=fun e=>by have:=(Afi s k f hk' hf').1 e;omega
  have e1:=(Afi s (k+1) (k+1) (by omega) (Nat.le_refl _)).2 rfl
  rw[h, List.drop_eq_getElem_cons hk, e1]
  simp only[Ab0, if_pos hc, if_neg e0, List.append_assoc, List.singleton_append]
 ·omega
theorem Cut.last (s:List UInt8)(f:Nat)(D:List (List UInt8))(h:Cut s s.length f D)(hf:f < s.length):Cut s (s.length+1) (s.length+1) (D ++ [(s.take s.length).drop f]):=by
 rcases h with ⟨hk', hf', h⟩|⟨e, _⟩
 ·refine Or.inr ⟨rfl, ?_⟩
  have e0:¬ (s.take s.length).drop f=[]:=fun e=>by have:=(Afi s s.length f hk' hf').1 e;omega
  rw[h, List.drop_length]
  simp only[Ab0, if_neg e0]
 ·omega
theorem Cut.over (s:List UInt8)(D:List (List UInt8))(h:Cut s s.length s.length D):Cut s (s.length+1) (s.length+1) D:=by
 rcases h with ⟨hk', hf', h⟩|⟨e, _⟩
 ·refine Or.inr ⟨rfl, ?_⟩
  have e0:=(Afi s s.length s.length hk' hf').2 rfl
  rw[h, List.drop_length, e0]
  simp[Ab0]
 ·omega
theorem Cut.done (s:List UInt8)(f:Nat)(D:List (List UInt8))(h:Cut s (s.length+1) f D):D=Aaq s:=by
 rcases h with ⟨hk, _, _⟩|⟨_, h⟩
 ·omega
 ·exact h.symm
theorem Cut.le (s:List UInt8)(k f:Nat)(D:List (List UInt8))(h:Cut s k f D)(hk:k<=s.length):f<=k:=by
 rcases h with ⟨_, hf, _⟩|⟨e, _⟩
 ·exact hf
 ·omega
end Go.Proofs.YtkdfbliiblojoaaGreatDoor
namespace Go.Proofs.YtkdfbliiblojoaaGreatDoor
open Go Go.RowKit
theorem Ay9 : (Tryz.prog.info? 9).map (fun i=>(i.zero, i.size, i.bytes))=some (some (.string ByteArray.empty), 1, 16):=by kernel_rfl
def Ags (B:Nat)(w:World)(v:Value)(L:List (List UInt8)):Prop:=w.ownsRow B 9 1 v L.length (L.map strv)
theorem Ags.grow {B:Nat}{w':World}{v':Value}{L:List (List UInt8)}{x:List UInt8}(h:w'.ownsRow B 9 1 v' (L.length+1) (L.map strv ++ [strv x])):Ags B w' v' (L ++ [x]):=by
 unfold Ags
 rw[List.length_append, List.map_append]
 exact h
theorem Ane (s:ByteArray)(f k:Nat)(h1:f<=k)(h2:k<=s.size)(W:World) :
  (Instr.slice 9 (.string s) (some (.int .i64 (f:Int))) (some (.int .i64 (k:Int))) none).run Tryz.prog W=.ok (.string (s.extract f k)) W:=by
 have:=run_slice_string (P:=Tryz.prog) W 9 s .i64 .i64 (f:Int) (k:Int) Tryz.underlying9 (by omega) (by omega) (by omega)
 simpa using this
def NCut (s:ByteArray)(B:Nat)(w0:World)(l f i:Value)(wr:World):Prop:=
 ∃ k g:Nat, ∃ D:List (List UInt8), k<=s.size+1/\g<=s.size+1/\i=.int .i64 k/\f=.int .i64 g/\Cut s.data.toList k g D/\D.length<=k/\Ags B wr l D/\Below B w0 wr
theorem Ahw (s:ByteArray)(k:Nat)(h:k < s.size):s.data.toList[k]'(by simpa using h)=s[k]:=rfl
theorem Aas (s:ByteArray):s.data.toList.length=s.size:=Array.length_toList
theorem Avz (s:ByteArray)(g:Nat)(D:List (List UInt8))(h:Cut s.data.toList s.size g D)(hg:g < s.size):Cut s.data.toList (s.size+1) (s.size+1) (D ++ [(s.data.toList.take s.size).drop g]):=by
 rw[<-Aas]at h hg ⊢
 exact Cut.last _ g D h hg
theorem Av0 (s:ByteArray)(D:List (List UInt8))(h:Cut s.data.toList s.size s.size D):Cut s.data.toList (s.size+1) (s.size+1) D:=by
 rw[<-Aas]at h ⊢
 exact Cut.over _ D h
theorem Agj (s:ByteArray)(hs:s.size<=1073741824)(w:World) :
  Calls Tryz.prog 79 #[.string s] w fun e w'=>∃ v, e=.returned v/\Ags w.heap.size w' v (Aaq s.data.toList)/\Below w.heap.size w w':=by
 obtain⟨i0, hi, hz0, hz1, hz2⟩:=info_parts Ay9
 go_enter Tryz.func79, Tryz.ntmps79
 go_wp2_with fail
 go_loopw [3, 4, 5] (fun l f i wr=>NCut s w.heap.size w l f i wr) (fun _ _ i _=>s.size+1 - (intOf i).toNat)
 case atStart=>exact⟨0, 0, [], by omega, by omega, rfl, rfl, Cut.start _, by simp, World.ownsRow_nil _ _ _ _, Below.refl _ _⟩
 case round=>
  obtain⟨k, g, D, hk, hg, rfl, rfl, hcut, hD, hown, hb⟩:=hrel
  have HC:=Hd hcut
  have HO:=Hd (show wr.ownsRow w.heap.size 9 1 _ D.length (D.map strv)from hown)
  clear hcut hown
  by_cases hlt:k < s.size
  ·cases hc:((s[k].toNat:Int) != 47)with
   | true=>
    go_wp2_with fail
    go_roundw
    case rel=>exact⟨k+1, g, D, by omega, hg, by go_num, rfl, Cut.goes _ _ _ _ HC.out (by rw[Aas];exact hlt) (by rw[Ahw s k hlt];intro e;rw[e]at hc;simp at hc), by omega, HO.out, hb⟩
    case measure=>simp[intOf] <;> omega
   | false=>
    have hc':s[k]=47:=by
     have h:=bne_eq_false_iff_eq.1 hc
     exact UInt8.toNat_inj.1 (by show s[k].toNat=47;omega)
    have HC':=Hd hc'
    clear hc'
    by_cases hgk:g < k
    ·have hr:=Ane s g k (by omega) (by omega)
     go_wp2_with (first|(at_builtin;(refine wpList_append_own _ rfl _ _ 61 rfl w.heap.size 9 i0 (.string ByteArray.empty) 1 16 Tryz.underlying61 hi hz0 hz1 hz2 rfl (by decide) _ _ _ rfl (HO.out.alloc _) ⟨wr.heap.size, 0, none⟩ 1 1 [.string (s.extract g k)] rfl rfl (cell_one_new _ _ _) (fun x hx=>by simp at hx;subst hx;rfl) (by unfold maxLen;omega) (by omega) (by simp;exact Nat.le_succ_of_le hb.size) ?_);intro v' w3 hown' hgrow3 hnil3)|fail)
     have hT:Ags w.heap.size w3 v' (D ++ [(s.data.toList.take k).drop g]):=Ags.grow (by rw[<-Afn];exact hown')
     have hb3:Below w.heap.size w w3:=(hb.alloc hb.size _).grown hgrow3 (by simp;exact Nat.le_succ_of_le hb.size) (fun r hr'=>(HO.out.lt r hr').1)
     have HT:=Hd hT
     have HB:=Hd hb3
     clear hT hb3 hown' hgrow3 hnil3
     go_wp2_with fail
     go_roundw
     case rel=>exact⟨k+1, k+1, D ++ [(s.data.toList.take k).drop g], by omega, by omega, by go_num, by go_num, Cut.ends _ _ _ _ HC.out (by rw[Aas];exact hlt) (by rw[Ahw s k hlt];exact HC'.out) hgk, by simp;omega, HT.out, HB.out⟩
     case measure=>simp[intOf] <;> omega
    ·have hgk2:g=k:=by have:=Cut.le _ _ _ _ HC.out (by rw[Aas];omega);omega
     subst hgk2
     go_wp2_with fail
     go_roundw
     case rel=>exact⟨g+1, g+1, D, by omega, by omega, by go_num, by go_num, Cut.blank _ _ _ HC.out (by rw[Aas];exact hlt) (by rw[Ahw s g hlt];exact HC'.out), by omega, HO.out, hb⟩
     case measure=>simp[intOf] <;> omega
  ·by_cases heq:k=s.size
   ·subst heq
    by_cases hgk:g < s.size
    ·have hr:=Ane s g s.size (by omega) (by omega)
     go_wp2_with (first|(at_builtin;(refine wpList_append_own _ rfl _ _ 61 rfl w.heap.size 9 i0 (.string ByteArray.empty) 1 16 Tryz.underlying61 hi hz0 hz1 hz2 rfl (by decide) _ _ _ rfl (HO.out.alloc _) ⟨wr.heap.size, 0, none⟩ 1 1 [.string (s.extract g s.size)] rfl rfl (cell_one_new _ _ _) (fun x hx=>by simp at hx;subst hx;rfl) (by unfold maxLen;omega) (by omega) (by simp;exact Nat.le_succ_of_le hb.size) ?_);intro v' w3 hown' hgrow3 hnil3)|fail)
     have hT:Ags w.heap.size w3 v' (D ++ [(s.data.toList.take s.size).drop g]):=Ags.grow (by rw[<-Afn];exact hown')
     have hb3:Below w.heap.size w w3:=(hb.alloc hb.size _).grown hgrow3 (by simp;exact Nat.le_succ_of_le hb.size) (fun r hr'=>(HO.out.lt r hr').1)
     have HT:=Hd hT
     have HB:=Hd hb3
     clear hT hb3 hown' hgrow3 hnil3
     go_wp2_with fail
     go_roundw
     case rel=>exact⟨s.size+1, s.size+1, D ++ [(s.data.toList.take s.size).drop g], by omega, by omega, by go_num, by go_num, Avz s g D HC.out hgk, by simp;omega, HT.out, HB.out⟩
     case measure=>simp[intOf] <;> omega
    ·have hgk2:g=s.size:=by have:=Cut.le _ _ _ _ HC.out (by rw[Aas];omega);omega
     subst hgk2
     go_wp2_with fail
     go_roundw
     case rel=>exact⟨s.size+1, s.size+1, D, by omega, by omega, by go_num, by go_num, Av0 s D HC.out, by omega, HO.out, hb⟩
     case measure=>simp[intOf] <;> omega
   ·have hk1:k=s.size+1:=by omega
    have hfin:=Hd (show D=Aaq s.data.toList from Cut.done _ g D (by rw[Aas];exact hk1 ▸ HC.out))
    go_wp2_with fail
    go_ret
    exact⟨_, rfl, by rw[<-hfin.out];exact HO.out, hb⟩
def Aj2 : List (List UInt8)->Nat
 | []=>0
 | x :: r=>x.length+1+Aj2 r
theorem Ai0 : ∀ (l cur:List UInt8), Aj2 (Ab0 cur l)<=cur.length+l.length+1
 | [], cur=>by
  unfold Ab0
  split
  ·simp[Aj2]
  ·simp[Aj2]
 | c :: r, cur=>by
  unfold Ab0
  split
  ·split
   ·have:=Ai0 r []
    simp at this ⊢
    omega
   ·have:=Ai0 r []
    simp only[Aj2, List.length_cons, List.length_nil]at this ⊢
    omega
  ·have:=Ai0 r (cur ++ [c])
   simp at this ⊢
   omega
theorem Aj3 (l:List UInt8):Aj2 (Aaq l)<=l.length+1:=by
 have:=Ai0 l []
 simpa[Aaq] using this
def Ac6 : List UInt8->Bool
 | []=>false
 | c :: _=>c == 47
theorem Baq (s:ByteArray)(h0:0 < s.size):s.toList.isEmpty=false:=by
 rcases s with ⟨⟨l⟩⟩
 cases l with
 | nil=>exact absurd h0 (Nat.lt_irrefl 0)
 | cons c r=>rw[ByteArray.toList_eq];rfl
theorem bare (s:ByteArray)(h0:¬ 0 < s.size):s=⟨#[]⟩:=by
 rcases s with ⟨⟨l⟩⟩
 cases l with
 | nil=>rfl
 | cons c r=>exact absurd (Nat.succ_pos r.length) h0
theorem Ax1 (s:ByteArray)(h0:0 < s.size):Ac6 s.data.toList=((s[0].toNat:Int) == 47):=by
 rcases s with ⟨⟨l⟩⟩
 cases l with
 | nil=>exact absurd h0 (Nat.lt_irrefl 0)
 | cons c r=>
  show (c == 47)=((c.toNat:Int) == 47)
  rw[Bool.eq_iff_iff, beq_iff_eq, beq_iff_eq, <-UInt8.toNat_inj]
  show c.toNat=47↔_
  omega
theorem Akz (s:ByteArray)(w:World):Calls Tryz.prog 119 #[.string s] w fun e w'=>e=.returned (.bool (Ac6 s.data.toList))/\w=w':=by
 by_cases h0:0 < s.size
 ·have hne:=Baq s h0
  rw[Ax1 s h0]
  cases hc:((s[0].toNat:Int) == 47)
  all_goals
   go_enter Tryz.func119, Tryz.ntmps119
   go_wp2_with fail
   go_ret
   exact⟨rfl, rfl⟩
 ·obtain rfl:=bare s h0
  go_enter Tryz.func119, Tryz.ntmps119
  go_wp2_with fail
  go_ret
  exact⟨rfl, rfl⟩
def Abd (l:List UInt8):Bool:=l.all (fun c=>c != 47 && c != 0) && !l.isEmpty && decide (l.length<=64) && !(l == [46]) && !(l == [46, 46])
def Ayj (s:ByteArray)(k:Nat):Prop:=∀ j (h:j < s.size), j < k->s[j]≠47/\s[j]≠0
theorem Asj (s:ByteArray)(h:Ayj s s.size):s.data.toList.all (fun c=>c != 47 && c != 0)=true:=by
 rw[List.all_eq_true]
 intro c hc
 obtain⟨j, hj, rfl⟩:=List.getElem_of_mem hc
 have hj':j < s.size:=by simpa using hj
 have:=h j hj' hj'
 rw[Ahw s j hj']
 simp[this.1, this.2]
theorem Al8 (s:ByteArray)(k:Nat)(hk:k < s.size)(h:s[k]=47∨s[k]=0):Abd s.data.toList=false:=by
 have:s.data.toList.all (fun c=>c != 47 && c != 0)=false:=by
  rw[List.all_eq_false]
  refine⟨s.data.toList[k]'(by simpa using hk), by simp, ?_⟩
  rw[Ahw s k hk]
  rcases h with h|h <;> simp[h]
 simp[Abd, this]
theorem Asf (c:UInt8)(n:Nat)(hn:n < 256)(h:((c.toNat:Int) == (n:Int))=true):c=UInt8.ofNat n:=by
 have h':(c.toNat:Int)=n:=by simpa using h
 apply UInt8.toNat_inj.1
 rw[UInt8.toNat_ofNat']
 omega
theorem Apb (c:UInt8)(n:Nat)(hn:n < 256)(h:((c.toNat:Int) == (n:Int))=false):c≠UInt8.ofNat n:=by
 intro e
 subst e
 rw[UInt8.toNat_ofNat', Nat.mod_eq_of_lt hn]at h
 simp at h
theorem Au3 (s:ByteArray)(hs:s.size<=maxLen)(w:World):Calls Tryz.prog 89 #[.string s] w fun e w'=>e=.returned (.bool (Abd s.data.toList))/\w=w':=by
 unfold maxLen at hs
 go_enter Tryz.func89, Tryz.ntmps89
 go_wp2_with fail
 go_loop [3] (fun i=>∃ k:Nat, k<=s.size/\i=.int .i64 k/\Hid (Ayj s k)) (fun i=>s.size - (intOf i).toNat)
 case atStart=>exact⟨0, by omega, rfl, fun _ _ h=>absurd h (Nat.not_lt_zero _)⟩
 case round=>
  obtain⟨k, hk, rfl, hd⟩:=hrel
  by_cases hlt:k < s.size
  ·cases h47:((s[k].toNat:Int) == 47)with
   | true=>
    have hfin:=Hd (Al8 s k hlt (Or.inl (Asf _ 47 (by decide) h47)))
    go_wp2_with fail
    go_ret
    exact⟨by rw[hfin.out];rfl, rfl⟩
   | false=>
    cases hz:((s[k].toNat:Int) == 0)with
    | true=>
     have hfin:=Hd (Al8 s k hlt (Or.inr (Asf _ 0 (by decide) hz)))
     go_wp2_with fail
     go_ret
     exact⟨by rw[hfin.out];rfl, rfl⟩
    | false=>
     have hst:Ayj s (k+1):=fun j hj hjk=>by
      by_cases e:j=k
      ·subst e;exact⟨Apb _ 47 (by decide) h47, Apb _ 0 (by decide) hz⟩
      ·exact hd.out j hj (by omega)
     have HS:=Hd hst
     clear hst
     go_wp2_with fail
     go_round
     case rel=>exact⟨k+1, by omega, by go_num, HS⟩
     case measure=>simp[intOf] <;> omega
  ·obtain rfl:k=s.size:=by omega
   have hall:=Hd (Asj s hd.out)
   have hlen:=Aas s
   cases he:s.toList.isEmpty <;> cases h1:(s.toList == [46]) <;> cases h2:(s.toList == [46, 46]) <;> by_cases h64:s.size<=64
   all_goals
    have hfin:Abd s.data.toList=(!s.toList.isEmpty && decide (s.size<=64) && !(s.toList == [46]) && !(s.toList == [46, 46])):=by
     unfold Abd
     rw[hall.out, hlen, ByteArray.toList_eq]
     simp
    have HF:=Hd hfin
    clear hfin hlen
    go_wp2_with fail
    go_ret
    exact⟨by rw[HF.out, he, h1, h2];simp[h64], rfl⟩
end Go.Proofs.YtkdfbliiblojoaaGreatDoor
