import Derived.Test.YtkdfbliiblojoaaGreatDoorK4
import Derived.BigRegion
set_option linter.all false
set_option maxRecDepth 100000
set_option maxHeartbeats 64000000
namespace Go.Proofs.YtkdfbliiblojoaaGreatDoor
open Go Go.RowKit
def Ayl (w w':World):Prop:=∃ n,w'=w.drewN n
theorem Av1 (s:ByteArray)(i:Nat)(h:Lib.indexByte s.data.toList 47=(i:Int)) :
  Value.string (s.extract 0 i)=.string ⟨(Ad6 s.data.toList).toArray⟩/\Value.string (s.extract (i+1) s.size)=.string ⟨(Aek s.data.toList).toArray⟩:=by
 obtain⟨_,h1,h2⟩:=Aso _ _ h
 rw[Afn,Afn,h1,h2]
 refine⟨rfl,?_⟩
 unfold strv
 rw[List.take_of_length_le (by rw[Aas];exact Nat.le_refl _)]
theorem An7 (s:ByteArray)(hs:s.size<=1073741824)(w:World) :
  Calls Tryz.prog 210 #[.string s,.string ⟨#[47]⟩] w fun e w'=>(∃ b,e=.returned (.tuple #[.string ⟨(Ad6 s.data.toList).toArray⟩,.string ⟨(Aek s.data.toList).toArray⟩,.bool b]))/\Ayl w w':=by
 rcases Anw s.data.toList with hix|⟨i,hix⟩
 ·obtain⟨h1,h2⟩:=Aph _ hix
  rw[h1,h2]
  have HI:=Hd hix
  clear hix h1 h2
  go_enter Tryz.func210,Tryz.ntmps210
  go_wp2_with (go_at_call 214;refine(Ajg _ _).mono ?_;rintro e w' ⟨rfl,rfl⟩;rw[HI.out])
  go_ret3
  exact⟨⟨false,rfl⟩,0,rfl⟩
 ·obtain⟨hi,-,-⟩:=Aso _ _ hix
  rw[Aas]at hi
  obtain⟨h1,h2⟩:=Av1 s i hix
  rw[<-h1,<-h2]
  have c1:(0:Int)<=↑i:=by omega
  have c2:(↑i:Int)<=↑s.size:=by omega
  have c3:(0:Int)<=↑i+1:=by omega
  have c4:(↑i+1:Int)<=↑s.size:=by omega
  have HI:=Hd hix
  clear hix h1 h2
  go_enter Tryz.func210,Tryz.ntmps210
  go_wp2_with (go_at_call 214;refine(Ajg _ _).mono ?_;rintro e w' ⟨rfl,rfl⟩;rw[HI.out])
  go_region
  go_wp2_with fail
  go_ret3
  exact⟨⟨true,rfl⟩,1,rfl⟩
theorem Ay2 (s:ByteArray)(hs:s.size<=1073741824)(w:World) :
  Calls Tryz.prog 200 #[.string s,.string ⟨#[47]⟩] w fun e w'=>(∃ b,e=.returned (.tuple #[.string ⟨(Ad6 s.data.toList).toArray⟩,.string ⟨(Aek s.data.toList).toArray⟩,.bool b]))/\Ayl w w':=by
 go_enter Tryz.func200,Tryz.ntmps200
 go_wp2_with (go_at_call 210;refine(An7 _ hs _).mono ?_;rintro e w' ⟨⟨b,rfl⟩,hd⟩)
 go_ret3
 exact⟨⟨b,rfl⟩,hd⟩
theorem Atf (s:ByteArray)(h:0 < s.size):s.data.toList.getLast?=some (s[s.size - 1]'(by omega)):=by
 rw[List.getLast?_eq_getElem?,Aas,List.getElem?_eq_getElem (by rw[Aas];omega)]
 rfl
theorem Ba8 (s:ByteArray):((s.extract 0 1).toList == [47])=Ac6 s.data.toList:=by
 rw[ByteArray.toList_eq,Ae4]
 cases h:s.data.toList with
 | nil=>rfl
 | cons c r=>
  simp only[Ac6,List.take_succ_cons,List.take_zero,List.drop_zero]
  by_cases hc:c=47 <;> simp[hc]
def endL (l:List UInt8):Bool:=l.getLast? == some 47
theorem Bbi (s:ByteArray):((s.extract (s.size - 1) s.size).toList == [47])=endL s.data.toList:=by
 rw[ByteArray.toList_eq,Ae4,<-Aas,List.take_length]
 unfold endL
 by_cases h:s.data.toList=[]
 ·rw[h]
  rfl
 ·obtain⟨L,x,hx⟩:∃ L x,s.data.toList=L ++ [x]:=⟨s.data.toList.dropLast,s.data.toList.getLast h,(List.dropLast_concat_getLast h).symm⟩
  rw[hx]
  simp only[List.length_append,List.length_cons,List.length_nil,Nat.zero_add,Nat.add_sub_cancel,List.drop_left,List.getLast?_concat]
  by_cases hc:x=47 <;> simp[hc]
theorem Aw4 (s:ByteArray)(h:¬ 1<=s.size):Ac6 s.data.toList=false:=by
 have h0:s.data.toList.length=0:=by rw[Aas];omega
 rw[List.length_eq_zero_iff.1 h0]
 rfl
theorem Axa (s:ByteArray)(h:¬ 1<=s.size):endL s.data.toList=false:=by
 have h0:s.data.toList.length=0:=by rw[Aas];omega
 rw[List.length_eq_zero_iff.1 h0]
 rfl
theorem An8 (s:ByteArray)(w:World):Calls Tryz.prog 190 #[.string s,.string ⟨#[47]⟩] w fun e w'=>e=.returned (.bool (Ac6 s.data.toList))/\w=w':=by
 by_cases h:1<=s.size
 ·rw[<-Ba8]
  go_enter Tryz.func190,Tryz.ntmps190
  go_wp2_with fail
  go_ret
  exact⟨rfl,rfl⟩
 ·rw[Aw4 s h]
  obtain h0:s.size=0:=by omega
  go_enter Tryz.func190,Tryz.ntmps190
  go_wp2_with fail
  go_ret
  exact⟨rfl,rfl⟩
theorem An9 (s:ByteArray)(hs:s.size<=1073741824)(w:World):Calls Tryz.prog 174 #[.string s,.string ⟨#[47]⟩] w fun e w'=>e=.returned (.bool (endL s.data.toList))/\w=w':=by
 by_cases h:1<=s.size
 ·rw[<-Bbi]
  go_enter Tryz.func174,Tryz.ntmps174
  go_wp2_with fail
  go_ret
  exact⟨rfl,rfl⟩
 ·rw[Axa s h]
  obtain h0:s.size=0:=by omega
  go_enter Tryz.func174,Tryz.ntmps174
  go_wp2_with fail
  go_ret
  exact⟨rfl,rfl⟩
theorem Ab6 (s:ByteArray)(hs:s.size<=1073741824)(b:Bool)(h:endL s.data.toList=b)(w:World):Calls Tryz.prog 152 #[.string s,.string ⟨#[47]⟩] w fun e w'=>e=.returned (.bool b)/\w=w':=by
 subst h
 go_enter Tryz.func152,Tryz.ntmps152
 go_wp2_with (go_at_call 174;refine(An9 _ hs _).mono ?_;rintro e w' ⟨rfl,rfl⟩)
 go_ret
 exact⟨rfl,rfl⟩
end Go.Proofs.YtkdfbliiblojoaaGreatDoor
