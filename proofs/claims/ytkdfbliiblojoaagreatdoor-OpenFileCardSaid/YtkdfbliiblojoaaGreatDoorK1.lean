import Derived.WalkKit
import Derived.Lib.Hide
import Derived.Maps.AppendAt
import Derived.Test.YtkdfbliiblojoaaGreatDoorProg
import Derived.StillTailTactics
import Derived.Deep.QuietTactic
import Derived.BigQuiet
import Derived.BigRegion
import Derived.RangeFuncBox
import Derived.Deep.Draws
import Derived.Laws.Cover1
set_option linter.all false
set_option maxRecDepth 100000
set_option maxHeartbeats 64000000
namespace Go.Proofs.YtkdfbliiblojoaaGreatDoor
theorem Hd {p : Prop} (h : p) : Go.RowKit.Hid p := Go.Lib.hid h
end Go.Proofs.YtkdfbliiblojoaaGreatDoor
namespace Go.Proofs.YtkdfbliiblojoaaGreatDoor
open Go
def Abz (cur : List UInt8) : List UInt8 → List (List UInt8)
 | [] => if cur = [] then [] else [cur]
 | c :: r => if c = 47 then (if cur = [] then Abz [] r else cur :: Abz [] r) else Abz (cur ++ [c]) r
def Aan (l : List UInt8) : List (List UInt8) := Abz [] l
def strv (l : List UInt8) : Value := .string ⟨l.toArray⟩
theorem Aez (s : ByteArray) (f k : Nat) : (s.extract f k).data.toList = (s.data.toList.take k).drop f := by
 rw [ByteArray.data_extract,Array.toList_extract]
 show List.take (k - f) (List.drop f s.data.toList) = _
 rw [List.drop_take]
theorem Afi (s : ByteArray) (f k : Nat) : Value.string (s.extract f k) = strv ((s.data.toList.take k).drop f) := by
 unfold strv
 congr 1
 apply ByteArray.ext
 apply Array.ext'
 rw [Aez]
def Cut (s : List UInt8) (k f : Nat) (D : List (List UInt8)) : Prop :=
 (k ≤ s.length ∧ f ≤ k ∧ Aan s = D ++ Abz ((s.take k).drop f) (s.drop k)) ∨ (k = s.length + 1 ∧ Aan s = D)
theorem Cut.start (s : List UInt8) : Cut s 0 0 [] := Or.inl ⟨Nat.zero_le _,Nat.le_refl _,by simp [Aan]⟩
theorem Avh (s : List UInt8) (k f : Nat) (hk : k < s.length) (hf : f ≤ k) : (s.take (k + 1)).drop f = (s.take k).drop f ++ [s[k]] := by
 rw [List.take_succ_eq_append_getElem hk,List.drop_append_of_le_length (by simp; omega)]
theorem Afb (s : List UInt8) (k f : Nat) (hk : k ≤ s.length) (hf : f ≤ k) : (s.take k).drop f = [] ↔ f = k := by
 rw [← List.length_eq_zero_iff]
 simp
 omega
theorem Cut.goes (s : List UInt8) (k f : Nat) (D : List (List UInt8)) (h : Cut s k f D) (hk : k < s.length) (hc : s[k] ≠ 47) : Cut s (k + 1) f D := by
 rcases h with ⟨_,hf,h⟩ | ⟨e,_⟩
 ·refine Or.inl ⟨by omega,by omega,?_⟩
  rw [h,List.drop_eq_getElem_cons hk,Avh s k f hk hf]
  simp only [Abz,if_neg hc]
 ·omega
theorem Cut.blank (s : List UInt8) (k : Nat) (D : List (List UInt8)) (h : Cut s k k D) (hk : k < s.length) (hc : s[k] = 47) : Cut s (k + 1) (k + 1) D := by
 rcases h with ⟨hk',hf,h⟩ | ⟨e,_⟩
 ·refine Or.inl ⟨by omega,by omega,?_⟩
  have e0 := (Afb s k k hk' hf).2 rfl
  have e1 := (Afb s (k + 1) (k + 1) (by omega) (Nat.le_refl _)).2 rfl
  rw [h,List.drop_eq_getElem_cons hk,e0,e1]
  simp only [Abz,if_pos hc,if_true]
 ·omega
theorem Cut.ends (s : List UInt8) (k f : Nat) (D : List (List UInt8)) (h : Cut s k f D) (hk : k < s.length) (hc : s[k] = 47) (hf : f < k) : Cut s (k + 1) (k + 1) (D ++ [(s.take k).drop f]) := by
 rcases h with ⟨hk',hf',h⟩ | ⟨e,_⟩
 ·refine Or.inl ⟨by omega,by omega,?_⟩
  have e0 : ¬ (s.take k).drop f = [] := fun e => by have := (Afb s k f hk' hf').1 e; omega
  have e1 := (Afb s (k + 1) (k + 1) (by omega) (Nat.le_refl _)).2 rfl
  rw [h,List.drop_eq_getElem_cons hk,e1]
  simp only [Abz,if_pos hc,if_neg e0,List.append_assoc,List.singleton_append]
 ·omega
theorem Cut.last (s : List UInt8) (f : Nat) (D : List (List UInt8)) (h : Cut s s.length f D) (hf : f < s.length) : Cut s (s.length + 1) (s.length + 1) (D ++ [(s.take s.length).drop f]) := by
 rcases h with ⟨hk',hf',h⟩ | ⟨e,_⟩
 ·refine Or.inr ⟨rfl,?_⟩
  have e0 : ¬ (s.take s.length).drop f = [] := fun e => by have := (Afb s s.length f hk' hf').1 e; omega
  rw [h,List.drop_length]
  simp only [Abz,if_neg e0]
 ·omega
theorem Cut.over (s : List UInt8) (D : List (List UInt8)) (h : Cut s s.length s.length D) : Cut s (s.length + 1) (s.length + 1) D := by
 rcases h with ⟨hk',hf',h⟩ | ⟨e,_⟩
 ·refine Or.inr ⟨rfl,?_⟩
  have e0 := (Afb s s.length s.length hk' hf').2 rfl
  rw [h,List.drop_length,e0]
  simp [Abz]
 ·omega
theorem Cut.done (s : List UInt8) (f : Nat) (D : List (List UInt8)) (h : Cut s (s.length + 1) f D) : D = Aan s := by
 rcases h with ⟨hk,_,_⟩ | ⟨_,h⟩
 ·omega
 ·exact h.symm
theorem Cut.le (s : List UInt8) (k f : Nat) (D : List (List UInt8)) (h : Cut s k f D) (hk : k ≤ s.length) : f ≤ k := by
 rcases h with ⟨_,hf,_⟩ | ⟨e,_⟩
 ·exact hf
 ·omega
end Go.Proofs.YtkdfbliiblojoaaGreatDoor
namespace Go.Proofs.YtkdfbliiblojoaaGreatDoor
open Go Go.RowKit
theorem Azl : (Tryz.prog.info? 9).map (fun i => (i.zero,i.size,i.bytes)) = some (some (.string ByteArray.empty),1,16) := by kernel_rfl
def Agr (B : Nat) (w : World) (v : Value) (L : List (List UInt8)) : Prop := w.ownsRow B 9 1 v L.length (L.map strv)
theorem Agr.grow {B : Nat} {w' : World} {v' : Value} {L : List (List UInt8)} {x : List UInt8} (h : w'.ownsRow B 9 1 v' (L.length + 1) (L.map strv ++ [strv x])) : Agr B w' v' (L ++ [x]) := by
 unfold Agr
 rw [List.length_append,List.map_append]
 exact h
theorem Am1 (s : ByteArray) (f k : Nat) (h1 : f ≤ k) (h2 : k ≤ s.size) (W : World) :
  (Instr.slice 9 (.string s) (some (.int .i64 (f : Int))) (some (.int .i64 (k : Int))) none).run Tryz.prog W = .ok (.string (s.extract f k)) W := by
 have := run_slice_string (P := Tryz.prog) W 9 s .i64 .i64 (f : Int) (k : Int) Tryz.underlying9 (by omega) (by omega) (by omega)
 simpa using this
def NCut (s : ByteArray) (B : Nat) (w0 : World) (l f i : Value) (wr : World) : Prop :=
 ∃ k g : Nat,∃ D : List (List UInt8),k ≤ s.size + 1 ∧ g ≤ s.size + 1 ∧ i = .int .i64 k ∧ f = .int .i64 g ∧ Cut s.data.toList k g D ∧ D.length ≤ k ∧ Agr B wr l D ∧ Below B w0 wr
theorem Air (s : ByteArray) (k : Nat) (h : k < s.size) : s.data.toList[k]'(by simpa using h) = s[k] := rfl
theorem Aas (s : ByteArray) : s.data.toList.length = s.size := Array.length_toList
theorem Axk (s : ByteArray) (g : Nat) (D : List (List UInt8)) (h : Cut s.data.toList s.size g D) (hg : g < s.size) : Cut s.data.toList (s.size + 1) (s.size + 1) (D ++ [(s.data.toList.take s.size).drop g]) := by
 rw [← Aas] at h hg ⊢
 exact Cut.last _ g D h hg
theorem Axo (s : ByteArray) (D : List (List UInt8)) (h : Cut s.data.toList s.size s.size D) : Cut s.data.toList (s.size + 1) (s.size + 1) D := by
 rw [← Aas] at h ⊢
 exact Cut.over _ D h
theorem Ahr (s : ByteArray) (hs : s.size ≤ 1073741824) (w : World) :
  Calls Tryz.prog 79 #[.string s] w fun e w' => ∃ v,e = .returned v ∧ Agr w.heap.size w' v (Aan s.data.toList) ∧ Below w.heap.size w w' := by
 obtain ⟨i0,hi,hz0,hz1,hz2⟩ := info_parts Azl
 go_enter Tryz.func79,Tryz.ntmps79
 go_wp2_with fail
 go_loopw [3,4,5] (fun l f i wr => NCut s w.heap.size w l f i wr) (fun _ _ i _ => s.size + 1 - (intOf i).toNat)
 case atStart => exact ⟨0,0,[],by omega,by omega,rfl,rfl,Cut.start _,by simp,World.ownsRow_nil _ _ _ _,Below.refl _ _⟩
 case round =>
  obtain ⟨k,g,D,hk,hg,rfl,rfl,hcut,hD,hown,hb⟩ := hrel
  have HC := Hd hcut
  have HO := Hd (show wr.ownsRow w.heap.size 9 1 _ D.length (D.map strv) from hown)
  clear hcut hown
  by_cases hlt : k < s.size
  ·cases hc : ((s[k].toNat : Int) != 47) with
   | true =>
    go_wp2_with fail
    go_roundw
    case rel => exact ⟨k + 1,g,D,by omega,hg,by go_num,rfl,Cut.goes _ _ _ _ HC.out (by rw [Aas]; exact hlt) (by rw [Air s k hlt]; intro e; rw [e] at hc; simp at hc),by omega,HO.out,hb⟩
    case measure => simp [intOf] <;> omega
   | false =>
    have hc' : s[k] = 47 := by
     have h := bne_eq_false_iff_eq.1 hc
     exact UInt8.toNat_inj.1 (by show s[k].toNat = 47; omega)
    have HC' := Hd hc'
    clear hc'
    by_cases hgk : g < k
    ·have hr := Am1 s g k (by omega) (by omega)
     go_wp2_with (first | (at_builtin; (refine wpList_append_own _ rfl _ _ 61 rfl w.heap.size 9 i0 (.string ByteArray.empty) 1 16 Tryz.underlying61 hi hz0 hz1 hz2 rfl (by decide) _ _ _ rfl (HO.out.alloc _) ⟨wr.heap.size,0,none⟩ 1 1 [.string (s.extract g k)] rfl rfl (cell_one_new _ _ _) (fun x hx => by simp at hx; subst hx; rfl) (by unfold maxLen; omega) (by omega) (by simp; exact Nat.le_succ_of_le hb.size) ?_); intro v' w3 hown' hgrow3 hnil3) | fail)
     have hT : Agr w.heap.size w3 v' (D ++ [(s.data.toList.take k).drop g]) := Agr.grow (by rw [← Afi]; exact hown')
     have hb3 : Below w.heap.size w w3 := (hb.alloc hb.size _).grown hgrow3 (by simp; exact Nat.le_succ_of_le hb.size) (fun r hr' => (HO.out.lt r hr').1)
     have HT := Hd hT
     have HB := Hd hb3
     clear hT hb3 hown' hgrow3 hnil3
     go_wp2_with fail
     go_roundw
     case rel => exact ⟨k + 1,k + 1,D ++ [(s.data.toList.take k).drop g],by omega,by omega,by go_num,by go_num,Cut.ends _ _ _ _ HC.out (by rw [Aas]; exact hlt) (by rw [Air s k hlt]; exact HC'.out) hgk,by simp; omega,HT.out,HB.out⟩
     case measure => simp [intOf] <;> omega
    ·have hgk2 : g = k := by have := Cut.le _ _ _ _ HC.out (by rw [Aas]; omega); omega
     subst hgk2
     go_wp2_with fail
     go_roundw
     case rel => exact ⟨g + 1,g + 1,D,by omega,by omega,by go_num,by go_num,Cut.blank _ _ _ HC.out (by rw [Aas]; exact hlt) (by rw [Air s g hlt]; exact HC'.out),by omega,HO.out,hb⟩
     case measure => simp [intOf] <;> omega
  ·by_cases heq : k = s.size
   ·subst heq
    by_cases hgk : g < s.size
    ·have hr := Am1 s g s.size (by omega) (by omega)
     go_wp2_with (first | (at_builtin; (refine wpList_append_own _ rfl _ _ 61 rfl w.heap.size 9 i0 (.string ByteArray.empty) 1 16 Tryz.underlying61 hi hz0 hz1 hz2 rfl (by decide) _ _ _ rfl (HO.out.alloc _) ⟨wr.heap.size,0,none⟩ 1 1 [.string (s.extract g s.size)] rfl rfl (cell_one_new _ _ _) (fun x hx => by simp at hx; subst hx; rfl) (by unfold maxLen; omega) (by omega) (by simp; exact Nat.le_succ_of_le hb.size) ?_); intro v' w3 hown' hgrow3 hnil3) | fail)
     have hT : Agr w.heap.size w3 v' (D ++ [(s.data.toList.take s.size).drop g]) := Agr.grow (by rw [← Afi]; exact hown')
     have hb3 : Below w.heap.size w w3 := (hb.alloc hb.size _).grown hgrow3 (by simp; exact Nat.le_succ_of_le hb.size) (fun r hr' => (HO.out.lt r hr').1)
     have HT := Hd hT
     have HB := Hd hb3
     clear hT hb3 hown' hgrow3 hnil3
     go_wp2_with fail
     go_roundw
     case rel => exact ⟨s.size + 1,s.size + 1,D ++ [(s.data.toList.take s.size).drop g],by omega,by omega,by go_num,by go_num,Axk s g D HC.out hgk,by simp; omega,HT.out,HB.out⟩
     case measure => simp [intOf] <;> omega
    ·have hgk2 : g = s.size := by have := Cut.le _ _ _ _ HC.out (by rw [Aas]; omega); omega
     subst hgk2
     go_wp2_with fail
     go_roundw
     case rel => exact ⟨s.size + 1,s.size + 1,D,by omega,by omega,by go_num,by go_num,Axo s D HC.out,by omega,HO.out,hb⟩
     case measure => simp [intOf] <;> omega
   ·have hk1 : k = s.size + 1 := by omega
    have hfin := Hd (show D = Aan s.data.toList from Cut.done _ g D (by rw [Aas]; exact hk1 ▸ HC.out))
    go_wp2_with fail
    go_ret
    exact ⟨_,rfl,by rw [← hfin.out]; exact HO.out,hb⟩
def Ald : List (List UInt8) → Nat
 | [] => 0
 | x :: r => x.length + 1 + Ald r
theorem Aid : ∀ (l cur : List UInt8),Ald (Abz cur l) ≤ cur.length + l.length + 1
 | [],cur => by
  unfold Abz
  split
  ·simp [Ald]
  ·simp [Ald]
 | c :: r,cur => by
  unfold Abz
  split
  ·split
   ·have := Aid r []
    simp at this ⊢
    omega
   ·have := Aid r []
    simp only [Ald,List.length_cons,List.length_nil] at this ⊢
    omega
  ·have := Aid r (cur ++ [c])
   simp at this ⊢
   omega
theorem Am6 (l : List UInt8) : Ald (Aan l) ≤ l.length + 1 := by
 have := Aid l []
 simpa [Aan] using this
structure Ino where
 kind : Int
 mode : Int
 links : Int
 data : List UInt8
 kids : List (List UInt8 × Int)
 up : Int
structure Tre where
 nodes : List Ino
 maxN : Int
 maxB : Int
def Acc (W : World) (v : Value) (L : List (List UInt8 × Int)) : Prop :=
 ∃ a cap,v = .slice a L.length cap ∧ L.length ≤ cap ∧ cap ≤ maxLen ∧
  ∀ i (hi : i < L.length),∃ b o,a = some ⟨b,o,none⟩ ∧ W.cell? ⟨b,o + i * 2,none⟩ = some (.string ⟨L[i].1.toArray⟩) ∧ W.cell? ⟨b,o + i * 2 + 1,none⟩ = some (.int .i64 L[i].2)
structure NodeIn (W : World) (b o : Nat) (x : Ino) : Prop where
 kind : W.cell? ⟨b,o,none⟩ = some (.int .i64 x.kind)
 mode : W.cell? ⟨b,o + 1,none⟩ = some (.int .i64 x.mode)
 links : W.cell? ⟨b,o + 2,none⟩ = some (.int .i64 x.links)
 data : W.cell? ⟨b,o + 3,none⟩ = some (.string ⟨x.data.toArray⟩)
 kids : ∃ v,W.cell? ⟨b,o + 4,none⟩ = some v ∧ Acc W v x.kids
 up : W.cell? ⟨b,o + 5,none⟩ = some (.int .i64 x.up)
def Aah (W : World) (a : Option Addr) (cap : Nat) (L : List Ino) : Prop :=
 L.length ≤ cap ∧ cap ≤ maxLen ∧ ∀ i (hi : i < L.length),∃ b o,a = some ⟨b,o,none⟩ ∧ NodeIn W b (o + i * 6) L[i]
def Az3 (W : World) (v : Value) (T : Tre) : Prop :=
 ∃ a cap,v = .agg #[.slice a T.nodes.length cap,.int .i64 T.maxN,.int .i64 T.maxB] ∧ Aah W a cap T.nodes
theorem Aaj {W : World} {a : Addr} {v : Value} (hc : W.cell? a = some v) : a.block < W.heap.size := by
 unfold World.cell? at hc
 cases hb : W.heap[a.block]? with
 | none => rw [hb] at hc; cases hc
 | some o => exact (Array.getElem?_eq_some_iff.1 hb).1
theorem Aaa {W W' : World} {a : Addr} {v : Value} (h : Below W.heap.size W W') (hc : W.cell? a = some v) : W'.cell? a = some v := by
 have hlt : a.block < W.heap.size := by
  unfold World.cell? at hc
  cases hb : W.heap[a.block]? with
  | none => rw [hb] at hc; cases hc
  | some o => exact (Array.getElem?_eq_some_iff.1 hb).1
 rw [World.cell?_of_block (h.block _ hlt)]
 exact hc
theorem Acc.below {W W' : World} {v : Value} {L : List (List UInt8 × Int)} (h : Acc W v L) (hb : Below W.heap.size W W') : Acc W' v L := by
 obtain ⟨a,cap,h1,h2,h3,h4⟩ := h
 refine ⟨a,cap,h1,h2,h3,fun i hi => ?_⟩
 obtain ⟨b,o,e1,e2,e3⟩ := h4 i hi
 exact ⟨b,o,e1,Aaa hb e2,Aaa hb e3⟩
theorem NodeIn.below {W W' : World} {b o : Nat} {x : Ino} (h : NodeIn W b o x) (hb : Below W.heap.size W W') : NodeIn W' b o x := by
 obtain ⟨v,h1,h2⟩ := h.kids
 exact ⟨Aaa hb h.kind,Aaa hb h.mode,Aaa hb h.links,Aaa hb h.data,⟨v,Aaa hb h1,h2.below hb⟩,Aaa hb h.up⟩
theorem Aah.below {W W' : World} {a : Option Addr} {cap : Nat} {L : List Ino} (h : Aah W a cap L) (hb : Below W.heap.size W W') : Aah W' a cap L := by
 refine ⟨h.1,h.2.1,fun i hi => ?_⟩
 obtain ⟨b,o,e1,e2⟩ := h.2.2 i hi
 exact ⟨b,o,e1,e2.below hb⟩
theorem Aab (W : World) (o : Obj) : Below W.heap.size W (W.alloc o) := (Below.refl _ W).alloc (Nat.le_refl _) _
theorem Aae (w : World) (o : Obj) : (w.alloc o).heap[w.heap.size]? = some o := by show (w.heap.push o)[w.heap.size]? = some o; simp
theorem box3 {w W' : World} {x y z : Value} {t : TypeId} (h : Below (w.alloc (.cells #[x,y,z] t)).heap.size (w.alloc (.cells #[x,y,z] t)) W') :
  W'.cell? ⟨w.heap.size,0,none⟩ = some x ∧ W'.cell? ⟨w.heap.size,1,none⟩ = some y ∧ W'.cell? ⟨w.heap.size,2,none⟩ = some z :=
 ⟨Aaa h (by simp only [World.cell?,Aae]; rfl),Aaa h (by simp only [World.cell?,Aae]; rfl),Aaa h (by simp only [World.cell?,Aae]; rfl)⟩
def Ah3 : List Ino → Nat
 | [] => 0
 | x :: r => (if x.kind = 0 then 0 else 1) + Ah3 r
def Aax : List Ino → Nat
 | [] => 0
 | x :: r => x.data.length + Aax r
theorem Aka : ∀ (L : List Ino) (x : Ino),Ah3 (L ++ [x]) = Ah3 L + (if x.kind = 0 then 0 else 1)
 | [],x => by simp [Ah3]
 | y :: r,x => by simp only [List.cons_append,Ah3,Aka r x]; omega
theorem Ahk : ∀ (L : List Ino) (x : Ino),Aax (L ++ [x]) = Aax L + x.data.length
 | [],x => by simp [Aax]
 | y :: r,x => by simp only [List.cons_append,Aax,Ahk r x]; omega
theorem Ap6 : ∀ (L : List Ino),Ah3 L ≤ L.length
 | [] => Nat.le_refl _
 | x :: r => by
  have := Ap6 r
  simp only [Ah3,List.length_cons]
  split <;> omega
theorem Arc (L : List Ino) (k : Nat) : Aax (L.take k) ≤ Aax L := by
 induction L generalizing k with
 | nil => simp [Aax]
 | cons x r ih =>
  cases k with
  | zero => simp [Aax]
  | succ k => simp only [List.take_succ_cons,Aax]; have := ih k; omega
theorem Aq5 (L : List Ino) (k : Nat) : Ah3 (L.take k) ≤ k := Nat.le_trans (Ap6 _) (List.length_take_le _ _)
def Aa4 (L : List Ino) (k : Int) : Bool := decide (0 ≤ k) && decide (k < L.length)
theorem Aqi (a : Option Addr) (cap n : Nat) (m b k : Int) (w : World) :
  Calls Tryz.prog 49 #[.agg #[.slice a n cap,.int .i64 m,.int .i64 b],.int .i64 k] w fun e w' => e = .returned (.bool (decide (0 ≤ k) && decide (k < n))) ∧ Below w.heap.size w w' := by
 go_enter Tryz.func49,Tryz.ntmps49
 go_wp2_with fail
 ·rename_i h
  go_ret
  exact ⟨by rw [decide_eq_true h]; rfl,Aab _ _⟩
 ·rename_i h
  go_ret
  exact ⟨by rw [decide_eq_false (by omega)]; rfl,Aab _ _⟩
theorem Acs (l : List UInt8) : (⟨l.toArray⟩ : ByteArray).size = l.length := by show l.toArray.size = _; simp
theorem box6 {w W' : World} {x0 x1 x2 x3 x4 x5 : Value} {t : TypeId} (h : Below (w.alloc (.cells #[x0,x1,x2,x3,x4,x5] t)).heap.size (w.alloc (.cells #[x0,x1,x2,x3,x4,x5] t)) W') :
  W'.cell? ⟨w.heap.size,0,none⟩ = some x0 ∧ W'.cell? ⟨w.heap.size,1,none⟩ = some x1 ∧ W'.cell? ⟨w.heap.size,2,none⟩ = some x2 ∧ W'.cell? ⟨w.heap.size,3,none⟩ = some x3 ∧ W'.cell? ⟨w.heap.size,4,none⟩ = some x4 ∧ W'.cell? ⟨w.heap.size,5,none⟩ = some x5 :=
 ⟨Aaa h (by simp only [World.cell?,Aae]; rfl),Aaa h (by simp only [World.cell?,Aae]; rfl),Aaa h (by simp only [World.cell?,Aae]; rfl),Aaa h (by simp only [World.cell?,Aae]; rfl),Aaa h (by simp only [World.cell?,Aae]; rfl),Aaa h (by simp only [World.cell?,Aae]; rfl)⟩
def Ac3 : List UInt8 → Bool
 | [] => false
 | c :: _ => c == 47
theorem Az4 (s : ByteArray) (h0 : 0 < s.size) : s.toList.isEmpty = false := by
 rcases s with ⟨⟨l⟩⟩
 cases l with
 | nil => exact absurd h0 (Nat.lt_irrefl 0)
 | cons c r => rw [ByteArray.toList_eq]; rfl
theorem bare (s : ByteArray) (h0 : ¬ 0 < s.size) : s = ⟨#[]⟩ := by
 rcases s with ⟨⟨l⟩⟩
 cases l with
 | nil => rfl
 | cons c r => exact absurd (Nat.succ_pos r.length) h0
theorem Axm (s : ByteArray) (h0 : 0 < s.size) : Ac3 s.data.toList = ((s[0].toNat : Int) == 47) := by
 rcases s with ⟨⟨l⟩⟩
 cases l with
 | nil => exact absurd h0 (Nat.lt_irrefl 0)
 | cons c r =>
  show (c == 47) = ((c.toNat : Int) == 47)
  rw [Bool.eq_iff_iff,beq_iff_eq,beq_iff_eq,← UInt8.toNat_inj]
  show c.toNat = 47 ↔ _
  omega
theorem Ake (s : ByteArray) (w : World) : Calls Tryz.prog 119 #[.string s] w fun e w' => e = .returned (.bool (Ac3 s.data.toList)) ∧ w = w' := by
 by_cases h0 : 0 < s.size
 ·have hne := Az4 s h0
  rw [Axm s h0]
  cases hc : ((s[0].toNat : Int) == 47)
  all_goals
   go_enter Tryz.func119,Tryz.ntmps119
   go_wp2_with fail
   go_ret
   exact ⟨rfl,rfl⟩
 ·obtain rfl := bare s h0
  go_enter Tryz.func119,Tryz.ntmps119
  go_wp2_with fail
  go_ret
  exact ⟨rfl,rfl⟩
def Abg (l : List UInt8) : Bool := l.all (fun c => c != 47 && c != 0) && !l.isEmpty && decide (l.length ≤ 64) && !(l == [46]) && !(l == [46,46])
def Ayu (s : ByteArray) (k : Nat) : Prop := ∀ j (h : j < s.size),j < k → s[j] ≠ 47 ∧ s[j] ≠ 0
theorem Atj (s : ByteArray) (h : Ayu s s.size) : s.data.toList.all (fun c => c != 47 && c != 0) = true := by
 rw [List.all_eq_true]
 intro c hc
 obtain ⟨j,hj,rfl⟩ := List.getElem_of_mem hc
 have hj' : j < s.size := by simpa using hj
 have := h j hj' hj'
 rw [Air s j hj']
 simp [this.1,this.2]
theorem Amd (s : ByteArray) (k : Nat) (hk : k < s.size) (h : s[k] = 47 ∨ s[k] = 0) : Abg s.data.toList = false := by
 have : s.data.toList.all (fun c => c != 47 && c != 0) = false := by
  rw [List.all_eq_false]
  refine ⟨s.data.toList[k]'(by simpa using hk),by simp,?_⟩
  rw [Air s k hk]
  rcases h with h | h <;> simp [h]
 simp [Abg,this]
theorem Ath (c : UInt8) (n : Nat) (hn : n < 256) (h : ((c.toNat : Int) == (n : Int)) = true) : c = UInt8.ofNat n := by
 have h' : (c.toNat : Int) = n := by simpa using h
 apply UInt8.toNat_inj.1
 rw [UInt8.toNat_ofNat']
 omega
theorem Apx (c : UInt8) (n : Nat) (hn : n < 256) (h : ((c.toNat : Int) == (n : Int)) = false) : c ≠ UInt8.ofNat n := by
 intro e
 subst e
 rw [UInt8.toNat_ofNat',Nat.mod_eq_of_lt hn] at h
 simp at h
theorem Ar9 (s : ByteArray) (hs : s.size ≤ maxLen) (w : World) : Calls Tryz.prog 89 #[.string s] w fun e w' => e = .returned (.bool (Abg s.data.toList)) ∧ w = w' := by
 unfold maxLen at hs
 go_enter Tryz.func89,Tryz.ntmps89
 go_wp2_with fail
 go_loop [3] (fun i => ∃ k : Nat,k ≤ s.size ∧ i = .int .i64 k ∧ Hid (Ayu s k)) (fun i => s.size - (intOf i).toNat)
 case atStart => exact ⟨0,by omega,rfl,fun _ _ h => absurd h (Nat.not_lt_zero _)⟩
 case round =>
  obtain ⟨k,hk,rfl,hd⟩ := hrel
  by_cases hlt : k < s.size
  ·cases h47 : ((s[k].toNat : Int) == 47) with
   | true =>
    have hfin := Hd (Amd s k hlt (Or.inl (Ath _ 47 (by decide) h47)))
    go_wp2_with fail
    go_ret
    exact ⟨by rw [hfin.out]; rfl,rfl⟩
   | false =>
    cases hz : ((s[k].toNat : Int) == 0) with
    | true =>
     have hfin := Hd (Amd s k hlt (Or.inr (Ath _ 0 (by decide) hz)))
     go_wp2_with fail
     go_ret
     exact ⟨by rw [hfin.out]; rfl,rfl⟩
    | false =>
     have hst : Ayu s (k + 1) := fun j hj hjk => by
      by_cases e : j = k
      ·subst e; exact ⟨Apx _ 47 (by decide) h47,Apx _ 0 (by decide) hz⟩
      ·exact hd.out j hj (by omega)
     have HS := Hd hst
     clear hst
     go_wp2_with fail
     go_round
     case rel => exact ⟨k + 1,by omega,by go_num,HS⟩
     case measure => simp [intOf] <;> omega
  ·obtain rfl : k = s.size := by omega
   have hall := Hd (Atj s hd.out)
   have hlen := Aas s
   cases he : s.toList.isEmpty <;> cases h1 : (s.toList == [46]) <;> cases h2 : (s.toList == [46,46]) <;> by_cases h64 : s.size ≤ 64
   all_goals
    have hfin : Abg s.data.toList = (!s.toList.isEmpty && decide (s.size ≤ 64) && !(s.toList == [46]) && !(s.toList == [46,46])) := by
     unfold Abg
     rw [hall.out,hlen,ByteArray.toList_eq]
     simp
    have HF := Hd hfin
    clear hfin hlen
    go_wp2_with fail
    go_ret
    exact ⟨by rw [HF.out,he,h1,h2]; simp [h64],rfl⟩
def Ag7 : Ino := ⟨0,0,0,[],[],0⟩
def Aaf (L : List Ino) (k : Int) : Ino := L.getD k.toNat Ag7
def dirB (L : List Ino) (k : Int) : Bool := Aa4 L k && (Aaf L k).kind == 2
def Afv : List (List UInt8 × Int) → List UInt8 → Int
 | [],_ => -1
 | e :: r,s => if e.1 = s then e.2 else Afv r s
def kidL (L : List Ino) (d : Int) (s : List UInt8) : Int := if dirB L d then Afv (Aaf L d).kids s else -1
theorem Aa7 {L : List Ino} {k : Int} (h : Aa4 L k = true) : ∃ n : Nat,k = (n : Int) ∧ n < L.length := by
 unfold Aa4 at h
 rw [Bool.and_eq_true,decide_eq_true_eq,decide_eq_true_eq] at h
 exact ⟨k.toNat,by omega,by omega⟩
theorem Ami {L : List Ino} {k : Int} (h : Aa4 L k = false) : k < 0 ∨ (L.length : Int) ≤ k := by
 unfold Aa4 at h
 rw [Bool.and_eq_false_iff,decide_eq_false_iff_not,decide_eq_false_iff_not] at h
 omega
theorem Aad (L : List Ino) (n : Nat) (h : n < L.length) : Aaf L (n : Int) = L[n] := by
 unfold Aaf
 rw [Int.toNat_natCast,List.getD_eq_getElem?_getD,List.getElem?_eq_getElem h]
 rfl
theorem Aef (L : List Ino) (n : Nat) (h : n < L.length) : Aa4 L (n : Int) = true := by
 unfold Aa4
 rw [decide_eq_true (by omega),decide_eq_true (by omega)]
 rfl
theorem Ars (M : List (List UInt8 × Int)) (k : Nat) (hk : k < M.length) (s : List UInt8) : Afv (M.drop k) s = if M[k].1 = s then M[k].2 else Afv (M.drop (k + 1)) s := by
 rw [List.drop_eq_getElem_cons hk]
 rfl
theorem Abj (a : Option Addr) (cap : Nat) (m b k : Int) (L : List Ino) (v : Bool) (hv : Aa4 L k = v) (w : World) :
  Calls Tryz.prog 49 #[.agg #[.slice a L.length cap,.int .i64 m,.int .i64 b],.int .i64 k] w fun e w' => e = .returned (.bool v) ∧ Below w.heap.size w w' := by
 subst hv
 exact Aqi a cap L.length m b k w
theorem Avm (a : Option Addr) (cap : Nat) (m b d : Int) (nm : List UInt8) (L : List Ino) (w : World) (hN : Aah w a cap L) :
  Calls Tryz.prog 150 #[.agg #[.slice a L.length cap,.int .i64 m,.int .i64 b],.int .i64 d,.string ⟨nm.toArray⟩] w fun e w' => e = .returned (.int .i64 (kidL L d nm)) ∧ Below w.heap.size w w' := by
 have hb1 := Aab w (.cells #[.slice a L.length cap,.int .i64 m,.int .i64 b] 24)
 have hM := hN.below hb1
 have hcap := hN.1
 have hmax := hN.2.1
 unfold maxLen at hmax
 have HM := Hd hM
 clear hM hN
 cases ht : Aa4 L d with
 | false =>
  have HT := Hd ht
  have hfin := Hd (show kidL L d nm = -1 by unfold kidL dirB; rw [ht]; rfl)
  clear ht
  rw [hfin.out]
  go_enter Tryz.func150,Tryz.ntmps150
  go_wp2_with (first | (go_at_call 49; refine (Abj _ _ _ _ _ _ _ HT.out _).mono ?_; rintro e w2 ⟨rfl,hb2⟩) | fail)
  go_ret
  exact ⟨rfl,hb1.trans (hb2.mono (by simp))⟩
 | true =>
  obtain ⟨n,rfl,hn⟩ := Aa7 ht
  have HT := Hd ht
  clear ht
  obtain ⟨bb,o,rfl,hx⟩ := HM.out.2.2 n hn
  have h1 := hx.kind
  have hd0 : (0 : Int) ≤ (n : Int) := by omega
  cases hz : (L[n].kind != 2) with
  | true =>
   have hfin := Hd (show kidL L (n : Int) nm = -1 by
    unfold kidL dirB
    rw [HT.out,Aad L n hn]
    have : (L[n].kind == 2) = false := by simpa [bne] using hz
    rw [this]
    rfl)
   rw [hfin.out]
   go_enter Tryz.func150,Tryz.ntmps150
   go_wp2_with (first | (go_at_call 49; refine (Abj _ _ _ _ _ _ _ HT.out _).mono ?_; rintro e w2 ⟨rfl,hb2⟩; obtain ⟨q0,q1,q2⟩ := box3 hb2; have h2 := Aaa hb2 h1) | fail)
   go_ret
   exact ⟨rfl,hb1.trans (hb2.mono (by simp))⟩
  | false =>
   have hz' : (L[n].kind == 2) = true := by simpa [bne] using hz
   obtain ⟨kv,hk1,hks⟩ := hx.kids
   obtain ⟨M,hMe⟩ : ∃ M,M = L[n].kids := ⟨_,rfl⟩
   rw [← hMe] at hks
   obtain ⟨ka,kcap,rfl,hkc,hkm,hkk⟩ := hks
   unfold maxLen at hkm
   have HK := Hd hkk
   have hfin := Hd (show kidL L (n : Int) nm = Afv M nm by
    unfold kidL dirB
    rw [HT.out,Aad L n hn,hz',hMe]
    rfl)
   rw [hfin.out]
   clear hkk hMe
   go_enter Tryz.func150,Tryz.ntmps150
   go_wp2_with (first | (go_at_call 49; refine (Abj _ _ _ _ _ _ _ HT.out _).mono ?_; rintro e w2 ⟨rfl,hb2⟩; obtain ⟨q0,q1,q2⟩ := box3 hb2; have h2 := Aaa hb2 h1; have h3 := Aaa hb2 hk1) | fail)
   have HB := Hd (hb1.trans (hb2.mono (by simp)))
   have HKB := Hd (show ∀ k (hk : k < M.length),∃ b o,ka = some ⟨b,o,none⟩ ∧ w2.cell? ⟨b,o + k * 2,none⟩ = some (.string ⟨M[k].1.toArray⟩) ∧ w2.cell? ⟨b,o + k * 2 + 1,none⟩ = some (.int .i64 M[k].2) from
    fun k hk => by obtain ⟨b',o',e1,e2,e3⟩ := HK.out k hk; exact ⟨b',o',e1,Aaa hb2 e2,Aaa hb2 e3⟩)
   clear h2 h3 q0 q1 q2 hb1 hb2 HM HT hx hk1 HK hfin
   go_loop [8] (fun i => ∃ k : Nat,k ≤ M.length ∧ i = .int .i64 k ∧ Hid (Afv M nm = Afv (M.drop k) nm)) (fun i => M.length - (intOf i).toNat)
   case atStart => exact ⟨0,by omega,rfl,Hd rfl⟩
   case round =>
    obtain ⟨k,hk,rfl,hfk⟩ := hrel
    by_cases hlt : k < M.length
    ·obtain ⟨b',o',rfl,e2,e3⟩ := HKB.out k hlt
     have hst := Ars M k hlt nm
     cases hc : (M[k].1 == nm) with
     | true =>
      rw [if_pos (by simpa using hc)] at hst
      have HF := Hd (hfk.out.trans hst)
      clear hst
      go_wp2_with fail
      go_ret
      exact ⟨by rw [HF.out]; rfl,HB.out⟩
     | false =>
      rw [if_neg (by simpa using hc)] at hst
      have HF := Hd (hfk.out.trans hst)
      clear hst
      go_wp2_with fail
      go_round
      case rel => exact ⟨k + 1,by omega,by go_num,HF⟩
      case measure => simp [intOf] <;> omega
    ·have HF := Hd (show Afv M nm = -1 by rw [hfk.out,List.drop_eq_nil_of_le (by omega)]; rfl)
     go_wp2_with fail
     go_ret
     exact ⟨by rw [HF.out]; rfl,HB.out⟩
theorem Aju {P : Program} {o : Oper} {a : Act} {w : World} {K : Act → Prop} (h : o.quiet P a (fun w' => w' = w) K) : o.still P a w K := by
 obtain ⟨v,h1,h2⟩ := h
 have h3 := h1 w rfl
 unfold Oper.quietAt at h3
 unfold Oper.still
 revert h3
 cases (execOp a.eval o).run P w with
 | ok x w' =>
  cases x with
  | value u => rintro ⟨rfl,rfl⟩; exact ⟨rfl,h2⟩
  | skip => rintro ⟨rfl,rfl⟩; exact ⟨rfl,h2⟩
  | enter f args => rintro ⟨rfl,h⟩; exact ⟨rfl,v,h,h2⟩
  | _ => intro h; exact h.elim
 | _ => intro h; exact h.elim
theorem Ab1 {P : Program} {ops : Array Oper} {w : World} {Q : Act → Prop} : ∀ (l : List Oper) (a : Act),wpQuiet P ops (fun w' => w' = w) Q l a → wpStill P ops w Q l a
 | [],_,h => h
 | o :: rest,a,h => by
  unfold wpQuiet at h
  unfold wpStill
  split
  ·rename_i hw
   rw [if_pos hw] at h
   exact Aju (Oper.quiet_mono (fun a' h' => Ab1 rest a' h') h)
  ·rename_i hw
   rw [if_neg hw] at h
   exact Ab1 rest _ h
def intv (z : Int) : Value := .int .i64 z
def Abt (W : World) (C : Nat) (c : List Int) : Prop := W.heap[C]? = some (.cells (c.map intv).toArray 3 (0,0))
theorem Abt.cell {W : World} {C : Nat} {c : List Int} (h : Abt W C c) (i : Nat) (hi : i < c.length) : W.cell? ⟨C,i,none⟩ = some (.int .i64 c[i]) := by
 simp only [World.cell?,show W.heap[C]? = _ from h]
 simp [hi,intv]
theorem Abt.frozen {W : World} {C : Nat} {c : List Int} (h : Abt W C c) (i : Nat) : W.frozen? ⟨C,i,none⟩ = false := by
 simp only [World.frozen?,show W.heap[C]? = _ from h]
 simp
theorem Abt.below {W W' : World} {C : Nat} {c : List Int} (h : Abt W C c) (hb : Below W.heap.size W W') : Abt W' C c :=
 (hb.block C (Array.getElem?_eq_some_iff.1 h).1).trans h
theorem Abt.set {W : World} {C : Nat} {c : List Int} (h : Abt W C c) (i : Nat) (z : Int) : Abt (W.setCell ⟨C,i,none⟩ (.int .i64 z)) C (c.set i z) := by
 show (W.setCell ⟨C,i,none⟩ (.int .i64 z)).heap[C]? = _
 have e : (c.map intv).toArray.setIfInBounds i (.int .i64 z) = ((c.set i z).map intv).toArray := by
  apply Array.ext'
  simp [intv,List.map_set]
 rw [← e]
 simp only [World.setCell,Array.getElem?_modify,show W.heap[C]? = _ from h,Option.map_some]
 simp
structure KidOk (L : List Ino) (d : Nat) (M : List (List UInt8 × Int)) (k : Nat) (h : k < M.length) : Prop where
 name : Abg M[k].1 = true
 order : ∀ t (ht : k = t + 1),Op.bytesLess (M[t]'(by omega)).1 M[k].1 = true
 there : Aa4 L M[k].2 = true
 kind : (Aaf L M[k].2).kind ≠ 0
 dir : ¬ ((Aaf L M[k].2).kind = 2 ∧ (M[k].2 = 0 ∨ (Aaf L M[k].2).up ≠ d))
def Ad7 (L : List Ino) (d : Nat) (M : List (List UInt8 × Int)) : Prop := ∀ k (h : k < M.length),KidOk L d M k h
def bump1 (c : List Int) (j : Int) : List Int := c.set j.toNat (c.getD j.toNat 0 + 1)
def bump (c : List Int) (M : List (List UInt8 × Int)) : List Int := M.foldl (fun c e => bump1 c e.2) c
theorem Ahg (M : List (List UInt8 × Int)) : ∀ c,(bump c M).length = c.length := by
 induction M with
 | nil => intro c; rfl
 | cons e r ih => intro c; show (bump (bump1 c e.2) r).length = _; rw [ih]; simp [bump1]
theorem Aln (M : List (List UInt8 × Int)) (k : Nat) (hk : k < M.length) (c : List Int) : bump c (M.take (k + 1)) = bump1 (bump c (M.take k)) M[k].2 := by
 rw [List.take_succ_eq_append_getElem hk]
 unfold bump
 rw [List.foldl_append]
 rfl
def Low (c : List Int) (x : Int) : Prop := ∀ z ∈ c,0 ≤ z ∧ z ≤ x
theorem Low.bump1 {c : List Int} {x : Int} (h : Low c x) (j : Int) (hx : 0 ≤ x) : Low (bump1 c j) (x + 1) := by
 intro z hz
 unfold Proofs.YtkdfbliiblojoaaGreatDoor.bump1 at hz
 rcases List.mem_or_eq_of_mem_set hz with h1 | rfl
 ·have := h z h1; omega
 ·rw [List.getD_eq_getElem?_getD]
  cases hc : c[j.toNat]? with
  | none => simp; omega
  | some y => have := h y (List.mem_of_getElem? hc); simp; omega
theorem Add (s : ByteArray) (hs : s.size ≤ 9223372036854775807) (v : Bool) (h : Abg s.data.toList = v) (w : World) : Calls Tryz.prog 89 #[.string s] w fun e w' => e = .returned (.bool v) ∧ w' = w := by
 subst h
 exact (Ar9 s (by unfold maxLen; exact hs) w).mono fun e w' h => ⟨h.1,h.2.symm⟩
def Adp (L : List Ino) : Nat → Int → Bool
 | 0,_ => false
 | n + 1,k => if k = 0 then true else if dirB L (Aaf L k).up then Adp L n (Aaf L k).up else false
theorem Aoi (L : List Ino) (n : Nat) (k : Int) : Adp L (n + 1) k = if k = 0 then true else if dirB L (Aaf L k).up then Adp L n (Aaf L k).up else false := rfl
def Agw (L : List Ino) (k : Int) : Bool := Adp L (L.length + 1) k
def Ayt (L : List Ino) (n0 : Nat) (w1 : World) (kv iv : Value) (wr : World) : Prop :=
 ∃ k i : Nat,k < L.length ∧ i ≤ L.length + 1 ∧ kv = .int .i64 k ∧ iv = .int .i64 i ∧ Hid (Adp L (L.length + 1) (n0 : Int) = Adp L (L.length + 1 - i) (k : Int)) ∧ Below w1.heap.size w1 wr
theorem Ans (a : Option Addr) (cap : Nat) (m b : Int) (L : List Ino) (hL : L.length ≤ 1000) (n : Nat) (hn : n < L.length) (w : World) (hN : Aah w a cap L) :
  Calls Tryz.prog 51 #[.agg #[.slice a L.length cap,.int .i64 m,.int .i64 b],.int .i64 n] w fun e w' => e = .returned (.bool (Agw L n)) ∧ Below w.heap.size w w' := by
 have hb1 := Aab w (.cells #[.slice a L.length cap,.int .i64 m,.int .i64 b] 24)
 obtain ⟨w1,hw1⟩ : ∃ w1,w1 = w.alloc (.cells #[.slice a L.length cap,.int .i64 m,.int .i64 b] 24) := ⟨_,rfl⟩
 have hM := hN.below hb1
 have hbox : ∀ W',Below w1.heap.size w1 W' → W'.cell? ⟨w.heap.size,0,none⟩ = some (.slice a L.length cap) ∧ W'.cell? ⟨w.heap.size,1,none⟩ = some (.int .i64 m) ∧ W'.cell? ⟨w.heap.size,2,none⟩ = some (.int .i64 b) := fun W' h => box3 (by rw [← hw1]; exact h)
 rw [← hw1] at hM hb1
 have HM := Hd hM
 have HX := Hd hbox
 have HB := Hd hb1
 clear hM hN hbox hb1
 unfold Agw
 go_enter Tryz.func51,Tryz.ntmps51
 go_wp2_with fail
 rw [← hw1]
 clear hw1
 go_loopw [1,5] (fun k i wr => Ayt L n w1 k i wr) (fun _ i _ => L.length + 1 - (intOf i).toNat)
 case atStart => exact ⟨n,0,hn,by omega,rfl,rfl,Hd rfl,Below.refl _ _⟩
 case round =>
  obtain ⟨k,i,hk,hi,rfl,rfl,hrest,hbr⟩ := hrel
  have HBR := Hd hbr
  obtain ⟨q0,q1,q2⟩ := HX.out _ hbr
  clear hbr
  by_cases hil : i ≤ L.length
  ·have hst : L.length + 1 - i = (L.length - i) + 1 := by omega
   have hsz := HBR.out.size
   by_cases hk0 : k = 0
   ·subst hk0
    have hfin := Hd (show Adp L (L.length + 1) (n : Int) = true by rw [hrest.out,hst]; rfl)
    go_wp2_with fail
    go_ret
    exact ⟨by rw [hfin.out]; rfl,HB.out.trans (HBR.out.mono HB.out.size)⟩
   ·obtain ⟨bb,o,rfl,hx⟩ := (HM.out.below HBR.out).2.2 k hk
    have h1 := hx.up
    have hu : Adp L (L.length + 1) (n : Int) = if dirB L L[k].up then Adp L (L.length - i) L[k].up else false := by
     rw [hrest.out,hst,Aoi,if_neg (by omega),Aad L k hk]
    cases ht : Aa4 L L[k].up with
    | false =>
     have HT := Hd ht
     have hfin := Hd (show Adp L (L.length + 1) (n : Int) = false by rw [hu,if_neg (by unfold dirB; rw [ht]; simp)])
     clear ht hu
     have hk1 : ((k : Int) == 0) = false := by simpa using hk0
     go_wp2_with (first | (go_at_call 49; refine (Abj _ _ _ _ _ _ _ HT.out _).mono ?_; rintro e w2 ⟨rfl,hb2⟩) | fail)
     go_ret
     exact ⟨by rw [hfin.out]; rfl,(HB.out.trans (HBR.out.mono HB.out.size)).trans (hb2.mono (Nat.le_trans HB.out.size hsz))⟩
    | true =>
     obtain ⟨u,hu1,hu2⟩ := Aa7 ht
     have HT := Hd ht
     obtain ⟨b',o',e1,hy⟩ := (HM.out.below HBR.out).2.2 u hu2
     have h2 := hy.kind
     obtain ⟨rfl,rfl⟩ : b' = bb ∧ o' = o := by simpa [eq_comm] using e1
     have hd : dirB L L[k].up = (L[u].kind == 2) := by unfold dirB; rw [ht,hu1,Aad L u hu2]; rfl
     rw [hd,hu1] at hu
     rw [hu1] at h1 HT
     have hk1 : ((k : Int) == 0) = false := by simpa using hk0
     have hu0 : (0 : Int) ≤ (u : Int) := by omega
     clear ht hd e1
     cases hz : (L[u].kind != 2) with
     | true =>
      have hfin := Hd (show Adp L (L.length + 1) (n : Int) = false by rw [hu,if_neg (by simpa [bne] using hz)])
      clear hu
      go_wp2_with (first | (go_at_call 49; refine (Abj _ _ _ _ _ _ _ HT.out _).mono ?_; rintro e w2 ⟨rfl,hb2⟩; obtain ⟨r0,r1,r2⟩ := HX.out _ (HBR.out.trans (hb2.mono hsz)); have h3 := Aaa hb2 h2) | fail)
      go_ret
      exact ⟨by rw [hfin.out]; rfl,(HB.out.trans (HBR.out.mono HB.out.size)).trans (hb2.mono (Nat.le_trans HB.out.size hsz))⟩
     | false =>
      have hnext := Hd (show Adp L (L.length + 1) (n : Int) = Adp L (L.length + 1 - (i + 1)) (u : Int) by rw [hu,if_pos (by simpa [bne] using hz)]; congr 1; omega)
      clear hu
      go_wp2_with (first | (go_at_call 49; refine (Abj _ _ _ _ _ _ _ HT.out _).mono ?_; rintro e w2 ⟨rfl,hb2⟩; obtain ⟨r0,r1,r2⟩ := HX.out _ (HBR.out.trans (hb2.mono hsz)); have h3 := Aaa hb2 h2) | fail)
      go_roundw
      case rel => exact ⟨u,i + 1,hu2,by omega,rfl,by go_num,hnext,HBR.out.trans (hb2.mono hsz)⟩
      case measure => simp [intOf] <;> omega
  ·have hfin := Hd (show Adp L (L.length + 1) (n : Int) = false by rw [hrest.out,show L.length + 1 - i = 0 by omega]; rfl)
   go_wp2_with fail
   go_ret
   exact ⟨by rw [hfin.out]; rfl,HB.out.trans (HBR.out.mono HB.out.size)⟩
end Go.Proofs.YtkdfbliiblojoaaGreatDoor
