/-
  Plain laws on paths: a path's names, as lists of bytes. No program stands here.
  The reference's Parts: a path's names, in a row of its own.
-/
import Derived.WalkKit
import Derived.Lib.Hide
import Derived.Maps.AppendAt
import Derived.Test.YtclhpedecimicaaGreatProg
namespace Go.Proofs.YtclhpedecimicaaGreat
set_option maxRecDepth 100000
open Go

/-- A path's names, cur being what has been read of the one at hand. -/
def partsGo (cur : List UInt8) : List UInt8 → List (List UInt8)
  | [] => if cur = [] then [] else [cur]
  | c :: r => if c = 47 then (if cur = [] then partsGo [] r else cur :: partsGo [] r) else partsGo (cur ++ [c]) r
def partsL (l : List UInt8) : List (List UInt8) := partsGo [] l

/-- A name as a value. -/
def strv (l : List UInt8) : Value := .string ⟨l.toArray⟩

theorem extract_list (s : ByteArray) (f k : Nat) : (s.extract f k).data.toList = (s.data.toList.take k).drop f := by
  rw [ByteArray.data_extract, Array.toList_extract]
  show List.take (k - f) (List.drop f s.data.toList) = _
  rw [List.drop_take]
theorem extract_val (s : ByteArray) (f k : Nat) : Value.string (s.extract f k) = strv ((s.data.toList.take k).drop f) := by
  unfold strv
  congr 1
  apply ByteArray.ext
  apply Array.ext'
  rw [extract_list]

/-- What holds at the loop's head: the names before are done. -/
def Cut (s : List UInt8) (k f : Nat) (D : List (List UInt8)) : Prop :=
  (k ≤ s.length ∧ f ≤ k ∧ partsL s = D ++ partsGo ((s.take k).drop f) (s.drop k)) ∨ (k = s.length + 1 ∧ partsL s = D)

theorem Cut.start (s : List UInt8) : Cut s 0 0 [] := Or.inl ⟨Nat.zero_le _, Nat.le_refl _, by simp [partsL]⟩

theorem take_more (s : List UInt8) (k f : Nat) (hk : k < s.length) (hf : f ≤ k) : (s.take (k + 1)).drop f = (s.take k).drop f ++ [s[k]] := by
  rw [List.take_succ_eq_append_getElem hk, List.drop_append_of_le_length (by simp; omega)]

theorem seg_empty (s : List UInt8) (k f : Nat) (hk : k ≤ s.length) (hf : f ≤ k) : (s.take k).drop f = [] ↔ f = k := by
  rw [← List.length_eq_zero_iff]
  simp
  omega

theorem Cut.goes (s : List UInt8) (k f : Nat) (D : List (List UInt8)) (h : Cut s k f D) (hk : k < s.length) (hc : s[k] ≠ 47) : Cut s (k + 1) f D := by
  rcases h with ⟨_, hf, h⟩ | ⟨e, _⟩
  · refine Or.inl ⟨by omega, by omega, ?_⟩
    rw [h, List.drop_eq_getElem_cons hk, take_more s k f hk hf]
    simp only [partsGo, if_neg hc]
  · omega
theorem Cut.blank (s : List UInt8) (k : Nat) (D : List (List UInt8)) (h : Cut s k k D) (hk : k < s.length) (hc : s[k] = 47) : Cut s (k + 1) (k + 1) D := by
  rcases h with ⟨hk', hf, h⟩ | ⟨e, _⟩
  · refine Or.inl ⟨by omega, by omega, ?_⟩
    have e0 := (seg_empty s k k hk' hf).2 rfl
    have e1 := (seg_empty s (k + 1) (k + 1) (by omega) (Nat.le_refl _)).2 rfl
    rw [h, List.drop_eq_getElem_cons hk, e0, e1]
    simp only [partsGo, if_pos hc, if_true]
  · omega
theorem Cut.ends (s : List UInt8) (k f : Nat) (D : List (List UInt8)) (h : Cut s k f D) (hk : k < s.length) (hc : s[k] = 47) (hf : f < k) : Cut s (k + 1) (k + 1) (D ++ [(s.take k).drop f]) := by
  rcases h with ⟨hk', hf', h⟩ | ⟨e, _⟩
  · refine Or.inl ⟨by omega, by omega, ?_⟩
    have e0 : ¬ (s.take k).drop f = [] := fun e => by have := (seg_empty s k f hk' hf').1 e; omega
    have e1 := (seg_empty s (k + 1) (k + 1) (by omega) (Nat.le_refl _)).2 rfl
    rw [h, List.drop_eq_getElem_cons hk, e1]
    simp only [partsGo, if_pos hc, if_neg e0, List.append_assoc, List.singleton_append]
  · omega
theorem Cut.last (s : List UInt8) (f : Nat) (D : List (List UInt8)) (h : Cut s s.length f D) (hf : f < s.length) : Cut s (s.length + 1) (s.length + 1) (D ++ [(s.take s.length).drop f]) := by
  rcases h with ⟨hk', hf', h⟩ | ⟨e, _⟩
  · refine Or.inr ⟨rfl, ?_⟩
    have e0 : ¬ (s.take s.length).drop f = [] := fun e => by have := (seg_empty s s.length f hk' hf').1 e; omega
    rw [h, List.drop_length]
    simp only [partsGo, if_neg e0]
  · omega
theorem Cut.over (s : List UInt8) (D : List (List UInt8)) (h : Cut s s.length s.length D) : Cut s (s.length + 1) (s.length + 1) D := by
  rcases h with ⟨hk', hf', h⟩ | ⟨e, _⟩
  · refine Or.inr ⟨rfl, ?_⟩
    have e0 := (seg_empty s s.length s.length hk' hf').2 rfl
    rw [h, List.drop_length, e0]
    simp [partsGo]
  · omega
theorem Cut.done (s : List UInt8) (f : Nat) (D : List (List UInt8)) (h : Cut s (s.length + 1) f D) : D = partsL s := by
  rcases h with ⟨hk, _, _⟩ | ⟨_, h⟩
  · omega
  · exact h.symm
theorem Cut.le (s : List UInt8) (k f : Nat) (D : List (List UInt8)) (h : Cut s k f D) (hk : k ≤ s.length) : f ≤ k := by
  rcases h with ⟨_, hf, _⟩ | ⟨e, _⟩
  · exact hf
  · omega
end Go.Proofs.YtclhpedecimicaaGreat

namespace Go.Proofs.YtclhpedecimicaaGreat
set_option maxRecDepth 100000
open Go Go.RowKit

theorem infoS : (Tryz.prog.info? 9).map (fun i => (i.zero, i.size, i.bytes)) = some (some (.string ByteArray.empty), 1, 16) := by kernel_rfl

/-- The slice v holds the texts L, in a row that lies from block B on. -/
def Texts (B : Nat) (w : World) (v : Value) (L : List (List UInt8)) : Prop := w.ownsRow B 9 1 v L.length (L.map strv)

theorem Texts.grow {B : Nat} {w' : World} {v' : Value} {L : List (List UInt8)} {x : List UInt8} (h : w'.ownsRow B 9 1 v' (L.length + 1) (L.map strv ++ [strv x])) : Texts B w' v' (L ++ [x]) := by
  unfold Texts
  rw [List.length_append, List.map_append]
  exact h
theorem slice_run (s : ByteArray) (f k : Nat) (h1 : f ≤ k) (h2 : k ≤ s.size) (W : World) :
    (Instr.slice 9 (.string s) (some (.int .i64 (f : Int))) (some (.int .i64 (k : Int))) none).run Tryz.prog W = .ok (.string (s.extract f k)) W := by
  have := run_slice_string (P := Tryz.prog) W 9 s .i64 .i64 (f : Int) (k : Int) Tryz.underlying9 (by omega) (by omega) (by omega)
  simpa using this

def NCut (s : ByteArray) (B : Nat) (w0 : World) (l f i : Value) (wr : World) : Prop :=
  ∃ k g : Nat, ∃ D : List (List UInt8), k ≤ s.size + 1 ∧ g ≤ s.size + 1 ∧ i = .int .i64 k ∧ f = .int .i64 g ∧ Cut s.data.toList k g D ∧ D.length ≤ k ∧ Texts B wr l D ∧ Below B w0 wr

theorem at_list (s : ByteArray) (k : Nat) (h : k < s.size) : s.data.toList[k]'(by simpa using h) = s[k] := rfl
theorem size_list (s : ByteArray) : s.data.toList.length = s.size := Array.length_toList

theorem cut_last (s : ByteArray) (g : Nat) (D : List (List UInt8)) (h : Cut s.data.toList s.size g D) (hg : g < s.size) : Cut s.data.toList (s.size + 1) (s.size + 1) (D ++ [(s.data.toList.take s.size).drop g]) := by
  rw [← size_list] at h hg ⊢
  exact Cut.last _ g D h hg
theorem cut_over (s : ByteArray) (D : List (List UInt8)) (h : Cut s.data.toList s.size s.size D) : Cut s.data.toList (s.size + 1) (s.size + 1) D := by
  rw [← size_list] at h ⊢
  exact Cut.over _ D h

set_option maxHeartbeats 2000000 in
theorem rparts_any (s : ByteArray) (hs : s.size ≤ 1073741824) (w : World) :
    Calls Tryz.prog 60 #[.string s] w fun e w' => ∃ v, e = .returned v ∧ Texts w.heap.size w' v (partsL s.data.toList) ∧ Below w.heap.size w w' := by
  obtain ⟨i0, hi, hz0, hz1, hz2⟩ := info_parts infoS
  go_enter Tryz.func60, Tryz.ntmps60
  go_wp2_with fail
  go_loopw [3, 4, 5] (fun l f i wr => NCut s w.heap.size w l f i wr) (fun _ _ i _ => s.size + 1 - (intOf i).toNat)
  case atStart => exact ⟨0, 0, [], by omega, by omega, rfl, rfl, Cut.start _, by simp, World.ownsRow_nil _ _ _ _, Below.refl _ _⟩
  case round =>
    obtain ⟨k, g, D, hk, hg, rfl, rfl, hcut, hD, hown, hb⟩ := hrel
    have HC := Lib.hid hcut
    have HO := Lib.hid (show wr.ownsRow w.heap.size 9 1 _ D.length (D.map strv) from hown)
    clear hcut hown
    by_cases hlt : k < s.size
    · cases hc : ((s[k].toNat : Int) != 47) with
      | true =>
        go_wp2_with fail
        go_roundw
        case rel => exact ⟨k + 1, g, D, by omega, hg, by go_num, rfl, Cut.goes _ _ _ _ HC.out (by rw [size_list]; exact hlt) (by rw [at_list s k hlt]; intro e; rw [e] at hc; simp at hc), by omega, HO.out, hb⟩
        case measure => simp [intOf] <;> omega
      | false =>
        have hc' : s[k] = 47 := by
          have h := bne_eq_false_iff_eq.1 hc
          exact UInt8.toNat_inj.1 (by show s[k].toNat = 47; omega)
        have HC' := Lib.hid hc'
        clear hc'
        by_cases hgk : g < k
        · have hr := slice_run s g k (by omega) (by omega)
          go_wp2_with (first | (at_builtin; (refine wpList_append_own _ rfl _ _ 29 rfl w.heap.size 9 i0 (.string ByteArray.empty) 1 16 Tryz.underlying29 hi hz0 hz1 hz2 rfl (by decide) _ _ _ rfl (HO.out.alloc _) ⟨wr.heap.size, 0, none⟩ 1 1 [.string (s.extract g k)] rfl rfl (cell_one_new _ _ _) (fun x hx => by simp at hx; subst hx; rfl) (by unfold maxLen; omega) (by omega) (by simp; exact Nat.le_succ_of_le hb.size) ?_); intro v' w3 hown' hgrow3 hnil3) | fail)
          have hT : Texts w.heap.size w3 v' (D ++ [(s.data.toList.take k).drop g]) := Texts.grow (by rw [← extract_val]; exact hown')
          have hb3 : Below w.heap.size w w3 := (hb.alloc hb.size _).grown hgrow3 (by simp; exact Nat.le_succ_of_le hb.size) (fun r hr' => (HO.out.lt r hr').1)
          have HT := Lib.hid hT
          have HB := Lib.hid hb3
          clear hT hb3 hown' hgrow3 hnil3
          go_wp2_with fail
          go_roundw
          case rel => exact ⟨k + 1, k + 1, D ++ [(s.data.toList.take k).drop g], by omega, by omega, by go_num, by go_num, Cut.ends _ _ _ _ HC.out (by rw [size_list]; exact hlt) (by rw [at_list s k hlt]; exact HC'.out) hgk, by simp; omega, HT.out, HB.out⟩
          case measure => simp [intOf] <;> omega
        · have hgk2 : g = k := by have := Cut.le _ _ _ _ HC.out (by rw [size_list]; omega); omega
          subst hgk2
          go_wp2_with fail
          go_roundw
          case rel => exact ⟨g + 1, g + 1, D, by omega, by omega, by go_num, by go_num, Cut.blank _ _ _ HC.out (by rw [size_list]; exact hlt) (by rw [at_list s g hlt]; exact HC'.out), by omega, HO.out, hb⟩
          case measure => simp [intOf] <;> omega
    · by_cases heq : k = s.size
      · subst heq
        by_cases hgk : g < s.size
        · have hr := slice_run s g s.size (by omega) (by omega)
          go_wp2_with (first | (at_builtin; (refine wpList_append_own _ rfl _ _ 29 rfl w.heap.size 9 i0 (.string ByteArray.empty) 1 16 Tryz.underlying29 hi hz0 hz1 hz2 rfl (by decide) _ _ _ rfl (HO.out.alloc _) ⟨wr.heap.size, 0, none⟩ 1 1 [.string (s.extract g s.size)] rfl rfl (cell_one_new _ _ _) (fun x hx => by simp at hx; subst hx; rfl) (by unfold maxLen; omega) (by omega) (by simp; exact Nat.le_succ_of_le hb.size) ?_); intro v' w3 hown' hgrow3 hnil3) | fail)
          have hT : Texts w.heap.size w3 v' (D ++ [(s.data.toList.take s.size).drop g]) := Texts.grow (by rw [← extract_val]; exact hown')
          have hb3 : Below w.heap.size w w3 := (hb.alloc hb.size _).grown hgrow3 (by simp; exact Nat.le_succ_of_le hb.size) (fun r hr' => (HO.out.lt r hr').1)
          have HT := Lib.hid hT
          have HB := Lib.hid hb3
          clear hT hb3 hown' hgrow3 hnil3
          go_wp2_with fail
          go_roundw
          case rel => exact ⟨s.size + 1, s.size + 1, D ++ [(s.data.toList.take s.size).drop g], by omega, by omega, by go_num, by go_num, cut_last s g D HC.out hgk, by simp; omega, HT.out, HB.out⟩
          case measure => simp [intOf] <;> omega
        · have hgk2 : g = s.size := by have := Cut.le _ _ _ _ HC.out (by rw [size_list]; omega); omega
          subst hgk2
          go_wp2_with fail
          go_roundw
          case rel => exact ⟨s.size + 1, s.size + 1, D, by omega, by omega, by go_num, by go_num, cut_over s D HC.out, by omega, HO.out, hb⟩
          case measure => simp [intOf] <;> omega
      · have hk1 : k = s.size + 1 := by omega
        have hfin := Lib.hid (show D = partsL s.data.toList from Cut.done _ g D (by rw [size_list]; exact hk1 ▸ HC.out))
        go_wp2_with fail
        go_ret
        exact ⟨_, rfl, by rw [← hfin.out]; exact HO.out, hb⟩
end Go.Proofs.YtclhpedecimicaaGreat
