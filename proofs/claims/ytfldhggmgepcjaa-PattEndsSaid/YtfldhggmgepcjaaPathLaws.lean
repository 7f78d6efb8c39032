/-
  Plain laws on paths: a path's names, as lists of bytes. No program stands here.
-/
import Derived.WalkKit
namespace Go.Proofs.Ytfldhggmgepcjaa
set_option maxRecDepth 100000
open Go

/-- A path's names, cur being what has been read of the one at hand. -/
def partsGo (cur : List UInt8) : List UInt8 → List (List UInt8)
  | [] => if cur = [] then [] else [cur]
  | c :: r => if c = 47 then (if cur = [] then partsGo [] r else cur :: partsGo [] r) else partsGo (cur ++ [c]) r
def partsL (l : List UInt8) : List (List UInt8) := partsGo [] l

/-- A name as a value. -/
def strv (l : List UInt8) : Value := .string ⟨l.toArray⟩

theorem extract_list (s : ByteArray) (f k : Nat) : (s.extract f k).data.toList = (s.data.toList.take k).drop f := by
  rw [ByteArray.data_extract, Array.toList_extract]
  show List.take (k - f) (List.drop f s.data.toList) = _
  rw [List.drop_take]
theorem extract_val (s : ByteArray) (f k : Nat) : Value.string (s.extract f k) = strv ((s.data.toList.take k).drop f) := by
  unfold strv
  congr 1
  apply ByteArray.ext
  apply Array.ext'
  rw [extract_list]

/-- What holds at the loop's head: the names before are done. -/
def Cut (s : List UInt8) (k f : Nat) (D : List (List UInt8)) : Prop :=
  (k ≤ s.length ∧ f ≤ k ∧ partsL s = D ++ partsGo ((s.take k).drop f) (s.drop k)) ∨ (k = s.length + 1 ∧ partsL s = D)

theorem Cut.start (s : List UInt8) : Cut s 0 0 [] := Or.inl ⟨Nat.zero_le _, Nat.le_refl _, by simp [partsL]⟩

theorem take_more (s : List UInt8) (k f : Nat) (hk : k < s.length) (hf : f ≤ k) : (s.take (k + 1)).drop f = (s.take k).drop f ++ [s[k]] := by
  rw [List.take_succ_eq_append_getElem hk, List.drop_append_of_le_length (by simp; omega)]

theorem seg_empty (s : List UInt8) (k f : Nat) (hk : k ≤ s.length) (hf : f ≤ k) : (s.take k).drop f = [] ↔ f = k := by
  rw [← List.length_eq_zero_iff]
  simp
  omega

theorem Cut.goes (s : List UInt8) (k f : Nat) (D : List (List UInt8)) (h : Cut s k f D) (hk : k < s.length) (hc : s[k] ≠ 47) : Cut s (k + 1) f D := by
  rcases h with ⟨_, hf, h⟩ | ⟨e, _⟩
  · refine Or.inl ⟨by omega, by omega, ?_⟩
    rw [h, List.drop_eq_getElem_cons hk, take_more s k f hk hf]
    simp only [partsGo, if_neg hc]
  · omega
theorem Cut.blank (s : List UInt8) (k : Nat) (D : List (List UInt8)) (h : Cut s k k D) (hk : k < s.length) (hc : s[k] = 47) : Cut s (k + 1) (k + 1) D := by
  rcases h with ⟨hk', hf, h⟩ | ⟨e, _⟩
  · refine Or.inl ⟨by omega, by omega, ?_⟩
    have e0 := (seg_empty s k k hk' hf).2 rfl
    have e1 := (seg_empty s (k + 1) (k + 1) (by omega) (Nat.le_refl _)).2 rfl
    rw [h, List.drop_eq_getElem_cons hk, e0, e1]
    simp only [partsGo, if_pos hc, if_true]
  · omega
theorem Cut.ends (s : List UInt8) (k f : Nat) (D : List (List UInt8)) (h : Cut s k f D) (hk : k < s.length) (hc : s[k] = 47) (hf : f < k) : Cut s (k + 1) (k + 1) (D ++ [(s.take k).drop f]) := by
  rcases h with ⟨hk', hf', h⟩ | ⟨e, _⟩
  · refine Or.inl ⟨by omega, by omega, ?_⟩
    have e0 : ¬ (s.take k).drop f = [] := fun e => by have := (seg_empty s k f hk' hf').1 e; omega
    have e1 := (seg_empty s (k + 1) (k + 1) (by omega) (Nat.le_refl _)).2 rfl
    rw [h, List.drop_eq_getElem_cons hk, e1]
    simp only [partsGo, if_pos hc, if_neg e0, List.append_assoc, List.singleton_append]
  · omega
theorem Cut.last (s : List UInt8) (f : Nat) (D : List (List UInt8)) (h : Cut s s.length f D) (hf : f < s.length) : Cut s (s.length + 1) (s.length + 1) (D ++ [(s.take s.length).drop f]) := by
  rcases h with ⟨hk', hf', h⟩ | ⟨e, _⟩
  · refine Or.inr ⟨rfl, ?_⟩
    have e0 : ¬ (s.take s.length).drop f = [] := fun e => by have := (seg_empty s s.length f hk' hf').1 e; omega
    rw [h, List.drop_length]
    simp only [partsGo, if_neg e0]
  · omega
theorem Cut.over (s : List UInt8) (D : List (List UInt8)) (h : Cut s s.length s.length D) : Cut s (s.length + 1) (s.length + 1) D := by
  rcases h with ⟨hk', hf', h⟩ | ⟨e, _⟩
  · refine Or.inr ⟨rfl, ?_⟩
    have e0 := (seg_empty s s.length s.length hk' hf').2 rfl
    rw [h, List.drop_length, e0]
    simp [partsGo]
  · omega
theorem Cut.done (s : List UInt8) (f : Nat) (D : List (List UInt8)) (h : Cut s (s.length + 1) f D) : D = partsL s := by
  rcases h with ⟨hk, _, _⟩ | ⟨_, h⟩
  · omega
  · exact h.symm
theorem Cut.le (s : List UInt8) (k f : Nat) (D : List (List UInt8)) (h : Cut s k f D) (hk : k ≤ s.length) : f ≤ k := by
  rcases h with ⟨_, hf, _⟩ | ⟨e, _⟩
  · exact hf
  · omega
end Go.Proofs.Ytfldhggmgepcjaa
