/-
  strings.IndexByte, strings.Index and strings.Cut at a text of one slash: what stands ahead of the first slash, and what behind it.
-/
import Derived.Test.YtgmmggdjcgemfaaPathRef
import Derived.Lib.Bytealg
import Derived.Lib.IndexLaws
import Derived.Lib.Strings
import Derived.Deep.Draws
import Derived.Laws.Strings3
namespace Go.Proofs.Ytgmmggdjcgemfaa
open Go Go.RowKit

/-- What stands ahead of the first slash; what stands behind it. -/
def headL : List UInt8 → List UInt8
  | [] => []
  | c :: r => if c = 47 then [] else c :: headL r
def tailL : List UInt8 → List UInt8
  | [] => []
  | c :: r => if c = 47 then r else tailL r

theorem tail_len : ∀ r : List UInt8, (tailL r).length ≤ r.length
  | [] => Nat.le_refl _
  | c :: r => by
    unfold tailL
    split
    · simp
    · have := tail_len r; simp only [List.length_cons]; omega
theorem tail_less (r : List UInt8) (h : r ≠ []) : (tailL r).length < r.length := by
  cases r with
  | nil => exact absurd rfl h
  | cons c r =>
    unfold tailL
    split
    · simp
    · have := tail_len r; simp only [List.length_cons]; omega
theorem head_len : ∀ r : List UInt8, (headL r).length ≤ r.length
  | [] => Nat.le_refl _
  | c :: r => by
    unfold headL
    split
    · simp
    · have := head_len r; simp only [List.length_cons]; omega

theorem go_step : ∀ (r cur : List UInt8), partsGo cur r = (if cur ++ headL r = [] then [] else [cur ++ headL r]) ++ partsL (tailL r)
  | [], cur => by simp [partsGo, headL, tailL, partsL]
  | c :: r, cur => by
    by_cases hc : c = 47
    · subst hc
      by_cases h : cur = []
      · simp [partsGo, headL, tailL, partsL, h]
      · simp [partsGo, headL, tailL, partsL, h]
    · have ih := go_step r (cur ++ [c])
      simp only [partsGo, headL, tailL, if_neg hc]
      rw [ih]
      simp
theorem parts_step (r : List UInt8) : partsL r = (if headL r = [] then [] else [headL r]) ++ partsL (tailL r) := go_step r []

theorem cut_none : ∀ (r : List UInt8), Lib.indexByte r 47 = -1 → headL r = r ∧ tailL r = []
  | [], _ => ⟨rfl, rfl⟩
  | c :: r, h => by
    have hn := Lib.indexByte_none h
    have hc : c ≠ 47 := fun e => hn 0 (by rw [e]; rfl)
    have hr : Lib.indexByte r 47 = -1 := by
      unfold Lib.indexByte at h
      rw [if_neg (by simpa using hc)] at h
      split at h
      · rename_i h1; simpa using h1
      · have := Lib.indexByte_ge r 47; omega
    have ih := cut_none r hr
    simp only [headL, tailL, if_neg hc]
    exact ⟨by rw [ih.1], ih.2⟩
theorem cut_at : ∀ (r : List UInt8) (i : Nat), Lib.indexByte r 47 = (i : Int) → i < r.length ∧ headL r = r.take i ∧ tailL r = r.drop (i + 1)
  | [], i, h => by
    simp only [Lib.indexByte] at h
    omega
  | c :: r, i, h => by
    unfold Lib.indexByte at h
    by_cases hc : c = 47
    · rw [if_pos (by simpa using hc)] at h
      obtain rfl : i = 0 := by omega
      simp [headL, tailL, hc]
    · rw [if_neg (by simpa using hc)] at h
      split at h
      · omega
      · rename_i hne
        have hge := Lib.indexByte_ge r 47
        have hne' : Lib.indexByte r 47 ≠ -1 := fun e => hne (by simpa using e)
        obtain ⟨j, rfl⟩ : ∃ j, i = j + 1 := ⟨i - 1, by omega⟩
        have ih := cut_at r j (by push_cast at h; omega)
        simp only [headL, tailL, if_neg hc]
        refine ⟨by simp only [List.length_cons]; omega, by rw [ih.2.1]; rfl, by rw [ih.2.2]; rfl⟩

theorem index_cases (r : List UInt8) : Lib.indexByte r 47 = -1 ∨ ∃ i : Nat, Lib.indexByte r 47 = (i : Int) := by
  have := Lib.indexByte_ge r 47
  by_cases h : Lib.indexByte r 47 = -1
  · exact Or.inl h
  · exact Or.inr ⟨(Lib.indexByte r 47).toNat, by omega⟩

set_option maxHeartbeats 1000000 in
theorem lite_any (s : ByteArray) (c : Int) (w : World) :
    Calls Try.prog 63 #[.string s, .int .u8 c] w fun e w' => e = .returned (.int .i64 (Lib.indexByte s.data.toList c.toNat.toUInt8)) ∧ w = w' := by
  go_enter Try.func63, Try.ntmps63
  go_wp2_with fail
  rw [run_callFunc_extern Try.func67 (by kernel_rfl) (by kernel_rfl) (by kernel_rfl) (e := Extern.BytealgIndexByte.indexByte) (by kernel_rfl), Lib.run_indexByteString]
  simp only [Result.andThen]
  rw [Oper.upon_value]
  go_wp2_with fail
  go_ret
  exact ⟨rfl, rfl⟩


set_option maxHeartbeats 1000000 in
theorem index_slash (s : ByteArray) (w : World) :
    Calls Try.prog 61 #[.string s, .string ⟨#[47]⟩] w fun e w' => e = .returned (.int .i64 (Lib.indexByte s.data.toList 47)) ∧ w = w' := by
  go_enter Try.func61, Try.ntmps61
  go_wp2_with (go_at_call 63; refine (lite_any _ _ _).mono ?_; rintro e w' ⟨rfl, rfl⟩)
  · rename_i h
    go_ret
    refine ⟨?_, rfl⟩
    have e : s.data.toList = [47] := by
      have h' := beq_iff_eq.1 h
      rw [ByteArray.toList_eq] at h'
      exact h'.symm
    rw [e]
    rfl
  · go_ret
    exact ⟨rfl, rfl⟩
end Go.Proofs.Ytgmmggdjcgemfaa
