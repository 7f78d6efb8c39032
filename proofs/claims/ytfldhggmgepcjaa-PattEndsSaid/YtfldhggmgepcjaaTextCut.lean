/-
  Parts of a text, as the walk slices them.
-/
import Derived.Test.YtfldhggmgepcjaaPathLaws
import Derived.Test.YtfldhggmgepcjaaProg
namespace Go.Proofs.Ytfldhggmgepcjaa
set_option maxRecDepth 100000
open Go Go.RowKit

theorem take_min (l : List UInt8) (n : Nat) : l.take (min n l.length) = l.take n := by
  rw [List.take_eq_take_iff]
  omega
theorem drop_min (l : List UInt8) (n : Nat) : l.drop (min n l.length) = l.drop n := by
  by_cases h : n ≤ l.length
  · rw [Nat.min_eq_left h]
  · rw [Nat.min_eq_right (by omega), List.drop_of_length_le (Nat.le_refl _), List.drop_of_length_le (by omega)]
/-- A part of a text, as a text. -/
theorem cut_text (s : ByteArray) (f k : Nat) (d : List UInt8) (h : (s.data.toList.take k).drop f = d) : s.extract f k = ⟨d.toArray⟩ := by
  apply ByteArray.ext
  apply Array.ext'
  rw [extract_list, h]
theorem slice_lo (s : ByteArray) (z : Int) (n : Nat) (hz : z = (n : Int)) (hn : n ≤ s.size) (W : World) : (Instr.slice 9 (.string s) (some (.int .i64 z)) none none).run Try.prog W = .ok (.string ⟨(s.data.toList.drop n).toArray⟩) W := by
  subst hz
  have h := run_slice_string_l (P := Try.prog) W 9 s Try.underlying9 .i64 (n : Int) (by omega) (by omega)
  rw [Int.toNat_natCast, cut_text s n s.size (s.data.toList.drop n) (by rw [List.take_of_length_le (by rw [Array.length_toList]; exact Nat.le_refl _)])] at h
  exact h
theorem slice_hi (s : ByteArray) (z : Int) (n : Nat) (hz : z = (n : Int)) (hn : n ≤ s.size) (W : World) : (Instr.slice 9 (.string s) none (some (.int .i64 z)) none).run Try.prog W = .ok (.string ⟨(s.data.toList.take n).toArray⟩) W := by
  subst hz
  have h := run_slice_string_h (P := Try.prog) W 9 s Try.underlying9 .i64 (n : Int) (by omega) (by omega)
  rw [Int.toNat_natCast, cut_text s 0 n (s.data.toList.take n) (by rw [List.drop_zero])] at h
  exact h
theorem text_nil {s : ByteArray} (h : s.data.toList = []) : s = ⟨#[]⟩ := by
  cases s with
  | mk d => simp at h; rw [h]
end Go.Proofs.Ytfldhggmgepcjaa
