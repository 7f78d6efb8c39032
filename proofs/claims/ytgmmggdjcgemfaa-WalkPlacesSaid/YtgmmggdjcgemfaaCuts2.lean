/-
  strings.Cut at a text of one slash.
-/
import Derived.Test.YtgmmggdjcgemfaaCuts
import Derived.BigRegion
namespace Go.Proofs.Ytgmmggdjcgemfaa
open Go Go.RowKit

/-- A world that differs from another in how often order was drawn alone. -/
def Drawn (w w' : World) : Prop := ∃ n, w' = w.drewN n

theorem cut_strs (s : ByteArray) (i : Nat) (h : Lib.indexByte s.data.toList 47 = (i : Int)) :
    Value.string (s.extract 0 i) = .string ⟨(headL s.data.toList).toArray⟩ ∧ Value.string (s.extract (i + 1) s.size) = .string ⟨(tailL s.data.toList).toArray⟩ := by
  obtain ⟨_, h1, h2⟩ := cut_at _ _ h
  rw [extract_val, extract_val, h1, h2]
  refine ⟨rfl, ?_⟩
  unfold strv
  rw [List.take_of_length_le (by rw [size_list]; exact Nat.le_refl _)]

set_option maxRecDepth 100000 in
set_option maxHeartbeats 2000000 in
theorem litecut_any (s : ByteArray) (hs : s.size ≤ 1073741824) (w : World) :
    Calls Try.prog 59 #[.string s, .string ⟨#[47]⟩] w fun e w' => (∃ b, e = .returned (.tuple #[.string ⟨(headL s.data.toList).toArray⟩, .string ⟨(tailL s.data.toList).toArray⟩, .bool b])) ∧ Drawn w w' := by
  rcases index_cases s.data.toList with hix | ⟨i, hix⟩
  · obtain ⟨h1, h2⟩ := cut_none _ hix
    rw [h1, h2]
    have HI := Lib.hid hix
    clear hix h1 h2
    go_enter Try.func59, Try.ntmps59
    go_wp2_with (go_at_call 61; refine (index_slash _ _).mono ?_; rintro e w' ⟨rfl, rfl⟩; rw [HI.out])
    go_ret3
    exact ⟨⟨false, rfl⟩, 0, rfl⟩
  · obtain ⟨hi, -, -⟩ := cut_at _ _ hix
    rw [size_list] at hi
    obtain ⟨h1, h2⟩ := cut_strs s i hix
    rw [← h1, ← h2]
    have c1 : (0 : Int) ≤ ↑i := by omega
    have c2 : (↑i : Int) ≤ ↑s.size := by omega
    have c3 : (0 : Int) ≤ ↑i + 1 := by omega
    have c4 : (↑i + 1 : Int) ≤ ↑s.size := by omega
    have HI := Lib.hid hix
    clear hix h1 h2
    go_enter Try.func59, Try.ntmps59
    go_wp2_with (go_at_call 61; refine (index_slash _ _).mono ?_; rintro e w' ⟨rfl, rfl⟩; rw [HI.out])
    go_region
    go_wp2_with fail
    go_ret3
    exact ⟨⟨true, rfl⟩, 1, rfl⟩

set_option maxHeartbeats 1000000 in
theorem cut_any (s : ByteArray) (hs : s.size ≤ 1073741824) (w : World) :
    Calls Try.prog 54 #[.string s, .string ⟨#[47]⟩] w fun e w' => (∃ b, e = .returned (.tuple #[.string ⟨(headL s.data.toList).toArray⟩, .string ⟨(tailL s.data.toList).toArray⟩, .bool b])) ∧ Drawn w w' := by
  go_enter Try.func54, Try.ntmps54
  go_wp2_with (go_at_call 59; refine (litecut_any _ hs _).mono ?_; rintro e w' ⟨⟨b, rfl⟩, hd⟩)
  go_ret3
  exact ⟨⟨b, rfl⟩, hd⟩
end Go.Proofs.Ytgmmggdjcgemfaa
