/-
  strings.HasPrefix and strings.HasSuffix at a slash; path's rooted, root, Join and Name.
-/
import Derived.Test.YtkpbeljifpokdaaCuts2
import Derived.Test.YtkpbeljifpokdaaPathRef4
namespace Go.Proofs.Ytkpbeljifpokdaa
open Go Go.RowKit

theorem pre_eq (s : ByteArray) : ((s.extract 0 1).toList == [47]) = wholeL s.data.toList := by
  rw [ByteArray.toList_eq, extract_list]
  cases h : s.data.toList with
  | nil => rfl
  | cons c r =>
    simp only [wholeL, List.take_succ_cons, List.take_zero, List.drop_zero]
    by_cases hc : c = 47 <;> simp [hc]
def endL (l : List UInt8) : Bool := l.getLast? == some 47
theorem suf_eq (s : ByteArray) : ((s.extract (s.size - 1) s.size).toList == [47]) = endL s.data.toList := by
  rw [ByteArray.toList_eq, extract_list, ← size_list, List.take_length]
  unfold endL
  by_cases h : s.data.toList = []
  · rw [h]
    rfl
  · obtain ⟨L, x, hx⟩ : ∃ L x, s.data.toList = L ++ [x] := ⟨s.data.toList.dropLast, s.data.toList.getLast h, (List.dropLast_concat_getLast h).symm⟩
    rw [hx]
    simp only [List.length_append, List.length_cons, List.length_nil, Nat.zero_add, Nat.add_sub_cancel, List.drop_left, List.getLast?_concat]
    by_cases hc : x = 47 <;> simp [hc]

theorem none_pre (s : ByteArray) (h : ¬ 1 ≤ s.size) : wholeL s.data.toList = false := by
  have h0 : s.data.toList.length = 0 := by rw [size_list]; omega
  rw [List.length_eq_zero_iff.1 h0]
  rfl
theorem none_suf (s : ByteArray) (h : ¬ 1 ≤ s.size) : endL s.data.toList = false := by
  have h0 : s.data.toList.length = 0 := by rw [size_list]; omega
  rw [List.length_eq_zero_iff.1 h0]
  rfl

set_option maxHeartbeats 1000000 in
theorem litepre_any (s : ByteArray) (w : World) : Calls Try.prog 44 #[.string s, .string ⟨#[47]⟩] w fun e w' => e = .returned (.bool (wholeL s.data.toList)) ∧ w = w' := by
  by_cases h : 1 ≤ s.size
  · rw [← pre_eq]
    go_enter Try.func44, Try.ntmps44
    go_wp2_with fail
    go_ret
    exact ⟨rfl, rfl⟩
  · rw [none_pre s h]
    obtain h0 : s.size = 0 := by omega
    go_enter Try.func44, Try.ntmps44
    go_wp2_with fail
    go_ret
    exact ⟨rfl, rfl⟩
set_option maxHeartbeats 1000000 in
theorem litesuf_any (s : ByteArray) (hs : s.size ≤ 1073741824) (w : World) : Calls Try.prog 38 #[.string s, .string ⟨#[47]⟩] w fun e w' => e = .returned (.bool (endL s.data.toList)) ∧ w = w' := by
  by_cases h : 1 ≤ s.size
  · rw [← suf_eq]
    go_enter Try.func38, Try.ntmps38
    go_wp2_with fail
    go_ret
    exact ⟨rfl, rfl⟩
  · rw [none_suf s h]
    obtain h0 : s.size = 0 := by omega
    go_enter Try.func38, Try.ntmps38
    go_wp2_with fail
    go_ret
    exact ⟨rfl, rfl⟩

set_option maxHeartbeats 1000000 in
theorem rooted_any (s : ByteArray) (w : World) : Calls Try.prog 31 #[.string s] w fun e w' => e = .returned (.bool (wholeL s.data.toList)) ∧ w = w' := by
  go_enter Try.func31, Try.ntmps31
  go_wp2_with (first | (go_at_call 44; refine (litepre_any _ _).mono ?_; rintro e w' ⟨rfl, rfl⟩) | go_in)
  go_ret
  exact ⟨rfl, rfl⟩
theorem rooted_known (s : ByteArray) (b : Bool) (h : wholeL s.data.toList = b) (w : World) : Calls Try.prog 31 #[.string s] w fun e w' => e = .returned (.bool b) ∧ w = w' := by
  subst h
  exact rooted_any s w

def rootL (l : List UInt8) : List UInt8 := if wholeL l then [47] else []
set_option maxHeartbeats 1000000 in
theorem root_any (s : ByteArray) (w : World) : Calls Try.prog 24 #[.string s] w fun e w' => e = .returned (.string ⟨(rootL s.data.toList).toArray⟩) ∧ w = w' := by
  unfold rootL
  cases h : wholeL s.data.toList
  all_goals
    have H := Lib.hid h
    clear h
    go_enter Try.func24, Try.ntmps24
    go_wp2_with (go_at_call 31; refine (rooted_known _ _ H.out _).mono ?_; rintro e w' ⟨rfl, rfl⟩)
    go_ret
    exact ⟨rfl, rfl⟩

set_option maxHeartbeats 1000000 in
theorem hassuf_known (s : ByteArray) (hs : s.size ≤ 1073741824) (b : Bool) (h : endL s.data.toList = b) (w : World) : Calls Try.prog 32 #[.string s, .string ⟨#[47]⟩] w fun e w' => e = .returned (.bool b) ∧ w = w' := by
  subst h
  go_enter Try.func32, Try.ntmps32
  go_wp2_with (go_at_call 38; refine (litesuf_any _ hs _).mono ?_; rintro e w' ⟨rfl, rfl⟩)
  go_ret
  exact ⟨rfl, rfl⟩
end Go.Proofs.Ytkpbeljifpokdaa
