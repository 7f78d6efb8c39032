/-
  strings.HasPrefix and strings.HasSuffix at a slash.
-/
import Derived.Test.YtgmmggdjcgemfaaCuts2
import Derived.Test.YtgmmggdjcgemfaaPathRef2
namespace Go.Proofs.Ytgmmggdjcgemfaa
open Go Go.RowKit

theorem str_eta (s : ByteArray) (l : List UInt8) (h : s.data.toList = l) : Value.string s = .string ⟨l.toArray⟩ := by
  subst h
  rfl
theorem list_ne (s : ByteArray) (h : 0 < s.size) : s.data.toList ≠ [] := by
  intro e
  have := size_list s
  rw [e] at this
  simp at this
  omega
theorem last_byte (s : ByteArray) (h : 0 < s.size) : s.data.toList.getLast? = some (s[s.size - 1]'(by omega)) := by
  rw [List.getLast?_eq_getElem?, size_list, List.getElem?_eq_getElem (by rw [size_list]; omega)]
  rfl
theorem cat_two (a b : ByteArray) : (a ++ b).data.toList = a.data.toList ++ b.data.toList := by
  rcases a with ⟨⟨x⟩⟩
  rcases b with ⟨⟨y⟩⟩
  rw [ByteArray.mk_append_mk]

theorem pre_eq (s : ByteArray) : ((s.extract 0 1).toList == [47]) = wholeL s.data.toList := by
  rw [ByteArray.toList_eq, extract_list]
  cases h : s.data.toList with
  | nil => rfl
  | cons c r =>
    simp only [wholeL, List.take_succ_cons, List.take_zero, List.drop_zero]
    by_cases hc : c = 47 <;> simp [hc]
def endL (l : List UInt8) : Bool := l.getLast? == some 47
theorem suf_eq (s : ByteArray) : ((s.extract (s.size - 1) s.size).toList == [47]) = endL s.data.toList := by
  rw [ByteArray.toList_eq, extract_list, ← size_list, List.take_length]
  unfold endL
  by_cases h : s.data.toList = []
  · rw [h]
    rfl
  · obtain ⟨L, x, hx⟩ : ∃ L x, s.data.toList = L ++ [x] := ⟨s.data.toList.dropLast, s.data.toList.getLast h, (List.dropLast_concat_getLast h).symm⟩
    rw [hx]
    simp only [List.length_append, List.length_cons, List.length_nil, Nat.zero_add, Nat.add_sub_cancel, List.drop_left, List.getLast?_concat]
    by_cases hc : x = 47 <;> simp [hc]

theorem none_pre (s : ByteArray) (h : ¬ 1 ≤ s.size) : wholeL s.data.toList = false := by
  have h0 : s.data.toList.length = 0 := by rw [size_list]; omega
  rw [List.length_eq_zero_iff.1 h0]
  rfl
theorem none_suf (s : ByteArray) (h : ¬ 1 ≤ s.size) : endL s.data.toList = false := by
  have h0 : s.data.toList.length = 0 := by rw [size_list]; omega
  rw [List.length_eq_zero_iff.1 h0]
  rfl

set_option maxHeartbeats 1000000 in
theorem litepre_any (s : ByteArray) (w : World) : Calls Try.prog 49 #[.string s, .string ⟨#[47]⟩] w fun e w' => e = .returned (.bool (wholeL s.data.toList)) ∧ w = w' := by
  by_cases h : 1 ≤ s.size
  · rw [← pre_eq]
    go_enter Try.func49, Try.ntmps49
    go_wp2_with fail
    go_ret
    exact ⟨rfl, rfl⟩
  · rw [none_pre s h]
    obtain h0 : s.size = 0 := by omega
    go_enter Try.func49, Try.ntmps49
    go_wp2_with fail
    go_ret
    exact ⟨rfl, rfl⟩
set_option maxHeartbeats 1000000 in
theorem litesuf_any (s : ByteArray) (hs : s.size ≤ 1073741824) (w : World) : Calls Try.prog 40 #[.string s, .string ⟨#[47]⟩] w fun e w' => e = .returned (.bool (endL s.data.toList)) ∧ w = w' := by
  by_cases h : 1 ≤ s.size
  · rw [← suf_eq]
    go_enter Try.func40, Try.ntmps40
    go_wp2_with fail
    go_ret
    exact ⟨rfl, rfl⟩
  · rw [none_suf s h]
    obtain h0 : s.size = 0 := by omega
    go_enter Try.func40, Try.ntmps40
    go_wp2_with fail
    go_ret
    exact ⟨rfl, rfl⟩

set_option maxHeartbeats 1000000 in
theorem hassuf_known (s : ByteArray) (hs : s.size ≤ 1073741824) (b : Bool) (h : endL s.data.toList = b) (w : World) : Calls Try.prog 23 #[.string s, .string ⟨#[47]⟩] w fun e w' => e = .returned (.bool b) ∧ w = w' := by
  subst h
  go_enter Try.func23, Try.ntmps23
  go_wp2_with (go_at_call 40; refine (litesuf_any _ hs _).mono ?_; rintro e w' ⟨rfl, rfl⟩)
  go_ret
  exact ⟨rfl, rfl⟩
end Go.Proofs.Ytgmmggdjcgemfaa
