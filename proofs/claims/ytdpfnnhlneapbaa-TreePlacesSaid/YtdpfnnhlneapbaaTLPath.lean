/-
  path's Join and Name of the landed code, where the program holds no more of package path than these two.
-/
import Derived.Test.YtdpfnnhlneapbaaPathRef2
import Derived.Lib.Bytealg
import Derived.Lib.IndexLaws
import Derived.Lib.Strings
import Derived.Deep.Draws
import Derived.Laws.Strings3
namespace Go.Proofs.Ytdpfnnhlneapbaa
open Go Go.RowKit

set_option maxHeartbeats 1000000 in
theorem lite_any (s : ByteArray) (c : Int) (w : World) :
    Calls Try.prog 69 #[.string s, .int .u8 c] w fun e w' => e = .returned (.int .i64 (Lib.indexByte s.data.toList c.toNat.toUInt8)) ∧ w = w' := by
  go_enter Try.func69, Try.ntmps69
  go_wp2_with fail
  rw [run_callFunc_extern Try.func74 (by kernel_rfl) (by kernel_rfl) (by kernel_rfl) (e := Extern.BytealgIndexByte.indexByte) (by kernel_rfl), Lib.run_indexByteString]
  simp only [Result.andThen]
  rw [Oper.upon_value]
  go_wp2_with fail
  go_ret
  exact ⟨rfl, rfl⟩

set_option maxHeartbeats 1000000 in
theorem ibyte_any (s : ByteArray) (c : Int) (w : World) :
    Calls Try.prog 62 #[.string s, .int .u8 c] w fun e w' => e = .returned (.int .i64 (Lib.indexByte s.data.toList c.toNat.toUInt8)) ∧ w = w' := by
  go_enter Try.func62, Try.ntmps62
  go_wp2_with fail
  refine (lite_any _ _ _).mono ?_
  rintro e w' ⟨rfl, rfl⟩
  go_wp2_with fail
  go_ret
  exact ⟨rfl, rfl⟩

def joinP (a b : List UInt8) : List UInt8 := if a = [] ∨ wholeL b = true then b else if b = [] then a else if a.getLast? = some 47 then a ++ b else a ++ 47 :: b

theorem str_eta (s : ByteArray) (l : List UInt8) (h : s.data.toList = l) : Value.string s = .string ⟨l.toArray⟩ := by
  subst h
  rfl
theorem list_ne (s : ByteArray) (h : 0 < s.size) : s.data.toList ≠ [] := by
  intro e
  have := size_list s
  rw [e] at this
  simp at this
  omega
theorem last_byte (s : ByteArray) (h : 0 < s.size) : s.data.toList.getLast? = some (s[s.size - 1]'(by omega)) := by
  rw [List.getLast?_eq_getElem?, size_list, List.getElem?_eq_getElem (by rw [size_list]; omega)]
  rfl

theorem cat_two (a b : ByteArray) : (a ++ b).data.toList = a.data.toList ++ b.data.toList := by
  rcases a with ⟨⟨x⟩⟩
  rcases b with ⟨⟨y⟩⟩
  rw [ByteArray.mk_append_mk]

theorem pre_eq (s : ByteArray) : ((s.extract 0 1).toList == [47]) = wholeL s.data.toList := by
  rw [ByteArray.toList_eq, extract_list]
  cases h : s.data.toList with
  | nil => rfl
  | cons c r =>
    simp only [wholeL, List.take_succ_cons, List.take_zero, List.drop_zero]
    by_cases hc : c = 47 <;> simp [hc]
def endL (l : List UInt8) : Bool := l.getLast? == some 47
theorem suf_eq (s : ByteArray) : ((s.extract (s.size - 1) s.size).toList == [47]) = endL s.data.toList := by
  rw [ByteArray.toList_eq, extract_list, ← size_list, List.take_length]
  unfold endL
  by_cases h : s.data.toList = []
  · rw [h]
    rfl
  · obtain ⟨L, x, hx⟩ : ∃ L x, s.data.toList = L ++ [x] := ⟨s.data.toList.dropLast, s.data.toList.getLast h, (List.dropLast_concat_getLast h).symm⟩
    rw [hx]
    simp only [List.length_append, List.length_cons, List.length_nil, Nat.zero_add, Nat.add_sub_cancel, List.drop_left, List.getLast?_concat]
    by_cases hc : x = 47 <;> simp [hc]

theorem none_pre (s : ByteArray) (h : ¬ 1 ≤ s.size) : wholeL s.data.toList = false := by
  have h0 : s.data.toList.length = 0 := by rw [size_list]; omega
  rw [List.length_eq_zero_iff.1 h0]
  rfl
theorem none_suf (s : ByteArray) (h : ¬ 1 ≤ s.size) : endL s.data.toList = false := by
  have h0 : s.data.toList.length = 0 := by rw [size_list]; omega
  rw [List.length_eq_zero_iff.1 h0]
  rfl

set_option maxHeartbeats 1000000 in
theorem litepre_any (s : ByteArray) (w : World) : Calls Try.prog 75 #[.string s, .string ⟨#[47]⟩] w fun e w' => e = .returned (.bool (wholeL s.data.toList)) ∧ w = w' := by
  by_cases h : 1 ≤ s.size
  · rw [← pre_eq]
    go_enter Try.func75, Try.ntmps75
    go_wp2_with fail
    go_ret
    exact ⟨rfl, rfl⟩
  · rw [none_pre s h]
    obtain h0 : s.size = 0 := by omega
    go_enter Try.func75, Try.ntmps75
    go_wp2_with fail
    go_ret
    exact ⟨rfl, rfl⟩
set_option maxHeartbeats 1000000 in
theorem litesuf_any (s : ByteArray) (hs : s.size ≤ 1073741824) (w : World) : Calls Try.prog 73 #[.string s, .string ⟨#[47]⟩] w fun e w' => e = .returned (.bool (endL s.data.toList)) ∧ w = w' := by
  by_cases h : 1 ≤ s.size
  · rw [← suf_eq]
    go_enter Try.func73, Try.ntmps73
    go_wp2_with fail
    go_ret
    exact ⟨rfl, rfl⟩
  · rw [none_suf s h]
    obtain h0 : s.size = 0 := by omega
    go_enter Try.func73, Try.ntmps73
    go_wp2_with fail
    go_ret
    exact ⟨rfl, rfl⟩

set_option maxHeartbeats 1000000 in
theorem rooted_any (s : ByteArray) (w : World) : Calls Try.prog 67 #[.string s] w fun e w' => e = .returned (.bool (wholeL s.data.toList)) ∧ w = w' := by
  go_enter Try.func67, Try.ntmps67
  go_wp2_with (first | (go_at_call 75; refine (litepre_any _ _).mono ?_; rintro e w' ⟨rfl, rfl⟩) | go_in)
  go_ret
  exact ⟨rfl, rfl⟩
theorem rooted_known (s : ByteArray) (b : Bool) (h : wholeL s.data.toList = b) (w : World) : Calls Try.prog 67 #[.string s] w fun e w' => e = .returned (.bool b) ∧ w = w' := by
  subst h
  exact rooted_any s w

set_option maxHeartbeats 1000000 in
theorem hassuf_known (s : ByteArray) (hs : s.size ≤ 1073741824) (b : Bool) (h : endL s.data.toList = b) (w : World) : Calls Try.prog 68 #[.string s, .string ⟨#[47]⟩] w fun e w' => e = .returned (.bool b) ∧ w = w' := by
  subst h
  go_enter Try.func68, Try.ntmps68
  go_wp2_with (go_at_call 73; refine (litesuf_any _ hs _).mono ?_; rintro e w' ⟨rfl, rfl⟩)
  go_ret
  exact ⟨rfl, rfl⟩

set_option maxHeartbeats 2000000 in
theorem join_any (a b : ByteArray) (ha : a.size ≤ 1073741824) (hb : b.size ≤ 1073741824) (w : World) :
    Calls Try.prog 61 #[.string a, .string b] w fun e w' => e = .returned (.string ⟨(joinP a.data.toList b.data.toList).toArray⟩) ∧ w = w' := by
  by_cases ha0 : 0 < a.size
  · have hne := filled a ha0
    have hnl := list_ne a ha0
    cases hw : wholeL b.data.toList with
    | true =>
      have hfin : joinP a.data.toList b.data.toList = b.data.toList := by unfold joinP; rw [if_pos (Or.inr hw)]
      have HF := Lib.hid hfin
      have HW := Lib.hid hw
      clear hfin hw hnl
      go_enter Try.func61, Try.ntmps61
      go_wp2_with (first | (go_at_call 67; refine (rooted_known _ _ HW.out _).mono ?_; rintro e w' ⟨rfl, rfl⟩) | fail)
      go_ret
      exact ⟨by rw [HF.out]; rfl, rfl⟩
    | false =>
      by_cases hb0 : 0 < b.size
      · have hneb := filled b hb0
        cases hc : endL a.data.toList
        all_goals
          have hfin : joinP a.data.toList b.data.toList = if endL a.data.toList then a.data.toList ++ b.data.toList else a.data.toList ++ 47 :: b.data.toList := by
            unfold joinP endL
            rw [if_neg (by simp [hnl, hw]), if_neg (list_ne b hb0)]
            simp only [beq_iff_eq]
          rw [hc] at hfin
          have HF := Lib.hid hfin
          have HW := Lib.hid hw
          have HN := Lib.hid hnl
          have HE := Lib.hid hc
          clear hfin hw hnl hc
          go_enter Try.func61, Try.ntmps61
          go_wp2_with (first | (go_at_call 67; refine (rooted_known _ _ HW.out _).mono ?_; rintro e w' ⟨rfl, rfl⟩) | (go_at_call 68; refine (hassuf_known _ ha _ HE.out _).mono ?_; rintro e w' ⟨rfl, rfl⟩) | fail)
          go_ret
          exact ⟨by rw [HF.out]; (first | exact congrArg Ending.returned (str_eta _ _ (cat_two a b)) | exact congrArg Ending.returned (str_eta _ _ (by rw [cat_two, cat_two, List.append_assoc]; rfl))), rfl⟩
      · have hb0' := bare b hb0
        have hfin : joinP a.data.toList b.data.toList = a.data.toList := by unfold joinP; rw [if_neg (by simp [hnl, hw]), if_pos (by rw [hb0'])]
        have HF := Lib.hid hfin
        have HW := Lib.hid hw
        clear hfin hw hnl hb0
        subst hb0'
        go_enter Try.func61, Try.ntmps61
        go_wp2_with (first | (go_at_call 67; refine (rooted_known _ _ HW.out _).mono ?_; rintro e w' ⟨rfl, rfl⟩) | fail)
        go_ret
        exact ⟨by rw [HF.out]; rfl, rfl⟩
  · obtain rfl := bare a ha0
    have hfin : joinP [] b.data.toList = b.data.toList := by unfold joinP; rw [if_pos (Or.inl rfl)]
    have HF := Lib.hid hfin
    clear hfin
    go_enter Try.func61, Try.ntmps61
    go_wp2_with fail
    go_ret
    exact ⟨congrArg Ending.returned (str_eta b _ HF.out.symm), rfl⟩

theorem none_of (l : List UInt8) (c : UInt8) : decide (Lib.indexByte l c < 0) = l.all (fun x => x != c) := by
  induction l with
  | nil => rfl
  | cons b r ih =>
    have hge := Lib.indexByte_ge r c
    unfold Lib.indexByte
    by_cases hb : b = c
    · simp [hb]
    · have e1 : (b == c) = false := by simpa using hb
      rw [e1]
      simp only [List.all_cons, bne, e1, Bool.not_false, Bool.true_and]
      rw [show (r.all fun x => !(x == c)) = r.all (fun x => x != c) from rfl, ← ih]
      by_cases hr : Lib.indexByte r c = -1
      · simp [hr]
      · have : ¬ Lib.indexByte r c + 1 < 0 := by omega
        have h2 : ¬ Lib.indexByte r c < 0 := by omega
        simp [hr, this, h2]
theorem name_eq (l : List UInt8) : nameOkL l = (!l.isEmpty && decide (l.length ≤ 64) && !(l == [46]) && !(l == [46, 46]) && decide (Lib.indexByte l 47 < 0) && decide (Lib.indexByte l 0 < 0)) := by
  unfold nameOkL
  rw [none_of, none_of]
  have : l.all (fun c => c != 47 && c != 0) = (l.all (fun x => x != 47) && l.all (fun x => x != 0)) := by
    induction l with
    | nil => rfl
    | cons b r ih =>
      simp only [List.all_cons, ih]
      cases (b != 47) <;> cases (b != 0) <;> simp
  rw [this]
  cases (l.all fun x => x != 47) <;> cases (l.all fun x => x != 0) <;> simp

theorem ibyte_known (s : ByteArray) (c : Int) (i : Int) (h : Lib.indexByte s.data.toList c.toNat.toUInt8 = i) (w : World) :
    Calls Try.prog 62 #[.string s, .int .u8 c] w fun e w' => e = .returned (.int .i64 i) ∧ w = w' := by
  subst h
  exact ibyte_any s c w

set_option maxHeartbeats 2000000 in
theorem name_any (s : ByteArray) (hs : s.size ≤ 4611686018427387904) (w : World) : Calls Try.prog 63 #[.string s] w fun e w' => e = .returned (.bool (nameOkL s.data.toList)) ∧ w = w' := by
  have hlen := size_list s
  obtain ⟨i1, hi1⟩ : ∃ i, Lib.indexByte s.data.toList (47 : Int).toNat.toUInt8 = i := ⟨_, rfl⟩
  obtain ⟨i0, hi0⟩ : ∃ i, Lib.indexByte s.data.toList (0 : Int).toNat.toUInt8 = i := ⟨_, rfl⟩
  have hfin : nameOkL s.data.toList = (!s.toList.isEmpty && decide (s.size ≤ 64) && !(s.toList == [46]) && !(s.toList == [46, 46]) && decide (i1 < 0) && decide (i0 < 0)) := by
    rw [name_eq, hlen, ByteArray.toList_eq, ← hi1, ← hi0]
    rfl
  have H1 := Lib.hid hi1
  have H0 := Lib.hid hi0
  have HF := Lib.hid hfin
  clear hi1 hi0 hfin hlen
  cases he : s.toList.isEmpty <;> cases h1 : (s.toList == [46]) <;> cases h2 : (s.toList == [46, 46]) <;> by_cases h64 : s.size ≤ 64 <;> by_cases hn1 : i1 < 0 <;> by_cases hn0 : i0 < 0
  all_goals
    go_enter Try.func63, Try.ntmps63
    go_wp2_with (first | (go_at_call 62; refine (ibyte_known _ _ _ (by first | exact H1.out | exact H0.out) _).mono ?_; rintro e w' ⟨rfl, rfl⟩) | fail)
    go_ret
    exact ⟨by rw [HF.out, he, h1, h2]; simp [h64, hn1, hn0], rfl⟩
end Go.Proofs.Ytdpfnnhlneapbaa
