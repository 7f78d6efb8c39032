/-
  path's Join and Name.
-/
import Derived.Test.YtkpbeljifpokdaaHas
namespace Go.Proofs.Ytkpbeljifpokdaa
open Go Go.RowKit

set_option maxHeartbeats 2000000 in
theorem join_any (a b : ByteArray) (ha : a.size ≤ 1073741824) (hb : b.size ≤ 1073741824) (w : World) :
    Calls Try.prog 19 #[.string a, .string b] w fun e w' => e = .returned (.string ⟨(joinP a.data.toList b.data.toList).toArray⟩) ∧ w = w' := by
  by_cases ha0 : 0 < a.size
  · have hne := filled a ha0
    have hnl := list_ne a ha0
    cases hw : wholeL b.data.toList with
    | true =>
      have hfin : joinP a.data.toList b.data.toList = b.data.toList := by unfold joinP; rw [if_pos (Or.inr hw)]
      have HF := Lib.hid hfin
      have HW := Lib.hid hw
      clear hfin hw hnl
      go_enter Try.func19, Try.ntmps19
      go_wp2_with (first | (go_at_call 31; refine (rooted_known _ _ HW.out _).mono ?_; rintro e w' ⟨rfl, rfl⟩) | fail)
      go_ret
      exact ⟨by rw [HF.out]; rfl, rfl⟩
    | false =>
      by_cases hb0 : 0 < b.size
      · have hneb := filled b hb0
        cases hc : endL a.data.toList
        all_goals
          have hfin : joinP a.data.toList b.data.toList = if endL a.data.toList then a.data.toList ++ b.data.toList else a.data.toList ++ 47 :: b.data.toList := by
            unfold joinP endL
            rw [if_neg (by simp [hnl, hw]), if_neg (list_ne b hb0)]
            simp only [beq_iff_eq]
          rw [hc] at hfin
          have HF := Lib.hid hfin
          have HW := Lib.hid hw
          have HN := Lib.hid hnl
          have HE := Lib.hid hc
          clear hfin hw hnl hc
          go_enter Try.func19, Try.ntmps19
          go_wp2_with (first | (go_at_call 31; refine (rooted_known _ _ HW.out _).mono ?_; rintro e w' ⟨rfl, rfl⟩) | (go_at_call 32; refine (hassuf_known _ ha _ HE.out _).mono ?_; rintro e w' ⟨rfl, rfl⟩) | fail)
          go_ret
          exact ⟨by rw [HF.out]; (first | exact congrArg Ending.returned (str_eta _ _ (cat_two a b)) | exact congrArg Ending.returned (str_eta _ _ (by rw [cat_two, cat_two, List.append_assoc]; rfl))), rfl⟩
      · have hb0' := bare b hb0
        have hfin : joinP a.data.toList b.data.toList = a.data.toList := by unfold joinP; rw [if_neg (by simp [hnl, hw]), if_pos (by rw [hb0'])]
        have HF := Lib.hid hfin
        have HW := Lib.hid hw
        clear hfin hw hnl hb0
        subst hb0'
        go_enter Try.func19, Try.ntmps19
        go_wp2_with (first | (go_at_call 31; refine (rooted_known _ _ HW.out _).mono ?_; rintro e w' ⟨rfl, rfl⟩) | fail)
        go_ret
        exact ⟨by rw [HF.out]; rfl, rfl⟩
  · obtain rfl := bare a ha0
    have hfin : joinP [] b.data.toList = b.data.toList := by unfold joinP; rw [if_pos (Or.inl rfl)]
    have HF := Lib.hid hfin
    clear hfin
    go_enter Try.func19, Try.ntmps19
    go_wp2_with fail
    go_ret
    exact ⟨congrArg Ending.returned (str_eta b _ HF.out.symm), rfl⟩

theorem none_of (l : List UInt8) (c : UInt8) : decide (Lib.indexByte l c < 0) = l.all (fun x => x != c) := by
  induction l with
  | nil => rfl
  | cons b r ih =>
    have hge := Lib.indexByte_ge r c
    unfold Lib.indexByte
    by_cases hb : b = c
    · simp [hb]
    · have e1 : (b == c) = false := by simpa using hb
      rw [e1]
      simp only [List.all_cons, bne, e1, Bool.not_false, Bool.true_and]
      rw [show (r.all fun x => !(x == c)) = r.all (fun x => x != c) from rfl, ← ih]
      by_cases hr : Lib.indexByte r c = -1
      · simp [hr]
      · have : ¬ Lib.indexByte r c + 1 < 0 := by omega
        have h2 : ¬ Lib.indexByte r c < 0 := by omega
        simp [hr, this, h2]
theorem name_eq (l : List UInt8) : nameOkL l = (!l.isEmpty && decide (l.length ≤ 64) && !(l == [46]) && !(l == [46, 46]) && decide (Lib.indexByte l 47 < 0) && decide (Lib.indexByte l 0 < 0)) := by
  unfold nameOkL
  rw [none_of, none_of]
  have : l.all (fun c => c != 47 && c != 0) = (l.all (fun x => x != 47) && l.all (fun x => x != 0)) := by
    induction l with
    | nil => rfl
    | cons b r ih =>
      simp only [List.all_cons, ih]
      cases (b != 47) <;> cases (b != 0) <;> simp
  rw [this]
  cases (l.all fun x => x != 47) <;> cases (l.all fun x => x != 0) <;> simp

theorem ibyte_known (s : ByteArray) (c : Int) (i : Int) (h : Lib.indexByte s.data.toList c.toNat.toUInt8 = i) (w : World) :
    Calls Try.prog 30 #[.string s, .int .u8 c] w fun e w' => e = .returned (.int .i64 i) ∧ w = w' := by
  subst h
  exact ibyte_any s c w

set_option maxHeartbeats 2000000 in
theorem name_any (s : ByteArray) (hs : s.size ≤ 1073741824) (w : World) : Calls Try.prog 17 #[.string s] w fun e w' => e = .returned (.bool (nameOkL s.data.toList)) ∧ w = w' := by
  have hlen := size_list s
  obtain ⟨i1, hi1⟩ : ∃ i, Lib.indexByte s.data.toList (47 : Int).toNat.toUInt8 = i := ⟨_, rfl⟩
  obtain ⟨i0, hi0⟩ : ∃ i, Lib.indexByte s.data.toList (0 : Int).toNat.toUInt8 = i := ⟨_, rfl⟩
  have hfin : nameOkL s.data.toList = (!s.toList.isEmpty && decide (s.size ≤ 64) && !(s.toList == [46]) && !(s.toList == [46, 46]) && decide (i1 < 0) && decide (i0 < 0)) := by
    rw [name_eq, hlen, ByteArray.toList_eq, ← hi1, ← hi0]
    rfl
  have H1 := Lib.hid hi1
  have H0 := Lib.hid hi0
  have HF := Lib.hid hfin
  clear hi1 hi0 hfin hlen
  cases he : s.toList.isEmpty <;> cases h1 : (s.toList == [46]) <;> cases h2 : (s.toList == [46, 46]) <;> by_cases h64 : s.size ≤ 64 <;> by_cases hn1 : i1 < 0 <;> by_cases hn0 : i0 < 0
  all_goals
    go_enter Try.func17, Try.ntmps17
    go_wp2_with (first | (go_at_call 30; refine (ibyte_known _ _ _ (by first | exact H1.out | exact H0.out) _).mono ?_; rintro e w' ⟨rfl, rfl⟩) | fail)
    go_ret
    exact ⟨by rw [HF.out, he, h1, h2]; simp [h64, hn1, hn0], rfl⟩
end Go.Proofs.Ytkpbeljifpokdaa
