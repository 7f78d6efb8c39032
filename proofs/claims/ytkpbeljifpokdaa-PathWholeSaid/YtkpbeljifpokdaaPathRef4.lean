/-
  The reference's Join.
-/
import Derived.Test.YtkpbeljifpokdaaPathRef3
namespace Go.Proofs.Ytkpbeljifpokdaa
open Go Go.RowKit

def joinP (a b : List UInt8) : List UInt8 := if a = [] ∨ wholeL b = true then b else if b = [] then a else if a.getLast? = some 47 then a ++ b else a ++ 47 :: b

theorem str_eta (s : ByteArray) (l : List UInt8) (h : s.data.toList = l) : Value.string s = .string ⟨l.toArray⟩ := by
  subst h
  rfl
theorem list_ne (s : ByteArray) (h : 0 < s.size) : s.data.toList ≠ [] := by
  intro e
  have := size_list s
  rw [e] at this
  simp at this
  omega
theorem last_byte (s : ByteArray) (h : 0 < s.size) : s.data.toList.getLast? = some (s[s.size - 1]'(by omega)) := by
  rw [List.getLast?_eq_getElem?, size_list, List.getElem?_eq_getElem (by rw [size_list]; omega)]
  rfl

theorem cat_two (a b : ByteArray) : (a ++ b).data.toList = a.data.toList ++ b.data.toList := by
  rcases a with ⟨⟨x⟩⟩
  rcases b with ⟨⟨y⟩⟩
  rw [ByteArray.mk_append_mk]

set_option maxHeartbeats 2000000 in
theorem rjoin_any (a b : ByteArray) (ha : a.size ≤ 1099511627776) (hb : b.size ≤ 1099511627776) (w : World) :
    Calls Try.prog 20 #[.string a, .string b] w fun e w' => e = .returned (.string ⟨(joinP a.data.toList b.data.toList).toArray⟩) ∧ w = w' := by
  by_cases ha0 : 0 < a.size
  · have hne := filled a ha0
    have hnl := list_ne a ha0
    cases hw : wholeL b.data.toList with
    | true =>
      have hfin : joinP a.data.toList b.data.toList = b.data.toList := by unfold joinP; rw [if_pos (Or.inr hw)]
      have HF := Lib.hid hfin
      have HW := Lib.hid hw
      clear hfin hw hnl
      go_enter Try.func20, Try.ntmps20
      go_wp2_with fail
      refine (rwhole_known _ _ HW.out _).mono ?_
      rintro e w' ⟨rfl, rfl⟩
      go_wp2_with fail
      go_ret
      exact ⟨by rw [HF.out]; rfl, rfl⟩
    | false =>
      by_cases hb0 : 0 < b.size
      · have hneb := filled b hb0
        cases hc : (((a[a.size - 1]'(by omega)).toNat : Int) == 47)
        all_goals
          have hfin : joinP a.data.toList b.data.toList = if ((a[a.size - 1]'(by omega)).toNat : Int) == 47 then a.data.toList ++ b.data.toList else a.data.toList ++ 47 :: b.data.toList := by
            unfold joinP
            rw [if_neg (by simp [hnl, hw]), if_neg (list_ne b hb0), last_byte a ha0]
            congr 1
            rw [Option.some.injEq, ← UInt8.toNat_inj, beq_iff_eq, eq_iff_iff]
            show _ = 47 ↔ _
            omega
          rw [hc] at hfin
          have HF := Lib.hid hfin
          have HW := Lib.hid hw
          have HN := Lib.hid hnl
          go_enter Try.func20, Try.ntmps20
          go_wp2_with fail
          refine (rwhole_known _ _ HW.out _).mono ?_
          rintro e w' ⟨rfl, rfl⟩
          go_wp2_with fail
          go_ret
          exact ⟨by rw [HF.out]; (first | exact congrArg Ending.returned (str_eta _ _ (cat_two a b)) | exact congrArg Ending.returned (str_eta _ _ (by rw [cat_two, cat_two, List.append_assoc]; rfl))), rfl⟩
      · have hb0' := bare b hb0
        have hfin : joinP a.data.toList b.data.toList = a.data.toList := by unfold joinP; rw [if_neg (by simp [hnl, hw]), if_pos (by rw [hb0'])]
        have HF := Lib.hid hfin
        have HW := Lib.hid hw
        clear hfin hw hnl hb0
        subst hb0'
        go_enter Try.func20, Try.ntmps20
        go_wp2_with fail
        refine (rwhole_known _ _ HW.out _).mono ?_
        rintro e w' ⟨rfl, rfl⟩
        go_wp2_with fail
        go_ret
        exact ⟨by rw [HF.out]; rfl, rfl⟩
  · obtain rfl := bare a ha0
    have hfin : joinP [] b.data.toList = b.data.toList := by unfold joinP; rw [if_pos (Or.inl rfl)]
    have HF := Lib.hid hfin
    clear hfin
    go_enter Try.func20, Try.ntmps20
    go_wp2_with fail
    go_ret
    exact ⟨congrArg Ending.returned (str_eta b _ HF.out.symm), rfl⟩
end Go.Proofs.Ytkpbeljifpokdaa
