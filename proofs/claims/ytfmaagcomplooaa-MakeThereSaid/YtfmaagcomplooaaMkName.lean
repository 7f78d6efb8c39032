/-
  path's Name, of the landed code.
-/
import Derived.Test.YtfmaagcomplooaaK4
namespace Go.Proofs.Ytfmaagcomplooaa
set_option maxRecDepth 100000
open Go Go.RowKit

theorem none_of (l : List UInt8) (c : UInt8) : decide (Lib.indexByte l c < 0) = l.all (fun x => x != c) := by
  induction l with
  | nil => rfl
  | cons b r ih =>
    have hge := Lib.indexByte_ge r c
    unfold Lib.indexByte
    by_cases hb : b = c
    · simp [hb]
    · have e1 : (b == c) = false := by simpa using hb
      rw [e1]
      simp only [List.all_cons, bne, e1, Bool.not_false, Bool.true_and]
      rw [show (r.all fun x => !(x == c)) = r.all (fun x => x != c) from rfl, ← ih]
      by_cases hr : Lib.indexByte r c = -1
      · simp [hr]
      · have : ¬ Lib.indexByte r c + 1 < 0 := by omega
        have h2 : ¬ Lib.indexByte r c < 0 := by omega
        simp [hr, this, h2]
theorem name_eq (l : List UInt8) : nameOkL l = (!l.isEmpty && decide (l.length ≤ 64) && !(l == [46]) && !(l == [46, 46]) && decide (Lib.indexByte l 47 < 0) && decide (Lib.indexByte l 0 < 0)) := by
  unfold nameOkL
  rw [none_of, none_of]
  have : l.all (fun c => c != 47 && c != 0) = (l.all (fun x => x != 47) && l.all (fun x => x != 0)) := by
    induction l with
    | nil => rfl
    | cons b r ih =>
      simp only [List.all_cons, ih]
      cases (b != 47) <;> cases (b != 0) <;> simp
  rw [this]
  cases (l.all fun x => x != 47) <;> cases (l.all fun x => x != 0) <;> simp

theorem ibyte_known (s : ByteArray) (c : Int) (i : Int) (h : Lib.indexByte s.data.toList c.toNat.toUInt8 = i) (w : World) :
    Calls Try.prog 30 #[.string s, .int .u8 c] w fun e w' => e = .returned (.int .i64 i) ∧ w = w' := by
  subst h
  exact ibyte_any s c w

set_option maxHeartbeats 2000000 in
theorem name_any (s : ByteArray) (w : World) : Calls Try.prog 63 #[.string s] w fun e w' => e = .returned (.bool (nameOkL s.data.toList)) ∧ w = w' := by
  have hlen := size_list s
  obtain ⟨i1, hi1⟩ : ∃ i, Lib.indexByte s.data.toList (47 : Int).toNat.toUInt8 = i := ⟨_, rfl⟩
  obtain ⟨i0, hi0⟩ : ∃ i, Lib.indexByte s.data.toList (0 : Int).toNat.toUInt8 = i := ⟨_, rfl⟩
  have hfin : nameOkL s.data.toList = (!s.toList.isEmpty && decide (s.size ≤ 64) && !(s.toList == [46]) && !(s.toList == [46, 46]) && decide (i1 < 0) && decide (i0 < 0)) := by
    rw [name_eq, hlen, ByteArray.toList_eq, ← hi1, ← hi0]
    rfl
  have H1 := Lib.hid hi1
  have H0 := Lib.hid hi0
  have HF := Lib.hid hfin
  clear hi1 hi0 hfin hlen
  cases he : s.toList.isEmpty <;> cases h1 : (s.toList == [46]) <;> cases h2 : (s.toList == [46, 46]) <;> by_cases h64 : s.size ≤ 64 <;> by_cases hn1 : i1 < 0 <;> by_cases hn0 : i0 < 0
  all_goals
    go_enter Try.func63, Try.ntmps63
    go_wp2_with (first | (go_at_call 30; refine (ibyte_known _ _ _ (by first | exact H1.out | exact H0.out) _).mono ?_; rintro e w' ⟨rfl, rfl⟩) | fail)
    go_ret
    exact ⟨by rw [HF.out, he, h1, h2]; simp [h64, hn1, hn0], rfl⟩
theorem lname_known (s : List UInt8) (v : Bool) (h : nameOkL s = v) (w : World) : Calls Try.prog 63 #[.string ⟨s.toArray⟩] w fun e w' => e = .returned (.bool v) ∧ w = w' := by
  subst h
  exact name_any ⟨s.toArray⟩ w
end Go.Proofs.Ytfmaagcomplooaa
