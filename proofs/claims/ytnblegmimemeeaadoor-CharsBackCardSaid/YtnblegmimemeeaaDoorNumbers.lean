/-
  CharsNumbers and CharsBack, walked: true, of any text and any number.
-/
import Derived.Test.YtnblegmimemeeaaDoorAwake
import Derived.Test.YtnblegmimemeeaaDoorRNum
import Derived.Test.YtnblegmimemeeaaDoorRText
import Derived.Test.YtnblegmimemeeaaDoorBackLaws
namespace Go.Proofs.YtnblegmimemeeaaDoor
open Go Go.RowKit

set_option maxHeartbeats 1000000 in
theorem numbers_walk (s : ByteArray) (hs : s.size ≤ maxLen) (hlim : s.size ≤ 281474976710656) (n : Int) (h0 : -9223372036854775808 ≤ n) (h1 : n ≤ 9223372036854775807) (w : World) (hL : Laid w) :
    Calls Tryd.prog 4 #[.string s, .int .i64 n] w fun e w' => e = .returned (.bool true) ∧ Below w.heap.size w w' := by
  have HL := Lib.hid hL
  clear hL
  go_enter Tryd.func4, Tryd.ntmps4
  go_wp2_with fail
  refine (number_any s hlim _ HL.out).mono ?_
  rintro e w1 ⟨rfl, b1⟩
  have HL1 := Lib.hid (HL.out.below b1)
  go_wp2_with fail
  refine (rnum_any s _ hs).mono ?_
  rintro e w' ⟨rfl, rfl⟩
  go_wp2_with fail
  refine (text_any n h0 h1 _ HL1.out).mono ?_
  rintro e w2 ⟨rfl, b2⟩
  have HL2 := Lib.hid (HL1.out.below b2)
  go_wp2_with fail
  refine (rtext_any n h0 h1 _).mono ?_
  rintro e w3 ⟨rfl, b3⟩
  have HL3 := Lib.hid (HL2.out.below b3)
  go_wp2_with fail
  refine (awake_any _ HL3.out).mono ?_
  rintro e w4 ⟨rfl, b4⟩
  go_wp2_with fail
  go_ret
  have s1 := b1.size
  have s2 := b2.size
  have s3 := b3.size
  exact ⟨rfl, ((b1.trans (b2.mono s1)).trans (b3.mono (by omega))).trans (b4.mono (by omega))⟩

theorem cat_list (a b : ByteArray) : (a ++ b).data.toList = a.data.toList ++ b.data.toList := by
  rcases a with ⟨⟨x⟩⟩
  rcases b with ⟨⟨y⟩⟩
  rw [ByteArray.mk_append_mk]

/-- Number of a text whose reading is known. -/
theorem number_known (t : ByteArray) (l : List UInt8) (n : Int) (ht : t.data.toList = l) (hv : numV l = n ∧ numOk l = true) (hlen : l.length ≤ 1000) (w : World) (hL : Laid w) :
    Calls Tryd.prog 19 #[.string t] w fun e w' => e = .returned (.tuple #[.int .i64 n, .bool true]) ∧ Below w.heap.size w w' := by
  have e : t.size = l.length := by rw [← ht]; exact Array.length_toList.symm
  have h := number_any t (by omega) w hL
  rw [ht, hv.1, hv.2] at h
  exact h

set_option maxHeartbeats 1000000 in
theorem back_walk (n : Int) (h0 : -9223372036854775808 ≤ n) (h1 : n ≤ 9223372036854775807) (w : World) (hL : Laid w) :
    Calls Tryd.prog 5 #[.int .i64 n] w fun e w' => e = .returned (.bool true) ∧ Below w.heap.size w w' := by
  have HL := Lib.hid hL
  clear hL
  have hlen := Lib.itoa_length_le n h0 h1
  have HB := Lib.hid (back_int n h0 h1)
  obtain ⟨t, ht⟩ : ∃ t : ByteArray, t = ⟨(Lib.itoa n).toArray⟩ := ⟨_, rfl⟩
  have htl : t.data.toList = Lib.itoa n := by rw [ht]
  have hts : t.size = (Lib.itoa n).length := by rw [← htl]; exact Array.length_toList.symm
  have HT := Lib.hid htl
  have hz : t.size ≤ 21 := by omega
  have hp : 0 < t.size := by
    rw [hts]
    by_cases hn : n < 0
    · rw [Lib.itoa, if_pos hn]; simp
    · rw [Lib.itoa, if_neg hn]; exact List.length_pos_iff.2 (dec_ne _)
  have HTX := Lib.hid (fun W hW => (ht ▸ text_any n h0 h1 W hW : Calls Tryd.prog 21 #[.int .i64 n] W fun e w' => e = .returned (.string t) ∧ Below W.heap.size W w'))
  clear htl hts ht
  by_cases hn : n < 0
  · have HM := Lib.hid (back_minus n h0 hn)
    go_enter Tryd.func5, Tryd.ntmps5
    go_wp2_with fail
    refine (HTX.out _ HL.out).mono ?_
    rintro e w1 ⟨rfl, b1⟩
    have HL1 := Lib.hid (HL.out.below b1)
    go_wp2_with fail
    refine (number_known t _ n HT.out HB.out (by omega) _ HL1.out).mono ?_
    rintro e w2 ⟨rfl, b2⟩
    have HL2 := Lib.hid (HL1.out.below b2)
    go_wp2_with fail
    refine (number_known _ (45 :: 48 :: (Lib.itoa n).tail) n (by rw [cat_list, ext_tail, HT.out]; rfl) HM.out (by simp; omega) _ HL2.out).mono ?_
    rintro e w3 ⟨rfl, b3⟩
    have HL3 := Lib.hid (HL2.out.below b3)
    go_wp2_with fail
    refine (awake_any _ HL3.out).mono ?_
    rintro e w4 ⟨rfl, b4⟩
    go_wp2_with fail
    go_ret
    have s1 := b1.size
    have s2 := b2.size
    have s3 := b3.size
    exact ⟨rfl, ((b1.trans (b2.mono s1)).trans (b3.mono (by omega))).trans (b4.mono (by omega))⟩
  · have HM := Lib.hid (back_plus n h1 hn)
    go_enter Tryd.func5, Tryd.ntmps5
    go_wp2_with fail
    refine (HTX.out _ HL.out).mono ?_
    rintro e w1 ⟨rfl, b1⟩
    have HL1 := Lib.hid (HL.out.below b1)
    go_wp2_with fail
    refine (number_known t _ n HT.out HB.out (by omega) _ HL1.out).mono ?_
    rintro e w2 ⟨rfl, b2⟩
    have HL2 := Lib.hid (HL1.out.below b2)
    go_wp2_with fail
    refine (number_known _ (43 :: 48 :: 48 :: Lib.itoa n) n (by rw [cat_list, HT.out]; rfl) HM.out (by simp; omega) _ HL2.out).mono ?_
    rintro e w3 ⟨rfl, b3⟩
    have HL3 := Lib.hid (HL2.out.below b3)
    go_wp2_with fail
    refine (awake_any _ HL3.out).mono ?_
    rintro e w4 ⟨rfl, b4⟩
    go_wp2_with fail
    go_ret
    have s1 := b1.size
    have s2 := b2.size
    have s3 := b3.size
    exact ⟨rfl, ((b1.trans (b2.mono s1)).trans (b3.mono (by omega))).trans (b4.mono (by omega))⟩
end Go.Proofs.YtnblegmimemeeaaDoor
