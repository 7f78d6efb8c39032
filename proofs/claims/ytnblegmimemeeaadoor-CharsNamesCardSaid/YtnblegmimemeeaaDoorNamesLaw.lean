/-
  CharsNames, walked: true, of any text and any byte.
-/
import Derived.Test.YtnblegmimemeeaaDoorAwake
import Derived.Test.YtnblegmimemeeaaDoorDigits
namespace Go.Proofs.YtnblegmimemeeaaDoor
open Go Go.RowKit

theorem cat_bytes (a b : ByteArray) : (a ++ b).data.toList = a.data.toList ++ b.data.toList := by
  rcases a with ⟨⟨x⟩⟩
  rcases b with ⟨⟨y⟩⟩
  rw [ByteArray.mk_append_mk]

theorem cut_bytes (s : ByteArray) (k : Nat) : (s.extract 0 k).data.toList = s.data.toList.take k := by
  rw [ByteArray.data_extract, Array.toList_extract]
  show List.take (k - 0) (List.drop 0 s.data.toList) = _
  simp

theorem name_more (l : List UInt8) (c : UInt8) (h : nameB l = true) : nameB (l ++ [c]) = folB c := by
  cases l with
  | nil => simp [nameB] at h
  | cons d r =>
    simp only [nameB, Bool.and_eq_true] at h
    simp [nameB, h.1, h.2]
theorem name_less (l : List UInt8) (k : Nat) (hk : 1 ≤ k) (h : nameB l = true) : nameB (l.take k) = true := by
  cases l with
  | nil => simp [nameB] at h
  | cons d r =>
    obtain ⟨j, rfl⟩ : ∃ j, k = j + 1 := ⟨k - 1, by omega⟩
    simp only [nameB, Bool.and_eq_true] at h
    simp only [List.take_succ_cons, nameB, h.1, Bool.true_and]
    rw [List.all_eq_true] at h ⊢
    exact fun x hx => h.2 x (List.mem_of_mem_take hx)
theorem byte_back (n : Int) (h0 : 0 ≤ n) (h1 : n < 256) : ((UInt8.ofNat n.toNat).toNat : Int) = n := by
  rw [UInt8.toNat_ofNat']
  omega
/-- What may follow, of a byte n. -/
def fB (n : Int) : Bool := begB n || digB n
theorem fol_byte (n : Int) (h0 : 0 ≤ n) (h1 : n < 256) : folB (UInt8.ofNat n.toNat) = fB n := by
  unfold folB fB
  rw [byte_back n h0 h1]

/-- Name of a text of which it is known. -/
theorem name_known (t : ByteArray) (l : List UInt8) (b : Bool) (ht : t.data.toList = l) (hv : nameB l = b) (hs : l.length ≤ 281474976710657) (w : World) :
    Calls Tryd.prog 14 #[.string t] w fun e w' => e = .returned (.bool b) ∧ w = w' := by
  have e : t.size = l.length := by rw [← ht]; exact Array.length_toList.symm
  have h := name_any t w (by unfold maxLen; omega)
  rw [ht, hv] at h
  exact h

set_option maxHeartbeats 1000000 in
theorem names_walk (s : ByteArray) (hs : s.size ≤ 281474976710656) (n : Int) (h0 : 0 ≤ n) (h1 : n < 256) (w : World) (hL : Laid w) :
    Calls Tryd.prog 7 #[.string s, .int .u8 n] w fun e w' => e = .returned (.bool true) ∧ Below w.heap.size w w' := by
  have HL := Lib.hid hL
  clear hL
  have hm : s.data.toList.length ≤ 281474976710656 := by rw [Array.length_toList]; exact hs
  have HZ := Lib.hid hm
  clear hm
  cases hN : nameB s.data.toList with
  | false =>
    have HN := Lib.hid hN
    clear hN
    go_enter Tryd.func7, Tryd.ntmps7
    go_wp2_with fail
    refine (name_known s _ _ rfl HN.out (Nat.le_succ_of_le HZ.out) _).mono ?_
    rintro e w' ⟨rfl, rfl⟩
    go_wp2_with fail
    refine (awake_any _ HL.out).mono ?_
    rintro e w1 ⟨rfl, b1⟩
    go_wp2_with fail
    go_ret
    exact ⟨rfl, b1⟩
  | true =>
    have HM := Lib.hid ((name_more s.data.toList (UInt8.ofNat n.toNat) hN).trans (fol_byte n h0 h1))
    have HK := Lib.hid (fun (h2 : 2 ≤ s.size) => name_less s.data.toList (s.size - 1) (by omega) hN)
    have HN := Lib.hid hN
    clear hN
    have kc := one_byte
    have fin : ∀ W, Below w.heap.size w W → Hid (Laid W) := fun W hW => Lib.hid (HL.out.below hW)
    have FIN := Lib.hid fin
    clear fin
    cases hb : begB n <;> cases hd : digB n <;> by_cases h2 : s.size < 2
    all_goals
      have hf : fB n = (begB n || digB n) := rfl
      rw [hb, hd] at hf
      rw [hf] at HM
      clear hf
      go_enter Tryd.func7, Tryd.ntmps7
      go_wp2_with fail
      refine (name_known s _ _ rfl HN.out (Nat.le_succ_of_le HZ.out) _).mono ?_
      rintro e w' ⟨rfl, rfl⟩
      go_wp2_with fail
      refine (name_known _ _ _ (cat_bytes _ _) HM.out (by rw [List.length_append]; exact Nat.succ_le_succ HZ.out) _).mono ?_
      rintro e w' ⟨rfl, rfl⟩
      go_wp2_with (first
        | (go_at_call 10; refine (begins_any _ _).mono ?_; rintro e w' ⟨rfl, rfl⟩)
        | (go_at_call 8; refine (digit_any _ _).mono ?_; rintro e w' ⟨rfl, rfl⟩)
        | fail)
      try
        (refine (name_known _ _ _ (cut_bytes _ _) (HK.out (by omega)) (Nat.le_trans (List.length_take_le' _ _) (Nat.le_succ_of_le HZ.out)) _).mono ?_
         rintro e w' ⟨rfl, rfl⟩
         go_wp2_with fail)
      refine (awake_any _ (FIN.out _ ((Below.refl _ _).alloc (Nat.le_refl _) _)).out).mono ?_
      rintro e w1 ⟨rfl, b1⟩
      go_wp2_with fail
      go_ret
      exact ⟨rfl, ((Below.refl _ _).alloc (Nat.le_refl _) _).trans (b1.mono (by simp))⟩
end Go.Proofs.YtnblegmimemeeaaDoor
