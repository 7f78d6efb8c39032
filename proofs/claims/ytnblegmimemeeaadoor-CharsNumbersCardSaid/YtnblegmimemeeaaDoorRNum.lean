/-
  The reference's Number: of each text it answers as the library's reading does.
-/
import Derived.Test.YtnblegmimemeeaaDoorNums
namespace Go.Proofs.YtnblegmimemeeaaDoor
open Go Go.RowKit

theorem drop_at (b : ByteArray) (k : Nat) (hlt : k < b.size) : b.data.toList.drop k = b[k] :: b.data.toList.drop (k + 1) :=
  List.drop_eq_getElem_cons (by simpa using hlt)
theorem mag_stop (b : ByteArray) (k : Nat) (hlt : k < b.size) (acc : Nat) (h : ¬ (48 ≤ b[k].toNat ∧ b[k].toNat ≤ 57)) : magR acc (b.data.toList.drop k) = none := by
  rw [drop_at b k hlt, magR, if_neg h]
theorem mag_over (b : ByteArray) (k : Nat) (hlt : k < b.size) (acc : Nat) (h1 : 48 ≤ b[k].toNat) (h2 : b[k].toNat ≤ 57) (h : 9223372036854775808 < acc * 10 + (b[k].toNat - 48)) : magR acc (b.data.toList.drop k) = none := by
  rw [drop_at b k hlt, magR, if_pos ⟨h1, h2⟩, if_pos h]
theorem mag_step (b : ByteArray) (k : Nat) (hlt : k < b.size) (acc : Nat) (h1 : 48 ≤ b[k].toNat) (h2 : b[k].toNat ≤ 57) (h : ¬ 9223372036854775808 < acc * 10 + (b[k].toNat - 48)) :
    magR acc (b.data.toList.drop k) = magR (acc * 10 + (b[k].toNat - 48)) (b.data.toList.drop (k + 1)) := by
  rw [drop_at b k hlt, magR, if_pos ⟨h1, h2⟩, if_neg h]

/-- How the call ends. -/
def endOf (p : Int × Bool) : Ending := .returned (.tuple #[.int .i64 p.1, .bool p.2])

theorem ext_tail (s : ByteArray) : (s.extract 1 s.size).data.toList = s.data.toList.tail := by
  rw [ByteArray.data_extract, Array.toList_extract]
  show List.take (s.size - 1) (List.drop 1 s.data.toList) = _
  rw [List.take_of_length_le (by rw [List.length_drop, Array.length_toList]; exact Nat.le_refl _), List.drop_one]

theorem body_sign (s : ByteArray) (h0 : 0 < s.size) (h : s[0].toNat = 43 ∨ s[0].toNat = 45) : bodyOf s.data.toList = (s.extract 1 s.size).data.toList := by
  rw [ext_tail]
  rcases s with ⟨⟨l⟩⟩
  cases l with
  | nil => exact absurd h0 (Nat.lt_irrefl 0)
  | cons c r =>
    have h' : c.toNat = 43 ∨ c.toNat = 45 := h
    simp [bodyOf, h']
theorem body_plain (s : ByteArray) (h0 : 0 < s.size) (h : ¬ (s[0].toNat = 43 ∨ s[0].toNat = 45)) : bodyOf s.data.toList = s.data.toList := by
  rcases s with ⟨⟨l⟩⟩
  cases l with
  | nil => exact absurd h0 (Nat.lt_irrefl 0)
  | cons c r =>
    have h' : ¬ (c.toNat = 43 ∨ c.toNat = 45) := h
    simp [bodyOf, h']

/-- The answer, of what the loop over the body comes to. -/
theorem res_of (s b : ByteArray) (h0 : 0 < s.size) (hb : bodyOf s.data.toList = b.data.toList) (hne : b.data.toList ≠ []) (neg : Bool) (hneg : neg = decide (s[0].toNat = 45)) (r : Option Nat) (hr : magR 0 b.data.toList = r) :
    endOf (numRes neg r) = .returned (.tuple #[.int .i64 (numV s.data.toList), .bool (numOk s.data.toList)]) := by
  subst hr
  rw [← hb] at hne ⊢
  rcases s with ⟨⟨l⟩⟩
  cases l with
  | nil => exact absurd h0 (Nat.lt_irrefl 0)
  | cons c r =>
    have h := num_res c r hne neg hneg
    show endOf (numRes neg (magR 0 (bodyOf (c :: r)))) = endOf (numV (c :: r), numOk (c :: r))
    rw [h]

theorem not_empty (b : ByteArray) (h : b.toList.isEmpty = false) : b.data.toList ≠ [] := by
  intro e
  rw [ByteArray.toList_eq, e] at h
  cases h
theorem is_empty (b : ByteArray) (h : b.toList.isEmpty = true) : b.data.toList = [] := by
  rw [ByteArray.toList_eq] at h
  simpa using h
theorem filled (s : ByteArray) (h0 : 0 < s.size) : s.toList.isEmpty = false := by
  rcases s with ⟨⟨l⟩⟩
  cases l with
  | nil => exact absurd h0 (Nat.lt_irrefl 0)
  | cons c r => rw [ByteArray.toList_eq]; rfl

theorem wrap_neg (acc : Int) (h0 : 0 ≤ acc) (h1 : acc ≤ 9223372036854775808) : wrap64 (IntKind.u64.wrap (-acc)) = -acc := by
  simp only [wrap64, IntKind.wrap, IntKind.signed, IntKind.bits]
  simp
  omega
theorem wrap_pos (acc : Int) (h0 : 0 ≤ acc) (h1 : acc ≤ 9223372036854775808) (h : ¬ acc = 9223372036854775808) : wrap64 acc = acc := by
  unfold wrap64
  omega
theorem res_neg (acc : Int) (h0 : 0 ≤ acc) (h1 : acc ≤ 9223372036854775808) : Ending.returned (.tuple #[.int .i64 (wrap64 (IntKind.u64.wrap (-acc))), .bool true]) = endOf (numRes true (some acc.toNat)) := by
  have e : (acc.toNat : Int) = acc := Int.toNat_of_nonneg h0
  rw [wrap_neg acc h0 h1]
  simp only [numRes, if_true, endOf, e]
theorem res_top (acc : Int) (h : (acc == 9223372036854775808) = true) : Ending.returned (.tuple #[.int .i64 0, .bool false]) = endOf (numRes false (some acc.toNat)) := by
  have e : acc = 9223372036854775808 := by simpa using h
  subst e
  rfl
theorem res_pos (acc : Int) (h0 : 0 ≤ acc) (h1 : acc ≤ 9223372036854775808) (h : (acc == 9223372036854775808) = false) : Ending.returned (.tuple #[.int .i64 (wrap64 acc), .bool true]) = endOf (numRes false (some acc.toNat)) := by
  have e : ¬ acc = 9223372036854775808 := by simpa using h
  have e1 : (acc.toNat : Int) = acc := Int.toNat_of_nonneg h0
  have e2 : ¬ acc.toNat = 9223372036854775808 := by omega
  rw [wrap_pos acc h0 h1 e]
  simp only [numRes, Bool.false_eq_true, if_false, endOf, e1, e2]

set_option maxHeartbeats 2000000 in
theorem rnum_minus (s : ByteArray) (w : World) (h0 : 0 < s.size) (hs : s.size ≤ maxLen) (h45 : ((s[0].toNat : Int) == 45) = true) :
    Calls Tryd.prog 20 #[.string s] w fun e w' => e = .returned (.tuple #[.int .i64 (numV s.data.toList), .bool (numOk s.data.toList)]) ∧ w = w' := by
  unfold maxLen at hs
  have hne := filled s h0
  cases hbe : (s.extract 1 s.size).toList.isEmpty with
  | true =>
    have hz := Lib.hid (num_empty s.data.toList ((body_sign s h0 (by simp at h45; omega)).trans (is_empty _ hbe)))
    rw [hz.out.1, hz.out.2]
    go_enter Tryd.func20, Tryd.ntmps20
    go_wp2_with fail
    go_ret2
    exact ⟨rfl, rfl⟩
  | false =>
    have HR := Lib.hid (fun r hr => res_of s (s.extract 1 s.size) h0 (body_sign s h0 (by simp at h45; omega)) (not_empty _ hbe) true (by simp at h45; exact (decide_eq_true (by omega)).symm) r hr)
    have hbs : (s.extract 1 s.size).size ≤ 9223372036854775807 := by rw [ByteArray.size_extract]; omega
    go_enter Tryd.func20, Tryd.ntmps20
    go_wp2_with fail
    generalize s.extract 1 s.size = b at HR hbs hbe ⊢
    clear hne hbe
    go_loop [5, 7, 8] (fun n i d => ∃ k : Nat, ∃ acc : Int, k ≤ b.size ∧ 0 ≤ acc ∧ acc ≤ 9223372036854775808 ∧ i = .int .i64 k ∧ n = .int .u64 acc ∧ Hid (magR 0 b.data.toList = magR acc.toNat (b.data.toList.drop k))) (fun _ i _ => b.size - (intOf i).toNat)
    case atStart => exact ⟨0, 0, by omega, by omega, by omega, rfl, rfl, by simp [Hid]⟩
    case round =>
      obtain ⟨k, acc, hk, ha0, ha1, rfl, rfl, hd⟩ := hrel
      by_cases hlt : k < b.size
      · cases hD : digB (b[k].toNat : Int) with
        | false =>
          have hfin := Lib.hid (HR.out none (by rw [hd.out]; exact mag_stop b k hlt acc.toNat (by simp [digB] at hD; omega)))
          go_wp2_with (go_at_call 9; refine (rdigit_any _ _).mono ?_; rintro e w' ⟨rfl, rfl⟩)
          go_ret2
          exact ⟨hfin.out, rfl⟩
        | true =>
          have hb1 : (48 : Int) ≤ (b[k].toNat : Int) := by simp [digB] at hD; omega
          have hb2 : (b[k].toNat : Int) ≤ 57 := by simp [digB] at hD; omega
          by_cases hov : (9223372036854775808 - ((b[k].toNat : Int) - 48)) / 10 < acc
          · have hfin := Lib.hid (HR.out none (by rw [hd.out]; exact mag_over b k hlt acc.toNat (by omega) (by omega) (by omega)))
            go_wp2_with (go_at_call 9; refine (rdigit_any _ _).mono ?_; rintro e w' ⟨rfl, rfl⟩)
            go_ret2
            exact ⟨hfin.out, rfl⟩
          · have HS := Lib.hid (mag_step b k hlt acc.toNat (by omega) (by omega) (by omega))
            go_wp2_with (go_at_call 9; refine (rdigit_any _ _).mono ?_; rintro e w' ⟨rfl, rfl⟩)
            go_round
            case rel => exact ⟨k + 1, acc * 10 + ((b[k].toNat : Int) - 48), by omega, by omega, by omega, by go_num, rfl, Lib.hid (by rw [hd.out, HS.out]; congr 1; omega)⟩
            case measure => simp [intOf]; omega
      · have hE := Lib.hid (show magR 0 b.data.toList = some acc.toNat by rw [hd.out, List.drop_eq_nil_of_le (by have e : b.data.toList.length = b.size := Array.length_toList; omega)]; rfl)
        have hfin := Lib.hid (HR.out _ hE.out)
        go_wp2_with fail
        go_ret2
        exact ⟨(res_neg acc ha0 ha1).trans hfin.out, rfl⟩

set_option maxHeartbeats 2000000 in
theorem rnum_plus (s : ByteArray) (w : World) (h0 : 0 < s.size) (hs : s.size ≤ maxLen) (h45 : ((s[0].toNat : Int) == 43) = true) (hn : ((s[0].toNat : Int) == 45) = false) :
    Calls Tryd.prog 20 #[.string s] w fun e w' => e = .returned (.tuple #[.int .i64 (numV s.data.toList), .bool (numOk s.data.toList)]) ∧ w = w' := by
  unfold maxLen at hs
  have hne := filled s h0
  cases hbe : (s.extract 1 s.size).toList.isEmpty with
  | true =>
    have hz := Lib.hid (num_empty s.data.toList ((body_sign s h0 (by simp at h45; omega)).trans (is_empty _ hbe)))
    rw [hz.out.1, hz.out.2]
    go_enter Tryd.func20, Tryd.ntmps20
    go_wp2_with fail
    go_ret2
    exact ⟨rfl, rfl⟩
  | false =>
    have HR := Lib.hid (fun r hr => res_of s (s.extract 1 s.size) h0 (body_sign s h0 (by simp at h45; omega)) (not_empty _ hbe) false (by simp at h45; exact (decide_eq_false (by omega)).symm) r hr)
    have hbs : (s.extract 1 s.size).size ≤ 9223372036854775807 := by rw [ByteArray.size_extract]; omega
    go_enter Tryd.func20, Tryd.ntmps20
    go_wp2_with fail
    generalize s.extract 1 s.size = b at HR hbs hbe ⊢
    clear hne hbe
    go_loop [5, 7, 8] (fun n i d => ∃ k : Nat, ∃ acc : Int, k ≤ b.size ∧ 0 ≤ acc ∧ acc ≤ 9223372036854775808 ∧ i = .int .i64 k ∧ n = .int .u64 acc ∧ Hid (magR 0 b.data.toList = magR acc.toNat (b.data.toList.drop k))) (fun _ i _ => b.size - (intOf i).toNat)
    case atStart => exact ⟨0, 0, by omega, by omega, by omega, rfl, rfl, by simp [Hid]⟩
    case round =>
      obtain ⟨k, acc, hk, ha0, ha1, rfl, rfl, hd⟩ := hrel
      by_cases hlt : k < b.size
      · cases hD : digB (b[k].toNat : Int) with
        | false =>
          have hfin := Lib.hid (HR.out none (by rw [hd.out]; exact mag_stop b k hlt acc.toNat (by simp [digB] at hD; omega)))
          go_wp2_with (go_at_call 9; refine (rdigit_any _ _).mono ?_; rintro e w' ⟨rfl, rfl⟩)
          go_ret2
          exact ⟨hfin.out, rfl⟩
        | true =>
          have hb1 : (48 : Int) ≤ (b[k].toNat : Int) := by simp [digB] at hD; omega
          have hb2 : (b[k].toNat : Int) ≤ 57 := by simp [digB] at hD; omega
          by_cases hov : (9223372036854775808 - ((b[k].toNat : Int) - 48)) / 10 < acc
          · have hfin := Lib.hid (HR.out none (by rw [hd.out]; exact mag_over b k hlt acc.toNat (by omega) (by omega) (by omega)))
            go_wp2_with (go_at_call 9; refine (rdigit_any _ _).mono ?_; rintro e w' ⟨rfl, rfl⟩)
            go_ret2
            exact ⟨hfin.out, rfl⟩
          · have HS := Lib.hid (mag_step b k hlt acc.toNat (by omega) (by omega) (by omega))
            go_wp2_with (go_at_call 9; refine (rdigit_any _ _).mono ?_; rintro e w' ⟨rfl, rfl⟩)
            go_round
            case rel => exact ⟨k + 1, acc * 10 + ((b[k].toNat : Int) - 48), by omega, by omega, by omega, by go_num, rfl, Lib.hid (by rw [hd.out, HS.out]; congr 1; omega)⟩
            case measure => simp [intOf]; omega
      · have hE := Lib.hid (show magR 0 b.data.toList = some acc.toNat by rw [hd.out, List.drop_eq_nil_of_le (by have e : b.data.toList.length = b.size := Array.length_toList; omega)]; rfl)
        have hfin := Lib.hid (HR.out _ hE.out)
        cases hq : (acc == 9223372036854775808) with
        | true =>
          go_wp2_with fail
          go_ret2
          exact ⟨(res_top acc hq).trans hfin.out, rfl⟩
        | false =>
          go_wp2_with fail
          go_ret2
          exact ⟨(res_pos acc ha0 ha1 hq).trans hfin.out, rfl⟩

set_option maxHeartbeats 2000000 in
theorem rnum_plain (s : ByteArray) (w : World) (h0 : 0 < s.size) (hs : s.size ≤ maxLen) (h45 : ((s[0].toNat : Int) == 45) = false) (h43 : ((s[0].toNat : Int) == 43) = false) :
    Calls Tryd.prog 20 #[.string s] w fun e w' => e = .returned (.tuple #[.int .i64 (numV s.data.toList), .bool (numOk s.data.toList)]) ∧ w = w' := by
  unfold maxLen at hs
  have hne := filled s h0
  have HR := Lib.hid (fun r hr => res_of s s h0 (body_plain s h0 (by simp at h45 h43; omega)) (not_empty _ hne) false (by simp at h45; exact (decide_eq_false (by omega)).symm) r hr)
  obtain ⟨b, hb⟩ : ∃ b, b = s := ⟨_, rfl⟩
  go_enter Tryd.func20, Tryd.ntmps20
  go_wp2_with fail
  clear hne h45 h43
  subst hb
  go_loop [5, 7, 8] (fun n i d => ∃ k : Nat, ∃ acc : Int, k ≤ b.size ∧ 0 ≤ acc ∧ acc ≤ 9223372036854775808 ∧ i = .int .i64 k ∧ n = .int .u64 acc ∧ Hid (magR 0 b.data.toList = magR acc.toNat (b.data.toList.drop k))) (fun _ i _ => b.size - (intOf i).toNat)
  case atStart => exact ⟨0, 0, by omega, by omega, by omega, rfl, rfl, by simp [Hid]⟩
  case round =>
    obtain ⟨k, acc, hk, ha0, ha1, rfl, rfl, hd⟩ := hrel
    by_cases hlt : k < b.size
    · cases hD : digB (b[k].toNat : Int) with
      | false =>
        have hfin := Lib.hid (HR.out none (by rw [hd.out]; exact mag_stop b k hlt acc.toNat (by simp [digB] at hD; omega)))
        go_wp2_with (go_at_call 9; refine (rdigit_any _ _).mono ?_; rintro e w' ⟨rfl, rfl⟩)
        go_ret2
        exact ⟨hfin.out, rfl⟩
      | true =>
        have hb1 : (48 : Int) ≤ (b[k].toNat : Int) := by simp [digB] at hD; omega
        have hb2 : (b[k].toNat : Int) ≤ 57 := by simp [digB] at hD; omega
        by_cases hov : (9223372036854775808 - ((b[k].toNat : Int) - 48)) / 10 < acc
        · have hfin := Lib.hid (HR.out none (by rw [hd.out]; exact mag_over b k hlt acc.toNat (by omega) (by omega) (by omega)))
          go_wp2_with (go_at_call 9; refine (rdigit_any _ _).mono ?_; rintro e w' ⟨rfl, rfl⟩)
          go_ret2
          exact ⟨hfin.out, rfl⟩
        · have HS := Lib.hid (mag_step b k hlt acc.toNat (by omega) (by omega) (by omega))
          go_wp2_with (go_at_call 9; refine (rdigit_any _ _).mono ?_; rintro e w' ⟨rfl, rfl⟩)
          go_round
          case rel => exact ⟨k + 1, acc * 10 + ((b[k].toNat : Int) - 48), by omega, by omega, by omega, by go_num, rfl, Lib.hid (by rw [hd.out, HS.out]; congr 1; omega)⟩
          case measure => simp [intOf]; omega
    · have hE := Lib.hid (show magR 0 b.data.toList = some acc.toNat by rw [hd.out, List.drop_eq_nil_of_le (by have e : b.data.toList.length = b.size := Array.length_toList; omega)]; rfl)
      have hfin := Lib.hid (HR.out _ hE.out)
      cases hq : (acc == 9223372036854775808) with
      | true =>
        go_wp2_with fail
        go_ret2
        exact ⟨(res_top acc hq).trans hfin.out, rfl⟩
      | false =>
        go_wp2_with fail
        go_ret2
        exact ⟨(res_pos acc ha0 ha1 hq).trans hfin.out, rfl⟩

theorem rnum_any (s : ByteArray) (w : World) (hs : s.size ≤ maxLen) :
    Calls Tryd.prog 20 #[.string s] w fun e w' => e = .returned (.tuple #[.int .i64 (numV s.data.toList), .bool (numOk s.data.toList)]) ∧ w = w' := by
  by_cases h0 : 0 < s.size
  · cases h45 : ((s[0].toNat : Int) == 45) with
    | true => exact rnum_minus s w h0 hs h45
    | false =>
      cases h43 : ((s[0].toNat : Int) == 43) with
      | true => exact rnum_plus s w h0 hs h43 h45
      | false => exact rnum_plain s w h0 hs h45 h43
  · rcases s with ⟨⟨l⟩⟩
    cases l with
    | nil =>
      have hz := num_empty [] rfl
      show Calls Tryd.prog 20 #[.string ⟨#[]⟩] w fun e w' => e = .returned (.tuple #[.int .i64 (numV []), .bool (numOk [])]) ∧ w = w'
      rw [hz.1, hz.2]
      clear hz
      go_enter Tryd.func20, Tryd.ntmps20
      go_wp2_with fail
      go_ret2
      exact ⟨rfl, rfl⟩
    | cons c r => exact absurd (Nat.succ_pos r.length) h0
end Go.Proofs.YtnblegmimemeeaaDoor
