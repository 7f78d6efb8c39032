/-
  Plain laws: a number's text is read as the number; noughts ahead and a + change nothing.
-/
import Derived.Test.YtnblegmimemeeaaDoorNumLaws
import Derived.Lib.ItoaLen
namespace Go.Proofs.YtnblegmimemeeaaDoor
open Go

theorem parse_append (M : Nat) (r : List UInt8) : ∀ (l : List UInt8) (acc v : Nat), Lib.parseUintM M acc l = .ok v → Lib.parseUintM M acc (l ++ r) = Lib.parseUintM M v r
  | [], acc, v, h => by simp only [Lib.parseUintM] at h; injection h with h; subst h; rfl
  | c :: l, acc, v, h => by
    simp only [Lib.parseUintM] at h
    simp only [List.cons_append, Lib.parseUintM]
    split at h
    · rename_i hc
      rw [if_pos hc]
      split at h
      · cases h
      · rename_i h1
        rw [if_neg h1]
        split at h
        · cases h
        · rename_i h2
          rw [if_neg h2]
          exact parse_append M r l _ v h
    · cases h

theorem dig_toNat (d : Nat) (h : d < 10) : (UInt8.ofNat (48 + d)).toNat = 48 + d := by
  rw [UInt8.toNat_ofNat']
  omega

theorem parse_digit (acc d : Nat) (hd : d < 10) (h : acc * 10 + d ≤ 18446744073709551615) : Lib.parseUintM 18446744073709551615 acc [UInt8.ofNat (48 + d)] = .ok (acc * 10 + d) := by
  simp only [Lib.parseUintM, dig_toNat d hd]
  rw [if_pos (by omega), if_neg (by omega), if_neg (by omega)]
  congr 1
  omega

theorem parse_dec (u : Nat) : u ≤ 18446744073709551615 → Lib.parseUintM 18446744073709551615 0 (Lib.decDigits u) = .ok u := by
  induction u using Nat.strongRecOn with
  | _ u ih =>
    intro hu
    by_cases h : u < 10
    · rw [Lib.decDigits_one h]
      have := parse_digit 0 u h (by omega)
      simpa using this
    · rw [Lib.decDigits, dif_neg h, parse_append _ _ _ _ _ (ih (u / 10) (by omega) (by omega)), parse_digit _ _ (by omega) (by omega)]
      congr 1
      omega

theorem parse_nought (l : List UInt8) : Lib.parseUintM 18446744073709551615 0 (48 :: l) = Lib.parseUintM 18446744073709551615 0 l := by
  simp only [Lib.parseUintM]
  rw [if_pos (by decide), if_neg (by decide), if_neg (by decide)]
  rfl

theorem dec_digits (u : Nat) : ∀ c ∈ Lib.decDigits u, 48 ≤ c.toNat ∧ c.toNat ≤ 57 := by
  induction u using Nat.strongRecOn with
  | _ u ih =>
    intro c hc
    by_cases h : u < 10
    · rw [Lib.decDigits_one h, List.mem_singleton] at hc
      subst hc
      rw [dig_toNat u h]
      omega
    · rw [Lib.decDigits, dif_neg h, List.mem_append, List.mem_singleton] at hc
      rcases hc with hc | rfl
      · exact ih (u / 10) (by omega) c hc
      · rw [dig_toNat _ (by omega)]
        omega
theorem dec_ne (u : Nat) : Lib.decDigits u ≠ [] := by
  intro e
  have h := Lib.nDigits_pos u
  rw [← Lib.decDigits_length, e] at h
  simp at h

/-- A text with a minus, of a body that is read as u. -/
theorem int_minus (l : List UInt8) (u : Nat) (hne : l ≠ []) (h : Lib.parseUintM 18446744073709551615 0 l = .ok u) (hu : u ≤ 9223372036854775808) : Lib.parseIntB 64 (45 :: l) = .ok (-(u : Int)) := by
  have hp : Lib.parseUintB 64 l = .ok u := by
    unfold Lib.parseUintB
    rw [if_neg hne]
    exact h
  have e : (if (45 : UInt8).toNat = 43 ∨ (45 : UInt8).toNat = 45 then l else 45 :: l) = l := rfl
  rw [fin_eq, e, hp]
  have h' : ¬ 9223372036854775808 < u := by omega
  simp [finEnd, h']

/-- A text without one. -/
theorem int_plain (c : UInt8) (r : List UInt8) (hc : c.toNat ≠ 45) (u : Nat) (l : List UInt8) (hl : (if c.toNat = 43 ∨ c.toNat = 45 then r else c :: r) = l) (hne : l ≠ []) (h : Lib.parseUintM 18446744073709551615 0 l = .ok u) (hu : u < 9223372036854775808) :
    Lib.parseIntB 64 (c :: r) = .ok (u : Int) := by
  have hp : Lib.parseUintB 64 l = .ok u := by
    unfold Lib.parseUintB
    rw [if_neg hne]
    exact h
  rw [fin_eq, hl, hp]
  have h' : ¬ 9223372036854775808 ≤ u := by omega
  simp [finEnd, h', hc]

theorem num_of {l : List UInt8} {v : Int} (h : Lib.parseIntB 64 l = .ok v) : numV l = v ∧ numOk l = true := by
  unfold numV numOk
  rw [h]
  exact ⟨rfl, rfl⟩

/-- THERE AND BACK. -/
theorem back_int (n : Int) (h0 : -9223372036854775808 ≤ n) (h1 : n ≤ 9223372036854775807) : numV (Lib.itoa n) = n ∧ numOk (Lib.itoa n) = true := by
  by_cases hn : n < 0
  · rw [Lib.itoa, if_pos hn]
    have h := num_of (int_minus _ _ (dec_ne n.natAbs) (parse_dec n.natAbs (by omega)) (by omega))
    rw [h.1, h.2]
    exact ⟨by omega, rfl⟩
  · rw [Lib.itoa, if_neg hn]
    have hd := dec_digits n.toNat
    have hp := parse_dec n.toNat (by omega)
    have hne := dec_ne n.toNat
    cases hl : Lib.decDigits n.toNat with
    | nil => exact absurd hl hne
    | cons c r =>
      rw [hl] at hd hp hne
      have hc := hd c (List.mem_cons_self ..)
      have h := num_of (int_plain c r (by omega) n.toNat (c :: r) (by rw [if_neg (by omega)]) hne hp (by omega))
      rw [h.1, h.2]
      exact ⟨by omega, rfl⟩

theorem back_minus (n : Int) (h0 : -9223372036854775808 ≤ n) (hn : n < 0) : numV (45 :: 48 :: (Lib.itoa n).tail) = n ∧ numOk (45 :: 48 :: (Lib.itoa n).tail) = true := by
  rw [Lib.itoa, if_pos hn]
  have h := num_of (int_minus (48 :: Lib.decDigits n.natAbs) n.natAbs (by simp) (by rw [parse_nought]; exact parse_dec n.natAbs (by omega)) (by omega))
  rw [List.tail_cons, h.1, h.2]
  exact ⟨by omega, rfl⟩

theorem back_plus (n : Int) (h1 : n ≤ 9223372036854775807) (hn : ¬ n < 0) : numV (43 :: 48 :: 48 :: Lib.itoa n) = n ∧ numOk (43 :: 48 :: 48 :: Lib.itoa n) = true := by
  rw [Lib.itoa, if_neg hn]
  have h := num_of (int_plain 43 (48 :: 48 :: Lib.decDigits n.toNat) (by decide) n.toNat (48 :: 48 :: Lib.decDigits n.toNat) (by rw [if_pos (by decide)]) (by simp) (by rw [parse_nought, parse_nought]; exact parse_dec n.toNat (by omega)) (by omega))
  rw [h.1, h.2]
  exact ⟨by omega, rfl⟩
end Go.Proofs.YtnblegmimemeeaaDoor
