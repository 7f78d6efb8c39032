/-
  Plain laws on the value of a text: the library's reading (a uint64, then the bounds) and the reference's (never more than 2^63) agree.
-/
import Derived.Lib.ParseIntBTie
namespace Go.Proofs.YtnblegmimemeeaaDoor
open Go

/-- The reference's loop: the value of the digits, if it is at most 2^63. -/
def magR (acc : Nat) : List UInt8 → Option Nat
  | [] => some acc
  | c :: r => if 48 ≤ c.toNat ∧ c.toNat ≤ 57 then (if 9223372036854775808 < acc * 10 + (c.toNat - 48) then none else magR (acc * 10 + (c.toNat - 48)) r) else none

def numV (l : List UInt8) : Int := match Lib.parseIntB 64 l with | .ok v => v | _ => 0
def numOk (l : List UInt8) : Bool := match Lib.parseIntB 64 l with | .ok _ => true | _ => false

/-- What is read on is no less than what has been read. -/
theorem parse_ge (M : Nat) : ∀ (l : List UInt8) (acc u : Nat), Lib.parseUintM M acc l = .ok u → acc ≤ u
  | [], acc, u, h => by simp only [Lib.parseUintM] at h; injection h with h; omega
  | c :: r, acc, u, h => by
    simp only [Lib.parseUintM] at h
    split at h
    · split at h
      · cases h
      · split at h
        · cases h
        · have := parse_ge M r _ u h
          omega
    · cases h

theorem mag_some : ∀ (l : List UInt8) (acc u : Nat), acc ≤ 9223372036854775808 → magR acc l = some u → Lib.parseUintM 18446744073709551615 acc l = .ok u ∧ u ≤ 9223372036854775808
  | [], acc, u, ha, h => by
    simp only [magR] at h
    injection h with h
    subst h
    exact ⟨rfl, ha⟩
  | c :: r, acc, u, ha, h => by
    simp only [magR] at h
    simp only [Lib.parseUintM]
    split at h
    · rename_i hc
      rw [if_pos hc]
      split at h
      · cases h
      · rename_i hn
        rw [if_neg (by omega), if_neg (by omega)]
        exact mag_some r _ u (by omega) h
    · cases h

theorem mag_none : ∀ (l : List UInt8) (acc : Nat), acc ≤ 9223372036854775808 → magR acc l = none → ∀ u, Lib.parseUintM 18446744073709551615 acc l = .ok u → 9223372036854775808 < u
  | [], acc, ha, h, u, hu => by simp only [magR] at h; cases h
  | c :: r, acc, ha, h, u, hu => by
    simp only [magR] at h
    simp only [Lib.parseUintM] at hu
    split at h
    · rename_i hc
      rw [if_pos hc] at hu
      split at hu
      · cases hu
      · split at hu
        · cases hu
        · split at h
          · have := parse_ge _ r _ u hu
            omega
          · rename_i hn
            exact mag_none r _ (by omega) h u hu
    · rename_i hc
      rw [if_neg hc] at hu
      cases hu

/-- What the reference answers, of a sign and what its loop came to. -/
def numRes (neg : Bool) : Option Nat → Int × Bool
  | none => (0, false)
  | some u => if neg then (-(u : Int), true) else if u = 9223372036854775808 then (0, false) else ((u : Int), true)

/-- The text behind a sign. -/
def bodyOf (l : List UInt8) : List UInt8 := match l with
  | [] => []
  | c :: r => if c.toNat = 43 ∨ c.toNat = 45 then r else l

theorem num_empty (l : List UInt8) (h : bodyOf l = []) : numV l = 0 ∧ numOk l = false := by
  unfold numV numOk
  cases l with
  | nil => exact ⟨rfl, rfl⟩
  | cons c r =>
    have hb : (if c.toNat = 43 ∨ c.toNat = 45 then r else c :: r) = [] := h
    have : Lib.parseIntB 64 (c :: r) = Lib.parseIntB 64 [] := by
      simp only [Lib.parseIntB, hb, Lib.parseUintB, if_true]
    rw [this]
    exact ⟨rfl, rfl⟩

/-- How the library's reading ends, of a sign's byte and of what stands behind it. -/
def finEnd (c : UInt8) (e : Lib.NumEnd Nat) : Lib.NumEnd Int := match e with
  | .ok u => if ¬ (c.toNat = 45) ∧ 9223372036854775808 ≤ u then .range else if c.toNat = 45 ∧ 9223372036854775808 < u then .range else .ok (if c.toNat = 45 then -(u : Int) else u)
  | .range => .range
  | _ => Lib.parseIntB 64 []
theorem fin_eq (c : UInt8) (r : List UInt8) : Lib.parseIntB 64 (c :: r) = finEnd c (Lib.parseUintB 64 (if c.toNat = 43 ∨ c.toNat = 45 then r else c :: r)) := by
  simp only [Lib.parseIntB]
  generalize Lib.parseUintB 64 (if c.toNat = 43 ∨ c.toNat = 45 then r else c :: r) = e
  cases e <;> rfl

theorem num_res (c : UInt8) (r : List UInt8) (hne : bodyOf (c :: r) ≠ []) (neg : Bool) (hneg : neg = decide (c.toNat = 45)) :
    (numV (c :: r), numOk (c :: r)) = numRes neg (magR 0 (bodyOf (c :: r))) := by
  have hp : Lib.parseUintB 64 (bodyOf (c :: r)) = Lib.parseUintM 18446744073709551615 0 (bodyOf (c :: r)) := by
    unfold Lib.parseUintB
    rw [if_neg hne]
  have hI : Lib.parseIntB 64 (c :: r) = finEnd c (Lib.parseUintM 18446744073709551615 0 (bodyOf (c :: r))) := by
    rw [← hp]
    exact fin_eq c r
  unfold numV numOk
  rw [hI]
  cases hm : magR 0 (bodyOf (c :: r)) with
  | none =>
    have hn := mag_none _ _ (by omega) hm
    rcases hq : Lib.parseUintM 18446744073709551615 0 (bodyOf (c :: r)) with u | _ | _
    · have := hn u hq
      by_cases h45 : c.toNat = 45
      · simp only [finEnd, h45, not_true, false_and, if_false, true_and, this, if_true, numRes]
      · have h' : 9223372036854775808 ≤ u := by omega
        simp only [finEnd, h45, not_false_eq_true, true_and, h', if_true, numRes]
    · rfl
    · rfl
  | some u =>
    obtain ⟨hq, hu⟩ := mag_some _ _ _ (by omega) hm
    rw [hq]
    by_cases h45 : c.toNat = 45
    · have h' : ¬ 9223372036854775808 < u := by omega
      subst hneg
      simp only [finEnd, h45, not_true, false_and, if_false, true_and, h', decide_true, if_true, numRes]
    · subst hneg
      by_cases h2 : u = 9223372036854775808
      · subst h2
        simp only [finEnd, h45, not_false_eq_true, true_and, Nat.le_refl, if_true, decide_false, Bool.false_eq_true, if_false, numRes]
      · have h' : ¬ 9223372036854775808 ≤ u := by omega
        simp only [finEnd, h45, not_false_eq_true, true_and, h', false_and, if_false, decide_false, Bool.false_eq_true, h2, numRes]
end Go.Proofs.YtnblegmimemeeaaDoor
