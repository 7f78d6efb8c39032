/-
  Words of bits, bit by bit.
-/
import Derived.Test.YtfldhggmgepcjaaQBits
import Derived.Test.YtfldhggmgepcjaaQNfa
namespace Go.Proofs.Ytfldhggmgepcjaa
set_option maxRecDepth 100000
open Go Go.RowKit

theorem bit_set (ws : List Nat) (i x j : Nat) (hi : i < ws.length) : bit (ws.set i x) j = if j / 64 = i then x.testBit (j % 64) else bit ws j := by
  unfold bit
  rw [List.getD_eq_getElem?_getD, List.getElem?_set]
  by_cases h : i = j / 64
  · rw [if_pos h, if_pos (by omega), if_pos h.symm]; rfl
  · rw [if_neg h, if_neg (fun e => h e.symm), ← List.getD_eq_getElem?_getD]
theorem bit_get {ws : List Nat} {j x : Nat} (h : ws[j / 64]? = some x) : bit ws j = x.testBit (j % 64) := by
  unfold bit
  rw [List.getD_eq_getElem?_getD, h]; rfl
theorem bit_put {ws : List Nat} {p x : Nat} (h : ws[p / 64]? = some x) (j : Nat) : bit (ws.set (p / 64) (x ||| 1 <<< (p % 64))) j = (bit ws j || decide (j = p)) := by
  have hi := (List.getElem?_eq_some_iff.1 h).1
  rw [bit_set _ _ _ _ hi]
  by_cases e : j / 64 = p / 64
  · rw [if_pos e, bit_get (by rw [e]; exact h), Nat.testBit_or, Nat.one_shiftLeft, Nat.testBit_two_pow]
    congr 1
    rw [decide_eq_decide]
    omega
  · rw [if_neg e]
    have : decide (j = p) = false := by rw [decide_eq_false_iff_not]; omega
    rw [this, Bool.or_false]
theorem small_set {ws : List Nat} (h : Small ws) (i : Nat) {x : Nat} (hx : x < 18446744073709551616) : Small (ws.set i x) := by
  intro y hy
  rcases List.mem_or_eq_of_mem_set hy with hy | rfl
  · exact h y hy
  · exact hx
theorem small_or (x p : Nat) (hx : x < 18446744073709551616) : x ||| 1 <<< (p % 64) < 18446744073709551616 := by
  have : x ||| 1 <<< (p % 64) < 2 ^ 64 := Nat.or_lt_two_pow hx (by rw [Nat.one_shiftLeft]; exact pow_small p)
  exact this
theorem small_zero (n : Nat) : Small (List.replicate n 0) := by
  intro x hx
  rw [(List.mem_replicate.1 hx).2]; omega
theorem bit_zero (n j : Nat) : bit (List.replicate n 0) j = false := by
  unfold bit
  rw [List.getD_eq_getElem?_getD, List.getElem?_replicate]
  split <;> simp

/-- What pass does to a word; what take does. -/
def sh1 (x : Nat) : Nat := (x * 2) % 18446744073709551616
theorem sh1_small (x : Nat) : sh1 x < 18446744073709551616 := Nat.mod_lt _ (by omega)
theorem sh1_bit (x k : Nat) (hk : k < 64) : (sh1 x).testBit k = (decide (0 < k) && x.testBit (k - 1)) := by
  unfold sh1
  have h1 : x * 2 % 18446744073709551616 = (x <<< 1) % 2 ^ 64 := by rw [Nat.shiftLeft_eq]
  rw [h1, Nat.testBit_mod_two_pow, Nat.testBit_shiftLeft]
  simp [hk, Nat.succ_le_iff]
theorem top_bit (x : Nat) (hx : x < 18446744073709551616) : x / 2 ^ 63 = (x.testBit 63).toNat := by
  have h : x / 2 ^ 63 < 2 := by omega
  rw [Nat.testBit, Nat.shiftRight_eq_div_pow, Nat.one_and_eq_mod_two]
  have h2 : x / 2 ^ 63 = 0 ∨ x / 2 ^ 63 = 1 := by omega
  rcases h2 with h2 | h2 <;> rw [h2] <;> rfl
theorem or_toNat_bit (x : Nat) (c : Bool) (k : Nat) : (x ||| c.toNat).testBit k = (x.testBit k || (c && decide (k = 0))) := by
  rw [Nat.testBit_or]
  congr 1
  cases c with
  | false => simp
  | true =>
    have : (true.toNat).testBit k = (2 ^ 0).testBit k := rfl
    rw [this, Nat.testBit_two_pow]
    simp only [Bool.true_and]
    rw [decide_eq_decide]
    omega
end Go.Proofs.Ytfldhggmgepcjaa
