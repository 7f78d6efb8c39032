/-
  All places at once: at which places in a row of wants a text can be, byte by byte.
  Words of bits, bit by bit.
  The landed code's pass.
-/
import Derived.Test.YtclhpedecimicaaGreatK3
import Derived.Test.YtclhpedecimicaaGreatK11
import Derived.Deep.Cut
namespace Go.Proofs.YtclhpedecimicaaGreat
set_option maxRecDepth 100000
open Go Go.RowKit

theorem take_wt : ∀ (r : List Wt) (j : Nat) (x : Wt), r[j]? = some x → r.take (j + 1) = r.take j ++ [x]
  | [], j, x, h => by cases h
  | a :: r, 0, x, h => by simp at h; simp [h]
  | a :: r, j + 1, x, h => by
    rw [List.take_succ_cons, List.take_succ_cons, take_wt r j x (by simpa using h)]
    rfl
def isRep (r : List Wt) (j : Nat) : Bool := match r[j]? with | some x => x.rep | none => false
def tkAt (r : List Wt) (j : Nat) (c : UInt8) : Bool := match r[j]? with | some x => x.tk c | none => false
theorem isRep_lt {r : List Wt} {j : Nat} (h : isRep r j = true) : ∃ x, r[j]? = some x ∧ x.rep = true ∧ j < r.length := by
  unfold isRep at h
  cases hx : r[j]? with
  | none => rw [hx] at h; cases h
  | some x => rw [hx] at h; exact ⟨x, rfl, h, (List.getElem?_eq_some_iff.1 hx).1⟩
theorem isRep_at {r : List Wt} {j : Nat} {x : Wt} (h : r[j]? = some x) : isRep r j = x.rep := by unfold isRep; rw [h]
theorem tkAt_at {r : List Wt} {j : Nat} {x : Wt} (h : r[j]? = some x) (c : UInt8) : tkAt r j c = x.tk c := by unfold tkAt; rw [h]
theorem tkAt_lt {r : List Wt} {j : Nat} {c : UInt8} (h : tkAt r j c = true) : j < r.length := by
  unfold tkAt at h
  cases hx : r[j]? with
  | none => rw [hx] at h; cases h
  | some x => exact (List.getElem?_eq_some_iff.1 hx).1
theorem rep_tkAt {r : List Wt} {j : Nat} (h : isRep r j = true) (c : UInt8) : tkAt r j c = true := by
  obtain ⟨x, hx, hr, -⟩ := isRep_lt h
  rw [tkAt_at hx]; exact rep_tk hr c
theorem alone_rep {r : List Wt} (hA : Alone r) {j : Nat} (h : isRep r j = true) : isRep r (j + 1) = false := by
  obtain ⟨x, hx, hr, -⟩ := isRep_lt h
  cases hy : r[j + 1]? with
  | none => unfold isRep; rw [hy]
  | some y => rw [isRep_at hy]; exact hA j x y hx hy hr

/-- A text can be at a place. -/
def Np (r : List Wt) (j : Nat) (t : List UInt8) : Prop := (isRep r j = true ∧ Mat (r.take (j + 1)) t) ∨ (isRep r j = false ∧ j ≤ r.length ∧ Mat (r.take j) t)
theorem np_rep {r : List Wt} {j : Nat} (h : isRep r j = true) (t : List UInt8) : Np r j t ↔ Mat (r.take (j + 1)) t := by simp [Np, h]
theorem np_not {r : List Wt} {j : Nat} (h : isRep r j = false) (t : List UInt8) : Np r j t ↔ j ≤ r.length ∧ Mat (r.take j) t := by simp [Np, h]
theorem np_len (r : List Wt) (t : List UInt8) : Np r r.length t ↔ Mat r t := by
  have h : isRep r r.length = false := by unfold isRep; rw [List.getElem?_eq_none (Nat.le_refl _)]
  rw [np_not h, List.take_length]
  simp
theorem np_le {r : List Wt} {j : Nat} {t : List UInt8} (h : Np r j t) : j ≤ r.length := by
  rcases h with ⟨h, -⟩ | ⟨-, h, -⟩
  · obtain ⟨-, -, -, h⟩ := isRep_lt h; omega
  · exact h
theorem dp_nil {r : List Wt} (hA : Alone r) : ∀ j, j ≤ r.length → (Mat (r.take j) [] ↔ j = 0 ∨ (j = 1 ∧ isRep r 0 = true))
  | 0, _ => by simp [Mat]
  | j + 1, h => by
    obtain ⟨x, hx⟩ : ∃ x, r[j]? = some x := ⟨r[j], List.getElem?_eq_getElem (by omega)⟩
    rw [take_wt r j x hx]
    cases hr : x.rep with
    | true =>
      rw [mat_rep_nil _ hr, dp_nil hA j (by omega)]
      have hj := isRep_at hx
      constructor
      · rintro (rfl | ⟨rfl, h0⟩)
        · exact Or.inr ⟨rfl, by rw [hj, hr]⟩
        · have := alone_rep hA h0
          rw [hj, hr] at this; cases this
      · rintro (h0 | ⟨h0, -⟩)
        · omega
        · exact Or.inl (by omega)
    | false =>
      constructor
      · intro h0; exact absurd h0 (mat_not_nil _ hr)
      · rintro (h0 | ⟨h0, h1⟩)
        · omega
        · obtain rfl : j = 0 := by omega
          rw [isRep_at hx, hr] at h1; cases h1
theorem np_nil {r : List Wt} (hA : Alone r) (j : Nat) : Np r j [] ↔ j = 0 ∨ (j = 1 ∧ isRep r 0 = true) := by
  cases hr : isRep r j with
  | true =>
    obtain ⟨x, hx, -, hl⟩ := isRep_lt hr
    rw [np_rep hr, dp_nil hA (j + 1) (by omega)]
    constructor
    · rintro (h | ⟨h, -⟩)
      · omega
      · exact Or.inl (by omega)
    · rintro (rfl | ⟨rfl, h⟩)
      · exact Or.inr ⟨rfl, hr⟩
      · rw [alone_rep hA h] at hr; cases hr
  | false =>
    rw [np_not hr]
    constructor
    · rintro ⟨h, h1⟩; exact (dp_nil hA j h).1 h1
    · intro h
      have hl : j ≤ r.length := by
        rcases h with rfl | ⟨rfl, h⟩
        · omega
        · obtain ⟨-, -, -, h⟩ := isRep_lt h; omega
      exact ⟨hl, (dp_nil hA j hl).2 h⟩
/-- The places behind a byte, ahead of the going on past what repeats. -/
def Ap (r : List Wt) (j : Nat) (t : List UInt8) (c : UInt8) : Prop := (Np r j t ∧ isRep r j = true) ∨ (0 < j ∧ Np r (j - 1) t ∧ tkAt r (j - 1) c = true ∧ isRep r (j - 1) = false)
theorem np_rep_step {r : List Wt} (hA : Alone r) {j : Nat} (hr : isRep r j = true) (t : List UInt8) (c : UInt8) : Np r j (t ++ [c]) ↔ Ap r j t c := by
  obtain ⟨x, hx, hxr, hl⟩ := isRep_lt hr
  rw [np_rep hr, take_wt r j x hx, mat_rep_snoc _ hxr, ← take_wt r j x hx, ← np_rep hr]
  have h1 : Mat (r.take j) (t ++ [c]) ↔ (0 < j ∧ Np r (j - 1) t ∧ tkAt r (j - 1) c = true ∧ isRep r (j - 1) = false) := by
    cases j with
    | zero =>
      simp only [List.take_zero, Mat]
      constructor
      · intro h; exact absurd h (by simp)
      · rintro ⟨h, -⟩; omega
    | succ j =>
      obtain ⟨y, hy⟩ : ∃ y, r[j]? = some y := ⟨r[j], List.getElem?_eq_getElem (by omega)⟩
      have hyr : isRep r j = false := by
        cases h : isRep r j with
        | false => rfl
        | true => rw [alone_rep hA h] at hr; cases hr
      have hyr2 := hyr
      rw [isRep_at hy] at hyr2
      rw [take_wt r j y hy, mat_not_snoc _ hyr2, Nat.add_sub_cancel, np_not hyr, tkAt_at hy]
      constructor
      · rintro ⟨h1, h2⟩; exact ⟨by omega, ⟨by omega, h1⟩, h2, hyr⟩
      · rintro ⟨-, ⟨-, h1⟩, h2, -⟩; exact ⟨h1, h2⟩
  rw [h1]
  unfold Ap
  constructor
  · rintro (h | h)
    · exact Or.inr h
    · exact Or.inl ⟨h, hr⟩
  · rintro (h | h)
    · exact Or.inr h.1
    · exact Or.inl h
theorem np_step {r : List Wt} (hA : Alone r) (j : Nat) (t : List UInt8) (c : UInt8) : Np r j (t ++ [c]) ↔ Ap r j t c ∨ (0 < j ∧ Ap r (j - 1) t c ∧ isRep r (j - 1) = true) := by
  cases hr : isRep r j with
  | true =>
    rw [np_rep_step hA hr]
    constructor
    · intro h; exact Or.inl h
    · rintro (h | ⟨h0, -, h1⟩)
      · exact h
      · have := alone_rep hA h1
        rw [show j - 1 + 1 = j by omega, hr] at this; cases this
  | false =>
    cases j with
    | zero =>
      rw [np_not hr]
      simp only [List.take_zero, Mat]
      constructor
      · rintro ⟨-, h⟩; simp at h
      · rintro (h | h)
        · rcases h with ⟨-, h⟩ | ⟨h, -⟩
          · rw [hr] at h; cases h
          · omega
        · have := h.1; omega
    | succ j =>
      rw [Nat.add_sub_cancel]
      by_cases hl : j < r.length
      · obtain ⟨y, hy⟩ : ∃ y, r[j]? = some y := ⟨r[j], List.getElem?_eq_getElem hl⟩
        cases hyr : y.rep with
        | true =>
          have hjr : isRep r j = true := by rw [isRep_at hy, hyr]
          have h1 : Np r (j + 1) (t ++ [c]) ↔ Np r j (t ++ [c]) := by
            rw [np_not hr, np_rep hjr]
            constructor
            · rintro ⟨-, h⟩; exact h
            · intro h; exact ⟨by omega, h⟩
          rw [h1, np_rep_step hA hjr]
          constructor
          · intro h; exact Or.inr ⟨by omega, h, hjr⟩
          · rintro (h | ⟨-, h, -⟩)
            · rcases h with ⟨-, h⟩ | ⟨-, -, -, h⟩
              · rw [hr] at h; cases h
              · rw [Nat.add_sub_cancel, hjr] at h; cases h
            · exact h
        | false =>
          have hjr : isRep r j = false := by rw [isRep_at hy, hyr]
          rw [np_not hr, take_wt r j y hy, mat_not_snoc _ hyr]
          constructor
          · rintro ⟨-, h1, h2⟩
            exact Or.inl (Or.inr ⟨by omega, by rw [Nat.add_sub_cancel, np_not hjr]; exact ⟨by omega, h1⟩, by rw [Nat.add_sub_cancel, tkAt_at hy]; exact h2, by rw [Nat.add_sub_cancel]; exact hjr⟩)
          · rintro (h | ⟨-, -, h⟩)
            · rcases h with ⟨-, h⟩ | ⟨-, h1, h2, -⟩
              · rw [hr] at h; cases h
              · rw [Nat.add_sub_cancel] at h1 h2
                rw [np_not hjr] at h1
                rw [tkAt_at hy] at h2
                exact ⟨by omega, h1.2, h2⟩
            · rw [hjr] at h; cases h
      · have hjr : isRep r j = false := by unfold isRep; rw [List.getElem?_eq_none (by omega)]
        constructor
        · intro h; have := np_le h; omega
        · rintro (h | ⟨-, -, h⟩)
          · rcases h with ⟨-, h⟩ | ⟨-, -, h, -⟩
            · rw [hr] at h; cases h
            · rw [Nat.add_sub_cancel] at h
              have := tkAt_lt h; omega
          · rw [hjr] at h; cases h
theorem ap_le {r : List Wt} {j : Nat} {t : List UInt8} {c : UInt8} (h : Ap r j t c) : j ≤ r.length := by
  rcases h with ⟨h, -⟩ | ⟨h0, -, h, -⟩
  · exact np_le h
  · have := tkAt_lt h; omega
theorem np_dead_step {r : List Wt} (hA : Alone r) {t : List UInt8} {c : UInt8} (h : ∀ j, ¬ Ap r j t c) (j : Nat) : ¬ Np r j (t ++ [c]) := by
  rw [np_step hA]
  rintro (h1 | ⟨-, h1, -⟩)
  · exact h _ h1
  · exact h _ h1
theorem np_dead {r : List Wt} (hA : Alone r) {t : List UInt8} (h : ∀ j, ¬ Np r j t) (u : List UInt8) : ∀ j, ¬ Np r j (t ++ u) := by
  induction u generalizing t with
  | nil => simpa using h
  | cons c u ih =>
    intro j
    rw [show t ++ c :: u = (t ++ [c]) ++ u by simp]
    refine ih (np_dead_step hA fun j h1 => ?_) j
    rcases h1 with ⟨h1, -⟩ | ⟨-, h1, -⟩
    · exact h _ h1
    · exact h _ h1
end Go.Proofs.YtclhpedecimicaaGreat

namespace Go.Proofs.YtclhpedecimicaaGreat
set_option maxRecDepth 100000
open Go Go.RowKit

theorem bit_set (ws : List Nat) (i x j : Nat) (hi : i < ws.length) : bit (ws.set i x) j = if j / 64 = i then x.testBit (j % 64) else bit ws j := by
  unfold bit
  rw [List.getD_eq_getElem?_getD, List.getElem?_set]
  by_cases h : i = j / 64
  · rw [if_pos h, if_pos (by omega), if_pos h.symm]; rfl
  · rw [if_neg h, if_neg (fun e => h e.symm), ← List.getD_eq_getElem?_getD]
theorem bit_get {ws : List Nat} {j x : Nat} (h : ws[j / 64]? = some x) : bit ws j = x.testBit (j % 64) := by
  unfold bit
  rw [List.getD_eq_getElem?_getD, h]; rfl
theorem bit_put {ws : List Nat} {p x : Nat} (h : ws[p / 64]? = some x) (j : Nat) : bit (ws.set (p / 64) (x ||| 1 <<< (p % 64))) j = (bit ws j || decide (j = p)) := by
  have hi := (List.getElem?_eq_some_iff.1 h).1
  rw [bit_set _ _ _ _ hi]
  by_cases e : j / 64 = p / 64
  · rw [if_pos e, bit_get (by rw [e]; exact h), Nat.testBit_or, Nat.one_shiftLeft, Nat.testBit_two_pow]
    congr 1
    rw [decide_eq_decide]
    omega
  · rw [if_neg e]
    have : decide (j = p) = false := by rw [decide_eq_false_iff_not]; omega
    rw [this, Bool.or_false]
theorem small_set {ws : List Nat} (h : Small ws) (i : Nat) {x : Nat} (hx : x < 18446744073709551616) : Small (ws.set i x) := by
  intro y hy
  rcases List.mem_or_eq_of_mem_set hy with hy | rfl
  · exact h y hy
  · exact hx
theorem small_or (x p : Nat) (hx : x < 18446744073709551616) : x ||| 1 <<< (p % 64) < 18446744073709551616 := by
  have : x ||| 1 <<< (p % 64) < 2 ^ 64 := Nat.or_lt_two_pow hx (by rw [Nat.one_shiftLeft]; exact pow_small p)
  exact this
theorem small_zero (n : Nat) : Small (List.replicate n 0) := by
  intro x hx
  rw [(List.mem_replicate.1 hx).2]; omega
theorem bit_zero (n j : Nat) : bit (List.replicate n 0) j = false := by
  unfold bit
  rw [List.getD_eq_getElem?_getD, List.getElem?_replicate]
  split <;> simp

/-- What pass does to a word; what take does. -/
def sh1 (x : Nat) : Nat := (x * 2) % 18446744073709551616
theorem sh1_small (x : Nat) : sh1 x < 18446744073709551616 := Nat.mod_lt _ (by omega)
theorem sh1_bit (x k : Nat) (hk : k < 64) : (sh1 x).testBit k = (decide (0 < k) && x.testBit (k - 1)) := by
  unfold sh1
  have h1 : x * 2 % 18446744073709551616 = (x <<< 1) % 2 ^ 64 := by rw [Nat.shiftLeft_eq]
  rw [h1, Nat.testBit_mod_two_pow, Nat.testBit_shiftLeft]
  simp [hk, Nat.succ_le_iff]
theorem top_bit (x : Nat) (hx : x < 18446744073709551616) : x / 2 ^ 63 = (x.testBit 63).toNat := by
  have h : x / 2 ^ 63 < 2 := by omega
  rw [Nat.testBit, Nat.shiftRight_eq_div_pow, Nat.one_and_eq_mod_two]
  have h2 : x / 2 ^ 63 = 0 ∨ x / 2 ^ 63 = 1 := by omega
  rcases h2 with h2 | h2 <;> rw [h2] <;> rfl
theorem or_toNat_bit (x : Nat) (c : Bool) (k : Nat) : (x ||| c.toNat).testBit k = (x.testBit k || (c && decide (k = 0))) := by
  rw [Nat.testBit_or]
  congr 1
  cases c with
  | false => simp
  | true =>
    have : (true.toNat).testBit k = (2 ^ 0).testBit k := rfl
    rw [this, Nat.testBit_two_pow]
    simp only [Bool.true_and]
    rw [decide_eq_decide]
    omega
end Go.Proofs.YtclhpedecimicaaGreat

namespace Go.Proofs.YtclhpedecimicaaGreat
set_option maxRecDepth 100000
open Go Go.RowKit

/-- Behind pass, so many words done. -/
def PassI (A S : List Nat) (i : Nat) (X : List Nat) (c : Bool) : Prop :=
  X.length = A.length ∧ Small X ∧ c = (decide (0 < i) && (bit A (64 * i - 1) && bit S (64 * i - 1))) ∧ ∀ j, bit X j = if j < 64 * i then (bit A j || (decide (0 < j) && (bit A (j - 1) && bit S (j - 1)))) else bit A j
theorem pass_start (A S : List Nat) (h : Small A) : PassI A S 0 A false := ⟨rfl, h, rfl, fun j => by rw [if_neg (by omega)]⟩
theorem bit_word {ws : List Nat} {i x k : Nat} (h : ws[i]? = some x) (hk : k < 64) : bit ws (64 * i + k) = x.testBit k := by
  rw [bit_get (x := x) (by rw [show (64 * i + k) / 64 = i by omega]; exact h), show (64 * i + k) % 64 = k by omega]
theorem pass_next {A S X : List Nat} {i x s : Nat} {c : Bool} (h : PassI A S i X c) (hS : ∀ j, bit S j = true → bit S (j + 1) = false) (hx : X[i]? = some x) (hs : S[i]? = some s) (hxs : x < 18446744073709551616) :
    PassI A S (i + 1) (X.set i ((x ||| c.toNat) ||| sh1 ((x ||| c.toNat) &&& s))) (((x ||| c.toNat) &&& s).testBit 63) := by
  obtain ⟨h1, h2, h3, h4⟩ := h
  have hi : i < X.length := (List.getElem?_eq_some_iff.1 hx).1
  have hc1 : c.toNat < 18446744073709551616 := by cases c <;> decide
  have ha1 : x ||| c.toNat < 18446744073709551616 := by
    have : x ||| c.toNat < 2 ^ 64 := Nat.or_lt_two_pow hxs hc1
    exact this
  have hxA : ∀ k, k < 64 → x.testBit k = bit A (64 * i + k) := by
    intro k hk
    rw [← bit_word hx hk, h4, if_neg (by omega)]
  have hsS : ∀ k, k < 64 → s.testBit k = bit S (64 * i + k) := fun k hk => (bit_word hs hk).symm
  have hon : ∀ k, k < 64 → ((x ||| c.toNat) &&& s).testBit k = (bit A (64 * i + k) && bit S (64 * i + k)) := by
    intro k hk
    rw [Nat.testBit_and, or_toNat_bit, hxA k hk, hsS k hk]
    cases hcc : c with
    | false => simp
    | true =>
      by_cases hk0 : k = 0
      · subst hk0
        have h5 : bit S (64 * i + 0) = false := by
          rw [hcc] at h3
          have h6 := h3.symm
          simp only [Bool.and_eq_true, decide_eq_true_eq] at h6
          have := hS _ h6.2.2
          rw [show 64 * i - 1 + 1 = 64 * i + 0 by omega] at this
          exact this
        rw [h5]; simp
      · simp [hk0]
  refine ⟨by rw [List.length_set]; exact h1, small_set h2 _ ?_, ?_, fun j => ?_⟩
  · have : (x ||| c.toNat) ||| sh1 ((x ||| c.toNat) &&& s) < 2 ^ 64 := Nat.or_lt_two_pow ha1 (sh1_small _)
    exact this
  · rw [hon 63 (by omega), show 64 * (i + 1) - 1 = 64 * i + 63 by omega]
    simp
  · rw [bit_set _ _ _ _ hi]
    by_cases e : j / 64 = i
    · obtain ⟨k, hk, rfl⟩ : ∃ k, k < 64 ∧ j = 64 * i + k := ⟨j % 64, by omega, by omega⟩
      rw [if_pos e, if_pos (by omega), show (64 * i + k) % 64 = k by omega, Nat.testBit_or, or_toNat_bit, hxA k hk, sh1_bit _ _ hk]
      by_cases hk0 : k = 0
      · subst hk0
        simp only [decide_true, Bool.and_true, Nat.lt_irrefl, decide_false, Bool.false_and, Bool.or_false, h3]
        congr 1
        by_cases hi0 : 0 < i
        · simp [hi0]
        · have : i = 0 := by omega
          subst this; rfl
      · rw [hon (k - 1) (by omega), show 64 * i + (k - 1) = 64 * i + k - 1 by omega]
        have hp : decide (0 < 64 * i + k) = true := decide_eq_true (by omega)
        simp [hk0, Nat.pos_of_ne_zero hk0, hp]
    · rw [if_neg e, h4]
      by_cases hj : j < 64 * i
      · rw [if_pos hj, if_pos (by omega)]
      · rw [if_neg hj, if_neg (by omega)]
theorem pass_end {A S X : List Nat} {c : Bool} (h : PassI A S A.length X c) (j : Nat) (hj : j < 64 * A.length) : bit X j = (bit A j || (decide (0 < j) && (bit A (j - 1) && bit S (j - 1)))) := by
  rw [h.2.2.2 j, if_pos hj]

theorem set_grown0 (w : World) (g j : Nat) (u : Value) : w.grownBy (w.setCell ⟨g, j, none⟩ u) (some g) :=
  ⟨rfl, rfl, rfl, by rw [set_size]; exact Nat.le_refl _, fun k _ hne => Below.heap_setCell _ _ _ _ (fun e => hne (by rw [e]))⟩
theorem grown_two {a b c : World} {r : Option Nat} (h : a.grownBy b r) (k : b.grownBy c r) : a.grownBy c r :=
  ⟨k.os.trans h.os, k.tape.trans h.tape, k.output.trans h.output, Nat.le_trans h.size k.size, fun i hi hne => (k.block i (Nat.lt_of_lt_of_le hi h.size) hne).trans (h.block i hi hne)⟩
theorem grown_below {a b : World} {r : Option Nat} (h : Below a.heap.size a b) : a.grownBy b r := ⟨h.os, h.tape, h.output, h.size, fun k hk _ => h.block k hk⟩

def PassAns (A S : List Nat) (nw ga : Nat) (w : World) (e : Ending) (w' : World) : Prop := e = .returned (.tuple #[]) ∧ (∃ X c, PassI A S nw X c ∧ RowAt w' ga (wv X) 128) ∧ w.grownBy w' (some ga)

set_option maxHeartbeats 8000000 in
theorem lpass (A S : List Nat) (hA : Small A) (hS : Small S) (hSA : ∀ j, bit S j = true → bit S (j + 1) = false) (k ga gs nw : Nat) (hn : nw = A.length) (hn2 : nw = S.length) (hnl : nw ≤ 100000) (hk : ga ≠ k) (hg : ga ≠ gs) (w : World)
    (hc1 : w.cell? ⟨k, 1, none⟩ = some (.slice (some ⟨ga, 0, none⟩) nw nw)) (hc2 : w.cell? ⟨k, 2, none⟩ = some (.slice (some ⟨gs, 0, none⟩) nw nw)) (hRA : RowAt w ga (wv A) 128) (hRS : RowAt w gs (wv S) 128) :
    Calls Tryz.prog 134 #[.pointer (some ⟨k, 0, none⟩)] w (PassAns A S nw ga w) := by
  have HRS := Lib.hid hRS
  have HG := Lib.hid hg
  have HSA := Lib.hid hSA
  have HN := Lib.hid hn
  have HN2 := Lib.hid hn2
  have HS := Lib.hid hS
  have HA0 := Lib.hid (pass_start A S hA)
  have HRA := Lib.hid hRA
  have HC := Lib.hid (show ∀ W, w.grownBy W (some ga) → W.cell? ⟨k, 1, none⟩ = some (.slice (some ⟨ga, 0, none⟩) nw nw) ∧ W.cell? ⟨k, 2, none⟩ = some (.slice (some ⟨gs, 0, none⟩) nw nw) ∧ RowAt W gs (wv S) 128 from fun W hW =>
    ⟨by rw [World.cell?_of_block (hW.block k (cell_lt hc1) (fun e => hk (by cases e; rfl)))]; exact hc1, by rw [World.cell?_of_block (hW.block k (cell_lt hc1) (fun e => hk (by cases e; rfl)))]; exact hc2, by unfold RowAt; rw [hW.block gs hRS.lt (fun e => hg (by cases e; rfl))]; exact hRS⟩)
  clear hRS hg hSA hn hn2 hS hRA hA hk
  go_enter Tryz.func134, Tryz.ntmps134
  go_wp2_with fail
  go_loopw [2, 3, 4, 10] (fun v2 _ _ v10 wr => ∃ i X c, v10 = .int .i64 ((i : Nat) : Int) ∧ v2 = .int .u64 ((Bool.toNat c : Nat) : Int) ∧ i ≤ nw ∧ Hid (PassI A S i X c) ∧ Hid (RowAt wr ga (wv X) 128) ∧ Hid (w.grownBy wr (some ga))) (fun _ _ _ v10 _ => nw - (intOf v10).toNat)
  case atStart => exact ⟨0, A, false, rfl, rfl, Nat.zero_le _, HA0, HRA, ⟨rfl, rfl, rfl, Nat.le_refl _, fun _ _ _ => rfl⟩⟩
  case round =>
    obtain ⟨i, X, c, rfl, rfl, hiN, HP, HRX, HGW⟩ := hrel
    by_cases hlt : i < nw
    · obtain ⟨x, hx⟩ : ∃ x, X[i]? = some x := ⟨X[i]'(by rw [HP.out.1, ← HN.out]; exact hlt), List.getElem?_eq_getElem _⟩
      obtain ⟨s, hs⟩ : ∃ s, S[i]? = some s := ⟨S[i]'(by rw [← HN2.out]; exact hlt), List.getElem?_eq_getElem _⟩
      have hx64 := HP.out.2.1 x (List.mem_of_getElem? hx)
      have hs64 := HS.out s (List.mem_of_getElem? hs)
      have HPN := Lib.hid (pass_next HP.out HSA.out hx hs hx64)
      obtain ⟨cn, hcn⟩ : ∃ cn, cn = Bool.toNat c := ⟨_, rfl⟩
      have hc64 : cn < 18446744073709551616 := by rw [hcn]; cases c <;> decide
      obtain ⟨a1, ha1⟩ : ∃ a1, a1 = x ||| cn := ⟨_, rfl⟩
      have ha64 : a1 < 18446744073709551616 := by
        have : x ||| cn < 2 ^ 64 := Nat.or_lt_two_pow hx64 hc64
        rw [ha1]; exact this
      obtain ⟨on, hon⟩ : ∃ on, on = a1 &&& s := ⟨_, rfl⟩
      have ho64 : on < 18446744073709551616 := by
        have : a1 &&& s < 2 ^ 64 := Nat.and_lt_two_pow _ hs64
        rw [hon]; exact this
      obtain ⟨o1, ho1⟩ : ∃ o1, o1 = sh1 on := ⟨_, rfl⟩
      obtain ⟨x2, hx2⟩ : ∃ x2, x2 = a1 ||| o1 := ⟨_, rfl⟩
      obtain ⟨c2, hc2'⟩ : ∃ c2, c2 = Bool.toNat (on.testBit 63) := ⟨_, rfl⟩
      have e1 : bits .or .u64 (x : Int) (cn : Int) = (a1 : Int) := by rw [ha1]; exact bits_or_u64_nat _ _ hx64 hc64
      have e2 : bits .and .u64 (a1 : Int) (s : Int) = (on : Int) := by rw [hon]; exact bits_and_u64_nat _ _ ha64 hs64
      have e3 : IntKind.u64.wrap ((on : Int) * 2) = (o1 : Int) := by rw [ho1, IntKind.wrap_u64]; unfold sh1; omega
      have e4 : bits .or .u64 (a1 : Int) (o1 : Int) = (x2 : Int) := by rw [hx2]; exact bits_or_u64_nat _ _ ha64 (by rw [ho1]; exact sh1_small _)
      have e5 : (on : Int) / 9223372036854775808 = (c2 : Int) := by rw [hc2', ← top_bit on ho64]; omega
      rw [← hcn, ← ha1, ← hon, ← ho1, ← hx2] at HPN
      have HCN := Lib.hid hc2'
      have HSX := Lib.hid hs
      rw [← hcn]
      obtain ⟨d1, d2, hRSr⟩ := HC.out wr HGW.out
      have hcs := hRSr.cell (wv_get hs)
      have hcx := HRX.out.cell (wv_get hx)
      have hfx := HRX.out.free i
      have hii : (i : Int) < (nw : Int) := by omega
      have hi0 : (0 : Int) ≤ (i : Int) := by omega
      clear hcn ha1 hon ho1 hx2 hc2' hx hs hRSr
      go_upto_region 5 with fail
      obtain ⟨w5, hw5⟩ : ∃ w5, w5 = wr.setCell ⟨ga, i, none⟩ (.int .u64 (a1 : Int)) := ⟨_, rfl⟩
      rw [← hw5]
      have hg5 : wr.grownBy w5 (some ga) := by rw [hw5]; exact set_grown0 _ _ _ _
      have hR5 : RowAt w5 ga ((wv X).set i (.int .u64 (a1 : Int))) 128 := by rw [hw5]; exact HRX.out.set i _
      have HG5 := Lib.hid (grown_two HGW.out hg5)
      have HR5 := Lib.hid hR5
      obtain ⟨d1, d2, hRSr⟩ := HC.out w5 HG5.out
      have HL := Lib.hid (show i < X.length by rw [HP.out.1, ← HN.out]; exact hlt)
      have hia : ((wv X).set i (Value.int .u64 (a1 : Int)))[i]? = some (.int .u64 (a1 : Int)) := List.getElem?_set_self (by unfold wv; rw [List.length_map]; exact HL.out)
      have hcs := hRSr.cell (wv_get HSX.out)
      have hca := hR5.cell hia
      have hfa := hR5.free i
      have f1 := grown_cell d1
      have f2 := grown_cell d2
      have f3 := grown_cell hcs
      have f4 := grown_cell hca
      clear hcx hfx hw5 hg5 hR5 hRSr hia d1 d2 hcs hca hfa
      refine wp_region_grown (by kernel_rfl) (by kernel_rfl) ?_
      repeat (first | go_big_quiet_skip | (go_big_quiet_want; go_big_quiet_op; go_big_quiet_on))
      refine wpQuiet_nil ?_
      intro w6 hw6
      have hbg : Below w5.heap.size w5 w6 := by obtain ⟨x, rfl⟩ := hw6; exact x.below
      have HG6 := Lib.hid (grown_two HG5.out (grown_below hbg))
      have hR6 := HR5.out.below hbg
      obtain ⟨d1, d2, hRSr⟩ := HC.out w6 HG6.out
      have hia : ((wv X).set i (Value.int .u64 (a1 : Int)))[i]? = some (.int .u64 (a1 : Int)) := List.getElem?_set_self (by unfold wv; rw [List.length_map]; exact HL.out)
      have hca := hR6.cell hia
      have hfa := hR6.free i
      have HW7 := Lib.hid (show ∃ w7, w7 = w6.setCell ⟨ga, i, none⟩ (.int .u64 (x2 : Int)) ∧ RowAt w7 ga (wv (X.set i x2)) 128 ∧ w.grownBy w7 (some ga) from ⟨_, rfl, by
        have h := hR6.set i (.int .u64 (x2 : Int))
        rw [List.set_set, wv_set] at h
        exact h, grown_two HG6.out (set_grown0 _ _ _ _)⟩)
      clear hw6 hbg f1 f2 f3 f4 hR6 hRSr hia
      go_wp2_with fail
      obtain ⟨w7, hw7, hR7, hG7⟩ := HW7.out
      rw [← hw7]
      clear hw7
      go_roundw
      case rel => exact ⟨i + 1, _, _, by simp, by rw [HCN.out], by omega, HPN.out, hR7, hG7⟩
      case measure => simp only [intOf]; omega
    · have hii : ¬ (i : Int) < (nw : Int) := by omega
      have HE := Lib.hid (show i = nw by omega)
      go_wp2_with fail
      go_end0
      exact ⟨rfl, ⟨X, c, by rw [← HE.out]; exact HP.out, HRX.out⟩, HGW.out⟩
end Go.Proofs.YtclhpedecimicaaGreat
