/-
  All places at once: at which places in a row of wants a text can be, byte by byte.
-/
import Derived.Test.YtfldhggmgepcjaaQPlain
namespace Go.Proofs.Ytfldhggmgepcjaa
set_option maxRecDepth 100000
open Go Go.RowKit

theorem take_wt : ∀ (r : List Wt) (j : Nat) (x : Wt), r[j]? = some x → r.take (j + 1) = r.take j ++ [x]
  | [], j, x, h => by cases h
  | a :: r, 0, x, h => by simp at h; simp [h]
  | a :: r, j + 1, x, h => by
    rw [List.take_succ_cons, List.take_succ_cons, take_wt r j x (by simpa using h)]
    rfl
def isRep (r : List Wt) (j : Nat) : Bool := match r[j]? with | some x => x.rep | none => false
def tkAt (r : List Wt) (j : Nat) (c : UInt8) : Bool := match r[j]? with | some x => x.tk c | none => false
theorem isRep_lt {r : List Wt} {j : Nat} (h : isRep r j = true) : ∃ x, r[j]? = some x ∧ x.rep = true ∧ j < r.length := by
  unfold isRep at h
  cases hx : r[j]? with
  | none => rw [hx] at h; cases h
  | some x => rw [hx] at h; exact ⟨x, rfl, h, (List.getElem?_eq_some_iff.1 hx).1⟩
theorem isRep_at {r : List Wt} {j : Nat} {x : Wt} (h : r[j]? = some x) : isRep r j = x.rep := by unfold isRep; rw [h]
theorem tkAt_at {r : List Wt} {j : Nat} {x : Wt} (h : r[j]? = some x) (c : UInt8) : tkAt r j c = x.tk c := by unfold tkAt; rw [h]
theorem tkAt_lt {r : List Wt} {j : Nat} {c : UInt8} (h : tkAt r j c = true) : j < r.length := by
  unfold tkAt at h
  cases hx : r[j]? with
  | none => rw [hx] at h; cases h
  | some x => exact (List.getElem?_eq_some_iff.1 hx).1
theorem rep_tkAt {r : List Wt} {j : Nat} (h : isRep r j = true) (c : UInt8) : tkAt r j c = true := by
  obtain ⟨x, hx, hr, -⟩ := isRep_lt h
  rw [tkAt_at hx]; exact rep_tk hr c
theorem alone_rep {r : List Wt} (hA : Alone r) {j : Nat} (h : isRep r j = true) : isRep r (j + 1) = false := by
  obtain ⟨x, hx, hr, -⟩ := isRep_lt h
  cases hy : r[j + 1]? with
  | none => unfold isRep; rw [hy]
  | some y => rw [isRep_at hy]; exact hA j x y hx hy hr

/-- A text can be at a place. -/
def Np (r : List Wt) (j : Nat) (t : List UInt8) : Prop := (isRep r j = true ∧ Mat (r.take (j + 1)) t) ∨ (isRep r j = false ∧ j ≤ r.length ∧ Mat (r.take j) t)
theorem np_rep {r : List Wt} {j : Nat} (h : isRep r j = true) (t : List UInt8) : Np r j t ↔ Mat (r.take (j + 1)) t := by simp [Np, h]
theorem np_not {r : List Wt} {j : Nat} (h : isRep r j = false) (t : List UInt8) : Np r j t ↔ j ≤ r.length ∧ Mat (r.take j) t := by simp [Np, h]
theorem np_len (r : List Wt) (t : List UInt8) : Np r r.length t ↔ Mat r t := by
  have h : isRep r r.length = false := by unfold isRep; rw [List.getElem?_eq_none (Nat.le_refl _)]
  rw [np_not h, List.take_length]
  simp
theorem np_le {r : List Wt} {j : Nat} {t : List UInt8} (h : Np r j t) : j ≤ r.length := by
  rcases h with ⟨h, -⟩ | ⟨-, h, -⟩
  · obtain ⟨-, -, -, h⟩ := isRep_lt h; omega
  · exact h
theorem dp_nil {r : List Wt} (hA : Alone r) : ∀ j, j ≤ r.length → (Mat (r.take j) [] ↔ j = 0 ∨ (j = 1 ∧ isRep r 0 = true))
  | 0, _ => by simp [Mat]
  | j + 1, h => by
    obtain ⟨x, hx⟩ : ∃ x, r[j]? = some x := ⟨r[j], List.getElem?_eq_getElem (by omega)⟩
    rw [take_wt r j x hx]
    cases hr : x.rep with
    | true =>
      rw [mat_rep_nil _ hr, dp_nil hA j (by omega)]
      have hj := isRep_at hx
      constructor
      · rintro (rfl | ⟨rfl, h0⟩)
        · exact Or.inr ⟨rfl, by rw [hj, hr]⟩
        · have := alone_rep hA h0
          rw [hj, hr] at this; cases this
      · rintro (h0 | ⟨h0, -⟩)
        · omega
        · exact Or.inl (by omega)
    | false =>
      constructor
      · intro h0; exact absurd h0 (mat_not_nil _ hr)
      · rintro (h0 | ⟨h0, h1⟩)
        · omega
        · obtain rfl : j = 0 := by omega
          rw [isRep_at hx, hr] at h1; cases h1
theorem np_nil {r : List Wt} (hA : Alone r) (j : Nat) : Np r j [] ↔ j = 0 ∨ (j = 1 ∧ isRep r 0 = true) := by
  cases hr : isRep r j with
  | true =>
    obtain ⟨x, hx, -, hl⟩ := isRep_lt hr
    rw [np_rep hr, dp_nil hA (j + 1) (by omega)]
    constructor
    · rintro (h | ⟨h, -⟩)
      · omega
      · exact Or.inl (by omega)
    · rintro (rfl | ⟨rfl, h⟩)
      · exact Or.inr ⟨rfl, hr⟩
      · rw [alone_rep hA h] at hr; cases hr
  | false =>
    rw [np_not hr]
    constructor
    · rintro ⟨h, h1⟩; exact (dp_nil hA j h).1 h1
    · intro h
      have hl : j ≤ r.length := by
        rcases h with rfl | ⟨rfl, h⟩
        · omega
        · obtain ⟨-, -, -, h⟩ := isRep_lt h; omega
      exact ⟨hl, (dp_nil hA j hl).2 h⟩
/-- The places behind a byte, ahead of the going on past what repeats. -/
def Ap (r : List Wt) (j : Nat) (t : List UInt8) (c : UInt8) : Prop := (Np r j t ∧ isRep r j = true) ∨ (0 < j ∧ Np r (j - 1) t ∧ tkAt r (j - 1) c = true ∧ isRep r (j - 1) = false)
theorem np_rep_step {r : List Wt} (hA : Alone r) {j : Nat} (hr : isRep r j = true) (t : List UInt8) (c : UInt8) : Np r j (t ++ [c]) ↔ Ap r j t c := by
  obtain ⟨x, hx, hxr, hl⟩ := isRep_lt hr
  rw [np_rep hr, take_wt r j x hx, mat_rep_snoc _ hxr, ← take_wt r j x hx, ← np_rep hr]
  have h1 : Mat (r.take j) (t ++ [c]) ↔ (0 < j ∧ Np r (j - 1) t ∧ tkAt r (j - 1) c = true ∧ isRep r (j - 1) = false) := by
    cases j with
    | zero =>
      simp only [List.take_zero, Mat]
      constructor
      · intro h; exact absurd h (by simp)
      · rintro ⟨h, -⟩; omega
    | succ j =>
      obtain ⟨y, hy⟩ : ∃ y, r[j]? = some y := ⟨r[j], List.getElem?_eq_getElem (by omega)⟩
      have hyr : isRep r j = false := by
        cases h : isRep r j with
        | false => rfl
        | true => rw [alone_rep hA h] at hr; cases hr
      have hyr2 := hyr
      rw [isRep_at hy] at hyr2
      rw [take_wt r j y hy, mat_not_snoc _ hyr2, Nat.add_sub_cancel, np_not hyr, tkAt_at hy]
      constructor
      · rintro ⟨h1, h2⟩; exact ⟨by omega, ⟨by omega, h1⟩, h2, hyr⟩
      · rintro ⟨-, ⟨-, h1⟩, h2, -⟩; exact ⟨h1, h2⟩
  rw [h1]
  unfold Ap
  constructor
  · rintro (h | h)
    · exact Or.inr h
    · exact Or.inl ⟨h, hr⟩
  · rintro (h | h)
    · exact Or.inr h.1
    · exact Or.inl h
theorem np_step {r : List Wt} (hA : Alone r) (j : Nat) (t : List UInt8) (c : UInt8) : Np r j (t ++ [c]) ↔ Ap r j t c ∨ (0 < j ∧ Ap r (j - 1) t c ∧ isRep r (j - 1) = true) := by
  cases hr : isRep r j with
  | true =>
    rw [np_rep_step hA hr]
    constructor
    · intro h; exact Or.inl h
    · rintro (h | ⟨h0, -, h1⟩)
      · exact h
      · have := alone_rep hA h1
        rw [show j - 1 + 1 = j by omega, hr] at this; cases this
  | false =>
    cases j with
    | zero =>
      rw [np_not hr]
      simp only [List.take_zero, Mat]
      constructor
      · rintro ⟨-, h⟩; simp at h
      · rintro (h | h)
        · rcases h with ⟨-, h⟩ | ⟨h, -⟩
          · rw [hr] at h; cases h
          · omega
        · have := h.1; omega
    | succ j =>
      rw [Nat.add_sub_cancel]
      by_cases hl : j < r.length
      · obtain ⟨y, hy⟩ : ∃ y, r[j]? = some y := ⟨r[j], List.getElem?_eq_getElem hl⟩
        cases hyr : y.rep with
        | true =>
          have hjr : isRep r j = true := by rw [isRep_at hy, hyr]
          have h1 : Np r (j + 1) (t ++ [c]) ↔ Np r j (t ++ [c]) := by
            rw [np_not hr, np_rep hjr]
            constructor
            · rintro ⟨-, h⟩; exact h
            · intro h; exact ⟨by omega, h⟩
          rw [h1, np_rep_step hA hjr]
          constructor
          · intro h; exact Or.inr ⟨by omega, h, hjr⟩
          · rintro (h | ⟨-, h, -⟩)
            · rcases h with ⟨-, h⟩ | ⟨-, -, -, h⟩
              · rw [hr] at h; cases h
              · rw [Nat.add_sub_cancel, hjr] at h; cases h
            · exact h
        | false =>
          have hjr : isRep r j = false := by rw [isRep_at hy, hyr]
          rw [np_not hr, take_wt r j y hy, mat_not_snoc _ hyr]
          constructor
          · rintro ⟨-, h1, h2⟩
            exact Or.inl (Or.inr ⟨by omega, by rw [Nat.add_sub_cancel, np_not hjr]; exact ⟨by omega, h1⟩, by rw [Nat.add_sub_cancel, tkAt_at hy]; exact h2, by rw [Nat.add_sub_cancel]; exact hjr⟩)
          · rintro (h | ⟨-, -, h⟩)
            · rcases h with ⟨-, h⟩ | ⟨-, h1, h2, -⟩
              · rw [hr] at h; cases h
              · rw [Nat.add_sub_cancel] at h1 h2
                rw [np_not hjr] at h1
                rw [tkAt_at hy] at h2
                exact ⟨by omega, h1.2, h2⟩
            · rw [hjr] at h; cases h
      · have hjr : isRep r j = false := by unfold isRep; rw [List.getElem?_eq_none (by omega)]
        constructor
        · intro h; have := np_le h; omega
        · rintro (h | ⟨-, -, h⟩)
          · rcases h with ⟨-, h⟩ | ⟨-, -, h, -⟩
            · rw [hr] at h; cases h
            · rw [Nat.add_sub_cancel] at h
              have := tkAt_lt h; omega
          · rw [hjr] at h; cases h
theorem ap_le {r : List Wt} {j : Nat} {t : List UInt8} {c : UInt8} (h : Ap r j t c) : j ≤ r.length := by
  rcases h with ⟨h, -⟩ | ⟨h0, -, h, -⟩
  · exact np_le h
  · have := tkAt_lt h; omega
theorem np_dead_step {r : List Wt} (hA : Alone r) {t : List UInt8} {c : UInt8} (h : ∀ j, ¬ Ap r j t c) (j : Nat) : ¬ Np r j (t ++ [c]) := by
  rw [np_step hA]
  rintro (h1 | ⟨-, h1, -⟩)
  · exact h _ h1
  · exact h _ h1
theorem np_dead {r : List Wt} (hA : Alone r) {t : List UInt8} (h : ∀ j, ¬ Np r j t) (u : List UInt8) : ∀ j, ¬ Np r j (t ++ u) := by
  induction u generalizing t with
  | nil => simpa using h
  | cons c u ih =>
    intro j
    rw [show t ++ c :: u = (t ++ [c]) ++ u by simp]
    refine ih (np_dead_step hA fun j h1 => ?_) j
    rcases h1 with ⟨h1, -⟩ | ⟨-, h1, -⟩
    · exact h _ h1
    · exact h _ h1
end Go.Proofs.Ytfldhggmgepcjaa
