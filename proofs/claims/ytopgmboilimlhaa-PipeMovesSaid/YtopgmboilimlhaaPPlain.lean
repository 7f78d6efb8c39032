/-
  Chapter 8 in plain words: pipes; what follows.
-/
import Derived.WalkKit
namespace Go.Proofs.Ytopgmboilimlhaa
set_option maxRecDepth 100000
open Go Go.RowKit

structure Pip where
  data : List UInt8
  rd : Int
  wr : Int
  cap : Int
def fitPip (p : Pip) : Bool := decide (0 ≤ p.rd) && decide (p.rd ≤ 1000) && decide (0 ≤ p.wr) && decide (p.wr ≤ 1000) && decide (1 ≤ p.cap) && decide (p.cap ≤ 65536) && decide ((p.data.length : Int) ≤ p.cap)
def newPip (size : Int) : Pip × Int := if size < 1 ∨ 65536 < size then (⟨[], 0, 0, 0⟩, 22) else (⟨[], 1, 1, size⟩, 0)
def readPip (p : Pip) (n : Int) : Pip × List UInt8 × Int :=
  if n < 1 then (p, [], 22) else if p.data = [] then (if p.wr = 0 then (p, [], 0) else (p, [], 11)) else ({ p with data := p.data.drop n.toNat }, p.data.take n.toNat, 0)
def writePip (p : Pip) (s : List UInt8) : Pip × Int × Int :=
  if p.rd = 0 then (p, 0, 32) else if s = [] then (p, 0, 0) else if p.cap - (p.data.length : Int) = 0 then (p, 0, 11) else
  ({ p with data := p.data ++ s.take (p.cap - (p.data.length : Int)).toNat }, min (p.cap - (p.data.length : Int)) (s.length : Int), 0)
def closePip (p : Pip) (reads : Bool) : Pip := if reads = true then (if 0 < p.rd then { p with rd := p.rd - 1 } else p) else (if 0 < p.wr then { p with wr := p.wr - 1 } else p)
def dupPip (p : Pip) (reads : Bool) : Pip := if reads = true then (if p.rd < 1000 then { p with rd := p.rd + 1 } else p) else (if p.wr < 1000 then { p with wr := p.wr + 1 } else p)

theorem fit_pip {p : Pip} : fitPip p = true ↔ 0 ≤ p.rd ∧ p.rd ≤ 1000 ∧ 0 ≤ p.wr ∧ p.wr ≤ 1000 ∧ 1 ≤ p.cap ∧ p.cap ≤ 65536 ∧ (p.data.length : Int) ≤ p.cap := by
  simp [fitPip, and_assoc]
theorem new_fits {size : Int} (h : (newPip size).2 = 0) : fitPip (newPip size).1 = true ∧ (newPip size).1.cap = size ∧ (newPip size).1.data = [] := by
  unfold newPip at h ⊢
  split at h
  · exact absurd h (by decide)
  · rename_i hs
    rw [if_neg hs]
    refine ⟨fit_pip.2 ?_, rfl, rfl⟩
    show (0 : Int) ≤ 1 ∧ (1 : Int) ≤ 1000 ∧ (0 : Int) ≤ 1 ∧ (1 : Int) ≤ 1000 ∧ 1 ≤ size ∧ size ≤ 65536 ∧ ((0 : Nat) : Int) ≤ size
    omega
theorem new_zero {size : Int} (h : (newPip size).2 ≠ 0) : (newPip size).1 = ⟨[], 0, 0, 0⟩ := by
  unfold newPip at h ⊢
  split at h
  · rename_i hs
    rw [if_pos hs]
  · exact absurd rfl h
/-- What a writing leaves: as many of the first bytes as are told stand behind; the pipe stays fit, and its bound. -/
theorem write_pip {p : Pip} (hF : fitPip p = true) (s : List UInt8) {q : Pip} {k e : Int} (hz : writePip p s = (q, k, e)) :
    fitPip q = true ∧ q.cap = p.cap ∧ (e = 0 → 0 ≤ k ∧ k ≤ (s.length : Int) ∧ q.data = p.data ++ s.take k.toNat) ∧ (e ≠ 0 → q = p) ∧ (e = 0 ∨ e = 11 ∨ e = 32) := by
  have hf := fit_pip.1 hF
  unfold writePip at hz
  split at hz
  · simp only [Prod.mk.injEq] at hz
    obtain ⟨rfl, rfl, rfl⟩ := hz
    exact ⟨hF, rfl, fun h => absurd h (by decide), fun _ => rfl, .inr (.inr rfl)⟩
  split at hz
  · simp only [Prod.mk.injEq] at hz
    obtain ⟨rfl, rfl, rfl⟩ := hz
    exact ⟨hF, rfl, fun _ => ⟨Int.le_refl _, by omega, by simp⟩, fun h => absurd rfl h, .inl rfl⟩
  split at hz
  · simp only [Prod.mk.injEq] at hz
    obtain ⟨rfl, rfl, rfl⟩ := hz
    exact ⟨hF, rfl, fun h => absurd h (by decide), fun _ => rfl, .inr (.inl rfl)⟩
  · simp only [Prod.mk.injEq] at hz
    obtain ⟨rfl, rfl, rfl⟩ := hz
    refine ⟨fit_pip.2 ⟨hf.1, hf.2.1, hf.2.2.1, hf.2.2.2.1, hf.2.2.2.2.1, hf.2.2.2.2.2.1, ?_⟩, rfl, fun _ => ⟨by omega, by omega, ?_⟩, fun h => absurd rfl h, .inl rfl⟩
    · show ((p.data ++ s.take (p.cap - (p.data.length : Int)).toNat).length : Int) ≤ p.cap
      rw [List.length_append, List.length_take]
      omega
    · show p.data ++ s.take (p.cap - (p.data.length : Int)).toNat = p.data ++ s.take (min (p.cap - (p.data.length : Int)) (s.length : Int)).toNat
      congr 1
      rw [List.take_eq_take_iff]
      omega
/-- What a reading leaves: what is told and what is left are what was there. -/
theorem read_pip {p : Pip} (hF : fitPip p = true) {n : Int} {q : Pip} {t : List UInt8} {e : Int} (hz : readPip p n = (q, t, e)) :
    fitPip q = true ∧ q.cap = p.cap ∧ t ++ q.data = p.data ∧ (e ≠ 0 → q = p ∧ t = []) ∧ (1 ≤ n → e = 0 ∨ e = 11) := by
  have hf := fit_pip.1 hF
  unfold readPip at hz
  split at hz
  · rename_i h
    simp only [Prod.mk.injEq] at hz
    obtain ⟨rfl, rfl, rfl⟩ := hz
    exact ⟨hF, rfl, rfl, fun _ => ⟨rfl, rfl⟩, fun h2 => by omega⟩
  split at hz
  · split at hz
    · simp only [Prod.mk.injEq] at hz
      obtain ⟨rfl, rfl, rfl⟩ := hz
      exact ⟨hF, rfl, rfl, fun _ => ⟨rfl, rfl⟩, fun _ => .inl rfl⟩
    · simp only [Prod.mk.injEq] at hz
      obtain ⟨rfl, rfl, rfl⟩ := hz
      exact ⟨hF, rfl, rfl, fun _ => ⟨rfl, rfl⟩, fun _ => .inr rfl⟩
  · simp only [Prod.mk.injEq] at hz
    obtain ⟨rfl, rfl, rfl⟩ := hz
    refine ⟨fit_pip.2 ⟨hf.1, hf.2.1, hf.2.2.1, hf.2.2.2.1, hf.2.2.2.2.1, hf.2.2.2.2.2.1, ?_⟩, rfl, List.take_append_drop .., fun h => absurd rfl h, fun _ => .inl rfl⟩
    show ((p.data.drop n.toNat).length : Int) ≤ p.cap
    rw [List.length_drop]
    omega
/-- A descriptor more, and one less. -/
theorem ends_pip {p : Pip} (hF : fitPip p = true) (h1 : p.rd ≤ 999) (h2 : p.wr ≤ 999) (reads : Bool) : closePip (dupPip p reads) reads = p ∧ (dupPip p reads).rd + (dupPip p reads).wr = p.rd + p.wr + 1 := by
  have hf := fit_pip.1 hF
  cases reads with
  | true =>
    have h : dupPip p true = { p with rd := p.rd + 1 } := by
      unfold dupPip
      rw [if_pos rfl, if_pos (by omega)]
    rw [h]
    refine ⟨?_, by show p.rd + 1 + p.wr = _; omega⟩
    unfold closePip
    rw [if_pos rfl, if_pos (show 0 < p.rd + 1 by omega)]
    show ({ p with rd := p.rd + 1 - 1 } : Pip) = p
    rw [show p.rd + 1 - 1 = p.rd by omega]
  | false =>
    have h : dupPip p false = { p with wr := p.wr + 1 } := by
      unfold dupPip
      rw [if_neg (by decide), if_pos (by omega)]
    rw [h]
    refine ⟨?_, by show p.rd + (p.wr + 1) = _; omega⟩
    unfold closePip
    rw [if_neg (by decide), if_pos (show 0 < p.wr + 1 by omega)]
    show ({ p with wr := p.wr + 1 - 1 } : Pip) = p
    rw [show p.wr + 1 - 1 = p.wr by omega]
end Go.Proofs.Ytopgmboilimlhaa
