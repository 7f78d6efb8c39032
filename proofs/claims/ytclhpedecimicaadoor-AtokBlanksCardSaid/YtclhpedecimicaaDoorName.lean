/-
  Name, of chars and of its reference: for every text of at most maxLen bytes it answers whether the text is a name.
-/
import Derived.Test.YtclhpedecimicaaDoorBase
namespace Go.Proofs.YtclhpedecimicaaDoor
set_option maxRecDepth 100000
open Go Go.RowKit

/-- What may follow in a name. -/
def folB (c : UInt8) : Bool := begB (c.toNat : Int) || digB (c.toNat : Int)
def nameB : List UInt8 → Bool
  | [] => false
  | c :: r => begB (c.toNat : Int) && r.all folB


theorem name_false0 (s : ByteArray) (h0 : 0 < s.size) (hb : begB (s[0].toNat : Int) = false) : nameB s.data.toList = false := by
  rcases s with ⟨⟨l⟩⟩
  cases l with
  | nil => exact absurd h0 (Nat.lt_irrefl 0)
  | cons c r =>
    have h : begB (c.toNat : Int) = false := hb
    simp [nameB, h]
theorem name_false (s : ByteArray) (k : Nat) (hk : k < s.size) (h1 : 1 ≤ k) (hf : folB s[k] = false) : nameB s.data.toList = false := by
  rcases s with ⟨⟨l⟩⟩
  cases l with
  | nil => exact absurd hk (Nat.not_lt_zero k)
  | cons c r =>
    obtain ⟨j, rfl⟩ : ∃ j, k = j + 1 := ⟨k - 1, by omega⟩
    have hj : j < r.length := by
      have : j + 1 < (c :: r).length := hk
      simpa using this
    have h : folB r[j] = false := hf
    have : r.all folB = false := by
      rw [List.all_eq_false]
      exact ⟨r[j], by simp, by simp [h]⟩
    simp [nameB, this]
theorem name_true (s : ByteArray) (h0 : 0 < s.size) (hb : begB (s[0].toNat : Int) = true) (hall : ∀ j (h : j < s.size), 1 ≤ j → folB s[j] = true) : nameB s.data.toList = true := by
  rcases s with ⟨⟨l⟩⟩
  cases l with
  | nil => exact absurd h0 (Nat.lt_irrefl 0)
  | cons c r =>
    have h : begB (c.toNat : Int) = true := hb
    have : r.all folB = true := by
      rw [List.all_eq_true]
      intro x hx
      obtain ⟨j, hj, rfl⟩ := List.getElem_of_mem hx
      exact hall (j + 1) (by show j + 1 < (c :: r).length; simpa using hj) (by omega)
    simp [nameB, h, this]


def Fols (s : ByteArray) (k : Nat) : Prop := ∀ j (h : j < s.size), 1 ≤ j → j < k → folB s[j] = true


end Go.Proofs.YtclhpedecimicaaDoor
