/-
  A call that tells whether something holds.
-/
import Derived.Test.YtdpfnnhlneapbaaTreeKid
namespace Go.Proofs.Ytdpfnnhlneapbaa
open Go Go.RowKit

/-- A call that tells whether p. -/
def TellsP (p : Prop) (e : Ending) : Prop := ∃ v, e = .returned (.bool v) ∧ (v = true ↔ p)
theorem TellsP.no {p : Prop} {e : Ending} (he : e = .returned (.bool false)) (h : ¬ p) : TellsP p e := ⟨false, he, by simpa using h⟩
theorem TellsP.yes {p : Prop} {e : Ending} (he : e = .returned (.bool true)) (h : p) : TellsP p e := ⟨true, he, by simpa using h⟩
theorem TellsP.of {p : Prop} {e : Ending} {b : Bool} (he : e = .returned (.bool b)) (h : b = true ↔ p) : TellsP p e := ⟨b, he, h⟩
theorem TellsP.is {p q : Prop} {e : Ending} (h : TellsP p e) (hpq : p ↔ q) : TellsP q e := by
  obtain ⟨v, h1, h2⟩ := h
  exact ⟨v, h1, h2.trans hpq⟩
end Go.Proofs.Ytdpfnnhlneapbaa
