/-
  A quiet walk that comes back to the very world serves where a still one is asked for.
-/
import Derived.StillTailTactics
import Derived.Deep.QuietTactic
import Derived.BigQuiet
import Derived.Test.YtblmlgpajmaliaaProg
namespace Go.Proofs.Ytblmlgpajmaliaa
set_option maxRecDepth 100000
open Go Go.RowKit

theorem still_of_quiet {P : Program} {o : Oper} {a : Act} {w : World} {K : Act → Prop} (h : o.quiet P a (fun w' => w' = w) K) : o.still P a w K := by
  obtain ⟨v, h1, h2⟩ := h
  have h3 := h1 w rfl
  unfold Oper.quietAt at h3
  unfold Oper.still
  revert h3
  cases (execOp a.eval o).run P w with
  | ok x w' =>
    cases x with
    | value u => rintro ⟨rfl, rfl⟩; exact ⟨rfl, h2⟩
    | skip => rintro ⟨rfl, rfl⟩; exact ⟨rfl, h2⟩
    | enter f args => rintro ⟨rfl, h⟩; exact ⟨rfl, v, h, h2⟩
    | _ => intro h; exact h.elim
  | _ => intro h; exact h.elim
theorem wpStill_of_quiet {P : Program} {ops : Array Oper} {w : World} {Q : Act → Prop} : ∀ (l : List Oper) (a : Act), wpQuiet P ops (fun w' => w' = w) Q l a → wpStill P ops w Q l a
  | [], _, h => h
  | o :: rest, a, h => by
    unfold wpQuiet at h
    unfold wpStill
    split
    · rename_i hw
      rw [if_pos hw] at h
      exact still_of_quiet (Oper.quiet_mono (fun a' h' => wpStill_of_quiet rest a' h') h)
    · rename_i hw
      rw [if_neg hw] at h
      exact wpStill_of_quiet rest _ h
end Go.Proofs.Ytblmlgpajmaliaa
