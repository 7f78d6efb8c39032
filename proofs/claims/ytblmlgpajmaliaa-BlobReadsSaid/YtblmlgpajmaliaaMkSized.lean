/-
  A fit tree's texts are short.
-/
import Derived.Test.YtblmlgpajmaliaaMkPlain
namespace Go.Proofs.Ytblmlgpajmaliaa
set_option maxRecDepth 100000
open Go Go.RowKit

theorem used_one : ∀ (L : List Ino) (k : Nat) (h : k < L.length), L[k].data.length ≤ usedB L
  | x :: r, 0, _ => by show x.data.length ≤ x.data.length + usedB r; omega
  | x :: r, k + 1, h => by
    have := used_one r k (Nat.lt_of_succ_lt_succ h)
    show (r[k]'(Nat.lt_of_succ_lt_succ h)).data.length ≤ x.data.length + usedB r
    omega
/-- A fit tree's texts are short. -/
theorem sized_fit {L : List Ino} {m b : Int} (hF : FitP L m b) : Sized L := fun k hk => by
  obtain ⟨l1, l2, l3, l4, l5⟩ := hF.limits
  have h1 := used_one L k hk
  refine ⟨by omega, fun e he => ?_⟩
  have := (name_parts (name_of hF.ins hk he).1).2.2.2.1
  omega
end Go.Proofs.Ytblmlgpajmaliaa
