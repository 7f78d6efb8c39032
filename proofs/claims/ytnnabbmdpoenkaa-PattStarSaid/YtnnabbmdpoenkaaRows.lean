/-
  No cell of these rows narrows 'for every input' (looked for: loops, veiled, ifaces, maps, wideKeys, modest, calm, conditions, laid).
  DERIVED. THE GIVEN ROWS OF THIS SEAT. 4 by the template 'for every input the law returns true; each argument reads behind the call as it read before'; 0 by the template 'total and deterministic' (their statements: YtnnabbmdpoenkaaTotals.lean).
  GIVEN WITH THE SEED: the statements are not yours to turn. If you find one false, say at which input.
  Laid BY PROGRAM, IN A SANDBOX (cutbox-rows.mjs): the forced cells as the released guide's own fill.sh prints them over the translation 0103e058411368db… (all of the seat's roots in one cut). By AI agents, Wed Nov 11 2026. No macro, syntax, notation, axiom, sorry.
-/
import Derived.Test.YtnnabbmdpoenkaaChecked
import GoSem.Claim
import GoSem.ClaimJoined
import GoSem.ClaimMapViews
import Derived.JoinedTies
import Derived.KernelRfl
namespace Go.Proofs.Ytnnabbmdpoenkaa
/- THE CELL 'sum', in the pinned program and in every row, IS THE sha256 OF THE DUMP (.gsa) THAT YtnnabbmdpoenkaaProg.lean LOADS. Nothing in Lean hashes anything: it is a label: what it is worth is what the hold of that sum in a sandbox is worth. -/
noncomputable def Try.pinned : Pinned := { name := "ytnnabbmdpoenkaa", sum := "0103e058411368db0bec24731e5fdeee858248bd7e89cd52e264e71b156a868b", checked := Try.checked }
namespace Rows
def none {H : Type} : Left H := { results := [], args := [] }

/-- 'windlasslaw10.PattEnds': WHATEVER THE INPUT: true; the input reads as it did. -/
def pattEndsSpec : ChangeSpec := { name := "pattEnds", fn := fun _ => fun
  | [d1, d2, d3, d4] => { results := [.lit (.bool true)], args := [d1, d2, d3, d4] }
  | _ => none }
def pattEndsRow : OpenClaim := { program := "ytnnabbmdpoenkaa", sum := "0103e058411368db0bec24731e5fdeee858248bd7e89cd52e264e71b156a868b", func := "windlass/windlasslaw10.PattEnds", spec := "pattEnds", unfollowed := true, recurses := true, apart := false }
def PattEndsSaid : Prop := pattEndsRow.holds Try.pinned (OpenSpec.ofChange pattEndsSpec)

/-- ITS FALSE NEIGHBOUR: 'it returns false'. Refute it at one input. -/
def pattEndsWrong : ChangeSpec := { name := "pattEnds", fn := fun _ => fun
  | [d1, d2, d3, d4] => { results := [.lit (.bool false)], args := [d1, d2, d3, d4] }
  | _ => none }
def PattEndsWrongFalsely : Prop := pattEndsRow.holds Try.pinned (OpenSpec.ofChange pattEndsWrong)

/-- 'windlasslaw10.PattPlain': WHATEVER THE INPUT: true; the input reads as it did. -/
def pattPlainSpec : ChangeSpec := { name := "pattPlain", fn := fun _ => fun
  | [d1, d2, d3] => { results := [.lit (.bool true)], args := [d1, d2, d3] }
  | _ => none }
def pattPlainRow : OpenClaim := { program := "ytnnabbmdpoenkaa", sum := "0103e058411368db0bec24731e5fdeee858248bd7e89cd52e264e71b156a868b", func := "windlass/windlasslaw10.PattPlain", spec := "pattPlain", unfollowed := true, recurses := true, apart := false }
def PattPlainSaid : Prop := pattPlainRow.holds Try.pinned (OpenSpec.ofChange pattPlainSpec)

/-- ITS FALSE NEIGHBOUR: 'it returns false'. Refute it at one input. -/
def pattPlainWrong : ChangeSpec := { name := "pattPlain", fn := fun _ => fun
  | [d1, d2, d3] => { results := [.lit (.bool false)], args := [d1, d2, d3] }
  | _ => none }
def PattPlainWrongFalsely : Prop := pattPlainRow.holds Try.pinned (OpenSpec.ofChange pattPlainWrong)

/-- 'windlasslaw10.PattStar': WHATEVER THE INPUT: true; the input reads as it did. -/
def pattStarSpec : ChangeSpec := { name := "pattStar", fn := fun _ => fun
  | [d1, d2, d3] => { results := [.lit (.bool true)], args := [d1, d2, d3] }
  | _ => none }
def pattStarRow : OpenClaim := { program := "ytnnabbmdpoenkaa", sum := "0103e058411368db0bec24731e5fdeee858248bd7e89cd52e264e71b156a868b", func := "windlass/windlasslaw10.PattStar", spec := "pattStar", unfollowed := true, recurses := true, apart := false }
def PattStarSaid : Prop := pattStarRow.holds Try.pinned (OpenSpec.ofChange pattStarSpec)

/-- ITS FALSE NEIGHBOUR: 'it returns false'. Refute it at one input. -/
def pattStarWrong : ChangeSpec := { name := "pattStar", fn := fun _ => fun
  | [d1, d2, d3] => { results := [.lit (.bool false)], args := [d1, d2, d3] }
  | _ => none }
def PattStarWrongFalsely : Prop := pattStarRow.holds Try.pinned (OpenSpec.ofChange pattStarWrong)

/-- 'windlasslaw10.PattTurned': WHATEVER THE INPUT: true; the input reads as it did. -/
def pattTurnedSpec : ChangeSpec := { name := "pattTurned", fn := fun _ => fun
  | [d1, d2] => { results := [.lit (.bool true)], args := [d1, d2] }
  | _ => none }
def pattTurnedRow : OpenClaim := { program := "ytnnabbmdpoenkaa", sum := "0103e058411368db0bec24731e5fdeee858248bd7e89cd52e264e71b156a868b", func := "windlass/windlasslaw10.PattTurned", spec := "pattTurned", unfollowed := true, recurses := true, apart := false }
def PattTurnedSaid : Prop := pattTurnedRow.holds Try.pinned (OpenSpec.ofChange pattTurnedSpec)

/-- ITS FALSE NEIGHBOUR: 'it returns false'. Refute it at one input. -/
def pattTurnedWrong : ChangeSpec := { name := "pattTurned", fn := fun _ => fun
  | [d1, d2] => { results := [.lit (.bool false)], args := [d1, d2] }
  | _ => none }
def PattTurnedWrongFalsely : Prop := pattTurnedRow.holds Try.pinned (OpenSpec.ofChange pattTurnedWrong)

/- THE SECOND FORM. 'bulk': how many values and letters a reading holds, each counted each time it is reached (what is shared counts as often as it is met; a slice's spare places count too). A statement '..UptoSaid' is the law's where the arguments, and the package variables that the reading takes, are together of bulk at most 1048576: NARROWER than '..Said'. Prove '..Said' where nothing that the law and all that it calls make is longer than what came in: it says more and counts as full. Else prove '..UptoSaid'. A law counts once. -/
mutual
def uptoBulk {H : Type} : DataW H → Nat
  | .lit (.string bytes) => bytes.length + 1
  | .lit _ => 1
  | .nil => 1
  | .ptr d => uptoBulk d + 1
  | .slice elems spare => uptoBulkAll elems + uptoBulkAll spare + 1
  | .agg parts => uptoBulkAll parts + 1
  | .iface _ d => uptoBulk d + 1
  | .map entries => uptoBulkEntries entries + 1
  | .held _ => 1
def uptoBulkAll {H : Type} : List (DataW H) → Nat
  | [] => 0
  | d :: r => uptoBulk d + uptoBulkAll r
def uptoBulkEntries {H : Type} : List (Lit × DataW H) → Nat
  | [] => 0
  | x :: r => uptoBulkEntry x + uptoBulkEntries r
def uptoBulkEntry {H : Type} : Lit × DataW H → Nat
  | (.string bytes, d) => bytes.length + uptoBulk d + 1
  | (_, d) => uptoBulk d + 1
 end
def uptoSmall : (H : Type) → List (DataW H) → Bool := fun _ ds => decide (uptoBulkAll ds ≤ 1048576)
def OpenSpec.upto (s : _root_.Go.ChangeSpec) : _root_.Go.OpenSpec := { _root_.Go.OpenSpec.ofChange s with cond := some uptoSmall }

/-- 'windlasslaw10.PattEnds', WHERE WHAT IT READS IS OF BULK AT MOST 1048576: true; the input reads as it did. -/
def pattEndsUptoRow : OpenClaim := { program := "ytnnabbmdpoenkaa", sum := "0103e058411368db0bec24731e5fdeee858248bd7e89cd52e264e71b156a868b", func := "windlass/windlasslaw10.PattEnds", spec := "pattEnds", unfollowed := true, recurses := true, apart := false, narrowed := true }
def PattEndsUptoSaid : Prop := pattEndsUptoRow.holds Try.pinned (OpenSpec.upto pattEndsSpec)

/-- 'windlasslaw10.PattPlain', WHERE WHAT IT READS IS OF BULK AT MOST 1048576: true; the input reads as it did. -/
def pattPlainUptoRow : OpenClaim := { program := "ytnnabbmdpoenkaa", sum := "0103e058411368db0bec24731e5fdeee858248bd7e89cd52e264e71b156a868b", func := "windlass/windlasslaw10.PattPlain", spec := "pattPlain", unfollowed := true, recurses := true, apart := false, narrowed := true }
def PattPlainUptoSaid : Prop := pattPlainUptoRow.holds Try.pinned (OpenSpec.upto pattPlainSpec)

/-- 'windlasslaw10.PattStar', WHERE WHAT IT READS IS OF BULK AT MOST 1048576: true; the input reads as it did. -/
def pattStarUptoRow : OpenClaim := { program := "ytnnabbmdpoenkaa", sum := "0103e058411368db0bec24731e5fdeee858248bd7e89cd52e264e71b156a868b", func := "windlass/windlasslaw10.PattStar", spec := "pattStar", unfollowed := true, recurses := true, apart := false, narrowed := true }
def PattStarUptoSaid : Prop := pattStarUptoRow.holds Try.pinned (OpenSpec.upto pattStarSpec)

/-- 'windlasslaw10.PattTurned', WHERE WHAT IT READS IS OF BULK AT MOST 1048576: true; the input reads as it did. -/
def pattTurnedUptoRow : OpenClaim := { program := "ytnnabbmdpoenkaa", sum := "0103e058411368db0bec24731e5fdeee858248bd7e89cd52e264e71b156a868b", func := "windlass/windlasslaw10.PattTurned", spec := "pattTurned", unfollowed := true, recurses := true, apart := false, narrowed := true }
def PattTurnedUptoSaid : Prop := pattTurnedUptoRow.holds Try.pinned (OpenSpec.upto pattTurnedSpec)

end Rows
end Go.Proofs.Ytnnabbmdpoenkaa
