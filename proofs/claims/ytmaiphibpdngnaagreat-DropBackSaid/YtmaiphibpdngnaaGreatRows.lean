/-
  No cell of these rows narrows 'for every input' (looked for: loops, veiled, ifaces, maps, wideKeys, modest, calm, conditions, laid).
  DERIVED. THE GIVEN ROWS OF THIS SEAT. 5 by the template 'for every input the law returns true; each argument reads behind the call as it read before'; 0 by the template 'total and deterministic' (their statements: YtmaiphibpdngnaaGreatTotals.lean).
  GIVEN WITH THE SEED: the statements are not yours to turn. If you find one false, say at which input.
  Laid BY PROGRAM, IN A SANDBOX (cutbox-rows.mjs): the forced cells as the released guide's own fill.sh prints them over the translation d569aeab1ecb90be… (all of the seat's roots in one cut). By AI agents, Wed Nov 11 2026. No macro, syntax, notation, axiom, sorry.
-/
import Derived.Test.YtmaiphibpdngnaaGreatChecked
import GoSem.Claim
import GoSem.ClaimJoined
import GoSem.ClaimMapViews
import Derived.JoinedTies
import Derived.KernelRfl
namespace Go.Proofs.YtmaiphibpdngnaaGreat
/- THE CELL 'sum', in the pinned program and in every row, IS THE sha256 OF THE DUMP (.gsa) THAT YtmaiphibpdngnaaGreatProg.lean LOADS. Nothing in Lean hashes anything: it is a label: what it is worth is what the hold of that sum in a sandbox is worth. -/
noncomputable def Tryz.pinned : Pinned := { name := "ytmaiphibpdngnaagreat", sum := "d569aeab1ecb90be44fee15fb09a031ff7c1a412131381b09004a18b4a3682d3", checked := Tryz.checked }
namespace Rows
def none {H : Type} : Left H := { results := [], args := [] }

/-- 'windlasslaw06.DropDoes': WHATEVER THE INPUT: true; the input reads as it did. -/
def dropDoesSpec : ChangeSpec := { name := "dropDoes", fn := fun _ => fun
  | [d1, d2, d3, d4] => { results := [.lit (.bool true)], args := [d1, d2, d3, d4] }
  | _ => none }
def dropDoesRow : OpenClaim := { program := "ytmaiphibpdngnaagreat", sum := "d569aeab1ecb90be44fee15fb09a031ff7c1a412131381b09004a18b4a3682d3", func := "windlass/windlasslaw06.DropDoes", spec := "dropDoes", inPlace := ["internal/bytealg.IndexByteString", "internal/bytealg.IndexString", "internal/bytealg.abigen_runtime_cmpstring", "slices.overlaps[windlass/api.Entry]"], unfollowed := true, recurses := true, named := ["internal/bytealg.MaxLen"], apart := false }
def DropDoesSaid : Prop := dropDoesRow.holds Tryz.pinned (OpenSpec.ofChange dropDoesSpec)

/-- ITS FALSE NEIGHBOUR: 'it returns false'. Refute it at one input. -/
def dropDoesWrong : ChangeSpec := { name := "dropDoes", fn := fun _ => fun
  | [d1, d2, d3, d4] => { results := [.lit (.bool false)], args := [d1, d2, d3, d4] }
  | _ => none }
def DropDoesWrongFalsely : Prop := dropDoesRow.holds Tryz.pinned (OpenSpec.ofChange dropDoesWrong)

/-- 'windlasslaw06.DropGoes': WHATEVER THE INPUT: true; the input reads as it did. -/
def dropGoesSpec : ChangeSpec := { name := "dropGoes", fn := fun _ => fun
  | [d1, d2, d3, d4] => { results := [.lit (.bool true)], args := [d1, d2, d3, d4] }
  | _ => none }
def dropGoesRow : OpenClaim := { program := "ytmaiphibpdngnaagreat", sum := "d569aeab1ecb90be44fee15fb09a031ff7c1a412131381b09004a18b4a3682d3", func := "windlass/windlasslaw06.DropGoes", spec := "dropGoes", inPlace := ["internal/bytealg.IndexByteString", "internal/bytealg.IndexString", "internal/bytealg.abigen_runtime_cmpstring", "slices.overlaps[windlass/api.Entry]"], unfollowed := true, recurses := true, named := ["internal/bytealg.MaxLen"], apart := false }
def DropGoesSaid : Prop := dropGoesRow.holds Tryz.pinned (OpenSpec.ofChange dropGoesSpec)

/-- ITS FALSE NEIGHBOUR: 'it returns false'. Refute it at one input. -/
def dropGoesWrong : ChangeSpec := { name := "dropGoes", fn := fun _ => fun
  | [d1, d2, d3, d4] => { results := [.lit (.bool false)], args := [d1, d2, d3, d4] }
  | _ => none }
def DropGoesWrongFalsely : Prop := dropGoesRow.holds Tryz.pinned (OpenSpec.ofChange dropGoesWrong)

/-- 'windlasslaw06.DropMoves': WHATEVER THE INPUT: true; the input reads as it did. -/
def dropMovesSpec : ChangeSpec := { name := "dropMoves", fn := fun _ => fun
  | [d1, d2, d3, d4] => { results := [.lit (.bool true)], args := [d1, d2, d3, d4] }
  | _ => none }
def dropMovesRow : OpenClaim := { program := "ytmaiphibpdngnaagreat", sum := "d569aeab1ecb90be44fee15fb09a031ff7c1a412131381b09004a18b4a3682d3", func := "windlass/windlasslaw06.DropMoves", spec := "dropMoves", inPlace := ["internal/bytealg.IndexByteString", "internal/bytealg.IndexString", "internal/bytealg.abigen_runtime_cmpstring", "slices.overlaps[windlass/api.Entry]"], unfollowed := true, recurses := true, named := ["internal/bytealg.MaxLen"], apart := false }
def DropMovesSaid : Prop := dropMovesRow.holds Tryz.pinned (OpenSpec.ofChange dropMovesSpec)

/-- ITS FALSE NEIGHBOUR: 'it returns false'. Refute it at one input. -/
def dropMovesWrong : ChangeSpec := { name := "dropMoves", fn := fun _ => fun
  | [d1, d2, d3, d4] => { results := [.lit (.bool false)], args := [d1, d2, d3, d4] }
  | _ => none }
def DropMovesWrongFalsely : Prop := dropMovesRow.holds Tryz.pinned (OpenSpec.ofChange dropMovesWrong)

/-- 'windlasslaw06.DropBack': WHATEVER THE INPUT: true; the input reads as it did. -/
def dropBackSpec : ChangeSpec := { name := "dropBack", fn := fun _ => fun
  | [d1, d2, d3, d4, d5] => { results := [.lit (.bool true)], args := [d1, d2, d3, d4, d5] }
  | _ => none }
def dropBackRow : OpenClaim := { program := "ytmaiphibpdngnaagreat", sum := "d569aeab1ecb90be44fee15fb09a031ff7c1a412131381b09004a18b4a3682d3", func := "windlass/windlasslaw06.DropBack", spec := "dropBack", inPlace := ["internal/bytealg.IndexByteString", "internal/bytealg.IndexString", "internal/bytealg.abigen_runtime_cmpstring", "slices.overlaps[windlass/api.Entry]"], unfollowed := true, recurses := true, named := ["internal/bytealg.MaxLen"], apart := false }
def DropBackSaid : Prop := dropBackRow.holds Tryz.pinned (OpenSpec.ofChange dropBackSpec)

/-- ITS FALSE NEIGHBOUR: 'it returns false'. Refute it at one input. -/
def dropBackWrong : ChangeSpec := { name := "dropBack", fn := fun _ => fun
  | [d1, d2, d3, d4, d5] => { results := [.lit (.bool false)], args := [d1, d2, d3, d4, d5] }
  | _ => none }
def DropBackWrongFalsely : Prop := dropBackRow.holds Tryz.pinned (OpenSpec.ofChange dropBackWrong)

/-- 'windlasslaw06.DropAgain': WHATEVER THE INPUT: true; the input reads as it did. -/
def dropAgainSpec : ChangeSpec := { name := "dropAgain", fn := fun _ => fun
  | [d1, d2, d3] => { results := [.lit (.bool true)], args := [d1, d2, d3] }
  | _ => none }
def dropAgainRow : OpenClaim := { program := "ytmaiphibpdngnaagreat", sum := "d569aeab1ecb90be44fee15fb09a031ff7c1a412131381b09004a18b4a3682d3", func := "windlass/windlasslaw06.DropAgain", spec := "dropAgain", inPlace := ["internal/bytealg.IndexByteString", "internal/bytealg.IndexString", "internal/bytealg.abigen_runtime_cmpstring", "slices.overlaps[windlass/api.Entry]"], unfollowed := true, recurses := true, named := ["internal/bytealg.MaxLen"], apart := false }
def DropAgainSaid : Prop := dropAgainRow.holds Tryz.pinned (OpenSpec.ofChange dropAgainSpec)

/-- ITS FALSE NEIGHBOUR: 'it returns false'. Refute it at one input. -/
def dropAgainWrong : ChangeSpec := { name := "dropAgain", fn := fun _ => fun
  | [d1, d2, d3] => { results := [.lit (.bool false)], args := [d1, d2, d3] }
  | _ => none }
def DropAgainWrongFalsely : Prop := dropAgainRow.holds Tryz.pinned (OpenSpec.ofChange dropAgainWrong)

/- THE SECOND FORM. 'bulk': how many values and letters a reading holds, each counted each time it is reached (what is shared counts as often as it is met; a slice's spare places count too). A statement '..UptoSaid' is the law's where the arguments, and the package variables that the reading takes, are together of bulk at most 1048576: NARROWER than '..Said'. Prove '..Said' where nothing that the law and all that it calls make is longer than what came in: it says more and counts as full. Else prove '..UptoSaid'. A law counts once. -/
mutual
def uptoBulk {H : Type} : DataW H → Nat
  | .lit (.string bytes) => bytes.length + 1
  | .lit _ => 1
  | .nil => 1
  | .ptr d => uptoBulk d + 1
  | .slice elems spare => uptoBulkAll elems + uptoBulkAll spare + 1
  | .agg parts => uptoBulkAll parts + 1
  | .iface _ d => uptoBulk d + 1
  | .map entries => uptoBulkEntries entries + 1
  | .held _ => 1
def uptoBulkAll {H : Type} : List (DataW H) → Nat
  | [] => 0
  | d :: r => uptoBulk d + uptoBulkAll r
def uptoBulkEntries {H : Type} : List (Lit × DataW H) → Nat
  | [] => 0
  | x :: r => uptoBulkEntry x + uptoBulkEntries r
def uptoBulkEntry {H : Type} : Lit × DataW H → Nat
  | (.string bytes, d) => bytes.length + uptoBulk d + 1
  | (_, d) => uptoBulk d + 1
 end
def uptoSmall : (H : Type) → List (DataW H) → Bool := fun _ ds => decide (uptoBulkAll ds ≤ 1048576)
def OpenSpec.upto (s : _root_.Go.ChangeSpec) : _root_.Go.OpenSpec := { _root_.Go.OpenSpec.ofChange s with cond := some uptoSmall }

/-- 'windlasslaw06.DropDoes', WHERE WHAT IT READS IS OF BULK AT MOST 1048576: true; the input reads as it did. -/
def dropDoesUptoRow : OpenClaim := { program := "ytmaiphibpdngnaagreat", sum := "d569aeab1ecb90be44fee15fb09a031ff7c1a412131381b09004a18b4a3682d3", func := "windlass/windlasslaw06.DropDoes", spec := "dropDoes", inPlace := ["internal/bytealg.IndexByteString", "internal/bytealg.IndexString", "internal/bytealg.abigen_runtime_cmpstring", "slices.overlaps[windlass/api.Entry]"], unfollowed := true, recurses := true, named := ["internal/bytealg.MaxLen"], apart := false, narrowed := true }
def DropDoesUptoSaid : Prop := dropDoesUptoRow.holds Tryz.pinned (OpenSpec.upto dropDoesSpec)

/-- 'windlasslaw06.DropGoes', WHERE WHAT IT READS IS OF BULK AT MOST 1048576: true; the input reads as it did. -/
def dropGoesUptoRow : OpenClaim := { program := "ytmaiphibpdngnaagreat", sum := "d569aeab1ecb90be44fee15fb09a031ff7c1a412131381b09004a18b4a3682d3", func := "windlass/windlasslaw06.DropGoes", spec := "dropGoes", inPlace := ["internal/bytealg.IndexByteString", "internal/bytealg.IndexString", "internal/bytealg.abigen_runtime_cmpstring", "slices.overlaps[windlass/api.Entry]"], unfollowed := true, recurses := true, named := ["internal/bytealg.MaxLen"], apart := false, narrowed := true }
def DropGoesUptoSaid : Prop := dropGoesUptoRow.holds Tryz.pinned (OpenSpec.upto dropGoesSpec)

/-- 'windlasslaw06.DropMoves', WHERE WHAT IT READS IS OF BULK AT MOST 1048576: true; the input reads as it did. -/
def dropMovesUptoRow : OpenClaim := { program := "ytmaiphibpdngnaagreat", sum := "d569aeab1ecb90be44fee15fb09a031ff7c1a412131381b09004a18b4a3682d3", func := "windlass/windlasslaw06.DropMoves", spec := "dropMoves", inPlace := ["internal/bytealg.IndexByteString", "internal/bytealg.IndexString", "internal/bytealg.abigen_runtime_cmpstring", "slices.overlaps[windlass/api.Entry]"], unfollowed := true, recurses := true, named := ["internal/bytealg.MaxLen"], apart := false, narrowed := true }
def DropMovesUptoSaid : Prop := dropMovesUptoRow.holds Tryz.pinned (OpenSpec.upto dropMovesSpec)

/-- 'windlasslaw06.DropBack', WHERE WHAT IT READS IS OF BULK AT MOST 1048576: true; the input reads as it did. -/
def dropBackUptoRow : OpenClaim := { program := "ytmaiphibpdngnaagreat", sum := "d569aeab1ecb90be44fee15fb09a031ff7c1a412131381b09004a18b4a3682d3", func := "windlass/windlasslaw06.DropBack", spec := "dropBack", inPlace := ["internal/bytealg.IndexByteString", "internal/bytealg.IndexString", "internal/bytealg.abigen_runtime_cmpstring", "slices.overlaps[windlass/api.Entry]"], unfollowed := true, recurses := true, named := ["internal/bytealg.MaxLen"], apart := false, narrowed := true }
def DropBackUptoSaid : Prop := dropBackUptoRow.holds Tryz.pinned (OpenSpec.upto dropBackSpec)

/-- 'windlasslaw06.DropAgain', WHERE WHAT IT READS IS OF BULK AT MOST 1048576: true; the input reads as it did. -/
def dropAgainUptoRow : OpenClaim := { program := "ytmaiphibpdngnaagreat", sum := "d569aeab1ecb90be44fee15fb09a031ff7c1a412131381b09004a18b4a3682d3", func := "windlass/windlasslaw06.DropAgain", spec := "dropAgain", inPlace := ["internal/bytealg.IndexByteString", "internal/bytealg.IndexString", "internal/bytealg.abigen_runtime_cmpstring", "slices.overlaps[windlass/api.Entry]"], unfollowed := true, recurses := true, named := ["internal/bytealg.MaxLen"], apart := false, narrowed := true }
def DropAgainUptoSaid : Prop := dropAgainUptoRow.holds Tryz.pinned (OpenSpec.upto dropAgainSpec)

end Rows
end Go.Proofs.YtmaiphibpdngnaaGreat
