/-
  NARROWER THAN 'FOR EVERY INPUT', by the rows' own cells (each row's printed sentence says how): OpenDoes: laid · OpenTells: laid · OpenMoves: laid · OpenFile: laid · OpenForks: laid.
  DERIVED. THE GIVEN ROWS OF THIS SEAT. 5 by the template 'for every input the law returns true; each argument reads behind the call as it read before'; 0 by the template 'total and deterministic' (their statements: YtkdfbliiblojoaaGreatDoorTotals.lean).
  GIVEN WITH THE SEED: the statements are not yours to turn. If you find one false, say at which input.
  Laid BY PROGRAM, IN A SANDBOX (cutbox-rows.mjs): the forced cells as the released guide's own fill.sh prints them over the translation 0e32ab44210ca3c8… (all of the seat's roots in one cut). By AI agents, Wed Nov 11 2026. No macro, syntax, notation, axiom, sorry.
-/
import Derived.Test.YtkdfbliiblojoaaGreatDoorChecked
import GoSem.Claim
import GoSem.ClaimJoined
import GoSem.ClaimMapViews
import Derived.JoinedTies
import Derived.KernelRfl
namespace Go.Proofs.YtkdfbliiblojoaaGreatDoor
/- THE CELL 'sum', in the pinned program and in every row, IS THE sha256 OF THE DUMP (.gsa) THAT YtkdfbliiblojoaaGreatDoorProg.lean LOADS. Nothing in Lean hashes anything: it is a label: what it is worth is what the hold of that sum in a sandbox is worth. -/
noncomputable def Tryz.pinned : Pinned := { name := "ytkdfbliiblojoaagreatdoor", sum := "0e32ab44210ca3c8b52cfbdb91b33868dc3abc73e21a382a0a0d468ac159cf1c", checked := Tryz.checked }
namespace Rows
def none {H : Type} : Left H := { results := [], args := [] }

/- WHAT THE LISTED PACKAGE-LEVEL VARIABLES READ AS WHEN THE CALL BEGINS. Each datum BY PROGRAM (the guide's laid-datum.mjs) off the statement by which the dump's own 'gosem.cut.vars' lays the variable. In a bare row this is a premise. The card (YtkdfbliiblojoaaGreatDoorCards.lean) ties it to the program's text. -/
def laid_windlass_open_ways {H : Type} : DataW H := .agg [.agg [.lit (.int .i64 4), .lit (.int .i64 1), .lit (.bool false)], .agg [.lit (.int .i64 2), .lit (.int .i64 2), .lit (.bool true)], .agg [.lit (.int .i64 2), .lit (.int .i64 6), .lit (.bool false)], .agg [.lit (.int .i64 6), .lit (.int .i64 3), .lit (.bool false)], .agg [.lit (.int .i64 2), .lit (.int .i64 2), .lit (.bool true)]]

/-- 'windlasslaw09.OpenDoes': WHATEVER THE INPUT: true; the input reads as it did. -/
def openDoesSpec : ChangeSpec := { name := "openDoes", fn := fun _ => fun
  | [d1, d2, d3, d4, d5, d6] => { results := [.lit (.bool true)], args := [d1, d2, d3, d4, d5, d6] }
  | _ => none }
def openDoesRow : OpenClaim := { program := "ytkdfbliiblojoaagreatdoor", sum := "0e32ab44210ca3c8b52cfbdb91b33868dc3abc73e21a382a0a0d468ac159cf1c", func := "windlass/windlasslaw09.OpenDoes", spec := "openDoes", inPlace := ["sync/atomic.StoreInt64", "sync/atomic.AddInt64", "internal/bytealg.IndexByteString", "internal/bytealg.IndexString", "internal/bytealg.abigen_runtime_cmpstring", "slices.overlaps[windlass/api.Entry]"], unfollowed := true, recurses := true, named := ["windlass/open.ways", "internal/bytealg.MaxLen"], apart := false, laid := [("windlass/open.ways", laid_windlass_open_ways)] }
def OpenDoesSaid : Prop := openDoesRow.holds Tryz.pinned (OpenSpec.ofChange openDoesSpec)

/-- ITS FALSE NEIGHBOUR: 'it returns false'. Refute it at one input. -/
def openDoesWrong : ChangeSpec := { name := "openDoes", fn := fun _ => fun
  | [d1, d2, d3, d4, d5, d6] => { results := [.lit (.bool false)], args := [d1, d2, d3, d4, d5, d6] }
  | _ => none }
def OpenDoesWrongFalsely : Prop := openDoesRow.holds Tryz.pinned (OpenSpec.ofChange openDoesWrong)

/-- 'windlasslaw09.OpenTells': WHATEVER THE INPUT: true; the input reads as it did. -/
def openTellsSpec : ChangeSpec := { name := "openTells", fn := fun _ => fun
  | [d1, d2, d3, d4, d5] => { results := [.lit (.bool true)], args := [d1, d2, d3, d4, d5] }
  | _ => none }
def openTellsRow : OpenClaim := { program := "ytkdfbliiblojoaagreatdoor", sum := "0e32ab44210ca3c8b52cfbdb91b33868dc3abc73e21a382a0a0d468ac159cf1c", func := "windlass/windlasslaw09.OpenTells", spec := "openTells", inPlace := ["sync/atomic.StoreInt64", "sync/atomic.AddInt64", "internal/bytealg.IndexByteString", "internal/bytealg.IndexString", "internal/bytealg.abigen_runtime_cmpstring", "slices.overlaps[windlass/api.Entry]"], unfollowed := true, recurses := true, named := ["windlass/open.ways", "internal/bytealg.MaxLen"], apart := false, laid := [("windlass/open.ways", laid_windlass_open_ways)] }
def OpenTellsSaid : Prop := openTellsRow.holds Tryz.pinned (OpenSpec.ofChange openTellsSpec)

/-- ITS FALSE NEIGHBOUR: 'it returns false'. Refute it at one input. -/
def openTellsWrong : ChangeSpec := { name := "openTells", fn := fun _ => fun
  | [d1, d2, d3, d4, d5] => { results := [.lit (.bool false)], args := [d1, d2, d3, d4, d5] }
  | _ => none }
def OpenTellsWrongFalsely : Prop := openTellsRow.holds Tryz.pinned (OpenSpec.ofChange openTellsWrong)

/-- 'windlasslaw09.OpenMoves': WHATEVER THE INPUT: true; the input reads as it did. -/
def openMovesSpec : ChangeSpec := { name := "openMoves", fn := fun _ => fun
  | [d1, d2, d3, d4, d5, d6] => { results := [.lit (.bool true)], args := [d1, d2, d3, d4, d5, d6] }
  | _ => none }
def openMovesRow : OpenClaim := { program := "ytkdfbliiblojoaagreatdoor", sum := "0e32ab44210ca3c8b52cfbdb91b33868dc3abc73e21a382a0a0d468ac159cf1c", func := "windlass/windlasslaw09.OpenMoves", spec := "openMoves", inPlace := ["sync/atomic.StoreInt64", "sync/atomic.AddInt64", "internal/bytealg.IndexByteString", "internal/bytealg.IndexString", "internal/bytealg.abigen_runtime_cmpstring", "slices.overlaps[windlass/api.Entry]"], unfollowed := true, recurses := true, named := ["windlass/open.ways", "internal/bytealg.MaxLen"], apart := false, laid := [("windlass/open.ways", laid_windlass_open_ways)] }
def OpenMovesSaid : Prop := openMovesRow.holds Tryz.pinned (OpenSpec.ofChange openMovesSpec)

/-- ITS FALSE NEIGHBOUR: 'it returns false'. Refute it at one input. -/
def openMovesWrong : ChangeSpec := { name := "openMoves", fn := fun _ => fun
  | [d1, d2, d3, d4, d5, d6] => { results := [.lit (.bool false)], args := [d1, d2, d3, d4, d5, d6] }
  | _ => none }
def OpenMovesWrongFalsely : Prop := openMovesRow.holds Tryz.pinned (OpenSpec.ofChange openMovesWrong)

/-- 'windlasslaw09.OpenFile': WHATEVER THE INPUT: true; the input reads as it did. -/
def openFileSpec : ChangeSpec := { name := "openFile", fn := fun _ => fun
  | [d1, d2, d3] => { results := [.lit (.bool true)], args := [d1, d2, d3] }
  | _ => none }
def openFileRow : OpenClaim := { program := "ytkdfbliiblojoaagreatdoor", sum := "0e32ab44210ca3c8b52cfbdb91b33868dc3abc73e21a382a0a0d468ac159cf1c", func := "windlass/windlasslaw09.OpenFile", spec := "openFile", inPlace := ["sync/atomic.StoreInt64", "sync/atomic.AddInt64", "internal/bytealg.IndexByteString", "internal/bytealg.IndexString", "internal/bytealg.abigen_runtime_cmpstring", "slices.overlaps[windlass/api.Entry]"], unfollowed := true, recurses := true, named := ["windlass/open.ways", "internal/bytealg.MaxLen"], apart := false, laid := [("windlass/open.ways", laid_windlass_open_ways)] }
def OpenFileSaid : Prop := openFileRow.holds Tryz.pinned (OpenSpec.ofChange openFileSpec)

/-- ITS FALSE NEIGHBOUR: 'it returns false'. Refute it at one input. -/
def openFileWrong : ChangeSpec := { name := "openFile", fn := fun _ => fun
  | [d1, d2, d3] => { results := [.lit (.bool false)], args := [d1, d2, d3] }
  | _ => none }
def OpenFileWrongFalsely : Prop := openFileRow.holds Tryz.pinned (OpenSpec.ofChange openFileWrong)

/-- 'windlasslaw09.OpenForks': WHATEVER THE INPUT: true; the input reads as it did. -/
def openForksSpec : ChangeSpec := { name := "openForks", fn := fun _ => fun
  | [d1, d2, d3] => { results := [.lit (.bool true)], args := [d1, d2, d3] }
  | _ => none }
def openForksRow : OpenClaim := { program := "ytkdfbliiblojoaagreatdoor", sum := "0e32ab44210ca3c8b52cfbdb91b33868dc3abc73e21a382a0a0d468ac159cf1c", func := "windlass/windlasslaw09.OpenForks", spec := "openForks", inPlace := ["sync/atomic.StoreInt64", "sync/atomic.AddInt64", "internal/bytealg.IndexByteString", "internal/bytealg.IndexString", "internal/bytealg.abigen_runtime_cmpstring", "slices.overlaps[windlass/api.Entry]"], unfollowed := true, recurses := true, named := ["windlass/open.ways", "internal/bytealg.MaxLen"], apart := false, laid := [("windlass/open.ways", laid_windlass_open_ways)] }
def OpenForksSaid : Prop := openForksRow.holds Tryz.pinned (OpenSpec.ofChange openForksSpec)

/-- ITS FALSE NEIGHBOUR: 'it returns false'. Refute it at one input. -/
def openForksWrong : ChangeSpec := { name := "openForks", fn := fun _ => fun
  | [d1, d2, d3] => { results := [.lit (.bool false)], args := [d1, d2, d3] }
  | _ => none }
def OpenForksWrongFalsely : Prop := openForksRow.holds Tryz.pinned (OpenSpec.ofChange openForksWrong)

/- THE SECOND FORM. 'bulk': how many values and letters a reading holds, each counted each time it is reached (what is shared counts as often as it is met; a slice's spare places count too). A statement '..UptoSaid' is the law's where the arguments, and the package variables that the reading takes, are together of bulk at most 1048576: NARROWER than '..Said'. Prove '..Said' where nothing that the law and all that it calls make is longer than what came in: it says more and counts as full. Else prove '..UptoSaid'. A law counts once. -/
mutual
def uptoBulk {H : Type} : DataW H → Nat
  | .lit (.string bytes) => bytes.length + 1
  | .lit _ => 1
  | .nil => 1
  | .ptr d => uptoBulk d + 1
  | .slice elems spare => uptoBulkAll elems + uptoBulkAll spare + 1
  | .agg parts => uptoBulkAll parts + 1
  | .iface _ d => uptoBulk d + 1
  | .map entries => uptoBulkEntries entries + 1
  | .held _ => 1
def uptoBulkAll {H : Type} : List (DataW H) → Nat
  | [] => 0
  | d :: r => uptoBulk d + uptoBulkAll r
def uptoBulkEntries {H : Type} : List (Lit × DataW H) → Nat
  | [] => 0
  | x :: r => uptoBulkEntry x + uptoBulkEntries r
def uptoBulkEntry {H : Type} : Lit × DataW H → Nat
  | (.string bytes, d) => bytes.length + uptoBulk d + 1
  | (_, d) => uptoBulk d + 1
 end
def uptoSmall : (H : Type) → List (DataW H) → Bool := fun _ ds => decide (uptoBulkAll ds ≤ 1048576)
def OpenSpec.upto (s : _root_.Go.ChangeSpec) : _root_.Go.OpenSpec := { _root_.Go.OpenSpec.ofChange s with cond := some uptoSmall }

/-- 'windlasslaw09.OpenDoes', WHERE WHAT IT READS IS OF BULK AT MOST 1048576: true; the input reads as it did. -/
def openDoesUptoRow : OpenClaim := { program := "ytkdfbliiblojoaagreatdoor", sum := "0e32ab44210ca3c8b52cfbdb91b33868dc3abc73e21a382a0a0d468ac159cf1c", func := "windlass/windlasslaw09.OpenDoes", spec := "openDoes", inPlace := ["sync/atomic.StoreInt64", "sync/atomic.AddInt64", "internal/bytealg.IndexByteString", "internal/bytealg.IndexString", "internal/bytealg.abigen_runtime_cmpstring", "slices.overlaps[windlass/api.Entry]"], unfollowed := true, recurses := true, named := ["windlass/open.ways", "internal/bytealg.MaxLen"], apart := false, laid := [("windlass/open.ways", laid_windlass_open_ways)], narrowed := true }
def OpenDoesUptoSaid : Prop := openDoesUptoRow.holds Tryz.pinned (OpenSpec.upto openDoesSpec)

/-- 'windlasslaw09.OpenTells', WHERE WHAT IT READS IS OF BULK AT MOST 1048576: true; the input reads as it did. -/
def openTellsUptoRow : OpenClaim := { program := "ytkdfbliiblojoaagreatdoor", sum := "0e32ab44210ca3c8b52cfbdb91b33868dc3abc73e21a382a0a0d468ac159cf1c", func := "windlass/windlasslaw09.OpenTells", spec := "openTells", inPlace := ["sync/atomic.StoreInt64", "sync/atomic.AddInt64", "internal/bytealg.IndexByteString", "internal/bytealg.IndexString", "internal/bytealg.abigen_runtime_cmpstring", "slices.overlaps[windlass/api.Entry]"], unfollowed := true, recurses := true, named := ["windlass/open.ways", "internal/bytealg.MaxLen"], apart := false, laid := [("windlass/open.ways", laid_windlass_open_ways)], narrowed := true }
def OpenTellsUptoSaid : Prop := openTellsUptoRow.holds Tryz.pinned (OpenSpec.upto openTellsSpec)

/-- 'windlasslaw09.OpenMoves', WHERE WHAT IT READS IS OF BULK AT MOST 1048576: true; the input reads as it did. -/
def openMovesUptoRow : OpenClaim := { program := "ytkdfbliiblojoaagreatdoor", sum := "0e32ab44210ca3c8b52cfbdb91b33868dc3abc73e21a382a0a0d468ac159cf1c", func := "windlass/windlasslaw09.OpenMoves", spec := "openMoves", inPlace := ["sync/atomic.StoreInt64", "sync/atomic.AddInt64", "internal/bytealg.IndexByteString", "internal/bytealg.IndexString", "internal/bytealg.abigen_runtime_cmpstring", "slices.overlaps[windlass/api.Entry]"], unfollowed := true, recurses := true, named := ["windlass/open.ways", "internal/bytealg.MaxLen"], apart := false, laid := [("windlass/open.ways", laid_windlass_open_ways)], narrowed := true }
def OpenMovesUptoSaid : Prop := openMovesUptoRow.holds Tryz.pinned (OpenSpec.upto openMovesSpec)

/-- 'windlasslaw09.OpenFile', WHERE WHAT IT READS IS OF BULK AT MOST 1048576: true; the input reads as it did. -/
def openFileUptoRow : OpenClaim := { program := "ytkdfbliiblojoaagreatdoor", sum := "0e32ab44210ca3c8b52cfbdb91b33868dc3abc73e21a382a0a0d468ac159cf1c", func := "windlass/windlasslaw09.OpenFile", spec := "openFile", inPlace := ["sync/atomic.StoreInt64", "sync/atomic.AddInt64", "internal/bytealg.IndexByteString", "internal/bytealg.IndexString", "internal/bytealg.abigen_runtime_cmpstring", "slices.overlaps[windlass/api.Entry]"], unfollowed := true, recurses := true, named := ["windlass/open.ways", "internal/bytealg.MaxLen"], apart := false, laid := [("windlass/open.ways", laid_windlass_open_ways)], narrowed := true }
def OpenFileUptoSaid : Prop := openFileUptoRow.holds Tryz.pinned (OpenSpec.upto openFileSpec)

/-- 'windlasslaw09.OpenForks', WHERE WHAT IT READS IS OF BULK AT MOST 1048576: true; the input reads as it did. -/
def openForksUptoRow : OpenClaim := { program := "ytkdfbliiblojoaagreatdoor", sum := "0e32ab44210ca3c8b52cfbdb91b33868dc3abc73e21a382a0a0d468ac159cf1c", func := "windlass/windlasslaw09.OpenForks", spec := "openForks", inPlace := ["sync/atomic.StoreInt64", "sync/atomic.AddInt64", "internal/bytealg.IndexByteString", "internal/bytealg.IndexString", "internal/bytealg.abigen_runtime_cmpstring", "slices.overlaps[windlass/api.Entry]"], unfollowed := true, recurses := true, named := ["windlass/open.ways", "internal/bytealg.MaxLen"], apart := false, laid := [("windlass/open.ways", laid_windlass_open_ways)], narrowed := true }
def OpenForksUptoSaid : Prop := openForksUptoRow.holds Tryz.pinned (OpenSpec.upto openForksSpec)

end Rows
end Go.Proofs.YtkdfbliiblojoaaGreatDoor
