/-
  No cell of these rows narrows 'for every input' (looked for: loops, veiled, ifaces, maps, wideKeys, modest, calm, conditions, laid).
  DERIVED. THE GIVEN ROWS OF THIS SEAT. 5 by the template 'for every input the law returns true; each argument reads behind the call as it read before'; 0 by the template 'total and deterministic' (their statements: YtblmlgpajmaliaaTotals.lean).
  GIVEN WITH THE SEED: the statements are not yours to turn. If you find one false, say at which input.
  Laid BY PROGRAM, IN A SANDBOX (cutbox-rows.mjs): the forced cells as the released guide's own fill.sh prints them over the translation 4b18a2aa72272433… (all of the seat's roots in one cut). By AI agents, Wed Nov 11 2026. No macro, syntax, notation, axiom, sorry.
-/
import Derived.Test.YtblmlgpajmaliaaChecked
import GoSem.Claim
import GoSem.ClaimJoined
import GoSem.ClaimMapViews
import Derived.JoinedTies
import Derived.KernelRfl
namespace Go.Proofs.Ytblmlgpajmaliaa
/- THE CELL 'sum', in the pinned program and in every row, IS THE sha256 OF THE DUMP (.gsa) THAT YtblmlgpajmaliaaProg.lean LOADS. Nothing in Lean hashes anything: it is a label: what it is worth is what the hold of that sum in a sandbox is worth. -/
noncomputable def Try.pinned : Pinned := { name := "ytblmlgpajmaliaa", sum := "4b18a2aa7227243369f75e3d664a92982402e61252f38f010aa2078803a87ee6", checked := Try.checked }
namespace Rows
def none {H : Type} : Left H := { results := [], args := [] }

/-- 'windlasslaw07.BlobDoes': WHATEVER THE INPUT: true; the input reads as it did. -/
def blobDoesSpec : ChangeSpec := { name := "blobDoes", fn := fun _ => fun
  | [d1, d2, d3, d4, d5] => { results := [.lit (.bool true)], args := [d1, d2, d3, d4, d5] }
  | _ => none }
def blobDoesRow : OpenClaim := { program := "ytblmlgpajmaliaa", sum := "4b18a2aa7227243369f75e3d664a92982402e61252f38f010aa2078803a87ee6", func := "windlass/windlasslaw07.BlobDoes", spec := "blobDoes", apart := false }
def BlobDoesSaid : Prop := blobDoesRow.holds Try.pinned (OpenSpec.ofChange blobDoesSpec)

/-- ITS FALSE NEIGHBOUR: 'it returns false'. Refute it at one input. -/
def blobDoesWrong : ChangeSpec := { name := "blobDoes", fn := fun _ => fun
  | [d1, d2, d3, d4, d5] => { results := [.lit (.bool false)], args := [d1, d2, d3, d4, d5] }
  | _ => none }
def BlobDoesWrongFalsely : Prop := blobDoesRow.holds Try.pinned (OpenSpec.ofChange blobDoesWrong)

/-- 'windlasslaw07.BlobReads': WHATEVER THE INPUT: true; the input reads as it did. -/
def blobReadsSpec : ChangeSpec := { name := "blobReads", fn := fun _ => fun
  | [d1, d2, d3, d4] => { results := [.lit (.bool true)], args := [d1, d2, d3, d4] }
  | _ => none }
def blobReadsRow : OpenClaim := { program := "ytblmlgpajmaliaa", sum := "4b18a2aa7227243369f75e3d664a92982402e61252f38f010aa2078803a87ee6", func := "windlass/windlasslaw07.BlobReads", spec := "blobReads", apart := false }
def BlobReadsSaid : Prop := blobReadsRow.holds Try.pinned (OpenSpec.ofChange blobReadsSpec)

/-- ITS FALSE NEIGHBOUR: 'it returns false'. Refute it at one input. -/
def blobReadsWrong : ChangeSpec := { name := "blobReads", fn := fun _ => fun
  | [d1, d2, d3, d4] => { results := [.lit (.bool false)], args := [d1, d2, d3, d4] }
  | _ => none }
def BlobReadsWrongFalsely : Prop := blobReadsRow.holds Try.pinned (OpenSpec.ofChange blobReadsWrong)

/-- 'windlasslaw07.BlobTwo': WHATEVER THE INPUT: true; the input reads as it did. -/
def blobTwoSpec : ChangeSpec := { name := "blobTwo", fn := fun _ => fun
  | [d1, d2, d3, d4, d5] => { results := [.lit (.bool true)], args := [d1, d2, d3, d4, d5] }
  | _ => none }
def blobTwoRow : OpenClaim := { program := "ytblmlgpajmaliaa", sum := "4b18a2aa7227243369f75e3d664a92982402e61252f38f010aa2078803a87ee6", func := "windlass/windlasslaw07.BlobTwo", spec := "blobTwo", apart := false }
def BlobTwoSaid : Prop := blobTwoRow.holds Try.pinned (OpenSpec.ofChange blobTwoSpec)

/-- ITS FALSE NEIGHBOUR: 'it returns false'. Refute it at one input. -/
def blobTwoWrong : ChangeSpec := { name := "blobTwo", fn := fun _ => fun
  | [d1, d2, d3, d4, d5] => { results := [.lit (.bool false)], args := [d1, d2, d3, d4, d5] }
  | _ => none }
def BlobTwoWrongFalsely : Prop := blobTwoRow.holds Try.pinned (OpenSpec.ofChange blobTwoWrong)

/-- 'windlasslaw07.BlobCuts': WHATEVER THE INPUT: true; the input reads as it did. -/
def blobCutsSpec : ChangeSpec := { name := "blobCuts", fn := fun _ => fun
  | [d1, d2, d3] => { results := [.lit (.bool true)], args := [d1, d2, d3] }
  | _ => none }
def blobCutsRow : OpenClaim := { program := "ytblmlgpajmaliaa", sum := "4b18a2aa7227243369f75e3d664a92982402e61252f38f010aa2078803a87ee6", func := "windlass/windlasslaw07.BlobCuts", spec := "blobCuts", apart := false }
def BlobCutsSaid : Prop := blobCutsRow.holds Try.pinned (OpenSpec.ofChange blobCutsSpec)

/-- ITS FALSE NEIGHBOUR: 'it returns false'. Refute it at one input. -/
def blobCutsWrong : ChangeSpec := { name := "blobCuts", fn := fun _ => fun
  | [d1, d2, d3] => { results := [.lit (.bool false)], args := [d1, d2, d3] }
  | _ => none }
def BlobCutsWrongFalsely : Prop := blobCutsRow.holds Try.pinned (OpenSpec.ofChange blobCutsWrong)

/-- 'windlasslaw07.BlobFresh': WHATEVER THE INPUT: true; the input reads as it did. -/
def blobFreshSpec : ChangeSpec := { name := "blobFresh", fn := fun _ => fun
  | [d1, d2, d3] => { results := [.lit (.bool true)], args := [d1, d2, d3] }
  | _ => none }
def blobFreshRow : OpenClaim := { program := "ytblmlgpajmaliaa", sum := "4b18a2aa7227243369f75e3d664a92982402e61252f38f010aa2078803a87ee6", func := "windlass/windlasslaw07.BlobFresh", spec := "blobFresh", apart := false }
def BlobFreshSaid : Prop := blobFreshRow.holds Try.pinned (OpenSpec.ofChange blobFreshSpec)

/-- ITS FALSE NEIGHBOUR: 'it returns false'. Refute it at one input. -/
def blobFreshWrong : ChangeSpec := { name := "blobFresh", fn := fun _ => fun
  | [d1, d2, d3] => { results := [.lit (.bool false)], args := [d1, d2, d3] }
  | _ => none }
def BlobFreshWrongFalsely : Prop := blobFreshRow.holds Try.pinned (OpenSpec.ofChange blobFreshWrong)

/- THE SECOND FORM. 'bulk': how many values and letters a reading holds, each counted each time it is reached (what is shared counts as often as it is met; a slice's spare places count too). A statement '..UptoSaid' is the law's where the arguments, and the package variables that the reading takes, are together of bulk at most 1048576: NARROWER than '..Said'. Prove '..Said' where nothing that the law and all that it calls make is longer than what came in: it says more and counts as full. Else prove '..UptoSaid'. A law counts once. -/
mutual
def uptoBulk {H : Type} : DataW H → Nat
  | .lit (.string bytes) => bytes.length + 1
  | .lit _ => 1
  | .nil => 1
  | .ptr d => uptoBulk d + 1
  | .slice elems spare => uptoBulkAll elems + uptoBulkAll spare + 1
  | .agg parts => uptoBulkAll parts + 1
  | .iface _ d => uptoBulk d + 1
  | .map entries => uptoBulkEntries entries + 1
  | .held _ => 1
def uptoBulkAll {H : Type} : List (DataW H) → Nat
  | [] => 0
  | d :: r => uptoBulk d + uptoBulkAll r
def uptoBulkEntries {H : Type} : List (Lit × DataW H) → Nat
  | [] => 0
  | x :: r => uptoBulkEntry x + uptoBulkEntries r
def uptoBulkEntry {H : Type} : Lit × DataW H → Nat
  | (.string bytes, d) => bytes.length + uptoBulk d + 1
  | (_, d) => uptoBulk d + 1
 end
def uptoSmall : (H : Type) → List (DataW H) → Bool := fun _ ds => decide (uptoBulkAll ds ≤ 1048576)
def OpenSpec.upto (s : _root_.Go.ChangeSpec) : _root_.Go.OpenSpec := { _root_.Go.OpenSpec.ofChange s with cond := some uptoSmall }

/-- 'windlasslaw07.BlobDoes', WHERE WHAT IT READS IS OF BULK AT MOST 1048576: true; the input reads as it did. -/
def blobDoesUptoRow : OpenClaim := { program := "ytblmlgpajmaliaa", sum := "4b18a2aa7227243369f75e3d664a92982402e61252f38f010aa2078803a87ee6", func := "windlass/windlasslaw07.BlobDoes", spec := "blobDoes", apart := false, narrowed := true }
def BlobDoesUptoSaid : Prop := blobDoesUptoRow.holds Try.pinned (OpenSpec.upto blobDoesSpec)

/-- 'windlasslaw07.BlobReads', WHERE WHAT IT READS IS OF BULK AT MOST 1048576: true; the input reads as it did. -/
def blobReadsUptoRow : OpenClaim := { program := "ytblmlgpajmaliaa", sum := "4b18a2aa7227243369f75e3d664a92982402e61252f38f010aa2078803a87ee6", func := "windlass/windlasslaw07.BlobReads", spec := "blobReads", apart := false, narrowed := true }
def BlobReadsUptoSaid : Prop := blobReadsUptoRow.holds Try.pinned (OpenSpec.upto blobReadsSpec)

/-- 'windlasslaw07.BlobTwo', WHERE WHAT IT READS IS OF BULK AT MOST 1048576: true; the input reads as it did. -/
def blobTwoUptoRow : OpenClaim := { program := "ytblmlgpajmaliaa", sum := "4b18a2aa7227243369f75e3d664a92982402e61252f38f010aa2078803a87ee6", func := "windlass/windlasslaw07.BlobTwo", spec := "blobTwo", apart := false, narrowed := true }
def BlobTwoUptoSaid : Prop := blobTwoUptoRow.holds Try.pinned (OpenSpec.upto blobTwoSpec)

/-- 'windlasslaw07.BlobCuts', WHERE WHAT IT READS IS OF BULK AT MOST 1048576: true; the input reads as it did. -/
def blobCutsUptoRow : OpenClaim := { program := "ytblmlgpajmaliaa", sum := "4b18a2aa7227243369f75e3d664a92982402e61252f38f010aa2078803a87ee6", func := "windlass/windlasslaw07.BlobCuts", spec := "blobCuts", apart := false, narrowed := true }
def BlobCutsUptoSaid : Prop := blobCutsUptoRow.holds Try.pinned (OpenSpec.upto blobCutsSpec)

/-- 'windlasslaw07.BlobFresh', WHERE WHAT IT READS IS OF BULK AT MOST 1048576: true; the input reads as it did. -/
def blobFreshUptoRow : OpenClaim := { program := "ytblmlgpajmaliaa", sum := "4b18a2aa7227243369f75e3d664a92982402e61252f38f010aa2078803a87ee6", func := "windlass/windlasslaw07.BlobFresh", spec := "blobFresh", apart := false, narrowed := true }
def BlobFreshUptoSaid : Prop := blobFreshUptoRow.holds Try.pinned (OpenSpec.upto blobFreshSpec)

end Rows
end Go.Proofs.Ytblmlgpajmaliaa
