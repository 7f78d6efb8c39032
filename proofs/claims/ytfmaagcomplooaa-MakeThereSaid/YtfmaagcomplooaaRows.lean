/-
  No cell of these rows narrows 'for every input' (looked for: loops, veiled, ifaces, maps, wideKeys, modest, calm, conditions, laid).
  DERIVED. THE GIVEN ROWS OF THIS SEAT. 3 by the template 'for every input the law returns true; each argument reads behind the call as it read before'; 0 by the template 'total and deterministic' (their statements: YtfmaagcomplooaaTotals.lean).
  GIVEN WITH THE SEED: the statements are not yours to turn. If you find one false, say at which input.
  Laid BY PROGRAM, IN A SANDBOX (cutbox-rows.mjs): the forced cells as the released guide's own fill.sh prints them over the translation b3eaba83f7ef3cec… (all of the seat's roots in one cut). By AI agents, Wed Nov 11 2026. No macro, syntax, notation, axiom, sorry.
-/
import Derived.Test.YtfmaagcomplooaaChecked
import GoSem.Claim
import GoSem.ClaimJoined
import GoSem.ClaimMapViews
import Derived.JoinedTies
import Derived.KernelRfl
namespace Go.Proofs.Ytfmaagcomplooaa
/- THE CELL 'sum', in the pinned program and in every row, IS THE sha256 OF THE DUMP (.gsa) THAT YtfmaagcomplooaaProg.lean LOADS. Nothing in Lean hashes anything: it is a label: what it is worth is what the hold of that sum in a sandbox is worth. -/
noncomputable def Try.pinned : Pinned := { name := "ytfmaagcomplooaa", sum := "b3eaba83f7ef3cecede92d546850285039bfc2cef092714ff0b46fd7aeb08963", checked := Try.checked }
namespace Rows
def none {H : Type} : Left H := { results := [], args := [] }

/-- 'windlasslaw05.MakeThere': WHATEVER THE INPUT: true; the input reads as it did. -/
def makeThereSpec : ChangeSpec := { name := "makeThere", fn := fun _ => fun
  | [d1, d2, d3, d4, d5, d6] => { results := [.lit (.bool true)], args := [d1, d2, d3, d4, d5, d6] }
  | _ => none }
def makeThereRow : OpenClaim := { program := "ytfmaagcomplooaa", sum := "b3eaba83f7ef3cecede92d546850285039bfc2cef092714ff0b46fd7aeb08963", func := "windlass/windlasslaw05.MakeThere", spec := "makeThere", inPlace := ["internal/bytealg.IndexByteString", "internal/bytealg.IndexString", "internal/bytealg.abigen_runtime_cmpstring", "slices.overlaps[windlass/api.Entry]"], unfollowed := true, recurses := true, named := ["internal/bytealg.MaxLen"], apart := false }
def MakeThereSaid : Prop := makeThereRow.holds Try.pinned (OpenSpec.ofChange makeThereSpec)

/-- ITS FALSE NEIGHBOUR: 'it returns false'. Refute it at one input. -/
def makeThereWrong : ChangeSpec := { name := "makeThere", fn := fun _ => fun
  | [d1, d2, d3, d4, d5, d6] => { results := [.lit (.bool false)], args := [d1, d2, d3, d4, d5, d6] }
  | _ => none }
def MakeThereWrongFalsely : Prop := makeThereRow.holds Try.pinned (OpenSpec.ofChange makeThereWrong)

/-- 'windlasslaw05.MakeLinks': WHATEVER THE INPUT: true; the input reads as it did. -/
def makeLinksSpec : ChangeSpec := { name := "makeLinks", fn := fun _ => fun
  | [d1, d2, d3, d4] => { results := [.lit (.bool true)], args := [d1, d2, d3, d4] }
  | _ => none }
def makeLinksRow : OpenClaim := { program := "ytfmaagcomplooaa", sum := "b3eaba83f7ef3cecede92d546850285039bfc2cef092714ff0b46fd7aeb08963", func := "windlass/windlasslaw05.MakeLinks", spec := "makeLinks", inPlace := ["internal/bytealg.IndexByteString", "internal/bytealg.IndexString", "internal/bytealg.abigen_runtime_cmpstring", "slices.overlaps[windlass/api.Entry]"], unfollowed := true, recurses := true, named := ["internal/bytealg.MaxLen"], apart := false }
def MakeLinksSaid : Prop := makeLinksRow.holds Try.pinned (OpenSpec.ofChange makeLinksSpec)

/-- ITS FALSE NEIGHBOUR: 'it returns false'. Refute it at one input. -/
def makeLinksWrong : ChangeSpec := { name := "makeLinks", fn := fun _ => fun
  | [d1, d2, d3, d4] => { results := [.lit (.bool false)], args := [d1, d2, d3, d4] }
  | _ => none }
def MakeLinksWrongFalsely : Prop := makeLinksRow.holds Try.pinned (OpenSpec.ofChange makeLinksWrong)

/-- 'windlasslaw05.MakeModes': WHATEVER THE INPUT: true; the input reads as it did. -/
def makeModesSpec : ChangeSpec := { name := "makeModes", fn := fun _ => fun
  | [d1, d2, d3, d4] => { results := [.lit (.bool true)], args := [d1, d2, d3, d4] }
  | _ => none }
def makeModesRow : OpenClaim := { program := "ytfmaagcomplooaa", sum := "b3eaba83f7ef3cecede92d546850285039bfc2cef092714ff0b46fd7aeb08963", func := "windlass/windlasslaw05.MakeModes", spec := "makeModes", inPlace := ["internal/bytealg.IndexByteString", "internal/bytealg.IndexString", "internal/bytealg.abigen_runtime_cmpstring", "slices.overlaps[windlass/api.Entry]"], unfollowed := true, recurses := true, named := ["internal/bytealg.MaxLen"], apart := false }
def MakeModesSaid : Prop := makeModesRow.holds Try.pinned (OpenSpec.ofChange makeModesSpec)

/-- ITS FALSE NEIGHBOUR: 'it returns false'. Refute it at one input. -/
def makeModesWrong : ChangeSpec := { name := "makeModes", fn := fun _ => fun
  | [d1, d2, d3, d4] => { results := [.lit (.bool false)], args := [d1, d2, d3, d4] }
  | _ => none }
def MakeModesWrongFalsely : Prop := makeModesRow.holds Try.pinned (OpenSpec.ofChange makeModesWrong)

/- THE SECOND FORM. 'bulk': how many values and letters a reading holds, each counted each time it is reached (what is shared counts as often as it is met; a slice's spare places count too). A statement '..UptoSaid' is the law's where the arguments, and the package variables that the reading takes, are together of bulk at most 1048576: NARROWER than '..Said'. Prove '..Said' where nothing that the law and all that it calls make is longer than what came in: it says more and counts as full. Else prove '..UptoSaid'. A law counts once. -/
mutual
def uptoBulk {H : Type} : DataW H → Nat
  | .lit (.string bytes) => bytes.length + 1
  | .lit _ => 1
  | .nil => 1
  | .ptr d => uptoBulk d + 1
  | .slice elems spare => uptoBulkAll elems + uptoBulkAll spare + 1
  | .agg parts => uptoBulkAll parts + 1
  | .iface _ d => uptoBulk d + 1
  | .map entries => uptoBulkEntries entries + 1
  | .held _ => 1
def uptoBulkAll {H : Type} : List (DataW H) → Nat
  | [] => 0
  | d :: r => uptoBulk d + uptoBulkAll r
def uptoBulkEntries {H : Type} : List (Lit × DataW H) → Nat
  | [] => 0
  | x :: r => uptoBulkEntry x + uptoBulkEntries r
def uptoBulkEntry {H : Type} : Lit × DataW H → Nat
  | (.string bytes, d) => bytes.length + uptoBulk d + 1
  | (_, d) => uptoBulk d + 1
 end
def uptoSmall : (H : Type) → List (DataW H) → Bool := fun _ ds => decide (uptoBulkAll ds ≤ 1048576)
def OpenSpec.upto (s : _root_.Go.ChangeSpec) : _root_.Go.OpenSpec := { _root_.Go.OpenSpec.ofChange s with cond := some uptoSmall }

/-- 'windlasslaw05.MakeThere', WHERE WHAT IT READS IS OF BULK AT MOST 1048576: true; the input reads as it did. -/
def makeThereUptoRow : OpenClaim := { program := "ytfmaagcomplooaa", sum := "b3eaba83f7ef3cecede92d546850285039bfc2cef092714ff0b46fd7aeb08963", func := "windlass/windlasslaw05.MakeThere", spec := "makeThere", inPlace := ["internal/bytealg.IndexByteString", "internal/bytealg.IndexString", "internal/bytealg.abigen_runtime_cmpstring", "slices.overlaps[windlass/api.Entry]"], unfollowed := true, recurses := true, named := ["internal/bytealg.MaxLen"], apart := false, narrowed := true }
def MakeThereUptoSaid : Prop := makeThereUptoRow.holds Try.pinned (OpenSpec.upto makeThereSpec)

/-- 'windlasslaw05.MakeLinks', WHERE WHAT IT READS IS OF BULK AT MOST 1048576: true; the input reads as it did. -/
def makeLinksUptoRow : OpenClaim := { program := "ytfmaagcomplooaa", sum := "b3eaba83f7ef3cecede92d546850285039bfc2cef092714ff0b46fd7aeb08963", func := "windlass/windlasslaw05.MakeLinks", spec := "makeLinks", inPlace := ["internal/bytealg.IndexByteString", "internal/bytealg.IndexString", "internal/bytealg.abigen_runtime_cmpstring", "slices.overlaps[windlass/api.Entry]"], unfollowed := true, recurses := true, named := ["internal/bytealg.MaxLen"], apart := false, narrowed := true }
def MakeLinksUptoSaid : Prop := makeLinksUptoRow.holds Try.pinned (OpenSpec.upto makeLinksSpec)

/-- 'windlasslaw05.MakeModes', WHERE WHAT IT READS IS OF BULK AT MOST 1048576: true; the input reads as it did. -/
def makeModesUptoRow : OpenClaim := { program := "ytfmaagcomplooaa", sum := "b3eaba83f7ef3cecede92d546850285039bfc2cef092714ff0b46fd7aeb08963", func := "windlass/windlasslaw05.MakeModes", spec := "makeModes", inPlace := ["internal/bytealg.IndexByteString", "internal/bytealg.IndexString", "internal/bytealg.abigen_runtime_cmpstring", "slices.overlaps[windlass/api.Entry]"], unfollowed := true, recurses := true, named := ["internal/bytealg.MaxLen"], apart := false, narrowed := true }
def MakeModesUptoSaid : Prop := makeModesUptoRow.holds Try.pinned (OpenSpec.upto makeModesSpec)

end Rows
end Go.Proofs.Ytfmaagcomplooaa
