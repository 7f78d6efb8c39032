/-
  DERIVED. GIVEN WITH THE SEED: THE CARDS: each row of YtkdfbliiblojoaaGreatDoorRows.lean that lists a variable, with what it lists TIED to the program's text (the seventh form; the later family's looks); each row that meets fmt, with fmt's text TOLD by the authors' own Lean function (tested against real Go, not proved from fmt's source: count such statements apart). THE CARD IS WHAT COUNTS. Prove the row's statement (the work); the ties are given (YtkdfbliiblojoaaGreatDoorTie.lean); close each card by the builder's one call (the guide's Derived/Test/ToyasCard.lean, 'card_holds'). Laid BY PROGRAM, IN A SANDBOX (cutbox-door.mjs). By AI agents, Wed Nov 11 2026. No macro, syntax, notation, axiom, sorry.
-/
import Derived.Test.YtkdfbliiblojoaaGreatDoorRows
import GoSem.ClaimSeven
namespace Go.Proofs.YtkdfbliiblojoaaGreatDoor
namespace Rows

/-- THE TIED CARD OF 'windlasslaw09.OpenDoes'. -/
def openDoesCard : Claim7 := { stood := { row := openDoesRow, standIns := [], harness := (true, "2ca87df809c6c4321537993cb89025bf7cf7bab92a76ef91470ef582dcbe3356"), looks := false }, kinds := [], alts := [], laidByText := true, laidKinds := [.data], laidTests := true, laidLooks := .later }
def OpenDoesCardSaid : Prop := Claim7.holds Tryz.pinned (.plain (OpenSpec.ofChange openDoesSpec)) openDoesCard

/-- THE TIED CARD OF 'windlasslaw09.OpenTells'. -/
def openTellsCard : Claim7 := { stood := { row := openTellsRow, standIns := [], harness := (true, "2ca87df809c6c4321537993cb89025bf7cf7bab92a76ef91470ef582dcbe3356"), looks := false }, kinds := [], alts := [], laidByText := true, laidKinds := [.data], laidTests := true, laidLooks := .later }
def OpenTellsCardSaid : Prop := Claim7.holds Tryz.pinned (.plain (OpenSpec.ofChange openTellsSpec)) openTellsCard

/-- THE TIED CARD OF 'windlasslaw09.OpenMoves'. -/
def openMovesCard : Claim7 := { stood := { row := openMovesRow, standIns := [], harness := (true, "2ca87df809c6c4321537993cb89025bf7cf7bab92a76ef91470ef582dcbe3356"), looks := false }, kinds := [], alts := [], laidByText := true, laidKinds := [.data], laidTests := true, laidLooks := .later }
def OpenMovesCardSaid : Prop := Claim7.holds Tryz.pinned (.plain (OpenSpec.ofChange openMovesSpec)) openMovesCard

/-- THE TIED CARD OF 'windlasslaw09.OpenFile'. -/
def openFileCard : Claim7 := { stood := { row := openFileRow, standIns := [], harness := (true, "2ca87df809c6c4321537993cb89025bf7cf7bab92a76ef91470ef582dcbe3356"), looks := false }, kinds := [], alts := [], laidByText := true, laidKinds := [.data], laidTests := true, laidLooks := .later }
def OpenFileCardSaid : Prop := Claim7.holds Tryz.pinned (.plain (OpenSpec.ofChange openFileSpec)) openFileCard

/-- THE TIED CARD OF 'windlasslaw09.OpenForks'. -/
def openForksCard : Claim7 := { stood := { row := openForksRow, standIns := [], harness := (true, "2ca87df809c6c4321537993cb89025bf7cf7bab92a76ef91470ef582dcbe3356"), looks := false }, kinds := [], alts := [], laidByText := true, laidKinds := [.data], laidTests := true, laidLooks := .later }
def OpenForksCardSaid : Prop := Claim7.holds Tryz.pinned (.plain (OpenSpec.ofChange openForksSpec)) openForksCard

/-- THE SECOND FORM's CARD OF 'windlasslaw09.OpenDoes'. -/
def openDoesUptoCard : Claim7 := { stood := { row := openDoesUptoRow, standIns := [], harness := (true, "2ca87df809c6c4321537993cb89025bf7cf7bab92a76ef91470ef582dcbe3356"), looks := false }, kinds := [], alts := [], laidByText := true, laidKinds := [.data], laidTests := true, laidLooks := .later }
def OpenDoesUptoCardSaid : Prop := Claim7.holds Tryz.pinned (.plain (OpenSpec.upto openDoesSpec)) openDoesUptoCard

/-- THE SECOND FORM's CARD OF 'windlasslaw09.OpenTells'. -/
def openTellsUptoCard : Claim7 := { stood := { row := openTellsUptoRow, standIns := [], harness := (true, "2ca87df809c6c4321537993cb89025bf7cf7bab92a76ef91470ef582dcbe3356"), looks := false }, kinds := [], alts := [], laidByText := true, laidKinds := [.data], laidTests := true, laidLooks := .later }
def OpenTellsUptoCardSaid : Prop := Claim7.holds Tryz.pinned (.plain (OpenSpec.upto openTellsSpec)) openTellsUptoCard

/-- THE SECOND FORM's CARD OF 'windlasslaw09.OpenMoves'. -/
def openMovesUptoCard : Claim7 := { stood := { row := openMovesUptoRow, standIns := [], harness := (true, "2ca87df809c6c4321537993cb89025bf7cf7bab92a76ef91470ef582dcbe3356"), looks := false }, kinds := [], alts := [], laidByText := true, laidKinds := [.data], laidTests := true, laidLooks := .later }
def OpenMovesUptoCardSaid : Prop := Claim7.holds Tryz.pinned (.plain (OpenSpec.upto openMovesSpec)) openMovesUptoCard

/-- THE SECOND FORM's CARD OF 'windlasslaw09.OpenFile'. -/
def openFileUptoCard : Claim7 := { stood := { row := openFileUptoRow, standIns := [], harness := (true, "2ca87df809c6c4321537993cb89025bf7cf7bab92a76ef91470ef582dcbe3356"), looks := false }, kinds := [], alts := [], laidByText := true, laidKinds := [.data], laidTests := true, laidLooks := .later }
def OpenFileUptoCardSaid : Prop := Claim7.holds Tryz.pinned (.plain (OpenSpec.upto openFileSpec)) openFileUptoCard

/-- THE SECOND FORM's CARD OF 'windlasslaw09.OpenForks'. -/
def openForksUptoCard : Claim7 := { stood := { row := openForksUptoRow, standIns := [], harness := (true, "2ca87df809c6c4321537993cb89025bf7cf7bab92a76ef91470ef582dcbe3356"), looks := false }, kinds := [], alts := [], laidByText := true, laidKinds := [.data], laidTests := true, laidLooks := .later }
def OpenForksUptoCardSaid : Prop := Claim7.holds Tryz.pinned (.plain (OpenSpec.upto openForksSpec)) openForksUptoCard
end Rows
end Go.Proofs.YtkdfbliiblojoaaGreatDoor
