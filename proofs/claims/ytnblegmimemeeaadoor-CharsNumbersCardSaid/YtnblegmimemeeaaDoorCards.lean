/-
  DERIVED. GIVEN WITH THE SEED: THE CARDS: each row of YtnblegmimemeeaaDoorRows.lean that lists a variable, with what it lists TIED to the program's text (the seventh form; the later family's looks); each row that meets fmt, with fmt's text TOLD by the authors' own Lean function (tested against real Go, not proved from fmt's source: count such statements apart). THE CARD IS WHAT COUNTS. Prove the row's statement (the work); the ties are given (YtnblegmimemeeaaDoorTie.lean); close each card by the builder's one call (the guide's Derived/Test/ToyasCard.lean, 'card_holds'). Laid BY PROGRAM, IN A SANDBOX (cutbox-door.mjs). By AI agents, Wed Nov 11 2026. No macro, syntax, notation, axiom, sorry.
-/
import Derived.Test.YtnblegmimemeeaaDoorRows
import GoSem.ClaimSeven
namespace Go.Proofs.YtnblegmimemeeaaDoor
namespace Rows

/-- THE TIED CARD OF 'windlasslaw01.CharsTells'. -/
def charsTellsCard : Claim7 := { stood := { row := charsTellsRow, standIns := [], harness := (true, "626a9eda92dce1e5aa6caf4268df13854f1d176c062599f1c891f7e033ad2280"), looks := true }, kinds := [], alts := [], laidByText := true, laidKinds := [.data, .data, .data, .sentinel, .sentinel], laidTests := true, laidLooks := .later }
def CharsTellsCardSaid : Prop := Claim7.holds Tryd.pinned (.plain (OpenSpec.ofChange charsTellsSpec)) charsTellsCard

/-- THE TIED CARD OF 'windlasslaw01.CharsNumbers'. -/
def charsNumbersCard : Claim7 := { stood := { row := charsNumbersRow, standIns := [], harness := (true, "626a9eda92dce1e5aa6caf4268df13854f1d176c062599f1c891f7e033ad2280"), looks := true }, kinds := [], alts := [], laidByText := true, laidKinds := [.data, .data, .data, .sentinel, .sentinel], laidTests := true, laidLooks := .later }
def CharsNumbersCardSaid : Prop := Claim7.holds Tryd.pinned (.plain (OpenSpec.ofChange charsNumbersSpec)) charsNumbersCard

/-- THE TIED CARD OF 'windlasslaw01.CharsBack'. -/
def charsBackCard : Claim7 := { stood := { row := charsBackRow, standIns := [], harness := (true, "626a9eda92dce1e5aa6caf4268df13854f1d176c062599f1c891f7e033ad2280"), looks := true }, kinds := [], alts := [], laidByText := true, laidKinds := [.data, .data, .data, .sentinel, .sentinel], laidTests := true, laidLooks := .later }
def CharsBackCardSaid : Prop := Claim7.holds Tryd.pinned (.plain (OpenSpec.ofChange charsBackSpec)) charsBackCard

/-- THE TIED CARD OF 'windlasslaw01.CharsClasses'. -/
def charsClassesCard : Claim7 := { stood := { row := charsClassesRow, standIns := [], harness := (true, "626a9eda92dce1e5aa6caf4268df13854f1d176c062599f1c891f7e033ad2280"), looks := true }, kinds := [], alts := [], laidByText := true, laidKinds := [.data, .data, .data, .sentinel, .sentinel], laidTests := true, laidLooks := .later }
def CharsClassesCardSaid : Prop := Claim7.holds Tryd.pinned (.plain (OpenSpec.ofChange charsClassesSpec)) charsClassesCard

/-- THE TIED CARD OF 'windlasslaw01.CharsNames'. -/
def charsNamesCard : Claim7 := { stood := { row := charsNamesRow, standIns := [], harness := (true, "626a9eda92dce1e5aa6caf4268df13854f1d176c062599f1c891f7e033ad2280"), looks := true }, kinds := [], alts := [], laidByText := true, laidKinds := [.data, .data, .data, .sentinel, .sentinel], laidTests := true, laidLooks := .later }
def CharsNamesCardSaid : Prop := Claim7.holds Tryd.pinned (.plain (OpenSpec.ofChange charsNamesSpec)) charsNamesCard

/-- THE SECOND FORM's CARD OF 'windlasslaw01.CharsTells'. -/
def charsTellsUptoCard : Claim7 := { stood := { row := charsTellsUptoRow, standIns := [], harness := (true, "626a9eda92dce1e5aa6caf4268df13854f1d176c062599f1c891f7e033ad2280"), looks := true }, kinds := [], alts := [], laidByText := true, laidKinds := [.data, .data, .data, .sentinel, .sentinel], laidTests := true, laidLooks := .later }
def CharsTellsUptoCardSaid : Prop := Claim7.holds Tryd.pinned (.plain (OpenSpec.upto charsTellsSpec)) charsTellsUptoCard

/-- THE SECOND FORM's CARD OF 'windlasslaw01.CharsNumbers'. -/
def charsNumbersUptoCard : Claim7 := { stood := { row := charsNumbersUptoRow, standIns := [], harness := (true, "626a9eda92dce1e5aa6caf4268df13854f1d176c062599f1c891f7e033ad2280"), looks := true }, kinds := [], alts := [], laidByText := true, laidKinds := [.data, .data, .data, .sentinel, .sentinel], laidTests := true, laidLooks := .later }
def CharsNumbersUptoCardSaid : Prop := Claim7.holds Tryd.pinned (.plain (OpenSpec.upto charsNumbersSpec)) charsNumbersUptoCard

/-- THE SECOND FORM's CARD OF 'windlasslaw01.CharsBack'. -/
def charsBackUptoCard : Claim7 := { stood := { row := charsBackUptoRow, standIns := [], harness := (true, "626a9eda92dce1e5aa6caf4268df13854f1d176c062599f1c891f7e033ad2280"), looks := true }, kinds := [], alts := [], laidByText := true, laidKinds := [.data, .data, .data, .sentinel, .sentinel], laidTests := true, laidLooks := .later }
def CharsBackUptoCardSaid : Prop := Claim7.holds Tryd.pinned (.plain (OpenSpec.upto charsBackSpec)) charsBackUptoCard

/-- THE SECOND FORM's CARD OF 'windlasslaw01.CharsClasses'. -/
def charsClassesUptoCard : Claim7 := { stood := { row := charsClassesUptoRow, standIns := [], harness := (true, "626a9eda92dce1e5aa6caf4268df13854f1d176c062599f1c891f7e033ad2280"), looks := true }, kinds := [], alts := [], laidByText := true, laidKinds := [.data, .data, .data, .sentinel, .sentinel], laidTests := true, laidLooks := .later }
def CharsClassesUptoCardSaid : Prop := Claim7.holds Tryd.pinned (.plain (OpenSpec.upto charsClassesSpec)) charsClassesUptoCard

/-- THE SECOND FORM's CARD OF 'windlasslaw01.CharsNames'. -/
def charsNamesUptoCard : Claim7 := { stood := { row := charsNamesUptoRow, standIns := [], harness := (true, "626a9eda92dce1e5aa6caf4268df13854f1d176c062599f1c891f7e033ad2280"), looks := true }, kinds := [], alts := [], laidByText := true, laidKinds := [.data, .data, .data, .sentinel, .sentinel], laidTests := true, laidLooks := .later }
def CharsNamesUptoCardSaid : Prop := Claim7.holds Tryd.pinned (.plain (OpenSpec.upto charsNamesSpec)) charsNamesUptoCard
end Rows
end Go.Proofs.YtnblegmimemeeaaDoor
