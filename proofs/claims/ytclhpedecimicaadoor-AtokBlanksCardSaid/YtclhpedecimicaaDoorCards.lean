/-
  DERIVED. GIVEN WITH THE SEED: THE CARDS: each row of YtclhpedecimicaaDoorRows.lean that lists a variable, with what it lists TIED to the program's text (the seventh form; the later family's looks); each row that meets fmt, with fmt's text TOLD by the authors' own Lean function (tested against real Go, not proved from fmt's source: count such statements apart). THE CARD IS WHAT COUNTS. Prove the row's statement (the work); the ties are given (YtclhpedecimicaaDoorTie.lean); close each card by the builder's one call (the guide's Derived/Test/ToyasCard.lean, 'card_holds'). Laid BY PROGRAM, IN A SANDBOX (cutbox-door.mjs). By AI agents, Wed Nov 11 2026. No macro, syntax, notation, axiom, sorry.
-/
import Derived.Test.YtclhpedecimicaaDoorRows
import GoSem.ClaimSeven
namespace Go.Proofs.YtclhpedecimicaaDoor
namespace Rows

/-- THE TIED CARD OF 'windlasslaw12.AtokReads'. -/
def atokReadsCard : Claim7 := { stood := { row := atokReadsRow, standIns := [], harness := (true, "737ca500bd6fd744723c666dbf27164692e3363c772b2950f6584e2318bb9f67"), looks := true }, kinds := [], alts := [], laidByText := true, laidKinds := [.data, .data, .data, .data, .sentinel, .sentinel, .data, .pinned], laidTests := true, laidLooks := .later }
def AtokReadsCardSaid : Prop := Claim7.holds Tryd.pinned (.plain (OpenSpec.ofChange atokReadsSpec)) atokReadsCard

/-- THE TIED CARD OF 'windlasslaw12.AtokBlanks'. -/
def atokBlanksCard : Claim7 := { stood := { row := atokBlanksRow, standIns := [], harness := (true, "737ca500bd6fd744723c666dbf27164692e3363c772b2950f6584e2318bb9f67"), looks := true }, kinds := [], alts := [], laidByText := true, laidKinds := [.data, .data, .data, .data, .sentinel, .sentinel, .data, .pinned], laidTests := true, laidLooks := .later }
def AtokBlanksCardSaid : Prop := Claim7.holds Tryd.pinned (.plain (OpenSpec.ofChange atokBlanksSpec)) atokBlanksCard

/-- THE TIED CARD OF 'windlasslaw12.AtokNumbers'. -/
def atokNumbersCard : Claim7 := { stood := { row := atokNumbersRow, standIns := [], harness := (true, "737ca500bd6fd744723c666dbf27164692e3363c772b2950f6584e2318bb9f67"), looks := true }, kinds := [], alts := [], laidByText := true, laidKinds := [.data, .data, .data, .data, .sentinel, .sentinel, .data, .pinned], laidTests := true, laidLooks := .later }
def AtokNumbersCardSaid : Prop := Claim7.holds Tryd.pinned (.plain (OpenSpec.ofChange atokNumbersSpec)) atokNumbersCard

/-- THE TIED CARD OF 'windlasslaw12.AtokNames'. -/
def atokNamesCard : Claim7 := { stood := { row := atokNamesRow, standIns := [], harness := (true, "737ca500bd6fd744723c666dbf27164692e3363c772b2950f6584e2318bb9f67"), looks := true }, kinds := [], alts := [], laidByText := true, laidKinds := [.data, .data, .data, .data, .sentinel, .sentinel, .data, .pinned], laidTests := true, laidLooks := .later }
def AtokNamesCardSaid : Prop := Claim7.holds Tryd.pinned (.plain (OpenSpec.ofChange atokNamesSpec)) atokNamesCard

/-- THE SECOND FORM's CARD OF 'windlasslaw12.AtokReads'. -/
def atokReadsUptoCard : Claim7 := { stood := { row := atokReadsUptoRow, standIns := [], harness := (true, "737ca500bd6fd744723c666dbf27164692e3363c772b2950f6584e2318bb9f67"), looks := true }, kinds := [], alts := [], laidByText := true, laidKinds := [.data, .data, .data, .data, .sentinel, .sentinel, .data, .pinned], laidTests := true, laidLooks := .later }
def AtokReadsUptoCardSaid : Prop := Claim7.holds Tryd.pinned (.plain (OpenSpec.upto atokReadsSpec)) atokReadsUptoCard

/-- THE SECOND FORM's CARD OF 'windlasslaw12.AtokBlanks'. -/
def atokBlanksUptoCard : Claim7 := { stood := { row := atokBlanksUptoRow, standIns := [], harness := (true, "737ca500bd6fd744723c666dbf27164692e3363c772b2950f6584e2318bb9f67"), looks := true }, kinds := [], alts := [], laidByText := true, laidKinds := [.data, .data, .data, .data, .sentinel, .sentinel, .data, .pinned], laidTests := true, laidLooks := .later }
def AtokBlanksUptoCardSaid : Prop := Claim7.holds Tryd.pinned (.plain (OpenSpec.upto atokBlanksSpec)) atokBlanksUptoCard

/-- THE SECOND FORM's CARD OF 'windlasslaw12.AtokNumbers'. -/
def atokNumbersUptoCard : Claim7 := { stood := { row := atokNumbersUptoRow, standIns := [], harness := (true, "737ca500bd6fd744723c666dbf27164692e3363c772b2950f6584e2318bb9f67"), looks := true }, kinds := [], alts := [], laidByText := true, laidKinds := [.data, .data, .data, .data, .sentinel, .sentinel, .data, .pinned], laidTests := true, laidLooks := .later }
def AtokNumbersUptoCardSaid : Prop := Claim7.holds Tryd.pinned (.plain (OpenSpec.upto atokNumbersSpec)) atokNumbersUptoCard

/-- THE SECOND FORM's CARD OF 'windlasslaw12.AtokNames'. -/
def atokNamesUptoCard : Claim7 := { stood := { row := atokNamesUptoRow, standIns := [], harness := (true, "737ca500bd6fd744723c666dbf27164692e3363c772b2950f6584e2318bb9f67"), looks := true }, kinds := [], alts := [], laidByText := true, laidKinds := [.data, .data, .data, .data, .sentinel, .sentinel, .data, .pinned], laidTests := true, laidLooks := .later }
def AtokNamesUptoCardSaid : Prop := Claim7.holds Tryd.pinned (.plain (OpenSpec.upto atokNamesSpec)) atokNamesUptoCard
end Rows
end Go.Proofs.YtclhpedecimicaaDoor
