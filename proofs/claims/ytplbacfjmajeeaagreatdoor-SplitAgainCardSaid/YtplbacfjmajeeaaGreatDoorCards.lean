/-
  DERIVED. GIVEN WITH THE SEED: THE CARDS: each row of YtplbacfjmajeeaaGreatDoorRows.lean that lists a variable, with what it lists TIED to the program's text (the seventh form; the later family's looks); each row that meets fmt, with fmt's text TOLD by the authors' own Lean function (tested against real Go, not proved from fmt's source: count such statements apart). THE CARD IS WHAT COUNTS. Prove the row's statement (the work); the ties are given (YtplbacfjmajeeaaGreatDoorTie.lean); close each card by the builder's one call (the guide's Derived/Test/ToyasCard.lean, 'card_holds'). Laid BY PROGRAM, IN A SANDBOX (cutbox-door.mjs). By AI agents, Wed Nov 11 2026. No macro, syntax, notation, axiom, sorry.
-/
import Derived.Test.YtplbacfjmajeeaaGreatDoorRows
import GoSem.ClaimSeven
namespace Go.Proofs.YtplbacfjmajeeaaGreatDoor
namespace Rows

/-- THE TIED CARD OF 'hglaw2.PatsDiffer'. -/
def patsDifferCard : Claim7 := { stood := { row := patsDifferRow, standIns := [], harness := (true, "2c40fcc3a0683a838d27a9a2f8d8c8cba2ee623ac079cb46bca3ab17a506afb5"), looks := true }, kinds := [], alts := [], laidByText := true, laidKinds := [.data, .data, .data], laidTests := true, laidLooks := .later }
def PatsDifferCardSaid : Prop := Claim7.holds Tryz.pinned (.plain (OpenSpec.ofChange patsDifferSpec)) patsDifferCard

/-- THE TIED CARD OF 'hglaw2.TextsSplit'. -/
def textsSplitCard : Claim7 := { stood := { row := textsSplitRow, standIns := [], harness := (true, "2c40fcc3a0683a838d27a9a2f8d8c8cba2ee623ac079cb46bca3ab17a506afb5"), looks := true }, kinds := [], alts := [], laidByText := true, laidKinds := [.data, .data, .data, .sentinel, .sentinel], laidTests := true, laidLooks := .later }
def TextsSplitCardSaid : Prop := Claim7.holds Tryz.pinned (.plain (OpenSpec.ofChange textsSplitSpec)) textsSplitCard

/-- THE TIED CARD OF 'hglaw2.SplitAgain'. -/
def splitAgainCard : Claim7 := { stood := { row := splitAgainRow, standIns := [], harness := (true, "2c40fcc3a0683a838d27a9a2f8d8c8cba2ee623ac079cb46bca3ab17a506afb5"), looks := true }, kinds := [], alts := [], laidByText := true, laidKinds := [.data, .data, .data, .sentinel, .sentinel], laidTests := true, laidLooks := .later }
def SplitAgainCardSaid : Prop := Claim7.holds Tryz.pinned (.plain (OpenSpec.ofChange splitAgainSpec)) splitAgainCard

/-- THE SECOND FORM's CARD OF 'hglaw2.PatsDiffer'. -/
def patsDifferUptoCard : Claim7 := { stood := { row := patsDifferUptoRow, standIns := [], harness := (true, "2c40fcc3a0683a838d27a9a2f8d8c8cba2ee623ac079cb46bca3ab17a506afb5"), looks := true }, kinds := [], alts := [], laidByText := true, laidKinds := [.data, .data, .data], laidTests := true, laidLooks := .later }
def PatsDifferUptoCardSaid : Prop := Claim7.holds Tryz.pinned (.plain (OpenSpec.upto patsDifferSpec)) patsDifferUptoCard

/-- THE SECOND FORM's CARD OF 'hglaw2.TextsSplit'. -/
def textsSplitUptoCard : Claim7 := { stood := { row := textsSplitUptoRow, standIns := [], harness := (true, "2c40fcc3a0683a838d27a9a2f8d8c8cba2ee623ac079cb46bca3ab17a506afb5"), looks := true }, kinds := [], alts := [], laidByText := true, laidKinds := [.data, .data, .data, .sentinel, .sentinel], laidTests := true, laidLooks := .later }
def TextsSplitUptoCardSaid : Prop := Claim7.holds Tryz.pinned (.plain (OpenSpec.upto textsSplitSpec)) textsSplitUptoCard

/-- THE SECOND FORM's CARD OF 'hglaw2.SplitAgain'. -/
def splitAgainUptoCard : Claim7 := { stood := { row := splitAgainUptoRow, standIns := [], harness := (true, "2c40fcc3a0683a838d27a9a2f8d8c8cba2ee623ac079cb46bca3ab17a506afb5"), looks := true }, kinds := [], alts := [], laidByText := true, laidKinds := [.data, .data, .data, .sentinel, .sentinel], laidTests := true, laidLooks := .later }
def SplitAgainUptoCardSaid : Prop := Claim7.holds Tryz.pinned (.plain (OpenSpec.upto splitAgainSpec)) splitAgainUptoCard
end Rows
end Go.Proofs.YtplbacfjmajeeaaGreatDoor
