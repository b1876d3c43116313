/-
  DERIVED. GIVEN WITH THE SEED: THE CARDS: each row of YtjhlaacgbgidhaeDoorRows.lean that lists a variable, with what it lists TIED to the program's text (the seventh form; the later family's looks); each row that meets fmt, with fmt's text TOLD by the authors' own Lean function (tested against real Go, not proved from fmt's source: count such statements apart). THE CARD IS WHAT COUNTS. Prove the row's statement (the work); the ties are given (YtjhlaacgbgidhaeDoorTie.lean); close each card by the builder's one call (the guide's Derived/Test/ToyasCard.lean, 'card_holds'). Laid BY PROGRAM, IN A SANDBOX (cutbox-door.mjs). By AI agents, Wed Nov 11 2026. No macro, syntax, notation, axiom, sorry.
-/
import Derived.Test.YtjhlaacgbgidhaeDoorRows
import GoSem.ClaimSeven
namespace Go.Proofs.YtjhlaacgbgidhaeDoor
namespace Rows

/-- THE TIED CARD OF 'goldkeep.NttBack'. -/
def nttBackCard : Claim7 := { stood := { row := nttBackRow, standIns := [], harness := (true, "610ff3baa995092b6eb4fc913c52234314c175ef38c5017236deecdb5512d728"), looks := false }, kinds := [], alts := [], laidByText := true, laidKinds := [.data, .data], laidTests := true, laidLooks := .later }
def NttBackCardSaid : Prop := Claim7.holds Tryd.pinned (.plain (OpenSpec.ofChange nttBackSpec)) nttBackCard

/-- THE TIED CARD OF 'goldkeep.NttShifts'. -/
def nttShiftsCard : Claim7 := { stood := { row := nttShiftsRow, standIns := [], harness := (true, "610ff3baa995092b6eb4fc913c52234314c175ef38c5017236deecdb5512d728"), looks := false }, kinds := [], alts := [], laidByText := true, laidKinds := [.data, .data], laidTests := true, laidLooks := .later }
def NttShiftsCardSaid : Prop := Claim7.holds Tryd.pinned (.plain (OpenSpec.ofChange nttShiftsSpec)) nttShiftsCard

/-- THE TIED CARD OF 'goldkeep.ConvTheorem'. -/
def convTheoremCard : Claim7 := { stood := { row := convTheoremRow, standIns := [], harness := (true, "610ff3baa995092b6eb4fc913c52234314c175ef38c5017236deecdb5512d728"), looks := false }, kinds := [], alts := [], laidByText := true, laidKinds := [.data, .data], laidTests := true, laidLooks := .later }
def ConvTheoremCardSaid : Prop := Claim7.holds Tryd.pinned (.plain (OpenSpec.ofChange convTheoremSpec)) convTheoremCard

/-- THE SECOND FORM's CARD OF 'goldkeep.NttBack'. -/
def nttBackUptoCard : Claim7 := { stood := { row := nttBackUptoRow, standIns := [], harness := (true, "610ff3baa995092b6eb4fc913c52234314c175ef38c5017236deecdb5512d728"), looks := false }, kinds := [], alts := [], laidByText := true, laidKinds := [.data, .data], laidTests := true, laidLooks := .later }
def NttBackUptoCardSaid : Prop := Claim7.holds Tryd.pinned (.plain (OpenSpec.upto nttBackSpec)) nttBackUptoCard

/-- THE SECOND FORM's CARD OF 'goldkeep.NttShifts'. -/
def nttShiftsUptoCard : Claim7 := { stood := { row := nttShiftsUptoRow, standIns := [], harness := (true, "610ff3baa995092b6eb4fc913c52234314c175ef38c5017236deecdb5512d728"), looks := false }, kinds := [], alts := [], laidByText := true, laidKinds := [.data, .data], laidTests := true, laidLooks := .later }
def NttShiftsUptoCardSaid : Prop := Claim7.holds Tryd.pinned (.plain (OpenSpec.upto nttShiftsSpec)) nttShiftsUptoCard

/-- THE SECOND FORM's CARD OF 'goldkeep.ConvTheorem'. -/
def convTheoremUptoCard : Claim7 := { stood := { row := convTheoremUptoRow, standIns := [], harness := (true, "610ff3baa995092b6eb4fc913c52234314c175ef38c5017236deecdb5512d728"), looks := false }, kinds := [], alts := [], laidByText := true, laidKinds := [.data, .data], laidTests := true, laidLooks := .later }
def ConvTheoremUptoCardSaid : Prop := Claim7.holds Tryd.pinned (.plain (OpenSpec.upto convTheoremSpec)) convTheoremUptoCard
end Rows
end Go.Proofs.YtjhlaacgbgidhaeDoor
