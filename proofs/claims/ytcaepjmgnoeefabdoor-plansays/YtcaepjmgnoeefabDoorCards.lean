/-
  DERIVED. GIVEN WITH THE SEED: THE CARDS: each row of YtcaepjmgnoeefabDoorRows.lean that lists a variable, with what it lists TIED to the program's text (the seventh form; the later family's looks); each row that meets fmt, with fmt's text TOLD by the authors' own Lean function (tested against real Go, not proved from fmt's source: count such statements apart). THE CARD IS WHAT COUNTS. Prove the row's statement (the work); the ties are given (YtcaepjmgnoeefabDoorTie.lean); close each card by the builder's one call (the guide's Derived/Test/ToyasCard.lean, 'card_holds'). Laid BY PROGRAM, IN A SANDBOX (cutbox-door.mjs). By AI agents, Wed Nov 11 2026. No macro, syntax, notation, axiom, sorry.
-/
import Derived.Test.YtcaepjmgnoeefabDoorRows
import GoSem.ClaimSeven
namespace Go.Proofs.YtcaepjmgnoeefabDoor
namespace Rows

/-- THE TIED CARD OF 'goldlaw.ConvSays'. -/
def convSaysCard : Claim7 := { stood := { row := convSaysRow, standIns := [], harness := (true, "4aa6b2b9f15a3b6edee9d5b1fa0373afeb206ef63a4a8ed7b9fa652b1f160e0d"), looks := false }, kinds := [], alts := [], laidByText := true, laidKinds := [.data, .data], laidTests := true, laidLooks := .later }
def ConvSaysCardSaid : Prop := Claim7.holds Tryd.pinned (.plain (OpenSpec.ofChange convSaysSpec)) convSaysCard

/-- THE TIED CARD OF 'goldlaw.ManyTurns'. -/
def manyTurnsCard : Claim7 := { stood := { row := manyTurnsRow, standIns := [], harness := (true, "4aa6b2b9f15a3b6edee9d5b1fa0373afeb206ef63a4a8ed7b9fa652b1f160e0d"), looks := false }, kinds := [], alts := [], laidByText := true, laidKinds := [.data, .data], laidTests := true, laidLooks := .later }
def ManyTurnsCardSaid : Prop := Claim7.holds Tryd.pinned (.plain (OpenSpec.ofChange manyTurnsSpec)) manyTurnsCard

/-- THE TIED CARD OF 'goldlaw.PlanSays'. -/
def planSaysCard : Claim7 := { stood := { row := planSaysRow, standIns := [], harness := (true, "4aa6b2b9f15a3b6edee9d5b1fa0373afeb206ef63a4a8ed7b9fa652b1f160e0d"), looks := false }, kinds := [], alts := [], laidByText := true, laidKinds := [.data, .data, .data], laidTests := true, laidLooks := .later }
def PlanSaysCardSaid : Prop := Claim7.holds Tryd.pinned (.plain (OpenSpec.ofChange planSaysSpec)) planSaysCard

/-- THE TIED CARD OF 'goldlaw.PlanDoes'. -/
def planDoesCard : Claim7 := { stood := { row := planDoesRow, standIns := [], harness := (true, "4aa6b2b9f15a3b6edee9d5b1fa0373afeb206ef63a4a8ed7b9fa652b1f160e0d"), looks := false }, kinds := [], alts := [], laidByText := true, laidKinds := [.data, .data], laidTests := true, laidLooks := .later }
def PlanDoesCardSaid : Prop := Claim7.holds Tryd.pinned (.plain (OpenSpec.ofChange planDoesSpec)) planDoesCard

/-- THE SECOND FORM's CARD OF 'goldlaw.ConvSays'. -/
def convSaysUptoCard : Claim7 := { stood := { row := convSaysUptoRow, standIns := [], harness := (true, "4aa6b2b9f15a3b6edee9d5b1fa0373afeb206ef63a4a8ed7b9fa652b1f160e0d"), looks := false }, kinds := [], alts := [], laidByText := true, laidKinds := [.data, .data], laidTests := true, laidLooks := .later }
def ConvSaysUptoCardSaid : Prop := Claim7.holds Tryd.pinned (.plain (OpenSpec.upto convSaysSpec)) convSaysUptoCard

/-- THE SECOND FORM's CARD OF 'goldlaw.ManyTurns'. -/
def manyTurnsUptoCard : Claim7 := { stood := { row := manyTurnsUptoRow, standIns := [], harness := (true, "4aa6b2b9f15a3b6edee9d5b1fa0373afeb206ef63a4a8ed7b9fa652b1f160e0d"), looks := false }, kinds := [], alts := [], laidByText := true, laidKinds := [.data, .data], laidTests := true, laidLooks := .later }
def ManyTurnsUptoCardSaid : Prop := Claim7.holds Tryd.pinned (.plain (OpenSpec.upto manyTurnsSpec)) manyTurnsUptoCard

/-- THE SECOND FORM's CARD OF 'goldlaw.PlanSays'. -/
def planSaysUptoCard : Claim7 := { stood := { row := planSaysUptoRow, standIns := [], harness := (true, "4aa6b2b9f15a3b6edee9d5b1fa0373afeb206ef63a4a8ed7b9fa652b1f160e0d"), looks := false }, kinds := [], alts := [], laidByText := true, laidKinds := [.data, .data, .data], laidTests := true, laidLooks := .later }
def PlanSaysUptoCardSaid : Prop := Claim7.holds Tryd.pinned (.plain (OpenSpec.upto planSaysSpec)) planSaysUptoCard

/-- THE SECOND FORM's CARD OF 'goldlaw.PlanDoes'. -/
def planDoesUptoCard : Claim7 := { stood := { row := planDoesUptoRow, standIns := [], harness := (true, "4aa6b2b9f15a3b6edee9d5b1fa0373afeb206ef63a4a8ed7b9fa652b1f160e0d"), looks := false }, kinds := [], alts := [], laidByText := true, laidKinds := [.data, .data], laidTests := true, laidLooks := .later }
def PlanDoesUptoCardSaid : Prop := Claim7.holds Tryd.pinned (.plain (OpenSpec.upto planDoesSpec)) planDoesUptoCard
end Rows
end Go.Proofs.YtcaepjmgnoeefabDoor
