/-
  DERIVED. GIVEN WITH THE SEED: THE CARDS: each row of YtgfnjbkhncjhhabDoorRows.lean that lists a variable, with what it lists TIED to the program's text (the seventh form; the later family's looks); each row that meets fmt, with fmt's text TOLD by the authors' own Lean function (tested against real Go, not proved from fmt's source: count such statements apart). THE CARD IS WHAT COUNTS. Prove the row's statement (the work); the ties are given (YtgfnjbkhncjhhabDoorTie.lean); close each card by the builder's one call (the guide's Derived/Test/ToyasCard.lean, 'card_holds'). Laid BY PROGRAM, IN A SANDBOX (cutbox-door.mjs). By AI agents, Wed Nov 11 2026. No macro, syntax, notation, axiom, sorry.
-/
import Derived.Test.YtgfnjbkhncjhhabDoorRows
import GoSem.ClaimSeven
namespace Go.Proofs.YtgfnjbkhncjhhabDoor
namespace Rows

/-- THE TIED CARD OF 'goldlaw.ConvSays'. -/
def convSaysCard : Claim7 := { stood := { row := convSaysRow, standIns := [], harness := (true, "172fa9d6b69f6273300660a8ae1c40d481d38eaa45c92e01b5311c05d294231e"), looks := false }, kinds := [], alts := [], laidByText := true, laidKinds := [.data, .data], laidTests := true, laidLooks := .later }
def ConvSaysCardSaid : Prop := Claim7.holds Tryd.pinned (.plain (OpenSpec.ofChange convSaysSpec)) convSaysCard

/-- THE TIED CARD OF 'goldlaw.ManyTurns'. -/
def manyTurnsCard : Claim7 := { stood := { row := manyTurnsRow, standIns := [], harness := (true, "172fa9d6b69f6273300660a8ae1c40d481d38eaa45c92e01b5311c05d294231e"), looks := false }, kinds := [], alts := [], laidByText := true, laidKinds := [.data, .data], laidTests := true, laidLooks := .later }
def ManyTurnsCardSaid : Prop := Claim7.holds Tryd.pinned (.plain (OpenSpec.ofChange manyTurnsSpec)) manyTurnsCard

/-- THE SECOND FORM's CARD OF 'goldlaw.ConvSays'. -/
def convSaysUptoCard : Claim7 := { stood := { row := convSaysUptoRow, standIns := [], harness := (true, "172fa9d6b69f6273300660a8ae1c40d481d38eaa45c92e01b5311c05d294231e"), looks := false }, kinds := [], alts := [], laidByText := true, laidKinds := [.data, .data], laidTests := true, laidLooks := .later }
def ConvSaysUptoCardSaid : Prop := Claim7.holds Tryd.pinned (.plain (OpenSpec.upto convSaysSpec)) convSaysUptoCard

/-- THE SECOND FORM's CARD OF 'goldlaw.ManyTurns'. -/
def manyTurnsUptoCard : Claim7 := { stood := { row := manyTurnsUptoRow, standIns := [], harness := (true, "172fa9d6b69f6273300660a8ae1c40d481d38eaa45c92e01b5311c05d294231e"), looks := false }, kinds := [], alts := [], laidByText := true, laidKinds := [.data, .data], laidTests := true, laidLooks := .later }
def ManyTurnsUptoCardSaid : Prop := Claim7.holds Tryd.pinned (.plain (OpenSpec.upto manyTurnsSpec)) manyTurnsUptoCard
end Rows
end Go.Proofs.YtgfnjbkhncjhhabDoor
