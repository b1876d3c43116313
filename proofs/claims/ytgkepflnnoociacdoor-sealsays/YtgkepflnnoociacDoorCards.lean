/-
  DERIVED. GIVEN WITH THE SEED: THE CARDS: each row of YtgkepflnnoociacDoorRows.lean that lists a variable, with what it lists TIED to the program's text (the seventh form; the later family's looks); each row that meets fmt, with fmt's text TOLD by the authors' own Lean function (tested against real Go, not proved from fmt's source: count such statements apart). THE CARD IS WHAT COUNTS. Prove the row's statement (the work); the ties are given (YtgkepflnnoociacDoorTie.lean); close each card by the builder's one call (the guide's Derived/Test/ToyasCard.lean, 'card_holds'). Laid BY PROGRAM, IN A SANDBOX (cutbox-door.mjs). By AI agents, Wed Nov 11 2026. No macro, syntax, notation, axiom, sorry.
-/
import Derived.Test.YtgkepflnnoociacDoorRows
import GoSem.ClaimSeven
namespace Go.Proofs.YtgkepflnnoociacDoor
namespace Rows

/-- THE TIED CARD OF 'goldlaw.ExecPlays'. -/
def execPlaysCard : Claim7 := { stood := { row := execPlaysRow, standIns := [], harness := (true, "a0d02f46b6a770f2b469127221c441e268b3306ed389a651f74da1a97173bbc9"), looks := false }, kinds := [], alts := [], goes := true, laidByText := true, laidKinds := [.data, .data], laidTests := true, laidLooks := .later }
def ExecPlaysCardSaid : Prop := Claim7.holds Tryd.pinned (.plain (OpenSpec.ofChange execPlaysSpec)) execPlaysCard

/-- THE TIED CARD OF 'goldlaw.ExecTogether'. -/
def execTogetherCard : Claim7 := { stood := { row := execTogetherRow, standIns := [], harness := (true, "a0d02f46b6a770f2b469127221c441e268b3306ed389a651f74da1a97173bbc9"), looks := false }, kinds := [], alts := [], goes := true, laidByText := true, laidKinds := [.data, .data], laidTests := true, laidLooks := .later }
def ExecTogetherCardSaid : Prop := Claim7.holds Tryd.pinned (.plain (OpenSpec.ofChange execTogetherSpec)) execTogetherCard

/-- THE TIED CARD OF 'goldlaw.BigSays'. -/
def bigSaysCard : Claim7 := { stood := { row := bigSaysRow, standIns := [], harness := (true, "a0d02f46b6a770f2b469127221c441e268b3306ed389a651f74da1a97173bbc9"), looks := false }, kinds := [], alts := [], laidByText := true, laidKinds := [.data, .data, .data], laidTests := true, laidLooks := .later }
def BigSaysCardSaid : Prop := Claim7.holds Tryd.pinned (.plain (OpenSpec.ofChange bigSaysSpec)) bigSaysCard

/-- THE TIED CARD OF 'goldlaw.SealSays'. -/
def sealSaysCard : Claim7 := { stood := { row := sealSaysRow, standIns := [], harness := (true, "a0d02f46b6a770f2b469127221c441e268b3306ed389a651f74da1a97173bbc9"), looks := false }, kinds := [], alts := [], goes := true, laidByText := true, laidKinds := [.data, .data], laidTests := true, laidLooks := .later }
def SealSaysCardSaid : Prop := Claim7.holds Tryd.pinned (.plain (OpenSpec.ofChange sealSaysSpec)) sealSaysCard

/-- THE SECOND FORM's CARD OF 'goldlaw.ExecPlays'. -/
def execPlaysUptoCard : Claim7 := { stood := { row := execPlaysUptoRow, standIns := [], harness := (true, "a0d02f46b6a770f2b469127221c441e268b3306ed389a651f74da1a97173bbc9"), looks := false }, kinds := [], alts := [], goes := true, laidByText := true, laidKinds := [.data, .data], laidTests := true, laidLooks := .later }
def ExecPlaysUptoCardSaid : Prop := Claim7.holds Tryd.pinned (.plain (OpenSpec.upto execPlaysSpec)) execPlaysUptoCard

/-- THE SECOND FORM's CARD OF 'goldlaw.ExecTogether'. -/
def execTogetherUptoCard : Claim7 := { stood := { row := execTogetherUptoRow, standIns := [], harness := (true, "a0d02f46b6a770f2b469127221c441e268b3306ed389a651f74da1a97173bbc9"), looks := false }, kinds := [], alts := [], goes := true, laidByText := true, laidKinds := [.data, .data], laidTests := true, laidLooks := .later }
def ExecTogetherUptoCardSaid : Prop := Claim7.holds Tryd.pinned (.plain (OpenSpec.upto execTogetherSpec)) execTogetherUptoCard

/-- THE SECOND FORM's CARD OF 'goldlaw.BigSays'. -/
def bigSaysUptoCard : Claim7 := { stood := { row := bigSaysUptoRow, standIns := [], harness := (true, "a0d02f46b6a770f2b469127221c441e268b3306ed389a651f74da1a97173bbc9"), looks := false }, kinds := [], alts := [], laidByText := true, laidKinds := [.data, .data, .data], laidTests := true, laidLooks := .later }
def BigSaysUptoCardSaid : Prop := Claim7.holds Tryd.pinned (.plain (OpenSpec.upto bigSaysSpec)) bigSaysUptoCard

/-- THE SECOND FORM's CARD OF 'goldlaw.SealSays'. -/
def sealSaysUptoCard : Claim7 := { stood := { row := sealSaysUptoRow, standIns := [], harness := (true, "a0d02f46b6a770f2b469127221c441e268b3306ed389a651f74da1a97173bbc9"), looks := false }, kinds := [], alts := [], goes := true, laidByText := true, laidKinds := [.data, .data], laidTests := true, laidLooks := .later }
def SealSaysUptoCardSaid : Prop := Claim7.holds Tryd.pinned (.plain (OpenSpec.upto sealSaysSpec)) sealSaysUptoCard
end Rows
end Go.Proofs.YtgkepflnnoociacDoor
