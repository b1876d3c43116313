/-
  DERIVED. GIVEN WITH THE SEED: THE CARDS: each row of YtndmhceampggmacDoorRows.lean that lists a variable, with what it lists TIED to the program's text (the seventh form; the later family's looks); each row that meets fmt, with fmt's text TOLD by the authors' own Lean function (tested against real Go, not proved from fmt's source: count such statements apart). THE CARD IS WHAT COUNTS. Prove the row's statement (the work); the ties are given (YtndmhceampggmacDoorTie.lean); close each card by the builder's one call (the guide's Derived/Test/ToyasCard.lean, 'card_holds'). Laid BY PROGRAM, IN A SANDBOX (cutbox-door.mjs). By AI agents, Wed Nov 11 2026. No macro, syntax, notation, axiom, sorry.
-/
import Derived.Test.YtndmhceampggmacDoorRows
import GoSem.ClaimSeven
namespace Go.Proofs.YtndmhceampggmacDoor
namespace Rows

/-- THE TIED CARD OF 'goldlaw.ExecPlays'. -/
def execPlaysCard : Claim7 := { stood := { row := execPlaysRow, standIns := [], harness := (true, "c6ef417a70d72fc20516edb9c3ab0b9db80b363abd8259aad33db463c67bcb85"), looks := false }, kinds := [], alts := [], goes := true, laidByText := true, laidKinds := [.data, .data], laidTests := true, laidLooks := .later }
def ExecPlaysCardSaid : Prop := Claim7.holds Tryd.pinned (.plain (OpenSpec.ofChange execPlaysSpec)) execPlaysCard

/-- THE TIED CARD OF 'goldlaw.ExecTogether'. -/
def execTogetherCard : Claim7 := { stood := { row := execTogetherRow, standIns := [], harness := (true, "c6ef417a70d72fc20516edb9c3ab0b9db80b363abd8259aad33db463c67bcb85"), looks := false }, kinds := [], alts := [], goes := true, laidByText := true, laidKinds := [.data, .data], laidTests := true, laidLooks := .later }
def ExecTogetherCardSaid : Prop := Claim7.holds Tryd.pinned (.plain (OpenSpec.ofChange execTogetherSpec)) execTogetherCard

/-- THE TIED CARD OF 'goldlaw.BigSays'. -/
def bigSaysCard : Claim7 := { stood := { row := bigSaysRow, standIns := [], harness := (true, "c6ef417a70d72fc20516edb9c3ab0b9db80b363abd8259aad33db463c67bcb85"), looks := false }, kinds := [], alts := [], laidByText := true, laidKinds := [.data, .data, .data], laidTests := true, laidLooks := .later }
def BigSaysCardSaid : Prop := Claim7.holds Tryd.pinned (.plain (OpenSpec.ofChange bigSaysSpec)) bigSaysCard

/-- THE SECOND FORM's CARD OF 'goldlaw.ExecPlays'. -/
def execPlaysUptoCard : Claim7 := { stood := { row := execPlaysUptoRow, standIns := [], harness := (true, "c6ef417a70d72fc20516edb9c3ab0b9db80b363abd8259aad33db463c67bcb85"), looks := false }, kinds := [], alts := [], goes := true, laidByText := true, laidKinds := [.data, .data], laidTests := true, laidLooks := .later }
def ExecPlaysUptoCardSaid : Prop := Claim7.holds Tryd.pinned (.plain (OpenSpec.upto execPlaysSpec)) execPlaysUptoCard

/-- THE SECOND FORM's CARD OF 'goldlaw.ExecTogether'. -/
def execTogetherUptoCard : Claim7 := { stood := { row := execTogetherUptoRow, standIns := [], harness := (true, "c6ef417a70d72fc20516edb9c3ab0b9db80b363abd8259aad33db463c67bcb85"), looks := false }, kinds := [], alts := [], goes := true, laidByText := true, laidKinds := [.data, .data], laidTests := true, laidLooks := .later }
def ExecTogetherUptoCardSaid : Prop := Claim7.holds Tryd.pinned (.plain (OpenSpec.upto execTogetherSpec)) execTogetherUptoCard

/-- THE SECOND FORM's CARD OF 'goldlaw.BigSays'. -/
def bigSaysUptoCard : Claim7 := { stood := { row := bigSaysUptoRow, standIns := [], harness := (true, "c6ef417a70d72fc20516edb9c3ab0b9db80b363abd8259aad33db463c67bcb85"), looks := false }, kinds := [], alts := [], laidByText := true, laidKinds := [.data, .data, .data], laidTests := true, laidLooks := .later }
def BigSaysUptoCardSaid : Prop := Claim7.holds Tryd.pinned (.plain (OpenSpec.upto bigSaysSpec)) bigSaysUptoCard
end Rows
end Go.Proofs.YtndmhceampggmacDoor
