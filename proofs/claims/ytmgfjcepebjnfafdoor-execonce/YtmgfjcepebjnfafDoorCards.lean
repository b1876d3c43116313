/-
  DERIVED. GIVEN WITH THE SEED: THE CARDS: each row of YtmgfjcepebjnfafDoorRows.lean that lists a variable, with what it lists TIED to the program's text (the seventh form; the later family's looks); each row that meets fmt, with fmt's text TOLD by the authors' own Lean function (tested against real Go, not proved from fmt's source: count such statements apart). THE CARD IS WHAT COUNTS. Prove the row's statement (the work); the ties are given (YtmgfjcepebjnfafDoorTie.lean); close each card by the builder's one call (the guide's Derived/Test/ToyasCard.lean, 'card_holds'). Laid BY PROGRAM, IN A SANDBOX (cutbox-door.mjs). By AI agents, Wed Nov 11 2026. No macro, syntax, notation, axiom, sorry.
-/
import Derived.Test.YtmgfjcepebjnfafDoorRows
import GoSem.ClaimSeven
namespace Go.Proofs.YtmgfjcepebjnfafDoor
namespace Rows

/-- THE TIED CARD OF 'goldkeep.ExecOnce'. -/
def execOnceCard : Claim7 := { stood := { row := execOnceRow, standIns := [], harness := (true, "f50c853fbbdba0ede896f01dad74e7540b07b1a27d7d3dd322140abd6cef8fbe"), looks := false }, kinds := [], alts := [], laidByText := true, laidKinds := [.data, .data], laidTests := true, laidLooks := .later }
def ExecOnceCardSaid : Prop := Claim7.holds Tryd.pinned (.plain (OpenSpec.ofChange execOnceSpec)) execOnceCard

/-- THE TIED CARD OF 'goldkeep.ExecEnds'. -/
def execEndsCard : Claim7 := { stood := { row := execEndsRow, standIns := [], harness := (true, "f50c853fbbdba0ede896f01dad74e7540b07b1a27d7d3dd322140abd6cef8fbe"), looks := false }, kinds := [], alts := [], laidByText := true, laidKinds := [.data, .data], laidTests := true, laidLooks := .later }
def ExecEndsCardSaid : Prop := Claim7.holds Tryd.pinned (.plain (OpenSpec.ofChange execEndsSpec)) execEndsCard

/-- THE SECOND FORM's CARD OF 'goldkeep.ExecOnce'. -/
def execOnceUptoCard : Claim7 := { stood := { row := execOnceUptoRow, standIns := [], harness := (true, "f50c853fbbdba0ede896f01dad74e7540b07b1a27d7d3dd322140abd6cef8fbe"), looks := false }, kinds := [], alts := [], laidByText := true, laidKinds := [.data, .data], laidTests := true, laidLooks := .later }
def ExecOnceUptoCardSaid : Prop := Claim7.holds Tryd.pinned (.plain (OpenSpec.upto execOnceSpec)) execOnceUptoCard

/-- THE SECOND FORM's CARD OF 'goldkeep.ExecEnds'. -/
def execEndsUptoCard : Claim7 := { stood := { row := execEndsUptoRow, standIns := [], harness := (true, "f50c853fbbdba0ede896f01dad74e7540b07b1a27d7d3dd322140abd6cef8fbe"), looks := false }, kinds := [], alts := [], laidByText := true, laidKinds := [.data, .data], laidTests := true, laidLooks := .later }
def ExecEndsUptoCardSaid : Prop := Claim7.holds Tryd.pinned (.plain (OpenSpec.upto execEndsSpec)) execEndsUptoCard
end Rows
end Go.Proofs.YtmgfjcepebjnfafDoor
