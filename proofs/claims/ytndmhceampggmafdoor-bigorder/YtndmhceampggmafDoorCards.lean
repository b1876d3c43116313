/-
  DERIVED. GIVEN WITH THE SEED: THE CARDS: each row of YtndmhceampggmafDoorRows.lean that lists a variable, with what it lists TIED to the program's text (the seventh form; the later family's looks); each row that meets fmt, with fmt's text TOLD by the authors' own Lean function (tested against real Go, not proved from fmt's source: count such statements apart). THE CARD IS WHAT COUNTS. Prove the row's statement (the work); the ties are given (YtndmhceampggmafDoorTie.lean); close each card by the builder's one call (the guide's Derived/Test/ToyasCard.lean, 'card_holds'). Laid BY PROGRAM, IN A SANDBOX (cutbox-door.mjs). By AI agents, Wed Nov 11 2026. No macro, syntax, notation, axiom, sorry.
-/
import Derived.Test.YtndmhceampggmafDoorRows
import GoSem.ClaimSeven
namespace Go.Proofs.YtndmhceampggmafDoor
namespace Rows

/-- THE TIED CARD OF 'goldkeep.ExecOnce'. -/
def execOnceCard : Claim7 := { stood := { row := execOnceRow, standIns := [], harness := (true, "6ca6f05eee1960ae9279cafcc0c58bf0c24e829996ffb9f01d6aae6273854e2d"), looks := false }, kinds := [], alts := [], laidByText := true, laidKinds := [.data, .data], laidTests := true, laidLooks := .later }
def ExecOnceCardSaid : Prop := Claim7.holds Tryd.pinned (.plain (OpenSpec.ofChange execOnceSpec)) execOnceCard

/-- THE TIED CARD OF 'goldkeep.ExecEnds'. -/
def execEndsCard : Claim7 := { stood := { row := execEndsRow, standIns := [], harness := (true, "6ca6f05eee1960ae9279cafcc0c58bf0c24e829996ffb9f01d6aae6273854e2d"), looks := false }, kinds := [], alts := [], laidByText := true, laidKinds := [.data, .data], laidTests := true, laidLooks := .later }
def ExecEndsCardSaid : Prop := Claim7.holds Tryd.pinned (.plain (OpenSpec.ofChange execEndsSpec)) execEndsCard

/-- THE TIED CARD OF 'goldkeep.BigLaws'. -/
def bigLawsCard : Claim7 := { stood := { row := bigLawsRow, standIns := [], harness := (true, "6ca6f05eee1960ae9279cafcc0c58bf0c24e829996ffb9f01d6aae6273854e2d"), looks := false }, kinds := [], alts := [], laidByText := true, laidKinds := [.data, .data, .data], laidTests := true, laidLooks := .later }
def BigLawsCardSaid : Prop := Claim7.holds Tryd.pinned (.plain (OpenSpec.ofChange bigLawsSpec)) bigLawsCard

/-- THE TIED CARD OF 'goldkeep.BigOrder'. -/
def bigOrderCard : Claim7 := { stood := { row := bigOrderRow, standIns := [], harness := (true, "6ca6f05eee1960ae9279cafcc0c58bf0c24e829996ffb9f01d6aae6273854e2d"), looks := false }, kinds := [], alts := [], laidByText := true, laidKinds := [.data, .data, .data], laidTests := true, laidLooks := .later }
def BigOrderCardSaid : Prop := Claim7.holds Tryd.pinned (.plain (OpenSpec.ofChange bigOrderSpec)) bigOrderCard

/-- THE SECOND FORM's CARD OF 'goldkeep.ExecOnce'. -/
def execOnceUptoCard : Claim7 := { stood := { row := execOnceUptoRow, standIns := [], harness := (true, "6ca6f05eee1960ae9279cafcc0c58bf0c24e829996ffb9f01d6aae6273854e2d"), looks := false }, kinds := [], alts := [], laidByText := true, laidKinds := [.data, .data], laidTests := true, laidLooks := .later }
def ExecOnceUptoCardSaid : Prop := Claim7.holds Tryd.pinned (.plain (OpenSpec.upto execOnceSpec)) execOnceUptoCard

/-- THE SECOND FORM's CARD OF 'goldkeep.ExecEnds'. -/
def execEndsUptoCard : Claim7 := { stood := { row := execEndsUptoRow, standIns := [], harness := (true, "6ca6f05eee1960ae9279cafcc0c58bf0c24e829996ffb9f01d6aae6273854e2d"), looks := false }, kinds := [], alts := [], laidByText := true, laidKinds := [.data, .data], laidTests := true, laidLooks := .later }
def ExecEndsUptoCardSaid : Prop := Claim7.holds Tryd.pinned (.plain (OpenSpec.upto execEndsSpec)) execEndsUptoCard

/-- THE SECOND FORM's CARD OF 'goldkeep.BigLaws'. -/
def bigLawsUptoCard : Claim7 := { stood := { row := bigLawsUptoRow, standIns := [], harness := (true, "6ca6f05eee1960ae9279cafcc0c58bf0c24e829996ffb9f01d6aae6273854e2d"), looks := false }, kinds := [], alts := [], laidByText := true, laidKinds := [.data, .data, .data], laidTests := true, laidLooks := .later }
def BigLawsUptoCardSaid : Prop := Claim7.holds Tryd.pinned (.plain (OpenSpec.upto bigLawsSpec)) bigLawsUptoCard

/-- THE SECOND FORM's CARD OF 'goldkeep.BigOrder'. -/
def bigOrderUptoCard : Claim7 := { stood := { row := bigOrderUptoRow, standIns := [], harness := (true, "6ca6f05eee1960ae9279cafcc0c58bf0c24e829996ffb9f01d6aae6273854e2d"), looks := false }, kinds := [], alts := [], laidByText := true, laidKinds := [.data, .data, .data], laidTests := true, laidLooks := .later }
def BigOrderUptoCardSaid : Prop := Claim7.holds Tryd.pinned (.plain (OpenSpec.upto bigOrderSpec)) bigOrderUptoCard
end Rows
end Go.Proofs.YtndmhceampggmafDoor
