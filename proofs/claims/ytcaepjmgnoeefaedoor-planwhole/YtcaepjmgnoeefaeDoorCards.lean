/-
  DERIVED. GIVEN WITH THE SEED: THE CARDS: each row of YtcaepjmgnoeefaeDoorRows.lean that lists a variable, with what it lists TIED to the program's text (the seventh form; the later family's looks); each row that meets fmt, with fmt's text TOLD by the authors' own Lean function (tested against real Go, not proved from fmt's source: count such statements apart). THE CARD IS WHAT COUNTS. Prove the row's statement (the work); the ties are given (YtcaepjmgnoeefaeDoorTie.lean); close each card by the builder's one call (the guide's Derived/Test/ToyasCard.lean, 'card_holds'). Laid BY PROGRAM, IN A SANDBOX (cutbox-door.mjs). By AI agents, Wed Nov 11 2026. No macro, syntax, notation, axiom, sorry.
-/
import Derived.Test.YtcaepjmgnoeefaeDoorRows
import GoSem.ClaimSeven
namespace Go.Proofs.YtcaepjmgnoeefaeDoor
namespace Rows

/-- THE TIED CARD OF 'goldkeep.NttBack'. -/
def nttBackCard : Claim7 := { stood := { row := nttBackRow, standIns := [], harness := (true, "2346d3f1678d398902ecf31c6be33225a98787f0ecca64d286942ef3741817c0"), looks := false }, kinds := [], alts := [], laidByText := true, laidKinds := [.data, .data], laidTests := true, laidLooks := .later }
def NttBackCardSaid : Prop := Claim7.holds Tryd.pinned (.plain (OpenSpec.ofChange nttBackSpec)) nttBackCard

/-- THE TIED CARD OF 'goldkeep.NttShifts'. -/
def nttShiftsCard : Claim7 := { stood := { row := nttShiftsRow, standIns := [], harness := (true, "2346d3f1678d398902ecf31c6be33225a98787f0ecca64d286942ef3741817c0"), looks := false }, kinds := [], alts := [], laidByText := true, laidKinds := [.data, .data], laidTests := true, laidLooks := .later }
def NttShiftsCardSaid : Prop := Claim7.holds Tryd.pinned (.plain (OpenSpec.ofChange nttShiftsSpec)) nttShiftsCard

/-- THE TIED CARD OF 'goldkeep.ConvTheorem'. -/
def convTheoremCard : Claim7 := { stood := { row := convTheoremRow, standIns := [], harness := (true, "2346d3f1678d398902ecf31c6be33225a98787f0ecca64d286942ef3741817c0"), looks := false }, kinds := [], alts := [], laidByText := true, laidKinds := [.data, .data], laidTests := true, laidLooks := .later }
def ConvTheoremCardSaid : Prop := Claim7.holds Tryd.pinned (.plain (OpenSpec.ofChange convTheoremSpec)) convTheoremCard

/-- THE TIED CARD OF 'goldkeep.ManyOrder'. -/
def manyOrderCard : Claim7 := { stood := { row := manyOrderRow, standIns := [], harness := (true, "2346d3f1678d398902ecf31c6be33225a98787f0ecca64d286942ef3741817c0"), looks := false }, kinds := [], alts := [], laidByText := true, laidKinds := [.data, .data], laidTests := true, laidLooks := .later }
def ManyOrderCardSaid : Prop := Claim7.holds Tryd.pinned (.plain (OpenSpec.ofChange manyOrderSpec)) manyOrderCard

/-- THE TIED CARD OF 'goldkeep.ManyProducts'. -/
def manyProductsCard : Claim7 := { stood := { row := manyProductsRow, standIns := [], harness := (true, "2346d3f1678d398902ecf31c6be33225a98787f0ecca64d286942ef3741817c0"), looks := false }, kinds := [], alts := [], laidByText := true, laidKinds := [.data, .data], laidTests := true, laidLooks := .later }
def ManyProductsCardSaid : Prop := Claim7.holds Tryd.pinned (.plain (OpenSpec.ofChange manyProductsSpec)) manyProductsCard

/-- THE TIED CARD OF 'goldkeep.PlanWhole'. -/
def planWholeCard : Claim7 := { stood := { row := planWholeRow, standIns := [], harness := (true, "2346d3f1678d398902ecf31c6be33225a98787f0ecca64d286942ef3741817c0"), looks := false }, kinds := [], alts := [], laidByText := true, laidKinds := [.data, .data, .data], laidTests := true, laidLooks := .later }
def PlanWholeCardSaid : Prop := Claim7.holds Tryd.pinned (.plain (OpenSpec.ofChange planWholeSpec)) planWholeCard

/-- THE SECOND FORM's CARD OF 'goldkeep.NttBack'. -/
def nttBackUptoCard : Claim7 := { stood := { row := nttBackUptoRow, standIns := [], harness := (true, "2346d3f1678d398902ecf31c6be33225a98787f0ecca64d286942ef3741817c0"), looks := false }, kinds := [], alts := [], laidByText := true, laidKinds := [.data, .data], laidTests := true, laidLooks := .later }
def NttBackUptoCardSaid : Prop := Claim7.holds Tryd.pinned (.plain (OpenSpec.upto nttBackSpec)) nttBackUptoCard

/-- THE SECOND FORM's CARD OF 'goldkeep.NttShifts'. -/
def nttShiftsUptoCard : Claim7 := { stood := { row := nttShiftsUptoRow, standIns := [], harness := (true, "2346d3f1678d398902ecf31c6be33225a98787f0ecca64d286942ef3741817c0"), looks := false }, kinds := [], alts := [], laidByText := true, laidKinds := [.data, .data], laidTests := true, laidLooks := .later }
def NttShiftsUptoCardSaid : Prop := Claim7.holds Tryd.pinned (.plain (OpenSpec.upto nttShiftsSpec)) nttShiftsUptoCard

/-- THE SECOND FORM's CARD OF 'goldkeep.ConvTheorem'. -/
def convTheoremUptoCard : Claim7 := { stood := { row := convTheoremUptoRow, standIns := [], harness := (true, "2346d3f1678d398902ecf31c6be33225a98787f0ecca64d286942ef3741817c0"), looks := false }, kinds := [], alts := [], laidByText := true, laidKinds := [.data, .data], laidTests := true, laidLooks := .later }
def ConvTheoremUptoCardSaid : Prop := Claim7.holds Tryd.pinned (.plain (OpenSpec.upto convTheoremSpec)) convTheoremUptoCard

/-- THE SECOND FORM's CARD OF 'goldkeep.ManyOrder'. -/
def manyOrderUptoCard : Claim7 := { stood := { row := manyOrderUptoRow, standIns := [], harness := (true, "2346d3f1678d398902ecf31c6be33225a98787f0ecca64d286942ef3741817c0"), looks := false }, kinds := [], alts := [], laidByText := true, laidKinds := [.data, .data], laidTests := true, laidLooks := .later }
def ManyOrderUptoCardSaid : Prop := Claim7.holds Tryd.pinned (.plain (OpenSpec.upto manyOrderSpec)) manyOrderUptoCard

/-- THE SECOND FORM's CARD OF 'goldkeep.ManyProducts'. -/
def manyProductsUptoCard : Claim7 := { stood := { row := manyProductsUptoRow, standIns := [], harness := (true, "2346d3f1678d398902ecf31c6be33225a98787f0ecca64d286942ef3741817c0"), looks := false }, kinds := [], alts := [], laidByText := true, laidKinds := [.data, .data], laidTests := true, laidLooks := .later }
def ManyProductsUptoCardSaid : Prop := Claim7.holds Tryd.pinned (.plain (OpenSpec.upto manyProductsSpec)) manyProductsUptoCard

/-- THE SECOND FORM's CARD OF 'goldkeep.PlanWhole'. -/
def planWholeUptoCard : Claim7 := { stood := { row := planWholeUptoRow, standIns := [], harness := (true, "2346d3f1678d398902ecf31c6be33225a98787f0ecca64d286942ef3741817c0"), looks := false }, kinds := [], alts := [], laidByText := true, laidKinds := [.data, .data, .data], laidTests := true, laidLooks := .later }
def PlanWholeUptoCardSaid : Prop := Claim7.holds Tryd.pinned (.plain (OpenSpec.upto planWholeSpec)) planWholeUptoCard
end Rows
end Go.Proofs.YtcaepjmgnoeefaeDoor
