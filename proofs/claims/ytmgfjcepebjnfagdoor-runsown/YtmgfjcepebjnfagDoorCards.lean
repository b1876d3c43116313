/-
  DERIVED. GIVEN WITH THE SEED: THE CARDS: each row of YtmgfjcepebjnfagDoorRows.lean that lists a variable, with what it lists TIED to the program's text (the seventh form; the later family's looks); each row that meets fmt, with fmt's text TOLD by the authors' own Lean function (tested against real Go, not proved from fmt's source: count such statements apart). THE CARD IS WHAT COUNTS. Prove the row's statement (the work); the ties are given (YtmgfjcepebjnfagDoorTie.lean); close each card by the builder's one call (the guide's Derived/Test/ToyasCard.lean, 'card_holds'). Laid BY PROGRAM, IN A SANDBOX (cutbox-door.mjs). By AI agents, Wed Nov 11 2026. No macro, syntax, notation, axiom, sorry.
-/
import Derived.Test.YtmgfjcepebjnfagDoorRows
import GoSem.ClaimSeven
namespace Go.Proofs.YtmgfjcepebjnfagDoor
namespace Rows

/-- THE TIED CARD OF 'goldkeep.ListsOwn'. -/
def listsOwnCard : Claim7 := { stood := { row := listsOwnRow, standIns := [], harness := (true, "feac5ad80c9d3579a93549d50c0901c901ef5c3c3268ba3c14183dc356b18ea9"), looks := false }, kinds := [], alts := [], goes := true, laidByText := true, laidKinds := [.data, .data], laidTests := true, laidLooks := .later }
def ListsOwnCardSaid : Prop := Claim7.holds Tryd.pinned (.plain (OpenSpec.ofChange listsOwnSpec)) listsOwnCard

/-- THE TIED CARD OF 'goldkeep.RunsOwn'. -/
def runsOwnCard : Claim7 := { stood := { row := runsOwnRow, standIns := [], harness := (true, "feac5ad80c9d3579a93549d50c0901c901ef5c3c3268ba3c14183dc356b18ea9"), looks := false }, kinds := [], alts := [], goes := true, laidByText := true, laidKinds := [.data, .data], laidTests := true, laidLooks := .later }
def RunsOwnCardSaid : Prop := Claim7.holds Tryd.pinned (.plain (OpenSpec.ofChange runsOwnSpec)) runsOwnCard

/-- THE TIED CARD OF 'goldtop.TopSame'. -/
def topSameCard : Claim7 := { stood := { row := topSameRow, standIns := [], harness := (true, "feac5ad80c9d3579a93549d50c0901c901ef5c3c3268ba3c14183dc356b18ea9"), looks := false }, kinds := [], alts := [], goes := true, laidByText := true, laidKinds := [.data, .data], laidTests := true, laidLooks := .later }
def TopSameCardSaid : Prop := Claim7.holds Tryd.pinned (.plain (OpenSpec.ofChange topSameSpec)) topSameCard

/-- THE SECOND FORM's CARD OF 'goldkeep.ListsOwn'. -/
def listsOwnUptoCard : Claim7 := { stood := { row := listsOwnUptoRow, standIns := [], harness := (true, "feac5ad80c9d3579a93549d50c0901c901ef5c3c3268ba3c14183dc356b18ea9"), looks := false }, kinds := [], alts := [], goes := true, laidByText := true, laidKinds := [.data, .data], laidTests := true, laidLooks := .later }
def ListsOwnUptoCardSaid : Prop := Claim7.holds Tryd.pinned (.plain (OpenSpec.upto listsOwnSpec)) listsOwnUptoCard

/-- THE SECOND FORM's CARD OF 'goldkeep.RunsOwn'. -/
def runsOwnUptoCard : Claim7 := { stood := { row := runsOwnUptoRow, standIns := [], harness := (true, "feac5ad80c9d3579a93549d50c0901c901ef5c3c3268ba3c14183dc356b18ea9"), looks := false }, kinds := [], alts := [], goes := true, laidByText := true, laidKinds := [.data, .data], laidTests := true, laidLooks := .later }
def RunsOwnUptoCardSaid : Prop := Claim7.holds Tryd.pinned (.plain (OpenSpec.upto runsOwnSpec)) runsOwnUptoCard

/-- THE SECOND FORM's CARD OF 'goldtop.TopSame'. -/
def topSameUptoCard : Claim7 := { stood := { row := topSameUptoRow, standIns := [], harness := (true, "feac5ad80c9d3579a93549d50c0901c901ef5c3c3268ba3c14183dc356b18ea9"), looks := false }, kinds := [], alts := [], goes := true, laidByText := true, laidKinds := [.data, .data], laidTests := true, laidLooks := .later }
def TopSameUptoCardSaid : Prop := Claim7.holds Tryd.pinned (.plain (OpenSpec.upto topSameSpec)) topSameUptoCard
end Rows
end Go.Proofs.YtmgfjcepebjnfagDoor
