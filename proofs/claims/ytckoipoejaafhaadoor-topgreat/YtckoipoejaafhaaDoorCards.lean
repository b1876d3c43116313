/-
  DERIVED. GIVEN WITH THE SEED: THE CARDS: each row of YtckoipoejaafhaaDoorRows.lean that lists a variable, with what it lists TIED to the program's text (the seventh form; the later family's looks); each row that meets fmt, with fmt's text TOLD by the authors' own Lean function (tested against real Go, not proved from fmt's source: count such statements apart). THE CARD IS WHAT COUNTS. Prove the row's statement (the work); the ties are given (YtckoipoejaafhaaDoorTie.lean); close each card by the builder's one call (the guide's Derived/Test/ToyasCard.lean, 'card_holds'). Laid BY PROGRAM, IN A SANDBOX (cutbox-door.mjs). By AI agents, Wed Nov 11 2026. No macro, syntax, notation, axiom, sorry.
-/
import Derived.Test.YtckoipoejaafhaaDoorRows
import GoSem.ClaimSeven
namespace Go.Proofs.YtckoipoejaafhaaDoor
namespace Rows

/-- THE TIED CARD OF 'goldlaw.ExecTogether'. -/
def execTogetherCard : Claim7 := { stood := { row := execTogetherRow, standIns := [], harness := (true, "7dd1e952ef07f4ef82b1b76d20ed1a766f116777deb6c6670bd36d94e644cdc2"), looks := false }, kinds := [], alts := [], goes := true, laidByText := true, laidKinds := [.data, .data], laidTests := true, laidLooks := .later }
def ExecTogetherCardSaid : Prop := Claim7.holds Tryd.pinned (.plain (OpenSpec.ofChange execTogetherSpec)) execTogetherCard

/-- THE TIED CARD OF 'goldtop.TopSame'. -/
def topSameCard : Claim7 := { stood := { row := topSameRow, standIns := [], harness := (true, "7dd1e952ef07f4ef82b1b76d20ed1a766f116777deb6c6670bd36d94e644cdc2"), looks := false }, kinds := [], alts := [], goes := true, laidByText := true, laidKinds := [.data, .data], laidTests := true, laidLooks := .later }
def TopSameCardSaid : Prop := Claim7.holds Tryd.pinned (.plain (OpenSpec.ofChange topSameSpec)) topSameCard

/-- THE TIED CARD OF 'goldtop.TopBack'. -/
def topBackCard : Claim7 := { stood := { row := topBackRow, standIns := [], harness := (true, "7dd1e952ef07f4ef82b1b76d20ed1a766f116777deb6c6670bd36d94e644cdc2"), looks := false }, kinds := [], alts := [], goes := true, laidByText := true, laidKinds := [.data, .data], laidTests := true, laidLooks := .later }
def TopBackCardSaid : Prop := Claim7.holds Tryd.pinned (.plain (OpenSpec.ofChange topBackSpec)) topBackCard

/-- THE TIED CARD OF 'goldtop.TopRound'. -/
def topRoundCard : Claim7 := { stood := { row := topRoundRow, standIns := [], harness := (true, "7dd1e952ef07f4ef82b1b76d20ed1a766f116777deb6c6670bd36d94e644cdc2"), looks := false }, kinds := [], alts := [], goes := true, laidByText := true, laidKinds := [.data, .data], laidTests := true, laidLooks := .later }
def TopRoundCardSaid : Prop := Claim7.holds Tryd.pinned (.plain (OpenSpec.ofChange topRoundSpec)) topRoundCard

/-- THE TIED CARD OF 'goldtop.TopGreat'. -/
def topGreatCard : Claim7 := { stood := { row := topGreatRow, standIns := [], harness := (true, "7dd1e952ef07f4ef82b1b76d20ed1a766f116777deb6c6670bd36d94e644cdc2"), looks := false }, kinds := [], alts := [], goes := true, laidByText := true, laidKinds := [.data, .data, .data], laidTests := true, laidLooks := .later }
def TopGreatCardSaid : Prop := Claim7.holds Tryd.pinned (.plain (OpenSpec.ofChange topGreatSpec)) topGreatCard

/-- THE TIED CARD OF 'goldtop.TopShares'. -/
def topSharesCard : Claim7 := { stood := { row := topSharesRow, standIns := [], harness := (true, "7dd1e952ef07f4ef82b1b76d20ed1a766f116777deb6c6670bd36d94e644cdc2"), looks := false }, kinds := [], alts := [], goes := true, laidByText := true, laidKinds := [.data, .data], laidTests := true, laidLooks := .later }
def TopSharesCardSaid : Prop := Claim7.holds Tryd.pinned (.plain (OpenSpec.ofChange topSharesSpec)) topSharesCard

/-- THE SECOND FORM's CARD OF 'goldlaw.ExecTogether'. -/
def execTogetherUptoCard : Claim7 := { stood := { row := execTogetherUptoRow, standIns := [], harness := (true, "7dd1e952ef07f4ef82b1b76d20ed1a766f116777deb6c6670bd36d94e644cdc2"), looks := false }, kinds := [], alts := [], goes := true, laidByText := true, laidKinds := [.data, .data], laidTests := true, laidLooks := .later }
def ExecTogetherUptoCardSaid : Prop := Claim7.holds Tryd.pinned (.plain (OpenSpec.upto execTogetherSpec)) execTogetherUptoCard

/-- THE SECOND FORM's CARD OF 'goldtop.TopSame'. -/
def topSameUptoCard : Claim7 := { stood := { row := topSameUptoRow, standIns := [], harness := (true, "7dd1e952ef07f4ef82b1b76d20ed1a766f116777deb6c6670bd36d94e644cdc2"), looks := false }, kinds := [], alts := [], goes := true, laidByText := true, laidKinds := [.data, .data], laidTests := true, laidLooks := .later }
def TopSameUptoCardSaid : Prop := Claim7.holds Tryd.pinned (.plain (OpenSpec.upto topSameSpec)) topSameUptoCard

/-- THE SECOND FORM's CARD OF 'goldtop.TopBack'. -/
def topBackUptoCard : Claim7 := { stood := { row := topBackUptoRow, standIns := [], harness := (true, "7dd1e952ef07f4ef82b1b76d20ed1a766f116777deb6c6670bd36d94e644cdc2"), looks := false }, kinds := [], alts := [], goes := true, laidByText := true, laidKinds := [.data, .data], laidTests := true, laidLooks := .later }
def TopBackUptoCardSaid : Prop := Claim7.holds Tryd.pinned (.plain (OpenSpec.upto topBackSpec)) topBackUptoCard

/-- THE SECOND FORM's CARD OF 'goldtop.TopRound'. -/
def topRoundUptoCard : Claim7 := { stood := { row := topRoundUptoRow, standIns := [], harness := (true, "7dd1e952ef07f4ef82b1b76d20ed1a766f116777deb6c6670bd36d94e644cdc2"), looks := false }, kinds := [], alts := [], goes := true, laidByText := true, laidKinds := [.data, .data], laidTests := true, laidLooks := .later }
def TopRoundUptoCardSaid : Prop := Claim7.holds Tryd.pinned (.plain (OpenSpec.upto topRoundSpec)) topRoundUptoCard

/-- THE SECOND FORM's CARD OF 'goldtop.TopGreat'. -/
def topGreatUptoCard : Claim7 := { stood := { row := topGreatUptoRow, standIns := [], harness := (true, "7dd1e952ef07f4ef82b1b76d20ed1a766f116777deb6c6670bd36d94e644cdc2"), looks := false }, kinds := [], alts := [], goes := true, laidByText := true, laidKinds := [.data, .data, .data], laidTests := true, laidLooks := .later }
def TopGreatUptoCardSaid : Prop := Claim7.holds Tryd.pinned (.plain (OpenSpec.upto topGreatSpec)) topGreatUptoCard

/-- THE SECOND FORM's CARD OF 'goldtop.TopShares'. -/
def topSharesUptoCard : Claim7 := { stood := { row := topSharesUptoRow, standIns := [], harness := (true, "7dd1e952ef07f4ef82b1b76d20ed1a766f116777deb6c6670bd36d94e644cdc2"), looks := false }, kinds := [], alts := [], goes := true, laidByText := true, laidKinds := [.data, .data], laidTests := true, laidLooks := .later }
def TopSharesUptoCardSaid : Prop := Claim7.holds Tryd.pinned (.plain (OpenSpec.upto topSharesSpec)) topSharesUptoCard
end Rows
end Go.Proofs.YtckoipoejaafhaaDoor
