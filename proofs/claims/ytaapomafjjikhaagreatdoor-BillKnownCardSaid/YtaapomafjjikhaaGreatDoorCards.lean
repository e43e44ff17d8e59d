/-
  DERIVED. GIVEN WITH THE SEED: THE CARDS: each row of YtaapomafjjikhaaGreatDoorRows.lean that lists a variable, with what it lists TIED to the program's text (the seventh form; the later family's looks); each row that meets fmt, with fmt's text TOLD by the authors' own Lean function (tested against real Go, not proved from fmt's source: count such statements apart). THE CARD IS WHAT COUNTS. Prove the row's statement (the work); the ties are given (YtaapomafjjikhaaGreatDoorTie.lean); close each card by the builder's one call (the guide's Derived/Test/ToyasCard.lean, 'card_holds'). Laid BY PROGRAM, IN A SANDBOX (cutbox-door.mjs). By AI agents, Wed Nov 11 2026. No macro, syntax, notation, axiom, sorry.
-/
import Derived.Test.YtaapomafjjikhaaGreatDoorRows
import GoSem.ClaimSeven
namespace Go.Proofs.YtaapomafjjikhaaGreatDoor
namespace Rows

/-- THE TIED CARD OF 'bioscopelaw06.BillEnds'. -/
def billEndsCard : Claim7 := { stood := { row := billEndsRow, standIns := [], harness := (true, "8ce4e0283f8c31cbb939d976c73fd01a1f61e21a25209d0e298f8eaccfa804d3"), looks := false }, kinds := [], alts := [], laidByText := true, laidKinds := [.data, .data, .data, .data, .data, .data, .data], laidTests := true, laidLooks := .later }
def BillEndsCardSaid : Prop := Claim7.holds Tryz.pinned (.plain (OpenSpec.ofChange billEndsSpec)) billEndsCard

/-- THE TIED CARD OF 'bioscopelaw06.BillBests'. -/
def billBestsCard : Claim7 := { stood := { row := billBestsRow, standIns := [], harness := (true, "8ce4e0283f8c31cbb939d976c73fd01a1f61e21a25209d0e298f8eaccfa804d3"), looks := false }, kinds := [], alts := [], laidByText := true, laidKinds := [.data, .data, .data, .data, .data, .data, .data], laidTests := true, laidLooks := .later }
def BillBestsCardSaid : Prop := Claim7.holds Tryz.pinned (.plain (OpenSpec.ofChange billBestsSpec)) billBestsCard

/-- THE TIED CARD OF 'bioscopelaw06.BillTrue'. -/
def billTrueCard : Claim7 := { stood := { row := billTrueRow, standIns := [], harness := (true, "8ce4e0283f8c31cbb939d976c73fd01a1f61e21a25209d0e298f8eaccfa804d3"), looks := false }, kinds := [], alts := [], laidByText := true, laidKinds := [.data, .data, .data, .data, .data, .data, .data], laidTests := true, laidLooks := .later }
def BillTrueCardSaid : Prop := Claim7.holds Tryz.pinned (.plain (OpenSpec.ofChange billTrueSpec)) billTrueCard

/-- THE TIED CARD OF 'bioscopelaw06.BillReached'. -/
def billReachedCard : Claim7 := { stood := { row := billReachedRow, standIns := [], harness := (true, "8ce4e0283f8c31cbb939d976c73fd01a1f61e21a25209d0e298f8eaccfa804d3"), looks := false }, kinds := [], alts := [], laidByText := true, laidKinds := [.data, .data, .data, .data, .data, .data, .data], laidTests := true, laidLooks := .later }
def BillReachedCardSaid : Prop := Claim7.holds Tryz.pinned (.plain (OpenSpec.ofChange billReachedSpec)) billReachedCard

/-- THE TIED CARD OF 'bioscopelaw06.BillLatest'. -/
def billLatestCard : Claim7 := { stood := { row := billLatestRow, standIns := [], harness := (true, "8ce4e0283f8c31cbb939d976c73fd01a1f61e21a25209d0e298f8eaccfa804d3"), looks := false }, kinds := [], alts := [], laidByText := true, laidKinds := [.data, .data, .data, .data, .data, .data, .data], laidTests := true, laidLooks := .later }
def BillLatestCardSaid : Prop := Claim7.holds Tryz.pinned (.plain (OpenSpec.ofChange billLatestSpec)) billLatestCard

/-- THE TIED CARD OF 'bioscopelaw06.BillBest'. -/
def billBestCard : Claim7 := { stood := { row := billBestRow, standIns := [], harness := (true, "8ce4e0283f8c31cbb939d976c73fd01a1f61e21a25209d0e298f8eaccfa804d3"), looks := false }, kinds := [], alts := [], laidByText := true, laidKinds := [.data, .data, .data, .data, .data, .data, .data], laidTests := true, laidLooks := .later }
def BillBestCardSaid : Prop := Claim7.holds Tryz.pinned (.plain (OpenSpec.ofChange billBestSpec)) billBestCard

/-- THE TIED CARD OF 'bioscopelaw06.BillLeave'. -/
def billLeaveCard : Claim7 := { stood := { row := billLeaveRow, standIns := [], harness := (true, "8ce4e0283f8c31cbb939d976c73fd01a1f61e21a25209d0e298f8eaccfa804d3"), looks := false }, kinds := [], alts := [], laidByText := true, laidKinds := [.data, .data, .data, .data, .data, .data, .data], laidTests := true, laidLooks := .later }
def BillLeaveCardSaid : Prop := Claim7.holds Tryz.pinned (.plain (OpenSpec.ofChange billLeaveSpec)) billLeaveCard

/-- THE TIED CARD OF 'bioscopelaw06.BillEasier'. -/
def billEasierCard : Claim7 := { stood := { row := billEasierRow, standIns := [], harness := (true, "8ce4e0283f8c31cbb939d976c73fd01a1f61e21a25209d0e298f8eaccfa804d3"), looks := false }, kinds := [], alts := [], laidByText := true, laidKinds := [.data, .data, .data, .data, .data, .data, .data], laidTests := true, laidLooks := .later }
def BillEasierCardSaid : Prop := Claim7.holds Tryz.pinned (.plain (OpenSpec.ofChange billEasierSpec)) billEasierCard

/-- THE TIED CARD OF 'bioscopelaw06.BillKnown'. -/
def billKnownCard : Claim7 := { stood := { row := billKnownRow, standIns := [], harness := (true, "8ce4e0283f8c31cbb939d976c73fd01a1f61e21a25209d0e298f8eaccfa804d3"), looks := false }, kinds := [], alts := [], laidByText := true, laidKinds := [.data, .data, .data, .data, .data, .data, .data], laidTests := true, laidLooks := .later }
def BillKnownCardSaid : Prop := Claim7.holds Tryz.pinned (.plain (OpenSpec.ofChange billKnownSpec)) billKnownCard

/-- THE TIED CARD OF 'bioscopetop.TopLit'. -/
def topLitCard : Claim7 := { stood := { row := topLitRow, standIns := [], harness := (true, "8ce4e0283f8c31cbb939d976c73fd01a1f61e21a25209d0e298f8eaccfa804d3"), looks := false }, kinds := [], alts := [], laidByText := true, laidKinds := [.data, .data, .data, .data, .data, .data, .data, .data], laidTests := true, laidLooks := .later }
def TopLitCardSaid : Prop := Claim7.holds Tryz.pinned (.plain (OpenSpec.ofChange topLitSpec)) topLitCard

/-- THE TIED CARD OF 'bioscopetop.TopCovered'. -/
def topCoveredCard : Claim7 := { stood := { row := topCoveredRow, standIns := [], harness := (true, "8ce4e0283f8c31cbb939d976c73fd01a1f61e21a25209d0e298f8eaccfa804d3"), looks := false }, kinds := [], alts := [], laidByText := true, laidKinds := [.data, .data, .data, .data, .data, .data, .data, .data], laidTests := true, laidLooks := .later }
def TopCoveredCardSaid : Prop := Claim7.holds Tryz.pinned (.plain (OpenSpec.ofChange topCoveredSpec)) topCoveredCard

/-- THE SECOND FORM's CARD OF 'bioscopelaw06.BillEnds'. -/
def billEndsUptoCard : Claim7 := { stood := { row := billEndsUptoRow, standIns := [], harness := (true, "8ce4e0283f8c31cbb939d976c73fd01a1f61e21a25209d0e298f8eaccfa804d3"), looks := false }, kinds := [], alts := [], laidByText := true, laidKinds := [.data, .data, .data, .data, .data, .data, .data], laidTests := true, laidLooks := .later }
def BillEndsUptoCardSaid : Prop := Claim7.holds Tryz.pinned (.plain (OpenSpec.upto billEndsSpec)) billEndsUptoCard

/-- THE SECOND FORM's CARD OF 'bioscopelaw06.BillBests'. -/
def billBestsUptoCard : Claim7 := { stood := { row := billBestsUptoRow, standIns := [], harness := (true, "8ce4e0283f8c31cbb939d976c73fd01a1f61e21a25209d0e298f8eaccfa804d3"), looks := false }, kinds := [], alts := [], laidByText := true, laidKinds := [.data, .data, .data, .data, .data, .data, .data], laidTests := true, laidLooks := .later }
def BillBestsUptoCardSaid : Prop := Claim7.holds Tryz.pinned (.plain (OpenSpec.upto billBestsSpec)) billBestsUptoCard

/-- THE SECOND FORM's CARD OF 'bioscopelaw06.BillTrue'. -/
def billTrueUptoCard : Claim7 := { stood := { row := billTrueUptoRow, standIns := [], harness := (true, "8ce4e0283f8c31cbb939d976c73fd01a1f61e21a25209d0e298f8eaccfa804d3"), looks := false }, kinds := [], alts := [], laidByText := true, laidKinds := [.data, .data, .data, .data, .data, .data, .data], laidTests := true, laidLooks := .later }
def BillTrueUptoCardSaid : Prop := Claim7.holds Tryz.pinned (.plain (OpenSpec.upto billTrueSpec)) billTrueUptoCard

/-- THE SECOND FORM's CARD OF 'bioscopelaw06.BillReached'. -/
def billReachedUptoCard : Claim7 := { stood := { row := billReachedUptoRow, standIns := [], harness := (true, "8ce4e0283f8c31cbb939d976c73fd01a1f61e21a25209d0e298f8eaccfa804d3"), looks := false }, kinds := [], alts := [], laidByText := true, laidKinds := [.data, .data, .data, .data, .data, .data, .data], laidTests := true, laidLooks := .later }
def BillReachedUptoCardSaid : Prop := Claim7.holds Tryz.pinned (.plain (OpenSpec.upto billReachedSpec)) billReachedUptoCard

/-- THE SECOND FORM's CARD OF 'bioscopelaw06.BillLatest'. -/
def billLatestUptoCard : Claim7 := { stood := { row := billLatestUptoRow, standIns := [], harness := (true, "8ce4e0283f8c31cbb939d976c73fd01a1f61e21a25209d0e298f8eaccfa804d3"), looks := false }, kinds := [], alts := [], laidByText := true, laidKinds := [.data, .data, .data, .data, .data, .data, .data], laidTests := true, laidLooks := .later }
def BillLatestUptoCardSaid : Prop := Claim7.holds Tryz.pinned (.plain (OpenSpec.upto billLatestSpec)) billLatestUptoCard

/-- THE SECOND FORM's CARD OF 'bioscopelaw06.BillBest'. -/
def billBestUptoCard : Claim7 := { stood := { row := billBestUptoRow, standIns := [], harness := (true, "8ce4e0283f8c31cbb939d976c73fd01a1f61e21a25209d0e298f8eaccfa804d3"), looks := false }, kinds := [], alts := [], laidByText := true, laidKinds := [.data, .data, .data, .data, .data, .data, .data], laidTests := true, laidLooks := .later }
def BillBestUptoCardSaid : Prop := Claim7.holds Tryz.pinned (.plain (OpenSpec.upto billBestSpec)) billBestUptoCard

/-- THE SECOND FORM's CARD OF 'bioscopelaw06.BillLeave'. -/
def billLeaveUptoCard : Claim7 := { stood := { row := billLeaveUptoRow, standIns := [], harness := (true, "8ce4e0283f8c31cbb939d976c73fd01a1f61e21a25209d0e298f8eaccfa804d3"), looks := false }, kinds := [], alts := [], laidByText := true, laidKinds := [.data, .data, .data, .data, .data, .data, .data], laidTests := true, laidLooks := .later }
def BillLeaveUptoCardSaid : Prop := Claim7.holds Tryz.pinned (.plain (OpenSpec.upto billLeaveSpec)) billLeaveUptoCard

/-- THE SECOND FORM's CARD OF 'bioscopelaw06.BillEasier'. -/
def billEasierUptoCard : Claim7 := { stood := { row := billEasierUptoRow, standIns := [], harness := (true, "8ce4e0283f8c31cbb939d976c73fd01a1f61e21a25209d0e298f8eaccfa804d3"), looks := false }, kinds := [], alts := [], laidByText := true, laidKinds := [.data, .data, .data, .data, .data, .data, .data], laidTests := true, laidLooks := .later }
def BillEasierUptoCardSaid : Prop := Claim7.holds Tryz.pinned (.plain (OpenSpec.upto billEasierSpec)) billEasierUptoCard

/-- THE SECOND FORM's CARD OF 'bioscopelaw06.BillKnown'. -/
def billKnownUptoCard : Claim7 := { stood := { row := billKnownUptoRow, standIns := [], harness := (true, "8ce4e0283f8c31cbb939d976c73fd01a1f61e21a25209d0e298f8eaccfa804d3"), looks := false }, kinds := [], alts := [], laidByText := true, laidKinds := [.data, .data, .data, .data, .data, .data, .data], laidTests := true, laidLooks := .later }
def BillKnownUptoCardSaid : Prop := Claim7.holds Tryz.pinned (.plain (OpenSpec.upto billKnownSpec)) billKnownUptoCard

/-- THE SECOND FORM's CARD OF 'bioscopetop.TopLit'. -/
def topLitUptoCard : Claim7 := { stood := { row := topLitUptoRow, standIns := [], harness := (true, "8ce4e0283f8c31cbb939d976c73fd01a1f61e21a25209d0e298f8eaccfa804d3"), looks := false }, kinds := [], alts := [], laidByText := true, laidKinds := [.data, .data, .data, .data, .data, .data, .data, .data], laidTests := true, laidLooks := .later }
def TopLitUptoCardSaid : Prop := Claim7.holds Tryz.pinned (.plain (OpenSpec.upto topLitSpec)) topLitUptoCard

/-- THE SECOND FORM's CARD OF 'bioscopetop.TopCovered'. -/
def topCoveredUptoCard : Claim7 := { stood := { row := topCoveredUptoRow, standIns := [], harness := (true, "8ce4e0283f8c31cbb939d976c73fd01a1f61e21a25209d0e298f8eaccfa804d3"), looks := false }, kinds := [], alts := [], laidByText := true, laidKinds := [.data, .data, .data, .data, .data, .data, .data, .data], laidTests := true, laidLooks := .later }
def TopCoveredUptoCardSaid : Prop := Claim7.holds Tryz.pinned (.plain (OpenSpec.upto topCoveredSpec)) topCoveredUptoCard
end Rows
end Go.Proofs.YtaapomafjjikhaaGreatDoor
