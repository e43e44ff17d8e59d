/-
  DERIVED. GIVEN WITH THE SEED: THE CARDS: each row of YtpdednocbpoikaaDoorRows.lean that lists a variable, with what it lists TIED to the program's text (the seventh form; the later family's looks); each row that meets fmt, with fmt's text TOLD by the authors' own Lean function (tested against real Go, not proved from fmt's source: count such statements apart). THE CARD IS WHAT COUNTS. Prove the row's statement (the work); the ties are given (YtpdednocbpoikaaDoorTie.lean); close each card by the builder's one call (the guide's Derived/Test/ToyasCard.lean, 'card_holds'). Laid BY PROGRAM, IN A SANDBOX (cutbox-door.mjs). By AI agents, Wed Nov 11 2026. No macro, syntax, notation, axiom, sorry.
-/
import Derived.Test.YtpdednocbpoikaaDoorRows
import GoSem.ClaimSeven
namespace Go.Proofs.YtpdednocbpoikaaDoor
namespace Rows

/-- THE TIED CARD OF 'bioscopelaw08.RelayTrue'. -/
def relayTrueCard : Claim7 := { stood := { row := relayTrueRow, standIns := [], harness := (true, "fb2e5dbd9d1eed695107bfa7efaa64d201865014c934f5d5f92503bc0ec24d5e"), looks := false }, kinds := [], alts := [], laidByText := true, laidKinds := [.data, .data, .data, .data], laidTests := true, laidLooks := .later }
def RelayTrueCardSaid : Prop := Claim7.holds Tryd.pinned (.plain (OpenSpec.ofChange relayTrueSpec)) relayTrueCard

/-- THE TIED CARD OF 'bioscopelaw08.RelayEnds'. -/
def relayEndsCard : Claim7 := { stood := { row := relayEndsRow, standIns := [], harness := (true, "fb2e5dbd9d1eed695107bfa7efaa64d201865014c934f5d5f92503bc0ec24d5e"), looks := false }, kinds := [], alts := [], laidByText := true, laidKinds := [.data, .data, .data, .data], laidTests := true, laidLooks := .later }
def RelayEndsCardSaid : Prop := Claim7.holds Tryd.pinned (.plain (OpenSpec.ofChange relayEndsSpec)) relayEndsCard

/-- THE TIED CARD OF 'bioscopelaw08.RelayWaits'. -/
def relayWaitsCard : Claim7 := { stood := { row := relayWaitsRow, standIns := [], harness := (true, "fb2e5dbd9d1eed695107bfa7efaa64d201865014c934f5d5f92503bc0ec24d5e"), looks := false }, kinds := [], alts := [], laidByText := true, laidKinds := [.data, .data, .data, .data], laidTests := true, laidLooks := .later }
def RelayWaitsCardSaid : Prop := Claim7.holds Tryd.pinned (.plain (OpenSpec.ofChange relayWaitsSpec)) relayWaitsCard

/-- THE SECOND FORM's CARD OF 'bioscopelaw08.RelayTrue'. -/
def relayTrueUptoCard : Claim7 := { stood := { row := relayTrueUptoRow, standIns := [], harness := (true, "fb2e5dbd9d1eed695107bfa7efaa64d201865014c934f5d5f92503bc0ec24d5e"), looks := false }, kinds := [], alts := [], laidByText := true, laidKinds := [.data, .data, .data, .data], laidTests := true, laidLooks := .later }
def RelayTrueUptoCardSaid : Prop := Claim7.holds Tryd.pinned (.plain (OpenSpec.upto relayTrueSpec)) relayTrueUptoCard

/-- THE SECOND FORM's CARD OF 'bioscopelaw08.RelayEnds'. -/
def relayEndsUptoCard : Claim7 := { stood := { row := relayEndsUptoRow, standIns := [], harness := (true, "fb2e5dbd9d1eed695107bfa7efaa64d201865014c934f5d5f92503bc0ec24d5e"), looks := false }, kinds := [], alts := [], laidByText := true, laidKinds := [.data, .data, .data, .data], laidTests := true, laidLooks := .later }
def RelayEndsUptoCardSaid : Prop := Claim7.holds Tryd.pinned (.plain (OpenSpec.upto relayEndsSpec)) relayEndsUptoCard

/-- THE SECOND FORM's CARD OF 'bioscopelaw08.RelayWaits'. -/
def relayWaitsUptoCard : Claim7 := { stood := { row := relayWaitsUptoRow, standIns := [], harness := (true, "fb2e5dbd9d1eed695107bfa7efaa64d201865014c934f5d5f92503bc0ec24d5e"), looks := false }, kinds := [], alts := [], laidByText := true, laidKinds := [.data, .data, .data, .data], laidTests := true, laidLooks := .later }
def RelayWaitsUptoCardSaid : Prop := Claim7.holds Tryd.pinned (.plain (OpenSpec.upto relayWaitsSpec)) relayWaitsUptoCard
end Rows
end Go.Proofs.YtpdednocbpoikaaDoor
