/-
  DERIVED. GIVEN WITH THE SEED: THE CARDS: each row of YtoefmmmfefdcdaaDoorRows.lean that lists a variable, with what it lists TIED to the program's text (the seventh form; the later family's looks); each row that meets fmt, with fmt's text TOLD by the authors' own Lean function (tested against real Go, not proved from fmt's source: count such statements apart). THE CARD IS WHAT COUNTS. Prove the row's statement (the work); the ties are given (YtoefmmmfefdcdaaDoorTie.lean); close each card by the builder's one call (the guide's Derived/Test/ToyasCard.lean, 'card_holds'). Laid BY PROGRAM, IN A SANDBOX (cutbox-door.mjs). By AI agents, Wed Nov 11 2026. No macro, syntax, notation, axiom, sorry.
-/
import Derived.Test.YtoefmmmfefdcdaaDoorRows
import GoSem.ClaimSeven
namespace Go.Proofs.YtoefmmmfefdcdaaDoor
namespace Rows

/-- THE TIED CARD OF 'bioscopelaw08.RelayBest'. -/
def relayBestCard : Claim7 := { stood := { row := relayBestRow, standIns := [], harness := (true, "990ba42512ac0f7597b050bde61cb1c8ad349569958634aa9c7123315648b959"), looks := false }, kinds := [], alts := [], laidByText := true, laidKinds := [.data, .data, .data, .data], laidTests := true, laidLooks := .later }
def RelayBestCardSaid : Prop := Claim7.holds Tryd.pinned (.plain (OpenSpec.ofChange relayBestSpec)) relayBestCard

/-- THE TIED CARD OF 'bioscopelaw08.RelayFew'. -/
def relayFewCard : Claim7 := { stood := { row := relayFewRow, standIns := [], harness := (true, "990ba42512ac0f7597b050bde61cb1c8ad349569958634aa9c7123315648b959"), looks := false }, kinds := [], alts := [], laidByText := true, laidKinds := [.data, .data, .data, .data], laidTests := true, laidLooks := .later }
def RelayFewCardSaid : Prop := Claim7.holds Tryd.pinned (.plain (OpenSpec.ofChange relayFewSpec)) relayFewCard

/-- THE TIED CARD OF 'bioscopelaw08.RelayEasier'. -/
def relayEasierCard : Claim7 := { stood := { row := relayEasierRow, standIns := [], harness := (true, "990ba42512ac0f7597b050bde61cb1c8ad349569958634aa9c7123315648b959"), looks := false }, kinds := [], alts := [], laidByText := true, laidKinds := [.data, .data, .data, .data], laidTests := true, laidLooks := .later }
def RelayEasierCardSaid : Prop := Claim7.holds Tryd.pinned (.plain (OpenSpec.ofChange relayEasierSpec)) relayEasierCard

/-- THE SECOND FORM's CARD OF 'bioscopelaw08.RelayBest'. -/
def relayBestUptoCard : Claim7 := { stood := { row := relayBestUptoRow, standIns := [], harness := (true, "990ba42512ac0f7597b050bde61cb1c8ad349569958634aa9c7123315648b959"), looks := false }, kinds := [], alts := [], laidByText := true, laidKinds := [.data, .data, .data, .data], laidTests := true, laidLooks := .later }
def RelayBestUptoCardSaid : Prop := Claim7.holds Tryd.pinned (.plain (OpenSpec.upto relayBestSpec)) relayBestUptoCard

/-- THE SECOND FORM's CARD OF 'bioscopelaw08.RelayFew'. -/
def relayFewUptoCard : Claim7 := { stood := { row := relayFewUptoRow, standIns := [], harness := (true, "990ba42512ac0f7597b050bde61cb1c8ad349569958634aa9c7123315648b959"), looks := false }, kinds := [], alts := [], laidByText := true, laidKinds := [.data, .data, .data, .data], laidTests := true, laidLooks := .later }
def RelayFewUptoCardSaid : Prop := Claim7.holds Tryd.pinned (.plain (OpenSpec.upto relayFewSpec)) relayFewUptoCard

/-- THE SECOND FORM's CARD OF 'bioscopelaw08.RelayEasier'. -/
def relayEasierUptoCard : Claim7 := { stood := { row := relayEasierUptoRow, standIns := [], harness := (true, "990ba42512ac0f7597b050bde61cb1c8ad349569958634aa9c7123315648b959"), looks := false }, kinds := [], alts := [], laidByText := true, laidKinds := [.data, .data, .data, .data], laidTests := true, laidLooks := .later }
def RelayEasierUptoCardSaid : Prop := Claim7.holds Tryd.pinned (.plain (OpenSpec.upto relayEasierSpec)) relayEasierUptoCard
end Rows
end Go.Proofs.YtoefmmmfefdcdaaDoor
