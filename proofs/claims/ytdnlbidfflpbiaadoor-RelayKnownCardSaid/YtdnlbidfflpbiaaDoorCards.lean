/-
  DERIVED. GIVEN WITH THE SEED: THE CARDS: each row of YtdnlbidfflpbiaaDoorRows.lean that lists a variable, with what it lists TIED to the program's text (the seventh form; the later family's looks); each row that meets fmt, with fmt's text TOLD by the authors' own Lean function (tested against real Go, not proved from fmt's source: count such statements apart). THE CARD IS WHAT COUNTS. Prove the row's statement (the work); the ties are given (YtdnlbidfflpbiaaDoorTie.lean); close each card by the builder's one call (the guide's Derived/Test/ToyasCard.lean, 'card_holds'). Laid BY PROGRAM, IN A SANDBOX (cutbox-door.mjs). By AI agents, Wed Nov 11 2026. No macro, syntax, notation, axiom, sorry.
-/
import Derived.Test.YtdnlbidfflpbiaaDoorRows
import GoSem.ClaimSeven
namespace Go.Proofs.YtdnlbidfflpbiaaDoor
namespace Rows

/-- THE TIED CARD OF 'bioscopelaw08.RelayKnown'. -/
def relayKnownCard : Claim7 := { stood := { row := relayKnownRow, standIns := [], harness := (true, "e6143b1c0acf25c3c5bf8b6fd780897e642ce494ac846d761b6ffca68a54d8c6"), looks := false }, kinds := [], alts := [], laidByText := true, laidKinds := [.data, .data, .data, .data], laidTests := true, laidLooks := .later }
def RelayKnownCardSaid : Prop := Claim7.holds Tryd.pinned (.plain (OpenSpec.ofChange relayKnownSpec)) relayKnownCard

/-- THE SECOND FORM's CARD OF 'bioscopelaw08.RelayKnown'. -/
def relayKnownUptoCard : Claim7 := { stood := { row := relayKnownUptoRow, standIns := [], harness := (true, "e6143b1c0acf25c3c5bf8b6fd780897e642ce494ac846d761b6ffca68a54d8c6"), looks := false }, kinds := [], alts := [], laidByText := true, laidKinds := [.data, .data, .data, .data], laidTests := true, laidLooks := .later }
def RelayKnownUptoCardSaid : Prop := Claim7.holds Tryd.pinned (.plain (OpenSpec.upto relayKnownSpec)) relayKnownUptoCard
end Rows
end Go.Proofs.YtdnlbidfflpbiaaDoor
