/-
  DERIVED. GIVEN WITH THE SEED: THE CARDS: each row of YtkobhpalangomaaDoorRows.lean that lists a variable, with what it lists TIED to the program's text (the seventh form; the later family's looks); each row that meets fmt, with fmt's text TOLD by the authors' own Lean function (tested against real Go, not proved from fmt's source: count such statements apart). THE CARD IS WHAT COUNTS. Prove the row's statement (the work); the ties are given (YtkobhpalangomaaDoorTie.lean); close each card by the builder's one call (the guide's Derived/Test/ToyasCard.lean, 'card_holds'). Laid BY PROGRAM, IN A SANDBOX (cutbox-door.mjs). By AI agents, Wed Nov 11 2026. No macro, syntax, notation, axiom, sorry.
-/
import Derived.Test.YtkobhpalangomaaDoorRows
import GoSem.ClaimSeven
namespace Go.Proofs.YtkobhpalangomaaDoor
namespace Rows

/-- THE TIED CARD OF 'bioscopelaw02.PitchKnown'. -/
def pitchKnownCard : Claim7 := { stood := { row := pitchKnownRow, standIns := [], harness := (true, "81f7726268d0aedfa2fd0b6b8d287cb36f09065d36bf37d760f69fd630446543"), looks := false }, kinds := [], alts := [], laidByText := true, laidKinds := [.data, .data], laidTests := true, laidLooks := .later }
def PitchKnownCardSaid : Prop := Claim7.holds Tryd.pinned (.plain (OpenSpec.ofChange pitchKnownSpec)) pitchKnownCard

/-- THE SECOND FORM's CARD OF 'bioscopelaw02.PitchKnown'. -/
def pitchKnownUptoCard : Claim7 := { stood := { row := pitchKnownUptoRow, standIns := [], harness := (true, "81f7726268d0aedfa2fd0b6b8d287cb36f09065d36bf37d760f69fd630446543"), looks := false }, kinds := [], alts := [], laidByText := true, laidKinds := [.data, .data], laidTests := true, laidLooks := .later }
def PitchKnownUptoCardSaid : Prop := Claim7.holds Tryd.pinned (.plain (OpenSpec.upto pitchKnownSpec)) pitchKnownUptoCard
end Rows
end Go.Proofs.YtkobhpalangomaaDoor
