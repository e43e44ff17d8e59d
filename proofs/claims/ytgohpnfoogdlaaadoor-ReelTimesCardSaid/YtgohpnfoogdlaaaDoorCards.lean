/-
  DERIVED. GIVEN WITH THE SEED: THE CARDS: each row of YtgohpnfoogdlaaaDoorRows.lean that lists a variable, with what it lists TIED to the program's text (the seventh form; the later family's looks); each row that meets fmt, with fmt's text TOLD by the authors' own Lean function (tested against real Go, not proved from fmt's source: count such statements apart). THE CARD IS WHAT COUNTS. Prove the row's statement (the work); the ties are given (YtgohpnfoogdlaaaDoorTie.lean); close each card by the builder's one call (the guide's Derived/Test/ToyasCard.lean, 'card_holds'). Laid BY PROGRAM, IN A SANDBOX (cutbox-door.mjs). By AI agents, Wed Nov 11 2026. No macro, syntax, notation, axiom, sorry.
-/
import Derived.Test.YtgohpnfoogdlaaaDoorRows
import GoSem.ClaimSeven
namespace Go.Proofs.YtgohpnfoogdlaaaDoor
namespace Rows

/-- THE TIED CARD OF 'bioscopelaw01.ReelTimes'. -/
def reelTimesCard : Claim7 := { stood := { row := reelTimesRow, standIns := [], harness := (true, "fc8561e437cedae6d003fbf9cb367e1aa1067c54b28504a5fbda6402bdc8d8dd"), looks := false }, kinds := [], alts := [], laidByText := true, laidKinds := [.data, .data], laidTests := true, laidLooks := .later }
def ReelTimesCardSaid : Prop := Claim7.holds Tryd.pinned (.plain (OpenSpec.ofChange reelTimesSpec)) reelTimesCard

/-- THE SECOND FORM's CARD OF 'bioscopelaw01.ReelTimes'. -/
def reelTimesUptoCard : Claim7 := { stood := { row := reelTimesUptoRow, standIns := [], harness := (true, "fc8561e437cedae6d003fbf9cb367e1aa1067c54b28504a5fbda6402bdc8d8dd"), looks := false }, kinds := [], alts := [], laidByText := true, laidKinds := [.data, .data], laidTests := true, laidLooks := .later }
def ReelTimesUptoCardSaid : Prop := Claim7.holds Tryd.pinned (.plain (OpenSpec.upto reelTimesSpec)) reelTimesUptoCard
end Rows
end Go.Proofs.YtgohpnfoogdlaaaDoor
