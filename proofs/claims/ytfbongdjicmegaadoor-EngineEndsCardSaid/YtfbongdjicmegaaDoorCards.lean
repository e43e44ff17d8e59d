/-
  DERIVED. GIVEN WITH THE SEED: THE CARDS: each row of YtfbongdjicmegaaDoorRows.lean that lists a variable, with what it lists TIED to the program's text (the seventh form; the later family's looks); each row that meets fmt, with fmt's text TOLD by the authors' own Lean function (tested against real Go, not proved from fmt's source: count such statements apart). THE CARD IS WHAT COUNTS. Prove the row's statement (the work); the ties are given (YtfbongdjicmegaaDoorTie.lean); close each card by the builder's one call (the guide's Derived/Test/ToyasCard.lean, 'card_holds'). Laid BY PROGRAM, IN A SANDBOX (cutbox-door.mjs). By AI agents, Wed Nov 11 2026. No macro, syntax, notation, axiom, sorry.
-/
import Derived.Test.YtfbongdjicmegaaDoorRows
import GoSem.ClaimSeven
namespace Go.Proofs.YtfbongdjicmegaaDoor
namespace Rows

/-- THE TIED CARD OF 'bioscopelaw04.EngineEasier'. -/
def engineEasierCard : Claim7 := { stood := { row := engineEasierRow, standIns := [], harness := (true, "1f432e13703126729ffb076171953837413704c619f998a64178b57455a7d5d1"), looks := false }, kinds := [], alts := [], laidByText := true, laidKinds := [.data], laidTests := true, laidLooks := .later }
def EngineEasierCardSaid : Prop := Claim7.holds Tryd.pinned (.plain (OpenSpec.ofChange engineEasierSpec)) engineEasierCard

/-- THE TIED CARD OF 'bioscopelaw04.EngineTrue'. -/
def engineTrueCard : Claim7 := { stood := { row := engineTrueRow, standIns := [], harness := (true, "1f432e13703126729ffb076171953837413704c619f998a64178b57455a7d5d1"), looks := false }, kinds := [], alts := [], laidByText := true, laidKinds := [.data], laidTests := true, laidLooks := .later }
def EngineTrueCardSaid : Prop := Claim7.holds Tryd.pinned (.plain (OpenSpec.ofChange engineTrueSpec)) engineTrueCard

/-- THE TIED CARD OF 'bioscopelaw04.EngineEnds'. -/
def engineEndsCard : Claim7 := { stood := { row := engineEndsRow, standIns := [], harness := (true, "1f432e13703126729ffb076171953837413704c619f998a64178b57455a7d5d1"), looks := false }, kinds := [], alts := [], laidByText := true, laidKinds := [.data], laidTests := true, laidLooks := .later }
def EngineEndsCardSaid : Prop := Claim7.holds Tryd.pinned (.plain (OpenSpec.ofChange engineEndsSpec)) engineEndsCard

/-- THE SECOND FORM's CARD OF 'bioscopelaw04.EngineEasier'. -/
def engineEasierUptoCard : Claim7 := { stood := { row := engineEasierUptoRow, standIns := [], harness := (true, "1f432e13703126729ffb076171953837413704c619f998a64178b57455a7d5d1"), looks := false }, kinds := [], alts := [], laidByText := true, laidKinds := [.data], laidTests := true, laidLooks := .later }
def EngineEasierUptoCardSaid : Prop := Claim7.holds Tryd.pinned (.plain (OpenSpec.upto engineEasierSpec)) engineEasierUptoCard

/-- THE SECOND FORM's CARD OF 'bioscopelaw04.EngineTrue'. -/
def engineTrueUptoCard : Claim7 := { stood := { row := engineTrueUptoRow, standIns := [], harness := (true, "1f432e13703126729ffb076171953837413704c619f998a64178b57455a7d5d1"), looks := false }, kinds := [], alts := [], laidByText := true, laidKinds := [.data], laidTests := true, laidLooks := .later }
def EngineTrueUptoCardSaid : Prop := Claim7.holds Tryd.pinned (.plain (OpenSpec.upto engineTrueSpec)) engineTrueUptoCard

/-- THE SECOND FORM's CARD OF 'bioscopelaw04.EngineEnds'. -/
def engineEndsUptoCard : Claim7 := { stood := { row := engineEndsUptoRow, standIns := [], harness := (true, "1f432e13703126729ffb076171953837413704c619f998a64178b57455a7d5d1"), looks := false }, kinds := [], alts := [], laidByText := true, laidKinds := [.data], laidTests := true, laidLooks := .later }
def EngineEndsUptoCardSaid : Prop := Claim7.holds Tryd.pinned (.plain (OpenSpec.upto engineEndsSpec)) engineEndsUptoCard
end Rows
end Go.Proofs.YtfbongdjicmegaaDoor
