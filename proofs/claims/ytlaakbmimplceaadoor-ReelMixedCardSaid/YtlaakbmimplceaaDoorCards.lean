/-
  DERIVED. GIVEN WITH THE SEED: THE CARDS: each row of YtlaakbmimplceaaDoorRows.lean that lists a variable, with what it lists TIED to the program's text (the seventh form; the later family's looks); each row that meets fmt, with fmt's text TOLD by the authors' own Lean function (tested against real Go, not proved from fmt's source: count such statements apart). THE CARD IS WHAT COUNTS. Prove the row's statement (the work); the ties are given (YtlaakbmimplceaaDoorTie.lean); close each card by the builder's one call (the guide's Derived/Test/ToyasCard.lean, 'card_holds'). Laid BY PROGRAM, IN A SANDBOX (cutbox-door.mjs). By AI agents, Wed Nov 11 2026. No macro, syntax, notation, axiom, sorry.
-/
import Derived.Test.YtlaakbmimplceaaDoorRows
import GoSem.ClaimSeven
namespace Go.Proofs.YtlaakbmimplceaaDoor
namespace Rows

/-- THE TIED CARD OF 'bioscopelaw01.ReelMixed'. -/
def reelMixedCard : Claim7 := { stood := { row := reelMixedRow, standIns := [], harness := (true, "bb2a8a6c5ad0a017603140182c3627988196634078cfbcc964ef856d0b84f3f9"), looks := false }, kinds := [], alts := [], laidByText := true, laidKinds := [.data, .data], laidTests := true, laidLooks := .later }
def ReelMixedCardSaid : Prop := Claim7.holds Tryd.pinned (.plain (OpenSpec.ofChange reelMixedSpec)) reelMixedCard

/-- THE TIED CARD OF 'bioscopelaw01.ReelFirst'. -/
def reelFirstCard : Claim7 := { stood := { row := reelFirstRow, standIns := [], harness := (true, "bb2a8a6c5ad0a017603140182c3627988196634078cfbcc964ef856d0b84f3f9"), looks := false }, kinds := [], alts := [], laidByText := true, laidKinds := [.data, .data], laidTests := true, laidLooks := .later }
def ReelFirstCardSaid : Prop := Claim7.holds Tryd.pinned (.plain (OpenSpec.ofChange reelFirstSpec)) reelFirstCard

/-- THE TIED CARD OF 'bioscopelaw01.ReelStrange'. -/
def reelStrangeCard : Claim7 := { stood := { row := reelStrangeRow, standIns := [], harness := (true, "bb2a8a6c5ad0a017603140182c3627988196634078cfbcc964ef856d0b84f3f9"), looks := false }, kinds := [], alts := [], laidByText := true, laidKinds := [.data, .data], laidTests := true, laidLooks := .later }
def ReelStrangeCardSaid : Prop := Claim7.holds Tryd.pinned (.plain (OpenSpec.ofChange reelStrangeSpec)) reelStrangeCard

/-- THE TIED CARD OF 'bioscopelaw01.ReelNarrow'. -/
def reelNarrowCard : Claim7 := { stood := { row := reelNarrowRow, standIns := [], harness := (true, "bb2a8a6c5ad0a017603140182c3627988196634078cfbcc964ef856d0b84f3f9"), looks := false }, kinds := [], alts := [], laidByText := true, laidKinds := [.data, .data], laidTests := true, laidLooks := .later }
def ReelNarrowCardSaid : Prop := Claim7.holds Tryd.pinned (.plain (OpenSpec.ofChange reelNarrowSpec)) reelNarrowCard

/-- THE SECOND FORM's CARD OF 'bioscopelaw01.ReelMixed'. -/
def reelMixedUptoCard : Claim7 := { stood := { row := reelMixedUptoRow, standIns := [], harness := (true, "bb2a8a6c5ad0a017603140182c3627988196634078cfbcc964ef856d0b84f3f9"), looks := false }, kinds := [], alts := [], laidByText := true, laidKinds := [.data, .data], laidTests := true, laidLooks := .later }
def ReelMixedUptoCardSaid : Prop := Claim7.holds Tryd.pinned (.plain (OpenSpec.upto reelMixedSpec)) reelMixedUptoCard

/-- THE SECOND FORM's CARD OF 'bioscopelaw01.ReelFirst'. -/
def reelFirstUptoCard : Claim7 := { stood := { row := reelFirstUptoRow, standIns := [], harness := (true, "bb2a8a6c5ad0a017603140182c3627988196634078cfbcc964ef856d0b84f3f9"), looks := false }, kinds := [], alts := [], laidByText := true, laidKinds := [.data, .data], laidTests := true, laidLooks := .later }
def ReelFirstUptoCardSaid : Prop := Claim7.holds Tryd.pinned (.plain (OpenSpec.upto reelFirstSpec)) reelFirstUptoCard

/-- THE SECOND FORM's CARD OF 'bioscopelaw01.ReelStrange'. -/
def reelStrangeUptoCard : Claim7 := { stood := { row := reelStrangeUptoRow, standIns := [], harness := (true, "bb2a8a6c5ad0a017603140182c3627988196634078cfbcc964ef856d0b84f3f9"), looks := false }, kinds := [], alts := [], laidByText := true, laidKinds := [.data, .data], laidTests := true, laidLooks := .later }
def ReelStrangeUptoCardSaid : Prop := Claim7.holds Tryd.pinned (.plain (OpenSpec.upto reelStrangeSpec)) reelStrangeUptoCard

/-- THE SECOND FORM's CARD OF 'bioscopelaw01.ReelNarrow'. -/
def reelNarrowUptoCard : Claim7 := { stood := { row := reelNarrowUptoRow, standIns := [], harness := (true, "bb2a8a6c5ad0a017603140182c3627988196634078cfbcc964ef856d0b84f3f9"), looks := false }, kinds := [], alts := [], laidByText := true, laidKinds := [.data, .data], laidTests := true, laidLooks := .later }
def ReelNarrowUptoCardSaid : Prop := Claim7.holds Tryd.pinned (.plain (OpenSpec.upto reelNarrowSpec)) reelNarrowUptoCard
end Rows
end Go.Proofs.YtlaakbmimplceaaDoor
