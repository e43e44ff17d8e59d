/-
  DERIVED. GIVEN WITH THE SEED: THE CARDS: each row of YtpkonfmonoaajaaDoorRows.lean that lists a variable, with what it lists TIED to the program's text (the seventh form; the later family's looks); each row that meets fmt, with fmt's text TOLD by the authors' own Lean function (tested against real Go, not proved from fmt's source: count such statements apart). THE CARD IS WHAT COUNTS. Prove the row's statement (the work); the ties are given (YtpkonfmonoaajaaDoorTie.lean); close each card by the builder's one call (the guide's Derived/Test/ToyasCard.lean, 'card_holds'). Laid BY PROGRAM, IN A SANDBOX (cutbox-door.mjs). By AI agents, Wed Nov 11 2026. No macro, syntax, notation, axiom, sorry.
-/
import Derived.Test.YtpkonfmonoaajaaDoorRows
import GoSem.ClaimSeven
namespace Go.Proofs.YtpkonfmonoaajaaDoor
namespace Rows

/-- THE TIED CARD OF 'bioscopelaw04.EngineLonger'. -/
def engineLongerCard : Claim7 := { stood := { row := engineLongerRow, standIns := [], harness := (true, "c6e9c166a76c377d5adfe4bdf8bc353d1f6eb336fdbadd2a83d4a5bef9f5f4c1"), looks := false }, kinds := [], alts := [], laidByText := true, laidKinds := [.data], laidTests := true, laidLooks := .later }
def EngineLongerCardSaid : Prop := Claim7.holds Tryd.pinned (.plain (OpenSpec.ofChange engineLongerSpec)) engineLongerCard

/-- THE TIED CARD OF 'bioscopelaw04.EngineParts'. -/
def enginePartsCard : Claim7 := { stood := { row := enginePartsRow, standIns := [], harness := (true, "c6e9c166a76c377d5adfe4bdf8bc353d1f6eb336fdbadd2a83d4a5bef9f5f4c1"), looks := false }, kinds := [], alts := [], laidByText := true, laidKinds := [.data], laidTests := true, laidLooks := .later }
def EnginePartsCardSaid : Prop := Claim7.holds Tryd.pinned (.plain (OpenSpec.ofChange enginePartsSpec)) enginePartsCard

/-- THE TIED CARD OF 'bioscopelaw04.EngineCoal'. -/
def engineCoalCard : Claim7 := { stood := { row := engineCoalRow, standIns := [], harness := (true, "c6e9c166a76c377d5adfe4bdf8bc353d1f6eb336fdbadd2a83d4a5bef9f5f4c1"), looks := false }, kinds := [], alts := [], laidByText := true, laidKinds := [.data], laidTests := true, laidLooks := .later }
def EngineCoalCardSaid : Prop := Claim7.holds Tryd.pinned (.plain (OpenSpec.ofChange engineCoalSpec)) engineCoalCard

/-- THE TIED CARD OF 'bioscopelaw04.EngineFewest'. -/
def engineFewestCard : Claim7 := { stood := { row := engineFewestRow, standIns := [], harness := (true, "c6e9c166a76c377d5adfe4bdf8bc353d1f6eb336fdbadd2a83d4a5bef9f5f4c1"), looks := false }, kinds := [], alts := [], laidByText := true, laidKinds := [.data], laidTests := true, laidLooks := .later }
def EngineFewestCardSaid : Prop := Claim7.holds Tryd.pinned (.plain (OpenSpec.ofChange engineFewestSpec)) engineFewestCard

/-- THE SECOND FORM's CARD OF 'bioscopelaw04.EngineLonger'. -/
def engineLongerUptoCard : Claim7 := { stood := { row := engineLongerUptoRow, standIns := [], harness := (true, "c6e9c166a76c377d5adfe4bdf8bc353d1f6eb336fdbadd2a83d4a5bef9f5f4c1"), looks := false }, kinds := [], alts := [], laidByText := true, laidKinds := [.data], laidTests := true, laidLooks := .later }
def EngineLongerUptoCardSaid : Prop := Claim7.holds Tryd.pinned (.plain (OpenSpec.upto engineLongerSpec)) engineLongerUptoCard

/-- THE SECOND FORM's CARD OF 'bioscopelaw04.EngineParts'. -/
def enginePartsUptoCard : Claim7 := { stood := { row := enginePartsUptoRow, standIns := [], harness := (true, "c6e9c166a76c377d5adfe4bdf8bc353d1f6eb336fdbadd2a83d4a5bef9f5f4c1"), looks := false }, kinds := [], alts := [], laidByText := true, laidKinds := [.data], laidTests := true, laidLooks := .later }
def EnginePartsUptoCardSaid : Prop := Claim7.holds Tryd.pinned (.plain (OpenSpec.upto enginePartsSpec)) enginePartsUptoCard

/-- THE SECOND FORM's CARD OF 'bioscopelaw04.EngineCoal'. -/
def engineCoalUptoCard : Claim7 := { stood := { row := engineCoalUptoRow, standIns := [], harness := (true, "c6e9c166a76c377d5adfe4bdf8bc353d1f6eb336fdbadd2a83d4a5bef9f5f4c1"), looks := false }, kinds := [], alts := [], laidByText := true, laidKinds := [.data], laidTests := true, laidLooks := .later }
def EngineCoalUptoCardSaid : Prop := Claim7.holds Tryd.pinned (.plain (OpenSpec.upto engineCoalSpec)) engineCoalUptoCard

/-- THE SECOND FORM's CARD OF 'bioscopelaw04.EngineFewest'. -/
def engineFewestUptoCard : Claim7 := { stood := { row := engineFewestUptoRow, standIns := [], harness := (true, "c6e9c166a76c377d5adfe4bdf8bc353d1f6eb336fdbadd2a83d4a5bef9f5f4c1"), looks := false }, kinds := [], alts := [], laidByText := true, laidKinds := [.data], laidTests := true, laidLooks := .later }
def EngineFewestUptoCardSaid : Prop := Claim7.holds Tryd.pinned (.plain (OpenSpec.upto engineFewestSpec)) engineFewestUptoCard
end Rows
end Go.Proofs.YtpkonfmonoaajaaDoor
