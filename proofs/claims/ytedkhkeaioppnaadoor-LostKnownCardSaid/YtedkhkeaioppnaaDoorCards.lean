/-
  DERIVED. GIVEN WITH THE SEED: THE CARDS: each row of YtedkhkeaioppnaaDoorRows.lean that lists a variable, with what it lists TIED to the program's text (the seventh form; the later family's looks); each row that meets fmt, with fmt's text TOLD by the authors' own Lean function (tested against real Go, not proved from fmt's source: count such statements apart). THE CARD IS WHAT COUNTS. Prove the row's statement (the work); the ties are given (YtedkhkeaioppnaaDoorTie.lean); close each card by the builder's one call (the guide's Derived/Test/ToyasCard.lean, 'card_holds'). Laid BY PROGRAM, IN A SANDBOX (cutbox-door.mjs). By AI agents, Wed Nov 11 2026. No macro, syntax, notation, axiom, sorry.
-/
import Derived.Test.YtedkhkeaioppnaaDoorRows
import GoSem.ClaimSeven
namespace Go.Proofs.YtedkhkeaioppnaaDoor
namespace Rows

/-- THE TIED CARD OF 'bioscopelaw10.LostKnown'. -/
def lostKnownCard : Claim7 := { stood := { row := lostKnownRow, standIns := [], harness := (true, "d8f0e53e1ead29fd6b3d1fc52c35a25358aee4e531feacdedb22d54abceb0fba"), looks := false }, kinds := [], alts := [], laidByText := true, laidKinds := [.data, .data, .data], laidTests := true, laidLooks := .later }
def LostKnownCardSaid : Prop := Claim7.holds Tryd.pinned (.plain (OpenSpec.ofChange lostKnownSpec)) lostKnownCard

/-- THE SECOND FORM's CARD OF 'bioscopelaw10.LostKnown'. -/
def lostKnownUptoCard : Claim7 := { stood := { row := lostKnownUptoRow, standIns := [], harness := (true, "d8f0e53e1ead29fd6b3d1fc52c35a25358aee4e531feacdedb22d54abceb0fba"), looks := false }, kinds := [], alts := [], laidByText := true, laidKinds := [.data, .data, .data], laidTests := true, laidLooks := .later }
def LostKnownUptoCardSaid : Prop := Claim7.holds Tryd.pinned (.plain (OpenSpec.upto lostKnownSpec)) lostKnownUptoCard
end Rows
end Go.Proofs.YtedkhkeaioppnaaDoor
