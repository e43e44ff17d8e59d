/-
  NARROWER THAN 'FOR EVERY INPUT', by the rows' own cells (each row's printed sentence says how): RelayBest: laid · RelayFew: laid · RelayEasier: laid.
  DERIVED. THE GIVEN ROWS OF THIS SEAT. 3 by the template 'for every input the law returns true; each argument reads behind the call as it read before'; 0 by the template 'total and deterministic' (their statements: YtoefmmmfefdcdaaDoorTotals.lean).
  GIVEN WITH THE SEED: the statements are not yours to turn. If you find one false, say at which input.
  Laid BY PROGRAM, IN A SANDBOX (cutbox-rows.mjs): the forced cells as the released guide's own fill.sh prints them over the translation 59b230c2afa06e34… (all of the seat's roots in one cut). By AI agents, Wed Nov 11 2026. No macro, syntax, notation, axiom, sorry.
-/
import Derived.Test.YtoefmmmfefdcdaaDoorChecked
import GoSem.Claim
import GoSem.ClaimJoined
import GoSem.ClaimMapViews
import Derived.JoinedTies
import Derived.KernelRfl
namespace Go.Proofs.YtoefmmmfefdcdaaDoor
/- THE CELL 'sum', in the pinned program and in every row, IS THE sha256 OF THE DUMP (.gsa) THAT YtoefmmmfefdcdaaDoorProg.lean LOADS. Nothing in Lean hashes anything: it is a label: what it is worth is what the hold of that sum in a sandbox is worth. -/
noncomputable def Tryd.pinned : Pinned := { name := "ytoefmmmfefdcdaadoor", sum := "59b230c2afa06e34647262083ff9de22f19e328163135eb1c49dfe542cd0298e", checked := Tryd.checked }
namespace Rows
def none {H : Type} : Left H := { results := [], args := [] }

/- WHAT THE LISTED PACKAGE-LEVEL VARIABLES READ AS WHEN THE CALL BEGINS. Each datum BY PROGRAM (the guide's laid-datum.mjs) off the statement by which the dump's own 'gosem.cut.vars' lays the variable. In a bare row this is a premise. The card (YtoefmmmfefdcdaaDoorCards.lean) ties it to the program's text. -/
def laid_bioscope_reel_reelBounds {H : Type} : DataW H := .agg [.agg [.lit (.int .i64 0), .lit (.int .i64 99)], .agg [.lit (.int .i64 0), .lit (.int .i64 99)], .agg [.lit (.int .i64 1), .lit (.int .i64 1200)]]
def laid_bioscope_reel_filmBounds {H : Type} : DataW H := .agg [.agg [.lit (.int .i64 1), .lit (.int .i64 20)], .agg [.lit (.int .i64 0), .lit (.int .i64 50)]]
def laid_bioscope_relay_bookBounds {H : Type} : DataW H := .agg [.agg [.lit (.int .i64 0), .lit (.int .i64 998)], .agg [.lit (.int .i64 1), .lit (.int .i64 6)]]
def laid_bioscope_relay_rideBounds {H : Type} : DataW H := .agg [.agg [.lit (.int .i64 0), .lit (.int .i64 3600)], .agg [.lit (.int .i64 0), .lit (.int .i64 3600)]]

/-- 'bioscopelaw08.RelayBest': WHATEVER THE INPUT: true; the input reads as it did. -/
def relayBestSpec : ChangeSpec := { name := "relayBest", fn := fun _ => fun
  | [d1, d2] => { results := [.lit (.bool true)], args := [d1, d2] }
  | _ => none }
def relayBestRow : OpenClaim := { program := "ytoefmmmfefdcdaadoor", sum := "59b230c2afa06e34647262083ff9de22f19e328163135eb1c49dfe542cd0298e", func := "bioscope/bioscopelaw08.RelayBest", spec := "relayBest", unfollowed := true, recurses := true, named := ["bioscope/reel.filmBounds", "bioscope/reel.reelBounds", "bioscope/relay.bookBounds", "bioscope/relay.rideBounds"], plainKeys := false, apart := false, laid := [("bioscope/reel.reelBounds", laid_bioscope_reel_reelBounds), ("bioscope/reel.filmBounds", laid_bioscope_reel_filmBounds), ("bioscope/relay.bookBounds", laid_bioscope_relay_bookBounds), ("bioscope/relay.rideBounds", laid_bioscope_relay_rideBounds)] }
def RelayBestSaid : Prop := relayBestRow.holds Tryd.pinned (OpenSpec.ofChange relayBestSpec)

/-- ITS FALSE NEIGHBOUR: 'it returns false'. Refute it at one input. -/
def relayBestWrong : ChangeSpec := { name := "relayBest", fn := fun _ => fun
  | [d1, d2] => { results := [.lit (.bool false)], args := [d1, d2] }
  | _ => none }
def RelayBestWrongFalsely : Prop := relayBestRow.holds Tryd.pinned (OpenSpec.ofChange relayBestWrong)

/-- 'bioscopelaw08.RelayFew': WHATEVER THE INPUT: true; the input reads as it did. -/
def relayFewSpec : ChangeSpec := { name := "relayFew", fn := fun _ => fun
  | [d1, d2, d3] => { results := [.lit (.bool true)], args := [d1, d2, d3] }
  | _ => none }
def relayFewRow : OpenClaim := { program := "ytoefmmmfefdcdaadoor", sum := "59b230c2afa06e34647262083ff9de22f19e328163135eb1c49dfe542cd0298e", func := "bioscope/bioscopelaw08.RelayFew", spec := "relayFew", unfollowed := true, recurses := true, named := ["bioscope/reel.filmBounds", "bioscope/reel.reelBounds", "bioscope/relay.bookBounds", "bioscope/relay.rideBounds"], plainKeys := false, apart := false, laid := [("bioscope/reel.reelBounds", laid_bioscope_reel_reelBounds), ("bioscope/reel.filmBounds", laid_bioscope_reel_filmBounds), ("bioscope/relay.bookBounds", laid_bioscope_relay_bookBounds), ("bioscope/relay.rideBounds", laid_bioscope_relay_rideBounds)] }
def RelayFewSaid : Prop := relayFewRow.holds Tryd.pinned (OpenSpec.ofChange relayFewSpec)

/-- ITS FALSE NEIGHBOUR: 'it returns false'. Refute it at one input. -/
def relayFewWrong : ChangeSpec := { name := "relayFew", fn := fun _ => fun
  | [d1, d2, d3] => { results := [.lit (.bool false)], args := [d1, d2, d3] }
  | _ => none }
def RelayFewWrongFalsely : Prop := relayFewRow.holds Tryd.pinned (OpenSpec.ofChange relayFewWrong)

/-- 'bioscopelaw08.RelayEasier': WHATEVER THE INPUT: true; the input reads as it did. -/
def relayEasierSpec : ChangeSpec := { name := "relayEasier", fn := fun _ => fun
  | [d1, d2] => { results := [.lit (.bool true)], args := [d1, d2] }
  | _ => none }
def relayEasierRow : OpenClaim := { program := "ytoefmmmfefdcdaadoor", sum := "59b230c2afa06e34647262083ff9de22f19e328163135eb1c49dfe542cd0298e", func := "bioscope/bioscopelaw08.RelayEasier", spec := "relayEasier", unfollowed := true, recurses := true, named := ["bioscope/reel.filmBounds", "bioscope/reel.reelBounds", "bioscope/relay.bookBounds", "bioscope/relay.rideBounds"], plainKeys := false, apart := false, laid := [("bioscope/reel.reelBounds", laid_bioscope_reel_reelBounds), ("bioscope/reel.filmBounds", laid_bioscope_reel_filmBounds), ("bioscope/relay.bookBounds", laid_bioscope_relay_bookBounds), ("bioscope/relay.rideBounds", laid_bioscope_relay_rideBounds)] }
def RelayEasierSaid : Prop := relayEasierRow.holds Tryd.pinned (OpenSpec.ofChange relayEasierSpec)

/-- ITS FALSE NEIGHBOUR: 'it returns false'. Refute it at one input. -/
def relayEasierWrong : ChangeSpec := { name := "relayEasier", fn := fun _ => fun
  | [d1, d2] => { results := [.lit (.bool false)], args := [d1, d2] }
  | _ => none }
def RelayEasierWrongFalsely : Prop := relayEasierRow.holds Tryd.pinned (OpenSpec.ofChange relayEasierWrong)

/- THE SECOND FORM. 'bulk': how many values and letters a reading holds, each counted each time it is reached (what is shared counts as often as it is met; a slice's spare places count too). A statement '..UptoSaid' is the law's where the arguments, and the package variables that the reading takes, are together of bulk at most 1048576: NARROWER than '..Said'. Prove '..Said' where nothing that the law and all that it calls make is longer than what came in: it says more and counts as full. Else prove '..UptoSaid'. A law counts once. -/
mutual
def uptoBulk {H : Type} : DataW H → Nat
  | .lit (.string bytes) => bytes.length + 1
  | .lit _ => 1
  | .nil => 1
  | .ptr d => uptoBulk d + 1
  | .slice elems spare => uptoBulkAll elems + uptoBulkAll spare + 1
  | .agg parts => uptoBulkAll parts + 1
  | .iface _ d => uptoBulk d + 1
  | .map entries => uptoBulkEntries entries + 1
  | .held _ => 1
def uptoBulkAll {H : Type} : List (DataW H) → Nat
  | [] => 0
  | d :: r => uptoBulk d + uptoBulkAll r
def uptoBulkEntries {H : Type} : List (Lit × DataW H) → Nat
  | [] => 0
  | x :: r => uptoBulkEntry x + uptoBulkEntries r
def uptoBulkEntry {H : Type} : Lit × DataW H → Nat
  | (.string bytes, d) => bytes.length + uptoBulk d + 1
  | (_, d) => uptoBulk d + 1
 end
def uptoSmall : (H : Type) → List (DataW H) → Bool := fun _ ds => decide (uptoBulkAll ds ≤ 1048576)
def OpenSpec.upto (s : _root_.Go.ChangeSpec) : _root_.Go.OpenSpec := { _root_.Go.OpenSpec.ofChange s with cond := some uptoSmall }

/-- 'bioscopelaw08.RelayBest', WHERE WHAT IT READS IS OF BULK AT MOST 1048576: true; the input reads as it did. -/
def relayBestUptoRow : OpenClaim := { program := "ytoefmmmfefdcdaadoor", sum := "59b230c2afa06e34647262083ff9de22f19e328163135eb1c49dfe542cd0298e", func := "bioscope/bioscopelaw08.RelayBest", spec := "relayBest", unfollowed := true, recurses := true, named := ["bioscope/reel.filmBounds", "bioscope/reel.reelBounds", "bioscope/relay.bookBounds", "bioscope/relay.rideBounds"], plainKeys := false, apart := false, laid := [("bioscope/reel.reelBounds", laid_bioscope_reel_reelBounds), ("bioscope/reel.filmBounds", laid_bioscope_reel_filmBounds), ("bioscope/relay.bookBounds", laid_bioscope_relay_bookBounds), ("bioscope/relay.rideBounds", laid_bioscope_relay_rideBounds)], narrowed := true }
def RelayBestUptoSaid : Prop := relayBestUptoRow.holds Tryd.pinned (OpenSpec.upto relayBestSpec)

/-- 'bioscopelaw08.RelayFew', WHERE WHAT IT READS IS OF BULK AT MOST 1048576: true; the input reads as it did. -/
def relayFewUptoRow : OpenClaim := { program := "ytoefmmmfefdcdaadoor", sum := "59b230c2afa06e34647262083ff9de22f19e328163135eb1c49dfe542cd0298e", func := "bioscope/bioscopelaw08.RelayFew", spec := "relayFew", unfollowed := true, recurses := true, named := ["bioscope/reel.filmBounds", "bioscope/reel.reelBounds", "bioscope/relay.bookBounds", "bioscope/relay.rideBounds"], plainKeys := false, apart := false, laid := [("bioscope/reel.reelBounds", laid_bioscope_reel_reelBounds), ("bioscope/reel.filmBounds", laid_bioscope_reel_filmBounds), ("bioscope/relay.bookBounds", laid_bioscope_relay_bookBounds), ("bioscope/relay.rideBounds", laid_bioscope_relay_rideBounds)], narrowed := true }
def RelayFewUptoSaid : Prop := relayFewUptoRow.holds Tryd.pinned (OpenSpec.upto relayFewSpec)

/-- 'bioscopelaw08.RelayEasier', WHERE WHAT IT READS IS OF BULK AT MOST 1048576: true; the input reads as it did. -/
def relayEasierUptoRow : OpenClaim := { program := "ytoefmmmfefdcdaadoor", sum := "59b230c2afa06e34647262083ff9de22f19e328163135eb1c49dfe542cd0298e", func := "bioscope/bioscopelaw08.RelayEasier", spec := "relayEasier", unfollowed := true, recurses := true, named := ["bioscope/reel.filmBounds", "bioscope/reel.reelBounds", "bioscope/relay.bookBounds", "bioscope/relay.rideBounds"], plainKeys := false, apart := false, laid := [("bioscope/reel.reelBounds", laid_bioscope_reel_reelBounds), ("bioscope/reel.filmBounds", laid_bioscope_reel_filmBounds), ("bioscope/relay.bookBounds", laid_bioscope_relay_bookBounds), ("bioscope/relay.rideBounds", laid_bioscope_relay_rideBounds)], narrowed := true }
def RelayEasierUptoSaid : Prop := relayEasierUptoRow.holds Tryd.pinned (OpenSpec.upto relayEasierSpec)

end Rows
end Go.Proofs.YtoefmmmfefdcdaaDoor
