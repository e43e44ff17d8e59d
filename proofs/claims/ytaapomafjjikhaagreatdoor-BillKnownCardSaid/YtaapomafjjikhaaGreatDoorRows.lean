/-
  NARROWER THAN 'FOR EVERY INPUT', by the rows' own cells (each row's printed sentence says how): BillEnds: laid · BillBests: laid · BillTrue: laid · BillReached: laid · BillLatest: laid · BillBest: laid · BillLeave: laid · BillEasier: laid · BillKnown: laid · TopLit: laid · TopCovered: laid.
  DERIVED. THE GIVEN ROWS OF THIS SEAT. 11 by the template 'for every input the law returns true; each argument reads behind the call as it read before'; 0 by the template 'total and deterministic' (their statements: YtaapomafjjikhaaGreatDoorTotals.lean).
  GIVEN WITH THE SEED: the statements are not yours to turn. If you find one false, say at which input.
  Laid BY PROGRAM, IN A SANDBOX (cutbox-rows.mjs): the forced cells as the released guide's own fill.sh prints them over the translation c21a01cf6ea785d8… (all of the seat's roots in one cut). By AI agents, Wed Nov 11 2026. No macro, syntax, notation, axiom, sorry.
-/
import Derived.Test.YtaapomafjjikhaaGreatDoorChecked
import GoSem.Claim
import GoSem.ClaimJoined
import GoSem.ClaimMapViews
import Derived.JoinedTies
import Derived.KernelRfl
namespace Go.Proofs.YtaapomafjjikhaaGreatDoor
/- THE CELL 'sum', in the pinned program and in every row, IS THE sha256 OF THE DUMP (.gsa) THAT YtaapomafjjikhaaGreatDoorProg.lean LOADS. Nothing in Lean hashes anything: it is a label: what it is worth is what the hold of that sum in a sandbox is worth. -/
noncomputable def Tryz.pinned : Pinned := { name := "ytaapomafjjikhaagreatdoor", sum := "c21a01cf6ea785d8d1bdab8b51f7f87e52082153f45cc4254591c3c0f70139d1", checked := Tryz.checked }
namespace Rows
def none {H : Type} : Left H := { results := [], args := [] }

/- WHAT THE LISTED PACKAGE-LEVEL VARIABLES READ AS WHEN THE CALL BEGINS. Each datum BY PROGRAM (the guide's laid-datum.mjs) off the statement by which the dump's own 'gosem.cut.vars' lays the variable. In a bare row this is a premise. The card (YtaapomafjjikhaaGreatDoorCards.lean) ties it to the program's text. -/
def laid_bioscope_reel_reelBounds {H : Type} : DataW H := .agg [.agg [.lit (.int .i64 0), .lit (.int .i64 99)], .agg [.lit (.int .i64 0), .lit (.int .i64 99)], .agg [.lit (.int .i64 1), .lit (.int .i64 1200)]]
def laid_bioscope_reel_filmBounds {H : Type} : DataW H := .agg [.agg [.lit (.int .i64 1), .lit (.int .i64 20)], .agg [.lit (.int .i64 0), .lit (.int .i64 50)]]
def laid_bioscope_licence_townBounds {H : Type} : DataW H := .agg [.agg [.lit (.int .i64 1), .lit (.int .i64 4)], .agg [.lit (.int .i64 0), .lit (.int .i64 20)], .agg [.lit (.int .i64 0), .lit (.int .i64 4)], .agg [.lit (.int .i64 0), .lit (.int .i64 65535)], .agg [.lit (.int .i64 0), .lit (.int .i64 1439)], .agg [.lit (.int .i64 0), .lit (.int .i64 4)]]
def laid_bioscope_licence_kindBounds {H : Type} : DataW H := .agg [.agg [.lit (.int .i64 1), .lit (.int .i64 30)], .agg [.lit (.int .i64 0), .lit (.int .i64 1000)], .agg [.lit (.int .i64 0), .lit (.int .i64 30)]]
def laid_bioscope_bill_bookBounds {H : Type} : DataW H := .agg [.agg [.lit (.int .i64 0), .lit (.int .i64 999)], .agg [.lit (.int .i64 1), .lit (.int .i64 5)]]
def laid_bioscope_bill_spanBounds {H : Type} : DataW H := .agg [.agg [.lit (.int .i64 0), .lit (.int .i64 600)], .agg [.lit (.int .i64 0), .lit (.int .i64 60)]]
def laid_bioscope_bill_filmBounds {H : Type} : DataW H := .agg [.agg [.lit (.int .i64 0), .lit (.int .i64 15)], .agg [.lit (.int .i64 0), .lit (.int .i64 999)], .agg [.lit (.int .i64 0), .lit (.int .i64 1439)], .agg [.lit (.int .i64 0), .lit (.int .i64 1439)]]
def laid_bioscope_engine_bookBounds {H : Type} : DataW H := .agg [.agg [.lit (.int .i64 1), .lit (.int .i64 99)], .agg [.lit (.int .i64 1), .lit (.int .i64 99)], .agg [.lit (.int .i64 1), .lit (.int .i64 20)], .agg [.lit (.int .i64 1), .lit (.int .i64 20)], .agg [.lit (.int .i64 0), .lit (.int .i64 60)], .agg [.lit (.int .i64 1), .lit (.int .i64 5)]]

/-- 'bioscopelaw06.BillEnds': WHATEVER THE INPUT: true; the input reads as it did. -/
def billEndsSpec : ChangeSpec := { name := "billEnds", fn := fun _ => fun
  | [d1, d2, d3] => { results := [.lit (.bool true)], args := [d1, d2, d3] }
  | _ => none }
def billEndsRow : OpenClaim := { program := "ytaapomafjjikhaagreatdoor", sum := "c21a01cf6ea785d8d1bdab8b51f7f87e52082153f45cc4254591c3c0f70139d1", func := "bioscope/bioscopelaw06.BillEnds", spec := "billEnds", unfollowed := true, recurses := true, named := ["bioscope/bill.bookBounds", "bioscope/bill.spanBounds", "bioscope/bill.filmBounds", "bioscope/licence.townBounds", "bioscope/licence.kindBounds", "bioscope/reel.filmBounds", "bioscope/reel.reelBounds"], plainKeys := false, apart := false, laid := [("bioscope/reel.reelBounds", laid_bioscope_reel_reelBounds), ("bioscope/reel.filmBounds", laid_bioscope_reel_filmBounds), ("bioscope/licence.townBounds", laid_bioscope_licence_townBounds), ("bioscope/licence.kindBounds", laid_bioscope_licence_kindBounds), ("bioscope/bill.bookBounds", laid_bioscope_bill_bookBounds), ("bioscope/bill.spanBounds", laid_bioscope_bill_spanBounds), ("bioscope/bill.filmBounds", laid_bioscope_bill_filmBounds)] }
def BillEndsSaid : Prop := billEndsRow.holds Tryz.pinned (OpenSpec.ofChange billEndsSpec)

/-- ITS FALSE NEIGHBOUR: 'it returns false'. Refute it at one input. -/
def billEndsWrong : ChangeSpec := { name := "billEnds", fn := fun _ => fun
  | [d1, d2, d3] => { results := [.lit (.bool false)], args := [d1, d2, d3] }
  | _ => none }
def BillEndsWrongFalsely : Prop := billEndsRow.holds Tryz.pinned (OpenSpec.ofChange billEndsWrong)

/-- 'bioscopelaw06.BillBests': WHATEVER THE INPUT: true; the input reads as it did. -/
def billBestsSpec : ChangeSpec := { name := "billBests", fn := fun _ => fun
  | [d1, d2, d3] => { results := [.lit (.bool true)], args := [d1, d2, d3] }
  | _ => none }
def billBestsRow : OpenClaim := { program := "ytaapomafjjikhaagreatdoor", sum := "c21a01cf6ea785d8d1bdab8b51f7f87e52082153f45cc4254591c3c0f70139d1", func := "bioscope/bioscopelaw06.BillBests", spec := "billBests", unfollowed := true, recurses := true, named := ["bioscope/bill.bookBounds", "bioscope/bill.spanBounds", "bioscope/bill.filmBounds", "bioscope/licence.townBounds", "bioscope/licence.kindBounds", "bioscope/reel.filmBounds", "bioscope/reel.reelBounds"], plainKeys := false, apart := false, laid := [("bioscope/reel.reelBounds", laid_bioscope_reel_reelBounds), ("bioscope/reel.filmBounds", laid_bioscope_reel_filmBounds), ("bioscope/licence.townBounds", laid_bioscope_licence_townBounds), ("bioscope/licence.kindBounds", laid_bioscope_licence_kindBounds), ("bioscope/bill.bookBounds", laid_bioscope_bill_bookBounds), ("bioscope/bill.spanBounds", laid_bioscope_bill_spanBounds), ("bioscope/bill.filmBounds", laid_bioscope_bill_filmBounds)] }
def BillBestsSaid : Prop := billBestsRow.holds Tryz.pinned (OpenSpec.ofChange billBestsSpec)

/-- ITS FALSE NEIGHBOUR: 'it returns false'. Refute it at one input. -/
def billBestsWrong : ChangeSpec := { name := "billBests", fn := fun _ => fun
  | [d1, d2, d3] => { results := [.lit (.bool false)], args := [d1, d2, d3] }
  | _ => none }
def BillBestsWrongFalsely : Prop := billBestsRow.holds Tryz.pinned (OpenSpec.ofChange billBestsWrong)

/-- 'bioscopelaw06.BillTrue': WHATEVER THE INPUT: true; the input reads as it did. -/
def billTrueSpec : ChangeSpec := { name := "billTrue", fn := fun _ => fun
  | [d1, d2, d3] => { results := [.lit (.bool true)], args := [d1, d2, d3] }
  | _ => none }
def billTrueRow : OpenClaim := { program := "ytaapomafjjikhaagreatdoor", sum := "c21a01cf6ea785d8d1bdab8b51f7f87e52082153f45cc4254591c3c0f70139d1", func := "bioscope/bioscopelaw06.BillTrue", spec := "billTrue", unfollowed := true, recurses := true, named := ["bioscope/bill.bookBounds", "bioscope/bill.spanBounds", "bioscope/bill.filmBounds", "bioscope/licence.townBounds", "bioscope/licence.kindBounds", "bioscope/reel.filmBounds", "bioscope/reel.reelBounds"], plainKeys := false, apart := false, laid := [("bioscope/reel.reelBounds", laid_bioscope_reel_reelBounds), ("bioscope/reel.filmBounds", laid_bioscope_reel_filmBounds), ("bioscope/licence.townBounds", laid_bioscope_licence_townBounds), ("bioscope/licence.kindBounds", laid_bioscope_licence_kindBounds), ("bioscope/bill.bookBounds", laid_bioscope_bill_bookBounds), ("bioscope/bill.spanBounds", laid_bioscope_bill_spanBounds), ("bioscope/bill.filmBounds", laid_bioscope_bill_filmBounds)] }
def BillTrueSaid : Prop := billTrueRow.holds Tryz.pinned (OpenSpec.ofChange billTrueSpec)

/-- ITS FALSE NEIGHBOUR: 'it returns false'. Refute it at one input. -/
def billTrueWrong : ChangeSpec := { name := "billTrue", fn := fun _ => fun
  | [d1, d2, d3] => { results := [.lit (.bool false)], args := [d1, d2, d3] }
  | _ => none }
def BillTrueWrongFalsely : Prop := billTrueRow.holds Tryz.pinned (OpenSpec.ofChange billTrueWrong)

/-- 'bioscopelaw06.BillReached': WHATEVER THE INPUT: true; the input reads as it did. -/
def billReachedSpec : ChangeSpec := { name := "billReached", fn := fun _ => fun
  | [d1, d2, d3] => { results := [.lit (.bool true)], args := [d1, d2, d3] }
  | _ => none }
def billReachedRow : OpenClaim := { program := "ytaapomafjjikhaagreatdoor", sum := "c21a01cf6ea785d8d1bdab8b51f7f87e52082153f45cc4254591c3c0f70139d1", func := "bioscope/bioscopelaw06.BillReached", spec := "billReached", unfollowed := true, recurses := true, named := ["bioscope/bill.bookBounds", "bioscope/bill.spanBounds", "bioscope/bill.filmBounds", "bioscope/licence.townBounds", "bioscope/licence.kindBounds", "bioscope/reel.filmBounds", "bioscope/reel.reelBounds"], plainKeys := false, apart := false, laid := [("bioscope/reel.reelBounds", laid_bioscope_reel_reelBounds), ("bioscope/reel.filmBounds", laid_bioscope_reel_filmBounds), ("bioscope/licence.townBounds", laid_bioscope_licence_townBounds), ("bioscope/licence.kindBounds", laid_bioscope_licence_kindBounds), ("bioscope/bill.bookBounds", laid_bioscope_bill_bookBounds), ("bioscope/bill.spanBounds", laid_bioscope_bill_spanBounds), ("bioscope/bill.filmBounds", laid_bioscope_bill_filmBounds)] }
def BillReachedSaid : Prop := billReachedRow.holds Tryz.pinned (OpenSpec.ofChange billReachedSpec)

/-- ITS FALSE NEIGHBOUR: 'it returns false'. Refute it at one input. -/
def billReachedWrong : ChangeSpec := { name := "billReached", fn := fun _ => fun
  | [d1, d2, d3] => { results := [.lit (.bool false)], args := [d1, d2, d3] }
  | _ => none }
def BillReachedWrongFalsely : Prop := billReachedRow.holds Tryz.pinned (OpenSpec.ofChange billReachedWrong)

/-- 'bioscopelaw06.BillLatest': WHATEVER THE INPUT: true; the input reads as it did. -/
def billLatestSpec : ChangeSpec := { name := "billLatest", fn := fun _ => fun
  | [d1, d2, d3] => { results := [.lit (.bool true)], args := [d1, d2, d3] }
  | _ => none }
def billLatestRow : OpenClaim := { program := "ytaapomafjjikhaagreatdoor", sum := "c21a01cf6ea785d8d1bdab8b51f7f87e52082153f45cc4254591c3c0f70139d1", func := "bioscope/bioscopelaw06.BillLatest", spec := "billLatest", unfollowed := true, recurses := true, named := ["bioscope/bill.bookBounds", "bioscope/bill.spanBounds", "bioscope/bill.filmBounds", "bioscope/licence.townBounds", "bioscope/licence.kindBounds", "bioscope/reel.filmBounds", "bioscope/reel.reelBounds"], plainKeys := false, apart := false, laid := [("bioscope/reel.reelBounds", laid_bioscope_reel_reelBounds), ("bioscope/reel.filmBounds", laid_bioscope_reel_filmBounds), ("bioscope/licence.townBounds", laid_bioscope_licence_townBounds), ("bioscope/licence.kindBounds", laid_bioscope_licence_kindBounds), ("bioscope/bill.bookBounds", laid_bioscope_bill_bookBounds), ("bioscope/bill.spanBounds", laid_bioscope_bill_spanBounds), ("bioscope/bill.filmBounds", laid_bioscope_bill_filmBounds)] }
def BillLatestSaid : Prop := billLatestRow.holds Tryz.pinned (OpenSpec.ofChange billLatestSpec)

/-- ITS FALSE NEIGHBOUR: 'it returns false'. Refute it at one input. -/
def billLatestWrong : ChangeSpec := { name := "billLatest", fn := fun _ => fun
  | [d1, d2, d3] => { results := [.lit (.bool false)], args := [d1, d2, d3] }
  | _ => none }
def BillLatestWrongFalsely : Prop := billLatestRow.holds Tryz.pinned (OpenSpec.ofChange billLatestWrong)

/-- 'bioscopelaw06.BillBest': WHATEVER THE INPUT: true; the input reads as it did. -/
def billBestSpec : ChangeSpec := { name := "billBest", fn := fun _ => fun
  | [d1, d2, d3] => { results := [.lit (.bool true)], args := [d1, d2, d3] }
  | _ => none }
def billBestRow : OpenClaim := { program := "ytaapomafjjikhaagreatdoor", sum := "c21a01cf6ea785d8d1bdab8b51f7f87e52082153f45cc4254591c3c0f70139d1", func := "bioscope/bioscopelaw06.BillBest", spec := "billBest", unfollowed := true, recurses := true, named := ["bioscope/bill.bookBounds", "bioscope/bill.spanBounds", "bioscope/bill.filmBounds", "bioscope/licence.townBounds", "bioscope/licence.kindBounds", "bioscope/reel.filmBounds", "bioscope/reel.reelBounds"], plainKeys := false, apart := false, laid := [("bioscope/reel.reelBounds", laid_bioscope_reel_reelBounds), ("bioscope/reel.filmBounds", laid_bioscope_reel_filmBounds), ("bioscope/licence.townBounds", laid_bioscope_licence_townBounds), ("bioscope/licence.kindBounds", laid_bioscope_licence_kindBounds), ("bioscope/bill.bookBounds", laid_bioscope_bill_bookBounds), ("bioscope/bill.spanBounds", laid_bioscope_bill_spanBounds), ("bioscope/bill.filmBounds", laid_bioscope_bill_filmBounds)] }
def BillBestSaid : Prop := billBestRow.holds Tryz.pinned (OpenSpec.ofChange billBestSpec)

/-- ITS FALSE NEIGHBOUR: 'it returns false'. Refute it at one input. -/
def billBestWrong : ChangeSpec := { name := "billBest", fn := fun _ => fun
  | [d1, d2, d3] => { results := [.lit (.bool false)], args := [d1, d2, d3] }
  | _ => none }
def BillBestWrongFalsely : Prop := billBestRow.holds Tryz.pinned (OpenSpec.ofChange billBestWrong)

/-- 'bioscopelaw06.BillLeave': WHATEVER THE INPUT: true; the input reads as it did. -/
def billLeaveSpec : ChangeSpec := { name := "billLeave", fn := fun _ => fun
  | [d1, d2, d3] => { results := [.lit (.bool true)], args := [d1, d2, d3] }
  | _ => none }
def billLeaveRow : OpenClaim := { program := "ytaapomafjjikhaagreatdoor", sum := "c21a01cf6ea785d8d1bdab8b51f7f87e52082153f45cc4254591c3c0f70139d1", func := "bioscope/bioscopelaw06.BillLeave", spec := "billLeave", unfollowed := true, recurses := true, named := ["bioscope/bill.bookBounds", "bioscope/bill.spanBounds", "bioscope/bill.filmBounds", "bioscope/licence.townBounds", "bioscope/licence.kindBounds", "bioscope/reel.filmBounds", "bioscope/reel.reelBounds"], plainKeys := false, apart := false, laid := [("bioscope/reel.reelBounds", laid_bioscope_reel_reelBounds), ("bioscope/reel.filmBounds", laid_bioscope_reel_filmBounds), ("bioscope/licence.townBounds", laid_bioscope_licence_townBounds), ("bioscope/licence.kindBounds", laid_bioscope_licence_kindBounds), ("bioscope/bill.bookBounds", laid_bioscope_bill_bookBounds), ("bioscope/bill.spanBounds", laid_bioscope_bill_spanBounds), ("bioscope/bill.filmBounds", laid_bioscope_bill_filmBounds)] }
def BillLeaveSaid : Prop := billLeaveRow.holds Tryz.pinned (OpenSpec.ofChange billLeaveSpec)

/-- ITS FALSE NEIGHBOUR: 'it returns false'. Refute it at one input. -/
def billLeaveWrong : ChangeSpec := { name := "billLeave", fn := fun _ => fun
  | [d1, d2, d3] => { results := [.lit (.bool false)], args := [d1, d2, d3] }
  | _ => none }
def BillLeaveWrongFalsely : Prop := billLeaveRow.holds Tryz.pinned (OpenSpec.ofChange billLeaveWrong)

/-- 'bioscopelaw06.BillEasier': WHATEVER THE INPUT: true; the input reads as it did. -/
def billEasierSpec : ChangeSpec := { name := "billEasier", fn := fun _ => fun
  | [d1, d2, d3] => { results := [.lit (.bool true)], args := [d1, d2, d3] }
  | _ => none }
def billEasierRow : OpenClaim := { program := "ytaapomafjjikhaagreatdoor", sum := "c21a01cf6ea785d8d1bdab8b51f7f87e52082153f45cc4254591c3c0f70139d1", func := "bioscope/bioscopelaw06.BillEasier", spec := "billEasier", unfollowed := true, recurses := true, named := ["bioscope/bill.bookBounds", "bioscope/bill.spanBounds", "bioscope/bill.filmBounds", "bioscope/licence.townBounds", "bioscope/licence.kindBounds", "bioscope/reel.filmBounds", "bioscope/reel.reelBounds"], plainKeys := false, apart := false, laid := [("bioscope/reel.reelBounds", laid_bioscope_reel_reelBounds), ("bioscope/reel.filmBounds", laid_bioscope_reel_filmBounds), ("bioscope/licence.townBounds", laid_bioscope_licence_townBounds), ("bioscope/licence.kindBounds", laid_bioscope_licence_kindBounds), ("bioscope/bill.bookBounds", laid_bioscope_bill_bookBounds), ("bioscope/bill.spanBounds", laid_bioscope_bill_spanBounds), ("bioscope/bill.filmBounds", laid_bioscope_bill_filmBounds)] }
def BillEasierSaid : Prop := billEasierRow.holds Tryz.pinned (OpenSpec.ofChange billEasierSpec)

/-- ITS FALSE NEIGHBOUR: 'it returns false'. Refute it at one input. -/
def billEasierWrong : ChangeSpec := { name := "billEasier", fn := fun _ => fun
  | [d1, d2, d3] => { results := [.lit (.bool false)], args := [d1, d2, d3] }
  | _ => none }
def BillEasierWrongFalsely : Prop := billEasierRow.holds Tryz.pinned (OpenSpec.ofChange billEasierWrong)

/-- 'bioscopelaw06.BillKnown': WHATEVER THE INPUT: true; the input reads as it did. -/
def billKnownSpec : ChangeSpec := { name := "billKnown", fn := fun _ => fun
  | [] => { results := [.lit (.bool true)], args := [] }
  | _ => none }
def billKnownRow : OpenClaim := { program := "ytaapomafjjikhaagreatdoor", sum := "c21a01cf6ea785d8d1bdab8b51f7f87e52082153f45cc4254591c3c0f70139d1", func := "bioscope/bioscopelaw06.BillKnown", spec := "billKnown", unfollowed := true, recurses := true, named := ["bioscope/bill.bookBounds", "bioscope/bill.spanBounds", "bioscope/bill.filmBounds", "bioscope/licence.townBounds", "bioscope/licence.kindBounds", "bioscope/reel.filmBounds", "bioscope/reel.reelBounds"], plainKeys := false, apart := false, laid := [("bioscope/reel.reelBounds", laid_bioscope_reel_reelBounds), ("bioscope/reel.filmBounds", laid_bioscope_reel_filmBounds), ("bioscope/licence.townBounds", laid_bioscope_licence_townBounds), ("bioscope/licence.kindBounds", laid_bioscope_licence_kindBounds), ("bioscope/bill.bookBounds", laid_bioscope_bill_bookBounds), ("bioscope/bill.spanBounds", laid_bioscope_bill_spanBounds), ("bioscope/bill.filmBounds", laid_bioscope_bill_filmBounds)] }
def BillKnownSaid : Prop := billKnownRow.holds Tryz.pinned (OpenSpec.ofChange billKnownSpec)

/-- ITS FALSE NEIGHBOUR: 'it returns false'. Refute it at one input. -/
def billKnownWrong : ChangeSpec := { name := "billKnown", fn := fun _ => fun
  | [] => { results := [.lit (.bool false)], args := [] }
  | _ => none }
def BillKnownWrongFalsely : Prop := billKnownRow.holds Tryz.pinned (OpenSpec.ofChange billKnownWrong)

/-- 'bioscopetop.TopLit': WHATEVER THE INPUT: true; the input reads as it did. -/
def topLitSpec : ChangeSpec := { name := "topLit", fn := fun _ => fun
  | [d1, d2, d3, d4] => { results := [.lit (.bool true)], args := [d1, d2, d3, d4] }
  | _ => none }
def topLitRow : OpenClaim := { program := "ytaapomafjjikhaagreatdoor", sum := "c21a01cf6ea785d8d1bdab8b51f7f87e52082153f45cc4254591c3c0f70139d1", func := "bioscope/bioscopetop.TopLit", spec := "topLit", unfollowed := true, recurses := true, named := ["bioscope/bill.bookBounds", "bioscope/bill.spanBounds", "bioscope/bill.filmBounds", "bioscope/licence.townBounds", "bioscope/licence.kindBounds", "bioscope/reel.filmBounds", "bioscope/reel.reelBounds", "bioscope/engine.bookBounds"], plainKeys := false, apart := false, laid := [("bioscope/reel.reelBounds", laid_bioscope_reel_reelBounds), ("bioscope/reel.filmBounds", laid_bioscope_reel_filmBounds), ("bioscope/engine.bookBounds", laid_bioscope_engine_bookBounds), ("bioscope/licence.townBounds", laid_bioscope_licence_townBounds), ("bioscope/licence.kindBounds", laid_bioscope_licence_kindBounds), ("bioscope/bill.bookBounds", laid_bioscope_bill_bookBounds), ("bioscope/bill.spanBounds", laid_bioscope_bill_spanBounds), ("bioscope/bill.filmBounds", laid_bioscope_bill_filmBounds)] }
def TopLitSaid : Prop := topLitRow.holds Tryz.pinned (OpenSpec.ofChange topLitSpec)

/-- ITS FALSE NEIGHBOUR: 'it returns false'. Refute it at one input. -/
def topLitWrong : ChangeSpec := { name := "topLit", fn := fun _ => fun
  | [d1, d2, d3, d4] => { results := [.lit (.bool false)], args := [d1, d2, d3, d4] }
  | _ => none }
def TopLitWrongFalsely : Prop := topLitRow.holds Tryz.pinned (OpenSpec.ofChange topLitWrong)

/-- 'bioscopetop.TopCovered': WHATEVER THE INPUT: true; the input reads as it did. -/
def topCoveredSpec : ChangeSpec := { name := "topCovered", fn := fun _ => fun
  | [d1, d2, d3, d4] => { results := [.lit (.bool true)], args := [d1, d2, d3, d4] }
  | _ => none }
def topCoveredRow : OpenClaim := { program := "ytaapomafjjikhaagreatdoor", sum := "c21a01cf6ea785d8d1bdab8b51f7f87e52082153f45cc4254591c3c0f70139d1", func := "bioscope/bioscopetop.TopCovered", spec := "topCovered", unfollowed := true, recurses := true, named := ["bioscope/bill.bookBounds", "bioscope/bill.spanBounds", "bioscope/bill.filmBounds", "bioscope/licence.townBounds", "bioscope/licence.kindBounds", "bioscope/reel.filmBounds", "bioscope/reel.reelBounds", "bioscope/engine.bookBounds"], plainKeys := false, apart := false, laid := [("bioscope/reel.reelBounds", laid_bioscope_reel_reelBounds), ("bioscope/reel.filmBounds", laid_bioscope_reel_filmBounds), ("bioscope/engine.bookBounds", laid_bioscope_engine_bookBounds), ("bioscope/licence.townBounds", laid_bioscope_licence_townBounds), ("bioscope/licence.kindBounds", laid_bioscope_licence_kindBounds), ("bioscope/bill.bookBounds", laid_bioscope_bill_bookBounds), ("bioscope/bill.spanBounds", laid_bioscope_bill_spanBounds), ("bioscope/bill.filmBounds", laid_bioscope_bill_filmBounds)] }
def TopCoveredSaid : Prop := topCoveredRow.holds Tryz.pinned (OpenSpec.ofChange topCoveredSpec)

/-- ITS FALSE NEIGHBOUR: 'it returns false'. Refute it at one input. -/
def topCoveredWrong : ChangeSpec := { name := "topCovered", fn := fun _ => fun
  | [d1, d2, d3, d4] => { results := [.lit (.bool false)], args := [d1, d2, d3, d4] }
  | _ => none }
def TopCoveredWrongFalsely : Prop := topCoveredRow.holds Tryz.pinned (OpenSpec.ofChange topCoveredWrong)

/- THE SECOND FORM. 'bulk': how many values and letters a reading holds, each counted each time it is reached (what is shared counts as often as it is met; a slice's spare places count too). A statement '..UptoSaid' is the law's where the arguments, and the package variables that the reading takes, are together of bulk at most 1048576: NARROWER than '..Said'. Prove '..Said' where nothing that the law and all that it calls make is longer than what came in: it says more and counts as full. Else prove '..UptoSaid'. A law counts once. -/
mutual
def uptoBulk {H : Type} : DataW H → Nat
  | .lit (.string bytes) => bytes.length + 1
  | .lit _ => 1
  | .nil => 1
  | .ptr d => uptoBulk d + 1
  | .slice elems spare => uptoBulkAll elems + uptoBulkAll spare + 1
  | .agg parts => uptoBulkAll parts + 1
  | .iface _ d => uptoBulk d + 1
  | .map entries => uptoBulkEntries entries + 1
  | .held _ => 1
def uptoBulkAll {H : Type} : List (DataW H) → Nat
  | [] => 0
  | d :: r => uptoBulk d + uptoBulkAll r
def uptoBulkEntries {H : Type} : List (Lit × DataW H) → Nat
  | [] => 0
  | x :: r => uptoBulkEntry x + uptoBulkEntries r
def uptoBulkEntry {H : Type} : Lit × DataW H → Nat
  | (.string bytes, d) => bytes.length + uptoBulk d + 1
  | (_, d) => uptoBulk d + 1
 end
def uptoSmall : (H : Type) → List (DataW H) → Bool := fun _ ds => decide (uptoBulkAll ds ≤ 1048576)
def OpenSpec.upto (s : _root_.Go.ChangeSpec) : _root_.Go.OpenSpec := { _root_.Go.OpenSpec.ofChange s with cond := some uptoSmall }

/-- 'bioscopelaw06.BillEnds', WHERE WHAT IT READS IS OF BULK AT MOST 1048576: true; the input reads as it did. -/
def billEndsUptoRow : OpenClaim := { program := "ytaapomafjjikhaagreatdoor", sum := "c21a01cf6ea785d8d1bdab8b51f7f87e52082153f45cc4254591c3c0f70139d1", func := "bioscope/bioscopelaw06.BillEnds", spec := "billEnds", unfollowed := true, recurses := true, named := ["bioscope/bill.bookBounds", "bioscope/bill.spanBounds", "bioscope/bill.filmBounds", "bioscope/licence.townBounds", "bioscope/licence.kindBounds", "bioscope/reel.filmBounds", "bioscope/reel.reelBounds"], plainKeys := false, apart := false, laid := [("bioscope/reel.reelBounds", laid_bioscope_reel_reelBounds), ("bioscope/reel.filmBounds", laid_bioscope_reel_filmBounds), ("bioscope/licence.townBounds", laid_bioscope_licence_townBounds), ("bioscope/licence.kindBounds", laid_bioscope_licence_kindBounds), ("bioscope/bill.bookBounds", laid_bioscope_bill_bookBounds), ("bioscope/bill.spanBounds", laid_bioscope_bill_spanBounds), ("bioscope/bill.filmBounds", laid_bioscope_bill_filmBounds)], narrowed := true }
def BillEndsUptoSaid : Prop := billEndsUptoRow.holds Tryz.pinned (OpenSpec.upto billEndsSpec)

/-- 'bioscopelaw06.BillBests', WHERE WHAT IT READS IS OF BULK AT MOST 1048576: true; the input reads as it did. -/
def billBestsUptoRow : OpenClaim := { program := "ytaapomafjjikhaagreatdoor", sum := "c21a01cf6ea785d8d1bdab8b51f7f87e52082153f45cc4254591c3c0f70139d1", func := "bioscope/bioscopelaw06.BillBests", spec := "billBests", unfollowed := true, recurses := true, named := ["bioscope/bill.bookBounds", "bioscope/bill.spanBounds", "bioscope/bill.filmBounds", "bioscope/licence.townBounds", "bioscope/licence.kindBounds", "bioscope/reel.filmBounds", "bioscope/reel.reelBounds"], plainKeys := false, apart := false, laid := [("bioscope/reel.reelBounds", laid_bioscope_reel_reelBounds), ("bioscope/reel.filmBounds", laid_bioscope_reel_filmBounds), ("bioscope/licence.townBounds", laid_bioscope_licence_townBounds), ("bioscope/licence.kindBounds", laid_bioscope_licence_kindBounds), ("bioscope/bill.bookBounds", laid_bioscope_bill_bookBounds), ("bioscope/bill.spanBounds", laid_bioscope_bill_spanBounds), ("bioscope/bill.filmBounds", laid_bioscope_bill_filmBounds)], narrowed := true }
def BillBestsUptoSaid : Prop := billBestsUptoRow.holds Tryz.pinned (OpenSpec.upto billBestsSpec)

/-- 'bioscopelaw06.BillTrue', WHERE WHAT IT READS IS OF BULK AT MOST 1048576: true; the input reads as it did. -/
def billTrueUptoRow : OpenClaim := { program := "ytaapomafjjikhaagreatdoor", sum := "c21a01cf6ea785d8d1bdab8b51f7f87e52082153f45cc4254591c3c0f70139d1", func := "bioscope/bioscopelaw06.BillTrue", spec := "billTrue", unfollowed := true, recurses := true, named := ["bioscope/bill.bookBounds", "bioscope/bill.spanBounds", "bioscope/bill.filmBounds", "bioscope/licence.townBounds", "bioscope/licence.kindBounds", "bioscope/reel.filmBounds", "bioscope/reel.reelBounds"], plainKeys := false, apart := false, laid := [("bioscope/reel.reelBounds", laid_bioscope_reel_reelBounds), ("bioscope/reel.filmBounds", laid_bioscope_reel_filmBounds), ("bioscope/licence.townBounds", laid_bioscope_licence_townBounds), ("bioscope/licence.kindBounds", laid_bioscope_licence_kindBounds), ("bioscope/bill.bookBounds", laid_bioscope_bill_bookBounds), ("bioscope/bill.spanBounds", laid_bioscope_bill_spanBounds), ("bioscope/bill.filmBounds", laid_bioscope_bill_filmBounds)], narrowed := true }
def BillTrueUptoSaid : Prop := billTrueUptoRow.holds Tryz.pinned (OpenSpec.upto billTrueSpec)

/-- 'bioscopelaw06.BillReached', WHERE WHAT IT READS IS OF BULK AT MOST 1048576: true; the input reads as it did. -/
def billReachedUptoRow : OpenClaim := { program := "ytaapomafjjikhaagreatdoor", sum := "c21a01cf6ea785d8d1bdab8b51f7f87e52082153f45cc4254591c3c0f70139d1", func := "bioscope/bioscopelaw06.BillReached", spec := "billReached", unfollowed := true, recurses := true, named := ["bioscope/bill.bookBounds", "bioscope/bill.spanBounds", "bioscope/bill.filmBounds", "bioscope/licence.townBounds", "bioscope/licence.kindBounds", "bioscope/reel.filmBounds", "bioscope/reel.reelBounds"], plainKeys := false, apart := false, laid := [("bioscope/reel.reelBounds", laid_bioscope_reel_reelBounds), ("bioscope/reel.filmBounds", laid_bioscope_reel_filmBounds), ("bioscope/licence.townBounds", laid_bioscope_licence_townBounds), ("bioscope/licence.kindBounds", laid_bioscope_licence_kindBounds), ("bioscope/bill.bookBounds", laid_bioscope_bill_bookBounds), ("bioscope/bill.spanBounds", laid_bioscope_bill_spanBounds), ("bioscope/bill.filmBounds", laid_bioscope_bill_filmBounds)], narrowed := true }
def BillReachedUptoSaid : Prop := billReachedUptoRow.holds Tryz.pinned (OpenSpec.upto billReachedSpec)

/-- 'bioscopelaw06.BillLatest', WHERE WHAT IT READS IS OF BULK AT MOST 1048576: true; the input reads as it did. -/
def billLatestUptoRow : OpenClaim := { program := "ytaapomafjjikhaagreatdoor", sum := "c21a01cf6ea785d8d1bdab8b51f7f87e52082153f45cc4254591c3c0f70139d1", func := "bioscope/bioscopelaw06.BillLatest", spec := "billLatest", unfollowed := true, recurses := true, named := ["bioscope/bill.bookBounds", "bioscope/bill.spanBounds", "bioscope/bill.filmBounds", "bioscope/licence.townBounds", "bioscope/licence.kindBounds", "bioscope/reel.filmBounds", "bioscope/reel.reelBounds"], plainKeys := false, apart := false, laid := [("bioscope/reel.reelBounds", laid_bioscope_reel_reelBounds), ("bioscope/reel.filmBounds", laid_bioscope_reel_filmBounds), ("bioscope/licence.townBounds", laid_bioscope_licence_townBounds), ("bioscope/licence.kindBounds", laid_bioscope_licence_kindBounds), ("bioscope/bill.bookBounds", laid_bioscope_bill_bookBounds), ("bioscope/bill.spanBounds", laid_bioscope_bill_spanBounds), ("bioscope/bill.filmBounds", laid_bioscope_bill_filmBounds)], narrowed := true }
def BillLatestUptoSaid : Prop := billLatestUptoRow.holds Tryz.pinned (OpenSpec.upto billLatestSpec)

/-- 'bioscopelaw06.BillBest', WHERE WHAT IT READS IS OF BULK AT MOST 1048576: true; the input reads as it did. -/
def billBestUptoRow : OpenClaim := { program := "ytaapomafjjikhaagreatdoor", sum := "c21a01cf6ea785d8d1bdab8b51f7f87e52082153f45cc4254591c3c0f70139d1", func := "bioscope/bioscopelaw06.BillBest", spec := "billBest", unfollowed := true, recurses := true, named := ["bioscope/bill.bookBounds", "bioscope/bill.spanBounds", "bioscope/bill.filmBounds", "bioscope/licence.townBounds", "bioscope/licence.kindBounds", "bioscope/reel.filmBounds", "bioscope/reel.reelBounds"], plainKeys := false, apart := false, laid := [("bioscope/reel.reelBounds", laid_bioscope_reel_reelBounds), ("bioscope/reel.filmBounds", laid_bioscope_reel_filmBounds), ("bioscope/licence.townBounds", laid_bioscope_licence_townBounds), ("bioscope/licence.kindBounds", laid_bioscope_licence_kindBounds), ("bioscope/bill.bookBounds", laid_bioscope_bill_bookBounds), ("bioscope/bill.spanBounds", laid_bioscope_bill_spanBounds), ("bioscope/bill.filmBounds", laid_bioscope_bill_filmBounds)], narrowed := true }
def BillBestUptoSaid : Prop := billBestUptoRow.holds Tryz.pinned (OpenSpec.upto billBestSpec)

/-- 'bioscopelaw06.BillLeave', WHERE WHAT IT READS IS OF BULK AT MOST 1048576: true; the input reads as it did. -/
def billLeaveUptoRow : OpenClaim := { program := "ytaapomafjjikhaagreatdoor", sum := "c21a01cf6ea785d8d1bdab8b51f7f87e52082153f45cc4254591c3c0f70139d1", func := "bioscope/bioscopelaw06.BillLeave", spec := "billLeave", unfollowed := true, recurses := true, named := ["bioscope/bill.bookBounds", "bioscope/bill.spanBounds", "bioscope/bill.filmBounds", "bioscope/licence.townBounds", "bioscope/licence.kindBounds", "bioscope/reel.filmBounds", "bioscope/reel.reelBounds"], plainKeys := false, apart := false, laid := [("bioscope/reel.reelBounds", laid_bioscope_reel_reelBounds), ("bioscope/reel.filmBounds", laid_bioscope_reel_filmBounds), ("bioscope/licence.townBounds", laid_bioscope_licence_townBounds), ("bioscope/licence.kindBounds", laid_bioscope_licence_kindBounds), ("bioscope/bill.bookBounds", laid_bioscope_bill_bookBounds), ("bioscope/bill.spanBounds", laid_bioscope_bill_spanBounds), ("bioscope/bill.filmBounds", laid_bioscope_bill_filmBounds)], narrowed := true }
def BillLeaveUptoSaid : Prop := billLeaveUptoRow.holds Tryz.pinned (OpenSpec.upto billLeaveSpec)

/-- 'bioscopelaw06.BillEasier', WHERE WHAT IT READS IS OF BULK AT MOST 1048576: true; the input reads as it did. -/
def billEasierUptoRow : OpenClaim := { program := "ytaapomafjjikhaagreatdoor", sum := "c21a01cf6ea785d8d1bdab8b51f7f87e52082153f45cc4254591c3c0f70139d1", func := "bioscope/bioscopelaw06.BillEasier", spec := "billEasier", unfollowed := true, recurses := true, named := ["bioscope/bill.bookBounds", "bioscope/bill.spanBounds", "bioscope/bill.filmBounds", "bioscope/licence.townBounds", "bioscope/licence.kindBounds", "bioscope/reel.filmBounds", "bioscope/reel.reelBounds"], plainKeys := false, apart := false, laid := [("bioscope/reel.reelBounds", laid_bioscope_reel_reelBounds), ("bioscope/reel.filmBounds", laid_bioscope_reel_filmBounds), ("bioscope/licence.townBounds", laid_bioscope_licence_townBounds), ("bioscope/licence.kindBounds", laid_bioscope_licence_kindBounds), ("bioscope/bill.bookBounds", laid_bioscope_bill_bookBounds), ("bioscope/bill.spanBounds", laid_bioscope_bill_spanBounds), ("bioscope/bill.filmBounds", laid_bioscope_bill_filmBounds)], narrowed := true }
def BillEasierUptoSaid : Prop := billEasierUptoRow.holds Tryz.pinned (OpenSpec.upto billEasierSpec)

/-- 'bioscopelaw06.BillKnown', WHERE WHAT IT READS IS OF BULK AT MOST 1048576: true; the input reads as it did. -/
def billKnownUptoRow : OpenClaim := { program := "ytaapomafjjikhaagreatdoor", sum := "c21a01cf6ea785d8d1bdab8b51f7f87e52082153f45cc4254591c3c0f70139d1", func := "bioscope/bioscopelaw06.BillKnown", spec := "billKnown", unfollowed := true, recurses := true, named := ["bioscope/bill.bookBounds", "bioscope/bill.spanBounds", "bioscope/bill.filmBounds", "bioscope/licence.townBounds", "bioscope/licence.kindBounds", "bioscope/reel.filmBounds", "bioscope/reel.reelBounds"], plainKeys := false, apart := false, laid := [("bioscope/reel.reelBounds", laid_bioscope_reel_reelBounds), ("bioscope/reel.filmBounds", laid_bioscope_reel_filmBounds), ("bioscope/licence.townBounds", laid_bioscope_licence_townBounds), ("bioscope/licence.kindBounds", laid_bioscope_licence_kindBounds), ("bioscope/bill.bookBounds", laid_bioscope_bill_bookBounds), ("bioscope/bill.spanBounds", laid_bioscope_bill_spanBounds), ("bioscope/bill.filmBounds", laid_bioscope_bill_filmBounds)], narrowed := true }
def BillKnownUptoSaid : Prop := billKnownUptoRow.holds Tryz.pinned (OpenSpec.upto billKnownSpec)

/-- 'bioscopetop.TopLit', WHERE WHAT IT READS IS OF BULK AT MOST 1048576: true; the input reads as it did. -/
def topLitUptoRow : OpenClaim := { program := "ytaapomafjjikhaagreatdoor", sum := "c21a01cf6ea785d8d1bdab8b51f7f87e52082153f45cc4254591c3c0f70139d1", func := "bioscope/bioscopetop.TopLit", spec := "topLit", unfollowed := true, recurses := true, named := ["bioscope/bill.bookBounds", "bioscope/bill.spanBounds", "bioscope/bill.filmBounds", "bioscope/licence.townBounds", "bioscope/licence.kindBounds", "bioscope/reel.filmBounds", "bioscope/reel.reelBounds", "bioscope/engine.bookBounds"], plainKeys := false, apart := false, laid := [("bioscope/reel.reelBounds", laid_bioscope_reel_reelBounds), ("bioscope/reel.filmBounds", laid_bioscope_reel_filmBounds), ("bioscope/engine.bookBounds", laid_bioscope_engine_bookBounds), ("bioscope/licence.townBounds", laid_bioscope_licence_townBounds), ("bioscope/licence.kindBounds", laid_bioscope_licence_kindBounds), ("bioscope/bill.bookBounds", laid_bioscope_bill_bookBounds), ("bioscope/bill.spanBounds", laid_bioscope_bill_spanBounds), ("bioscope/bill.filmBounds", laid_bioscope_bill_filmBounds)], narrowed := true }
def TopLitUptoSaid : Prop := topLitUptoRow.holds Tryz.pinned (OpenSpec.upto topLitSpec)

/-- 'bioscopetop.TopCovered', WHERE WHAT IT READS IS OF BULK AT MOST 1048576: true; the input reads as it did. -/
def topCoveredUptoRow : OpenClaim := { program := "ytaapomafjjikhaagreatdoor", sum := "c21a01cf6ea785d8d1bdab8b51f7f87e52082153f45cc4254591c3c0f70139d1", func := "bioscope/bioscopetop.TopCovered", spec := "topCovered", unfollowed := true, recurses := true, named := ["bioscope/bill.bookBounds", "bioscope/bill.spanBounds", "bioscope/bill.filmBounds", "bioscope/licence.townBounds", "bioscope/licence.kindBounds", "bioscope/reel.filmBounds", "bioscope/reel.reelBounds", "bioscope/engine.bookBounds"], plainKeys := false, apart := false, laid := [("bioscope/reel.reelBounds", laid_bioscope_reel_reelBounds), ("bioscope/reel.filmBounds", laid_bioscope_reel_filmBounds), ("bioscope/engine.bookBounds", laid_bioscope_engine_bookBounds), ("bioscope/licence.townBounds", laid_bioscope_licence_townBounds), ("bioscope/licence.kindBounds", laid_bioscope_licence_kindBounds), ("bioscope/bill.bookBounds", laid_bioscope_bill_bookBounds), ("bioscope/bill.spanBounds", laid_bioscope_bill_spanBounds), ("bioscope/bill.filmBounds", laid_bioscope_bill_filmBounds)], narrowed := true }
def TopCoveredUptoSaid : Prop := topCoveredUptoRow.holds Tryz.pinned (OpenSpec.upto topCoveredSpec)

end Rows
end Go.Proofs.YtaapomafjjikhaaGreatDoor
