/-
  NARROWER THAN 'FOR EVERY INPUT', by the rows' own cells (each row's printed sentence says how): EngineEasier: laid · EngineTrue: laid · EngineEnds: laid.
  DERIVED. THE GIVEN ROWS OF THIS SEAT. 3 by the template 'for every input the law returns true; each argument reads behind the call as it read before'; 0 by the template 'total and deterministic' (their statements: YtfbongdjicmegaaDoorTotals.lean).
  GIVEN WITH THE SEED: the statements are not yours to turn. If you find one false, say at which input.
  Laid BY PROGRAM, IN A SANDBOX (cutbox-rows.mjs): the forced cells as the released guide's own fill.sh prints them over the translation 05af58d80e83a741… (all of the seat's roots in one cut). By AI agents, Wed Nov 11 2026. No macro, syntax, notation, axiom, sorry.
-/
import Derived.Test.YtfbongdjicmegaaDoorChecked
import GoSem.Claim
import GoSem.ClaimJoined
import GoSem.ClaimMapViews
import Derived.JoinedTies
import Derived.KernelRfl
namespace Go.Proofs.YtfbongdjicmegaaDoor
/- THE CELL 'sum', in the pinned program and in every row, IS THE sha256 OF THE DUMP (.gsa) THAT YtfbongdjicmegaaDoorProg.lean LOADS. Nothing in Lean hashes anything: it is a label: what it is worth is what the hold of that sum in a sandbox is worth. -/
noncomputable def Tryd.pinned : Pinned := { name := "ytfbongdjicmegaadoor", sum := "05af58d80e83a7415ea5770a29f216cb8e270857312de27110e3e840f7182350", checked := Tryd.checked }
namespace Rows
def none {H : Type} : Left H := { results := [], args := [] }

/- WHAT THE LISTED PACKAGE-LEVEL VARIABLES READ AS WHEN THE CALL BEGINS. Each datum BY PROGRAM (the guide's laid-datum.mjs) off the statement by which the dump's own 'gosem.cut.vars' lays the variable. In a bare row this is a premise. The card (YtfbongdjicmegaaDoorCards.lean) ties it to the program's text. -/
def laid_bioscope_engine_bookBounds {H : Type} : DataW H := .agg [.agg [.lit (.int .i64 1), .lit (.int .i64 99)], .agg [.lit (.int .i64 1), .lit (.int .i64 99)], .agg [.lit (.int .i64 1), .lit (.int .i64 20)], .agg [.lit (.int .i64 1), .lit (.int .i64 20)], .agg [.lit (.int .i64 0), .lit (.int .i64 60)], .agg [.lit (.int .i64 1), .lit (.int .i64 5)]]

/-- 'bioscopelaw04.EngineEasier': WHATEVER THE INPUT: true; the input reads as it did. -/
def engineEasierSpec : ChangeSpec := { name := "engineEasier", fn := fun _ => fun
  | [d1, d2] => { results := [.lit (.bool true)], args := [d1, d2] }
  | _ => none }
def engineEasierRow : OpenClaim := { program := "ytfbongdjicmegaadoor", sum := "05af58d80e83a7415ea5770a29f216cb8e270857312de27110e3e840f7182350", func := "bioscope/bioscopelaw04.EngineEasier", spec := "engineEasier", unfollowed := true, recurses := true, named := ["bioscope/engine.bookBounds"], plainKeys := false, apart := false, laid := [("bioscope/engine.bookBounds", laid_bioscope_engine_bookBounds)] }
def EngineEasierSaid : Prop := engineEasierRow.holds Tryd.pinned (OpenSpec.ofChange engineEasierSpec)

/-- ITS FALSE NEIGHBOUR: 'it returns false'. Refute it at one input. -/
def engineEasierWrong : ChangeSpec := { name := "engineEasier", fn := fun _ => fun
  | [d1, d2] => { results := [.lit (.bool false)], args := [d1, d2] }
  | _ => none }
def EngineEasierWrongFalsely : Prop := engineEasierRow.holds Tryd.pinned (OpenSpec.ofChange engineEasierWrong)

/-- 'bioscopelaw04.EngineTrue': WHATEVER THE INPUT: true; the input reads as it did. -/
def engineTrueSpec : ChangeSpec := { name := "engineTrue", fn := fun _ => fun
  | [d1, d2, d3] => { results := [.lit (.bool true)], args := [d1, d2, d3] }
  | _ => none }
def engineTrueRow : OpenClaim := { program := "ytfbongdjicmegaadoor", sum := "05af58d80e83a7415ea5770a29f216cb8e270857312de27110e3e840f7182350", func := "bioscope/bioscopelaw04.EngineTrue", spec := "engineTrue", unfollowed := true, recurses := true, named := ["bioscope/engine.bookBounds"], plainKeys := false, apart := false, laid := [("bioscope/engine.bookBounds", laid_bioscope_engine_bookBounds)] }
def EngineTrueSaid : Prop := engineTrueRow.holds Tryd.pinned (OpenSpec.ofChange engineTrueSpec)

/-- ITS FALSE NEIGHBOUR: 'it returns false'. Refute it at one input. -/
def engineTrueWrong : ChangeSpec := { name := "engineTrue", fn := fun _ => fun
  | [d1, d2, d3] => { results := [.lit (.bool false)], args := [d1, d2, d3] }
  | _ => none }
def EngineTrueWrongFalsely : Prop := engineTrueRow.holds Tryd.pinned (OpenSpec.ofChange engineTrueWrong)

/-- 'bioscopelaw04.EngineEnds': WHATEVER THE INPUT: true; the input reads as it did. -/
def engineEndsSpec : ChangeSpec := { name := "engineEnds", fn := fun _ => fun
  | [d1, d2, d3] => { results := [.lit (.bool true)], args := [d1, d2, d3] }
  | _ => none }
def engineEndsRow : OpenClaim := { program := "ytfbongdjicmegaadoor", sum := "05af58d80e83a7415ea5770a29f216cb8e270857312de27110e3e840f7182350", func := "bioscope/bioscopelaw04.EngineEnds", spec := "engineEnds", unfollowed := true, recurses := true, named := ["bioscope/engine.bookBounds"], plainKeys := false, apart := false, laid := [("bioscope/engine.bookBounds", laid_bioscope_engine_bookBounds)] }
def EngineEndsSaid : Prop := engineEndsRow.holds Tryd.pinned (OpenSpec.ofChange engineEndsSpec)

/-- ITS FALSE NEIGHBOUR: 'it returns false'. Refute it at one input. -/
def engineEndsWrong : ChangeSpec := { name := "engineEnds", fn := fun _ => fun
  | [d1, d2, d3] => { results := [.lit (.bool false)], args := [d1, d2, d3] }
  | _ => none }
def EngineEndsWrongFalsely : Prop := engineEndsRow.holds Tryd.pinned (OpenSpec.ofChange engineEndsWrong)

/- THE SECOND FORM. 'bulk': how many values and letters a reading holds, each counted each time it is reached (what is shared counts as often as it is met; a slice's spare places count too). A statement '..UptoSaid' is the law's where the arguments, and the package variables that the reading takes, are together of bulk at most 1048576: NARROWER than '..Said'. Prove '..Said' where nothing that the law and all that it calls make is longer than what came in: it says more and counts as full. Else prove '..UptoSaid'. A law counts once. -/
mutual
def uptoBulk {H : Type} : DataW H → Nat
  | .lit (.string bytes) => bytes.length + 1
  | .lit _ => 1
  | .nil => 1
  | .ptr d => uptoBulk d + 1
  | .slice elems spare => uptoBulkAll elems + uptoBulkAll spare + 1
  | .agg parts => uptoBulkAll parts + 1
  | .iface _ d => uptoBulk d + 1
  | .map entries => uptoBulkEntries entries + 1
  | .held _ => 1
def uptoBulkAll {H : Type} : List (DataW H) → Nat
  | [] => 0
  | d :: r => uptoBulk d + uptoBulkAll r
def uptoBulkEntries {H : Type} : List (Lit × DataW H) → Nat
  | [] => 0
  | x :: r => uptoBulkEntry x + uptoBulkEntries r
def uptoBulkEntry {H : Type} : Lit × DataW H → Nat
  | (.string bytes, d) => bytes.length + uptoBulk d + 1
  | (_, d) => uptoBulk d + 1
 end
def uptoSmall : (H : Type) → List (DataW H) → Bool := fun _ ds => decide (uptoBulkAll ds ≤ 1048576)
def OpenSpec.upto (s : _root_.Go.ChangeSpec) : _root_.Go.OpenSpec := { _root_.Go.OpenSpec.ofChange s with cond := some uptoSmall }

/-- 'bioscopelaw04.EngineEasier', WHERE WHAT IT READS IS OF BULK AT MOST 1048576: true; the input reads as it did. -/
def engineEasierUptoRow : OpenClaim := { program := "ytfbongdjicmegaadoor", sum := "05af58d80e83a7415ea5770a29f216cb8e270857312de27110e3e840f7182350", func := "bioscope/bioscopelaw04.EngineEasier", spec := "engineEasier", unfollowed := true, recurses := true, named := ["bioscope/engine.bookBounds"], plainKeys := false, apart := false, laid := [("bioscope/engine.bookBounds", laid_bioscope_engine_bookBounds)], narrowed := true }
def EngineEasierUptoSaid : Prop := engineEasierUptoRow.holds Tryd.pinned (OpenSpec.upto engineEasierSpec)

/-- 'bioscopelaw04.EngineTrue', WHERE WHAT IT READS IS OF BULK AT MOST 1048576: true; the input reads as it did. -/
def engineTrueUptoRow : OpenClaim := { program := "ytfbongdjicmegaadoor", sum := "05af58d80e83a7415ea5770a29f216cb8e270857312de27110e3e840f7182350", func := "bioscope/bioscopelaw04.EngineTrue", spec := "engineTrue", unfollowed := true, recurses := true, named := ["bioscope/engine.bookBounds"], plainKeys := false, apart := false, laid := [("bioscope/engine.bookBounds", laid_bioscope_engine_bookBounds)], narrowed := true }
def EngineTrueUptoSaid : Prop := engineTrueUptoRow.holds Tryd.pinned (OpenSpec.upto engineTrueSpec)

/-- 'bioscopelaw04.EngineEnds', WHERE WHAT IT READS IS OF BULK AT MOST 1048576: true; the input reads as it did. -/
def engineEndsUptoRow : OpenClaim := { program := "ytfbongdjicmegaadoor", sum := "05af58d80e83a7415ea5770a29f216cb8e270857312de27110e3e840f7182350", func := "bioscope/bioscopelaw04.EngineEnds", spec := "engineEnds", unfollowed := true, recurses := true, named := ["bioscope/engine.bookBounds"], plainKeys := false, apart := false, laid := [("bioscope/engine.bookBounds", laid_bioscope_engine_bookBounds)], narrowed := true }
def EngineEndsUptoSaid : Prop := engineEndsUptoRow.holds Tryd.pinned (OpenSpec.upto engineEndsSpec)

end Rows
end Go.Proofs.YtfbongdjicmegaaDoor
