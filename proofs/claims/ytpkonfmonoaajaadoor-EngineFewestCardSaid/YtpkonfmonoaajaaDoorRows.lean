/-
  NARROWER THAN 'FOR EVERY INPUT', by the rows' own cells (each row's printed sentence says how): EngineLonger: laid · EngineParts: laid · EngineCoal: laid · EngineFewest: laid.
  DERIVED. THE GIVEN ROWS OF THIS SEAT. 4 by the template 'for every input the law returns true; each argument reads behind the call as it read before'; 0 by the template 'total and deterministic' (their statements: YtpkonfmonoaajaaDoorTotals.lean).
  GIVEN WITH THE SEED: the statements are not yours to turn. If you find one false, say at which input.
  Laid BY PROGRAM, IN A SANDBOX (cutbox-rows.mjs): the forced cells as the released guide's own fill.sh prints them over the translation 5630a7cbabef4b75… (all of the seat's roots in one cut). By AI agents, Wed Nov 11 2026. No macro, syntax, notation, axiom, sorry.
-/
import Derived.Test.YtpkonfmonoaajaaDoorChecked
import GoSem.Claim
import GoSem.ClaimJoined
import GoSem.ClaimMapViews
import Derived.JoinedTies
import Derived.KernelRfl
namespace Go.Proofs.YtpkonfmonoaajaaDoor
/- THE CELL 'sum', in the pinned program and in every row, IS THE sha256 OF THE DUMP (.gsa) THAT YtpkonfmonoaajaaDoorProg.lean LOADS. Nothing in Lean hashes anything: it is a label: what it is worth is what the hold of that sum in a sandbox is worth. -/
noncomputable def Tryd.pinned : Pinned := { name := "ytpkonfmonoaajaadoor", sum := "5630a7cbabef4b75ea4ee654c80df08b6c3fdda51722c720e312e27be723c220", checked := Tryd.checked }
namespace Rows
def none {H : Type} : Left H := { results := [], args := [] }

/- WHAT THE LISTED PACKAGE-LEVEL VARIABLES READ AS WHEN THE CALL BEGINS. Each datum BY PROGRAM (the guide's laid-datum.mjs) off the statement by which the dump's own 'gosem.cut.vars' lays the variable. In a bare row this is a premise. The card (YtpkonfmonoaajaaDoorCards.lean) ties it to the program's text. -/
def laid_bioscope_engine_bookBounds {H : Type} : DataW H := .agg [.agg [.lit (.int .i64 1), .lit (.int .i64 99)], .agg [.lit (.int .i64 1), .lit (.int .i64 99)], .agg [.lit (.int .i64 1), .lit (.int .i64 20)], .agg [.lit (.int .i64 1), .lit (.int .i64 20)], .agg [.lit (.int .i64 0), .lit (.int .i64 60)], .agg [.lit (.int .i64 1), .lit (.int .i64 5)]]

/-- 'bioscopelaw04.EngineLonger': WHATEVER THE INPUT: true; the input reads as it did. -/
def engineLongerSpec : ChangeSpec := { name := "engineLonger", fn := fun _ => fun
  | [d1, d2] => { results := [.lit (.bool true)], args := [d1, d2] }
  | _ => none }
def engineLongerRow : OpenClaim := { program := "ytpkonfmonoaajaadoor", sum := "5630a7cbabef4b75ea4ee654c80df08b6c3fdda51722c720e312e27be723c220", func := "bioscope/bioscopelaw04.EngineLonger", spec := "engineLonger", unfollowed := true, recurses := true, named := ["bioscope/engine.bookBounds"], plainKeys := false, apart := false, laid := [("bioscope/engine.bookBounds", laid_bioscope_engine_bookBounds)] }
def EngineLongerSaid : Prop := engineLongerRow.holds Tryd.pinned (OpenSpec.ofChange engineLongerSpec)

/-- ITS FALSE NEIGHBOUR: 'it returns false'. Refute it at one input. -/
def engineLongerWrong : ChangeSpec := { name := "engineLonger", fn := fun _ => fun
  | [d1, d2] => { results := [.lit (.bool false)], args := [d1, d2] }
  | _ => none }
def EngineLongerWrongFalsely : Prop := engineLongerRow.holds Tryd.pinned (OpenSpec.ofChange engineLongerWrong)

/-- 'bioscopelaw04.EngineParts': WHATEVER THE INPUT: true; the input reads as it did. -/
def enginePartsSpec : ChangeSpec := { name := "engineParts", fn := fun _ => fun
  | [d1, d2] => { results := [.lit (.bool true)], args := [d1, d2] }
  | _ => none }
def enginePartsRow : OpenClaim := { program := "ytpkonfmonoaajaadoor", sum := "5630a7cbabef4b75ea4ee654c80df08b6c3fdda51722c720e312e27be723c220", func := "bioscope/bioscopelaw04.EngineParts", spec := "engineParts", unfollowed := true, recurses := true, named := ["bioscope/engine.bookBounds"], plainKeys := false, apart := false, laid := [("bioscope/engine.bookBounds", laid_bioscope_engine_bookBounds)] }
def EnginePartsSaid : Prop := enginePartsRow.holds Tryd.pinned (OpenSpec.ofChange enginePartsSpec)

/-- ITS FALSE NEIGHBOUR: 'it returns false'. Refute it at one input. -/
def enginePartsWrong : ChangeSpec := { name := "engineParts", fn := fun _ => fun
  | [d1, d2] => { results := [.lit (.bool false)], args := [d1, d2] }
  | _ => none }
def EnginePartsWrongFalsely : Prop := enginePartsRow.holds Tryd.pinned (OpenSpec.ofChange enginePartsWrong)

/-- 'bioscopelaw04.EngineCoal': WHATEVER THE INPUT: true; the input reads as it did. -/
def engineCoalSpec : ChangeSpec := { name := "engineCoal", fn := fun _ => fun
  | [d1, d2] => { results := [.lit (.bool true)], args := [d1, d2] }
  | _ => none }
def engineCoalRow : OpenClaim := { program := "ytpkonfmonoaajaadoor", sum := "5630a7cbabef4b75ea4ee654c80df08b6c3fdda51722c720e312e27be723c220", func := "bioscope/bioscopelaw04.EngineCoal", spec := "engineCoal", unfollowed := true, recurses := true, named := ["bioscope/engine.bookBounds"], plainKeys := false, apart := false, laid := [("bioscope/engine.bookBounds", laid_bioscope_engine_bookBounds)] }
def EngineCoalSaid : Prop := engineCoalRow.holds Tryd.pinned (OpenSpec.ofChange engineCoalSpec)

/-- ITS FALSE NEIGHBOUR: 'it returns false'. Refute it at one input. -/
def engineCoalWrong : ChangeSpec := { name := "engineCoal", fn := fun _ => fun
  | [d1, d2] => { results := [.lit (.bool false)], args := [d1, d2] }
  | _ => none }
def EngineCoalWrongFalsely : Prop := engineCoalRow.holds Tryd.pinned (OpenSpec.ofChange engineCoalWrong)

/-- 'bioscopelaw04.EngineFewest': WHATEVER THE INPUT: true; the input reads as it did. -/
def engineFewestSpec : ChangeSpec := { name := "engineFewest", fn := fun _ => fun
  | [d1, d2, d3] => { results := [.lit (.bool true)], args := [d1, d2, d3] }
  | _ => none }
def engineFewestRow : OpenClaim := { program := "ytpkonfmonoaajaadoor", sum := "5630a7cbabef4b75ea4ee654c80df08b6c3fdda51722c720e312e27be723c220", func := "bioscope/bioscopelaw04.EngineFewest", spec := "engineFewest", unfollowed := true, recurses := true, named := ["bioscope/engine.bookBounds"], plainKeys := false, apart := false, laid := [("bioscope/engine.bookBounds", laid_bioscope_engine_bookBounds)] }
def EngineFewestSaid : Prop := engineFewestRow.holds Tryd.pinned (OpenSpec.ofChange engineFewestSpec)

/-- ITS FALSE NEIGHBOUR: 'it returns false'. Refute it at one input. -/
def engineFewestWrong : ChangeSpec := { name := "engineFewest", fn := fun _ => fun
  | [d1, d2, d3] => { results := [.lit (.bool false)], args := [d1, d2, d3] }
  | _ => none }
def EngineFewestWrongFalsely : Prop := engineFewestRow.holds Tryd.pinned (OpenSpec.ofChange engineFewestWrong)

/- THE SECOND FORM. 'bulk': how many values and letters a reading holds, each counted each time it is reached (what is shared counts as often as it is met; a slice's spare places count too). A statement '..UptoSaid' is the law's where the arguments, and the package variables that the reading takes, are together of bulk at most 1048576: NARROWER than '..Said'. Prove '..Said' where nothing that the law and all that it calls make is longer than what came in: it says more and counts as full. Else prove '..UptoSaid'. A law counts once. -/
mutual
def uptoBulk {H : Type} : DataW H → Nat
  | .lit (.string bytes) => bytes.length + 1
  | .lit _ => 1
  | .nil => 1
  | .ptr d => uptoBulk d + 1
  | .slice elems spare => uptoBulkAll elems + uptoBulkAll spare + 1
  | .agg parts => uptoBulkAll parts + 1
  | .iface _ d => uptoBulk d + 1
  | .map entries => uptoBulkEntries entries + 1
  | .held _ => 1
def uptoBulkAll {H : Type} : List (DataW H) → Nat
  | [] => 0
  | d :: r => uptoBulk d + uptoBulkAll r
def uptoBulkEntries {H : Type} : List (Lit × DataW H) → Nat
  | [] => 0
  | x :: r => uptoBulkEntry x + uptoBulkEntries r
def uptoBulkEntry {H : Type} : Lit × DataW H → Nat
  | (.string bytes, d) => bytes.length + uptoBulk d + 1
  | (_, d) => uptoBulk d + 1
 end
def uptoSmall : (H : Type) → List (DataW H) → Bool := fun _ ds => decide (uptoBulkAll ds ≤ 1048576)
def OpenSpec.upto (s : _root_.Go.ChangeSpec) : _root_.Go.OpenSpec := { _root_.Go.OpenSpec.ofChange s with cond := some uptoSmall }

/-- 'bioscopelaw04.EngineLonger', WHERE WHAT IT READS IS OF BULK AT MOST 1048576: true; the input reads as it did. -/
def engineLongerUptoRow : OpenClaim := { program := "ytpkonfmonoaajaadoor", sum := "5630a7cbabef4b75ea4ee654c80df08b6c3fdda51722c720e312e27be723c220", func := "bioscope/bioscopelaw04.EngineLonger", spec := "engineLonger", unfollowed := true, recurses := true, named := ["bioscope/engine.bookBounds"], plainKeys := false, apart := false, laid := [("bioscope/engine.bookBounds", laid_bioscope_engine_bookBounds)], narrowed := true }
def EngineLongerUptoSaid : Prop := engineLongerUptoRow.holds Tryd.pinned (OpenSpec.upto engineLongerSpec)

/-- 'bioscopelaw04.EngineParts', WHERE WHAT IT READS IS OF BULK AT MOST 1048576: true; the input reads as it did. -/
def enginePartsUptoRow : OpenClaim := { program := "ytpkonfmonoaajaadoor", sum := "5630a7cbabef4b75ea4ee654c80df08b6c3fdda51722c720e312e27be723c220", func := "bioscope/bioscopelaw04.EngineParts", spec := "engineParts", unfollowed := true, recurses := true, named := ["bioscope/engine.bookBounds"], plainKeys := false, apart := false, laid := [("bioscope/engine.bookBounds", laid_bioscope_engine_bookBounds)], narrowed := true }
def EnginePartsUptoSaid : Prop := enginePartsUptoRow.holds Tryd.pinned (OpenSpec.upto enginePartsSpec)

/-- 'bioscopelaw04.EngineCoal', WHERE WHAT IT READS IS OF BULK AT MOST 1048576: true; the input reads as it did. -/
def engineCoalUptoRow : OpenClaim := { program := "ytpkonfmonoaajaadoor", sum := "5630a7cbabef4b75ea4ee654c80df08b6c3fdda51722c720e312e27be723c220", func := "bioscope/bioscopelaw04.EngineCoal", spec := "engineCoal", unfollowed := true, recurses := true, named := ["bioscope/engine.bookBounds"], plainKeys := false, apart := false, laid := [("bioscope/engine.bookBounds", laid_bioscope_engine_bookBounds)], narrowed := true }
def EngineCoalUptoSaid : Prop := engineCoalUptoRow.holds Tryd.pinned (OpenSpec.upto engineCoalSpec)

/-- 'bioscopelaw04.EngineFewest', WHERE WHAT IT READS IS OF BULK AT MOST 1048576: true; the input reads as it did. -/
def engineFewestUptoRow : OpenClaim := { program := "ytpkonfmonoaajaadoor", sum := "5630a7cbabef4b75ea4ee654c80df08b6c3fdda51722c720e312e27be723c220", func := "bioscope/bioscopelaw04.EngineFewest", spec := "engineFewest", unfollowed := true, recurses := true, named := ["bioscope/engine.bookBounds"], plainKeys := false, apart := false, laid := [("bioscope/engine.bookBounds", laid_bioscope_engine_bookBounds)], narrowed := true }
def EngineFewestUptoSaid : Prop := engineFewestUptoRow.holds Tryd.pinned (OpenSpec.upto engineFewestSpec)

end Rows
end Go.Proofs.YtpkonfmonoaajaaDoor
