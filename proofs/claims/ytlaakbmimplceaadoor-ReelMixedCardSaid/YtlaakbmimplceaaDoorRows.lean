/-
  NARROWER THAN 'FOR EVERY INPUT', by the rows' own cells (each row's printed sentence says how): ReelMixed: laid · ReelFirst: laid · ReelStrange: laid · ReelNarrow: laid.
  DERIVED. THE GIVEN ROWS OF THIS SEAT. 4 by the template 'for every input the law returns true; each argument reads behind the call as it read before'; 0 by the template 'total and deterministic' (their statements: YtlaakbmimplceaaDoorTotals.lean).
  GIVEN WITH THE SEED: the statements are not yours to turn. If you find one false, say at which input.
  Laid BY PROGRAM, IN A SANDBOX (cutbox-rows.mjs): the forced cells as the released guide's own fill.sh prints them over the translation 35bb6e65c74290bc… (all of the seat's roots in one cut). By AI agents, Wed Nov 11 2026. No macro, syntax, notation, axiom, sorry.
-/
import Derived.Test.YtlaakbmimplceaaDoorChecked
import GoSem.Claim
import GoSem.ClaimJoined
import GoSem.ClaimMapViews
import Derived.JoinedTies
import Derived.KernelRfl
namespace Go.Proofs.YtlaakbmimplceaaDoor
/- THE CELL 'sum', in the pinned program and in every row, IS THE sha256 OF THE DUMP (.gsa) THAT YtlaakbmimplceaaDoorProg.lean LOADS. Nothing in Lean hashes anything: it is a label: what it is worth is what the hold of that sum in a sandbox is worth. -/
noncomputable def Tryd.pinned : Pinned := { name := "ytlaakbmimplceaadoor", sum := "35bb6e65c74290bcf072a6e26a3ef876fb86176f2a502687aca9d021f832f290", checked := Tryd.checked }
namespace Rows
def none {H : Type} : Left H := { results := [], args := [] }

/- WHAT THE LISTED PACKAGE-LEVEL VARIABLES READ AS WHEN THE CALL BEGINS. Each datum BY PROGRAM (the guide's laid-datum.mjs) off the statement by which the dump's own 'gosem.cut.vars' lays the variable. In a bare row this is a premise. The card (YtlaakbmimplceaaDoorCards.lean) ties it to the program's text. -/
def laid_bioscope_reel_reelBounds {H : Type} : DataW H := .agg [.agg [.lit (.int .i64 0), .lit (.int .i64 99)], .agg [.lit (.int .i64 0), .lit (.int .i64 99)], .agg [.lit (.int .i64 1), .lit (.int .i64 1200)]]
def laid_bioscope_reel_filmBounds {H : Type} : DataW H := .agg [.agg [.lit (.int .i64 1), .lit (.int .i64 20)], .agg [.lit (.int .i64 0), .lit (.int .i64 50)]]

/-- 'bioscopelaw01.ReelMixed': WHATEVER THE INPUT: true; the input reads as it did. -/
def reelMixedSpec : ChangeSpec := { name := "reelMixed", fn := fun _ => fun
  | [d1, d2, d3] => { results := [.lit (.bool true)], args := [d1, d2, d3] }
  | _ => none }
def reelMixedRow : OpenClaim := { program := "ytlaakbmimplceaadoor", sum := "35bb6e65c74290bcf072a6e26a3ef876fb86176f2a502687aca9d021f832f290", func := "bioscope/bioscopelaw01.ReelMixed", spec := "reelMixed", unfollowed := true, recurses := true, named := ["bioscope/reel.filmBounds", "bioscope/reel.reelBounds"], plainKeys := false, apart := false, laid := [("bioscope/reel.reelBounds", laid_bioscope_reel_reelBounds), ("bioscope/reel.filmBounds", laid_bioscope_reel_filmBounds)] }
def ReelMixedSaid : Prop := reelMixedRow.holds Tryd.pinned (OpenSpec.ofChange reelMixedSpec)

/-- ITS FALSE NEIGHBOUR: 'it returns false'. Refute it at one input. -/
def reelMixedWrong : ChangeSpec := { name := "reelMixed", fn := fun _ => fun
  | [d1, d2, d3] => { results := [.lit (.bool false)], args := [d1, d2, d3] }
  | _ => none }
def ReelMixedWrongFalsely : Prop := reelMixedRow.holds Tryd.pinned (OpenSpec.ofChange reelMixedWrong)

/-- 'bioscopelaw01.ReelFirst': WHATEVER THE INPUT: true; the input reads as it did. -/
def reelFirstSpec : ChangeSpec := { name := "reelFirst", fn := fun _ => fun
  | [d1, d2] => { results := [.lit (.bool true)], args := [d1, d2] }
  | _ => none }
def reelFirstRow : OpenClaim := { program := "ytlaakbmimplceaadoor", sum := "35bb6e65c74290bcf072a6e26a3ef876fb86176f2a502687aca9d021f832f290", func := "bioscope/bioscopelaw01.ReelFirst", spec := "reelFirst", unfollowed := true, recurses := true, named := ["bioscope/reel.filmBounds", "bioscope/reel.reelBounds"], plainKeys := false, apart := false, laid := [("bioscope/reel.reelBounds", laid_bioscope_reel_reelBounds), ("bioscope/reel.filmBounds", laid_bioscope_reel_filmBounds)] }
def ReelFirstSaid : Prop := reelFirstRow.holds Tryd.pinned (OpenSpec.ofChange reelFirstSpec)

/-- ITS FALSE NEIGHBOUR: 'it returns false'. Refute it at one input. -/
def reelFirstWrong : ChangeSpec := { name := "reelFirst", fn := fun _ => fun
  | [d1, d2] => { results := [.lit (.bool false)], args := [d1, d2] }
  | _ => none }
def ReelFirstWrongFalsely : Prop := reelFirstRow.holds Tryd.pinned (OpenSpec.ofChange reelFirstWrong)

/-- 'bioscopelaw01.ReelStrange': WHATEVER THE INPUT: true; the input reads as it did. -/
def reelStrangeSpec : ChangeSpec := { name := "reelStrange", fn := fun _ => fun
  | [d1, d2] => { results := [.lit (.bool true)], args := [d1, d2] }
  | _ => none }
def reelStrangeRow : OpenClaim := { program := "ytlaakbmimplceaadoor", sum := "35bb6e65c74290bcf072a6e26a3ef876fb86176f2a502687aca9d021f832f290", func := "bioscope/bioscopelaw01.ReelStrange", spec := "reelStrange", unfollowed := true, recurses := true, named := ["bioscope/reel.filmBounds", "bioscope/reel.reelBounds"], plainKeys := false, apart := false, laid := [("bioscope/reel.reelBounds", laid_bioscope_reel_reelBounds), ("bioscope/reel.filmBounds", laid_bioscope_reel_filmBounds)] }
def ReelStrangeSaid : Prop := reelStrangeRow.holds Tryd.pinned (OpenSpec.ofChange reelStrangeSpec)

/-- ITS FALSE NEIGHBOUR: 'it returns false'. Refute it at one input. -/
def reelStrangeWrong : ChangeSpec := { name := "reelStrange", fn := fun _ => fun
  | [d1, d2] => { results := [.lit (.bool false)], args := [d1, d2] }
  | _ => none }
def ReelStrangeWrongFalsely : Prop := reelStrangeRow.holds Tryd.pinned (OpenSpec.ofChange reelStrangeWrong)

/-- 'bioscopelaw01.ReelNarrow': WHATEVER THE INPUT: true; the input reads as it did. -/
def reelNarrowSpec : ChangeSpec := { name := "reelNarrow", fn := fun _ => fun
  | [d1, d2] => { results := [.lit (.bool true)], args := [d1, d2] }
  | _ => none }
def reelNarrowRow : OpenClaim := { program := "ytlaakbmimplceaadoor", sum := "35bb6e65c74290bcf072a6e26a3ef876fb86176f2a502687aca9d021f832f290", func := "bioscope/bioscopelaw01.ReelNarrow", spec := "reelNarrow", unfollowed := true, recurses := true, named := ["bioscope/reel.filmBounds", "bioscope/reel.reelBounds"], plainKeys := false, apart := false, laid := [("bioscope/reel.reelBounds", laid_bioscope_reel_reelBounds), ("bioscope/reel.filmBounds", laid_bioscope_reel_filmBounds)] }
def ReelNarrowSaid : Prop := reelNarrowRow.holds Tryd.pinned (OpenSpec.ofChange reelNarrowSpec)

/-- ITS FALSE NEIGHBOUR: 'it returns false'. Refute it at one input. -/
def reelNarrowWrong : ChangeSpec := { name := "reelNarrow", fn := fun _ => fun
  | [d1, d2] => { results := [.lit (.bool false)], args := [d1, d2] }
  | _ => none }
def ReelNarrowWrongFalsely : Prop := reelNarrowRow.holds Tryd.pinned (OpenSpec.ofChange reelNarrowWrong)

/- THE SECOND FORM. 'bulk': how many values and letters a reading holds, each counted each time it is reached (what is shared counts as often as it is met; a slice's spare places count too). A statement '..UptoSaid' is the law's where the arguments, and the package variables that the reading takes, are together of bulk at most 1048576: NARROWER than '..Said'. Prove '..Said' where nothing that the law and all that it calls make is longer than what came in: it says more and counts as full. Else prove '..UptoSaid'. A law counts once. -/
mutual
def uptoBulk {H : Type} : DataW H → Nat
  | .lit (.string bytes) => bytes.length + 1
  | .lit _ => 1
  | .nil => 1
  | .ptr d => uptoBulk d + 1
  | .slice elems spare => uptoBulkAll elems + uptoBulkAll spare + 1
  | .agg parts => uptoBulkAll parts + 1
  | .iface _ d => uptoBulk d + 1
  | .map entries => uptoBulkEntries entries + 1
  | .held _ => 1
def uptoBulkAll {H : Type} : List (DataW H) → Nat
  | [] => 0
  | d :: r => uptoBulk d + uptoBulkAll r
def uptoBulkEntries {H : Type} : List (Lit × DataW H) → Nat
  | [] => 0
  | x :: r => uptoBulkEntry x + uptoBulkEntries r
def uptoBulkEntry {H : Type} : Lit × DataW H → Nat
  | (.string bytes, d) => bytes.length + uptoBulk d + 1
  | (_, d) => uptoBulk d + 1
 end
def uptoSmall : (H : Type) → List (DataW H) → Bool := fun _ ds => decide (uptoBulkAll ds ≤ 1048576)
def OpenSpec.upto (s : _root_.Go.ChangeSpec) : _root_.Go.OpenSpec := { _root_.Go.OpenSpec.ofChange s with cond := some uptoSmall }

/-- 'bioscopelaw01.ReelMixed', WHERE WHAT IT READS IS OF BULK AT MOST 1048576: true; the input reads as it did. -/
def reelMixedUptoRow : OpenClaim := { program := "ytlaakbmimplceaadoor", sum := "35bb6e65c74290bcf072a6e26a3ef876fb86176f2a502687aca9d021f832f290", func := "bioscope/bioscopelaw01.ReelMixed", spec := "reelMixed", unfollowed := true, recurses := true, named := ["bioscope/reel.filmBounds", "bioscope/reel.reelBounds"], plainKeys := false, apart := false, laid := [("bioscope/reel.reelBounds", laid_bioscope_reel_reelBounds), ("bioscope/reel.filmBounds", laid_bioscope_reel_filmBounds)], narrowed := true }
def ReelMixedUptoSaid : Prop := reelMixedUptoRow.holds Tryd.pinned (OpenSpec.upto reelMixedSpec)

/-- 'bioscopelaw01.ReelFirst', WHERE WHAT IT READS IS OF BULK AT MOST 1048576: true; the input reads as it did. -/
def reelFirstUptoRow : OpenClaim := { program := "ytlaakbmimplceaadoor", sum := "35bb6e65c74290bcf072a6e26a3ef876fb86176f2a502687aca9d021f832f290", func := "bioscope/bioscopelaw01.ReelFirst", spec := "reelFirst", unfollowed := true, recurses := true, named := ["bioscope/reel.filmBounds", "bioscope/reel.reelBounds"], plainKeys := false, apart := false, laid := [("bioscope/reel.reelBounds", laid_bioscope_reel_reelBounds), ("bioscope/reel.filmBounds", laid_bioscope_reel_filmBounds)], narrowed := true }
def ReelFirstUptoSaid : Prop := reelFirstUptoRow.holds Tryd.pinned (OpenSpec.upto reelFirstSpec)

/-- 'bioscopelaw01.ReelStrange', WHERE WHAT IT READS IS OF BULK AT MOST 1048576: true; the input reads as it did. -/
def reelStrangeUptoRow : OpenClaim := { program := "ytlaakbmimplceaadoor", sum := "35bb6e65c74290bcf072a6e26a3ef876fb86176f2a502687aca9d021f832f290", func := "bioscope/bioscopelaw01.ReelStrange", spec := "reelStrange", unfollowed := true, recurses := true, named := ["bioscope/reel.filmBounds", "bioscope/reel.reelBounds"], plainKeys := false, apart := false, laid := [("bioscope/reel.reelBounds", laid_bioscope_reel_reelBounds), ("bioscope/reel.filmBounds", laid_bioscope_reel_filmBounds)], narrowed := true }
def ReelStrangeUptoSaid : Prop := reelStrangeUptoRow.holds Tryd.pinned (OpenSpec.upto reelStrangeSpec)

/-- 'bioscopelaw01.ReelNarrow', WHERE WHAT IT READS IS OF BULK AT MOST 1048576: true; the input reads as it did. -/
def reelNarrowUptoRow : OpenClaim := { program := "ytlaakbmimplceaadoor", sum := "35bb6e65c74290bcf072a6e26a3ef876fb86176f2a502687aca9d021f832f290", func := "bioscope/bioscopelaw01.ReelNarrow", spec := "reelNarrow", unfollowed := true, recurses := true, named := ["bioscope/reel.filmBounds", "bioscope/reel.reelBounds"], plainKeys := false, apart := false, laid := [("bioscope/reel.reelBounds", laid_bioscope_reel_reelBounds), ("bioscope/reel.filmBounds", laid_bioscope_reel_filmBounds)], narrowed := true }
def ReelNarrowUptoSaid : Prop := reelNarrowUptoRow.holds Tryd.pinned (OpenSpec.upto reelNarrowSpec)

end Rows
end Go.Proofs.YtlaakbmimplceaaDoor
