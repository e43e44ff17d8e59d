/-
  NARROWER THAN 'FOR EVERY INPUT', by the rows' own cells (each row's printed sentence says how): LostKnown: laid.
  DERIVED. THE GIVEN ROWS OF THIS SEAT. 1 by the template 'for every input the law returns true; each argument reads behind the call as it read before'; 0 by the template 'total and deterministic' (their statements: YtedkhkeaioppnaaDoorTotals.lean).
  GIVEN WITH THE SEED: the statements are not yours to turn. If you find one false, say at which input.
  Laid BY PROGRAM, IN A SANDBOX (cutbox-rows.mjs): the forced cells as the released guide's own fill.sh prints them over the translation 75145e9ef7a8f27c… (all of the seat's roots in one cut). By AI agents, Wed Nov 11 2026. No macro, syntax, notation, axiom, sorry.
-/
import Derived.Test.YtedkhkeaioppnaaDoorChecked
import GoSem.Claim
import GoSem.ClaimJoined
import GoSem.ClaimMapViews
import Derived.JoinedTies
import Derived.KernelRfl
namespace Go.Proofs.YtedkhkeaioppnaaDoor
/- THE CELL 'sum', in the pinned program and in every row, IS THE sha256 OF THE DUMP (.gsa) THAT YtedkhkeaioppnaaDoorProg.lean LOADS. Nothing in Lean hashes anything: it is a label: what it is worth is what the hold of that sum in a sandbox is worth. -/
noncomputable def Tryd.pinned : Pinned := { name := "ytedkhkeaioppnaadoor", sum := "75145e9ef7a8f27c4725d7657c4b483c0431c2e26978e77bcefc12cf6f4c588e", checked := Tryd.checked }
namespace Rows
def none {H : Type} : Left H := { results := [], args := [] }

/- WHAT THE LISTED PACKAGE-LEVEL VARIABLES READ AS WHEN THE CALL BEGINS. Each datum BY PROGRAM (the guide's laid-datum.mjs) off the statement by which the dump's own 'gosem.cut.vars' lays the variable. In a bare row this is a premise. The card (YtedkhkeaioppnaaDoorCards.lean) ties it to the program's text. -/
def laid_bioscope_train_tableBounds {H : Type} : DataW H := .agg [.agg [.lit (.int .i64 1), .lit (.int .i64 6)], .agg [.lit (.int .i64 0), .lit (.int .i64 6)], .agg [.lit (.int .i64 0), .lit (.int .i64 60)]]
def laid_bioscope_train_trainBounds {H : Type} : DataW H := .agg [.agg [.lit (.int .i64 2), .lit (.int .i64 5)], .agg [.lit (.int .i64 0), .lit (.int .i64 90)], .agg [.lit (.int .i64 0), .lit (.int .i64 90)]]
def laid_bioscope_lost_bookBounds {H : Type} : DataW H := .agg [.agg [.lit (.int .i64 0), .lit (.int .i64 2879)], .agg [.lit (.int .i64 0), .lit (.int .i64 2)], .agg [.lit (.int .i64 0), .lit (.int .i64 6)]]

/-- 'bioscopelaw10.LostKnown': WHATEVER THE INPUT: true; the input reads as it did. -/
def lostKnownSpec : ChangeSpec := { name := "lostKnown", fn := fun _ => fun
  | [] => { results := [.lit (.bool true)], args := [] }
  | _ => none }
def lostKnownRow : OpenClaim := { program := "ytedkhkeaioppnaadoor", sum := "75145e9ef7a8f27c4725d7657c4b483c0431c2e26978e77bcefc12cf6f4c588e", func := "bioscope/bioscopelaw10.LostKnown", spec := "lostKnown", unfollowed := true, recurses := true, named := ["bioscope/lost.bookBounds", "bioscope/train.tableBounds", "bioscope/train.trainBounds"], plainKeys := false, apart := false, laid := [("bioscope/train.tableBounds", laid_bioscope_train_tableBounds), ("bioscope/train.trainBounds", laid_bioscope_train_trainBounds), ("bioscope/lost.bookBounds", laid_bioscope_lost_bookBounds)] }
def LostKnownSaid : Prop := lostKnownRow.holds Tryd.pinned (OpenSpec.ofChange lostKnownSpec)

/-- ITS FALSE NEIGHBOUR: 'it returns false'. Refute it at one input. -/
def lostKnownWrong : ChangeSpec := { name := "lostKnown", fn := fun _ => fun
  | [] => { results := [.lit (.bool false)], args := [] }
  | _ => none }
def LostKnownWrongFalsely : Prop := lostKnownRow.holds Tryd.pinned (OpenSpec.ofChange lostKnownWrong)

/- THE SECOND FORM. 'bulk': how many values and letters a reading holds, each counted each time it is reached (what is shared counts as often as it is met; a slice's spare places count too). A statement '..UptoSaid' is the law's where the arguments, and the package variables that the reading takes, are together of bulk at most 1048576: NARROWER than '..Said'. Prove '..Said' where nothing that the law and all that it calls make is longer than what came in: it says more and counts as full. Else prove '..UptoSaid'. A law counts once. -/
mutual
def uptoBulk {H : Type} : DataW H → Nat
  | .lit (.string bytes) => bytes.length + 1
  | .lit _ => 1
  | .nil => 1
  | .ptr d => uptoBulk d + 1
  | .slice elems spare => uptoBulkAll elems + uptoBulkAll spare + 1
  | .agg parts => uptoBulkAll parts + 1
  | .iface _ d => uptoBulk d + 1
  | .map entries => uptoBulkEntries entries + 1
  | .held _ => 1
def uptoBulkAll {H : Type} : List (DataW H) → Nat
  | [] => 0
  | d :: r => uptoBulk d + uptoBulkAll r
def uptoBulkEntries {H : Type} : List (Lit × DataW H) → Nat
  | [] => 0
  | x :: r => uptoBulkEntry x + uptoBulkEntries r
def uptoBulkEntry {H : Type} : Lit × DataW H → Nat
  | (.string bytes, d) => bytes.length + uptoBulk d + 1
  | (_, d) => uptoBulk d + 1
 end
def uptoSmall : (H : Type) → List (DataW H) → Bool := fun _ ds => decide (uptoBulkAll ds ≤ 1048576)
def OpenSpec.upto (s : _root_.Go.ChangeSpec) : _root_.Go.OpenSpec := { _root_.Go.OpenSpec.ofChange s with cond := some uptoSmall }

/-- 'bioscopelaw10.LostKnown', WHERE WHAT IT READS IS OF BULK AT MOST 1048576: true; the input reads as it did. -/
def lostKnownUptoRow : OpenClaim := { program := "ytedkhkeaioppnaadoor", sum := "75145e9ef7a8f27c4725d7657c4b483c0431c2e26978e77bcefc12cf6f4c588e", func := "bioscope/bioscopelaw10.LostKnown", spec := "lostKnown", unfollowed := true, recurses := true, named := ["bioscope/lost.bookBounds", "bioscope/train.tableBounds", "bioscope/train.trainBounds"], plainKeys := false, apart := false, laid := [("bioscope/train.tableBounds", laid_bioscope_train_tableBounds), ("bioscope/train.trainBounds", laid_bioscope_train_trainBounds), ("bioscope/lost.bookBounds", laid_bioscope_lost_bookBounds)], narrowed := true }
def LostKnownUptoSaid : Prop := lostKnownUptoRow.holds Tryd.pinned (OpenSpec.upto lostKnownSpec)

end Rows
end Go.Proofs.YtedkhkeaioppnaaDoor
