/- THE LAW OF WHAT IS LEFT: its runs for what is asked wrongly. -/
import Derived.Test.YtegeacnehkpinaaDoorSxLeft
import Derived.Test.YtegeacnehkpinaaDoorSxFresh
/-! THE LAW OF WHAT IS LEFT: its runs. -/
namespace Go.Sx
open Go.RowKit Go.Proofs
set_option maxRecDepth 100000
/-- the closed call, and calls as they are said -/
noncomputable def orcS (l : List CSpec) (f : FuncId) (args : List AV) (h : Heap) : Option (T (AV × Heap)) := cond (Nat.beq f 20) (closedOrc glE args h) (anyOrc args h f l)
noncomputable def tbS (l : List CSpec) : Tabs := ⟨Sx.Tryd.ft.get, lFind Sx.Tryd.rt, 2000, orcS l⟩
noncomputable def lawRun (l : List CSpec) (args : List AV) (view : List (Nat × List AV)) : T (AV × Heap) := evalN (tbS l) 60 false 3 args (viewHeap 2000 view)

/-! ## A valid evening and plan, one of its parts: what is left has names of its own -/
noncomputable def vX : AV := .tup [.agg [vi 110, vi 111], .agg [vi 112, vi 113], vi 114]
noncomputable def orcX (L k : Nat) (f : FuncId) (args : List AV) (h : Heap) : Option (T (AV × Heap)) :=
  cond (Nat.beq f 20) (closedOrc glE args h) (cond (Nat.beq f 18) ((leftC 18 L k).orcX vX args h) (cond (Nat.beq f 19) ((leftC 19 L k).orcX vX args h) (anyOrc args h f [evTrue L, ckZero L])))
noncomputable def tbX (L k : Nat) : Tabs := ⟨Sx.Tryd.ft.get, lFind Sx.Tryd.rt, 2000, orcX L k⟩
noncomputable def lawX (L k : Nat) : Bool := allK isTrueK (evalN (tbX L k) 60 false 3 [bookV L, planV L, .agg [vi 88, li k]] (viewHeap 2000 (viewP L))) (knOf (leftQ L) (leftR L))
noncomputable def isOut (v : AV) : Bool :=
  match v with
  | .tup [.agg [.int .i64 a, .int .i64 b], .agg [.int .i64 c, .int .i64 d], .int .i64 e] => and (varsI 110 a) (and (varsI 110 b) (and (varsI 110 c) (and (varsI 110 d) (varsI 110 e))))
  | _ => false

/-! ## A plan that is none, or a part that there is not -/
noncomputable def planC : Nat → Nat → Nat → List BE
  | 0, _, _ => []
  | n + 1, b, j => leE (.lit 0) (vE j) :: leE (vE j) (vE (b + 3)) :: leE (.lit 0) (vE (j + 1)) :: leE (vE (j + 1)) (bin .sub (vE (b + 3)) (vE j)) :: planC n (b + 4) (j + 2)
noncomputable def askC (L : Nat) : List BE := planC L 30 60 ++ [leE (.lit 0) (vE 89), .cmp .lss (vE 89) (.lit L)]
noncomputable def errA (e : Int) : AV := .tup [.agg [li 0, li 0], .agg [li 0, li 0], li e]
noncomputable def leftBad (f L : Nat) : CSpec := mkC f [bookV L, planV L, vi 89] (viewP L) (evQ L) (evR L) (.br (conjC (askC L)) (.fail 1) (.ret (errA 41)))
noncomputable def badCk (f L : Nat) : Bool := (leftBad f L).chkK [] (evQ L) (evR L) (runS (tbS [evTrue L, ckZero L]) (leftBad f L))
noncomputable def specsB (L : Nat) : List CSpec := [evTrue L, ckZero L, leftBad 18 L, leftBad 19 L]
noncomputable def lawB (L : Nat) : Bool := allK isTrueK (lawRun (specsB L) [bookV L, planV L, .agg [vi 88, vi 89]] (viewP L)) ((knOf (evQ L) (evR L)).bool (conjC (askC L)) false)
/-- a plan of another length -/
noncomputable def lawN (L : Nat) : Bool := allK isTrueK (lawRun [evTrue L, ckZero L] [bookV L, .sliceU 96, .agg [vi 88, vi 89]] (viewB L)) (addK false (.cmp .eql (vE 96) (.lit L)) (knOf (evQ L) (evR L)))

/-! ## An evening that is not valid -/
noncomputable def lawI (L : Nat) : Bool := allK isTrueK (lawRun [evFalse L, ckForty L] [bookV L, .sliceU 96, .agg [vi 88, vi 89]] (viewB L)) ⟨.nil, [], [⟨conjC (csV L), false⟩]⟩
noncomputable def bookU : AV := .agg (bookL (.sliceU 95))
/-- too few parts, or too many -/
noncomputable def fewC (many : Bool) : BE := cond many (leE (.lit 6) (vE 95)) (leE (vE 95) (.lit 0))
noncomputable def evNo (many : Bool) : CSpec := mkC 51 [bookU] glE [] [fewC many] (.ret (.bool (.lit false)))
noncomputable def ckNo (many : Bool) : CSpec := mkC 17 [bookU] glE [] [fewC many] (.ret (li 40))
noncomputable def noCkU (many : Bool) : Bool := and ((evNo many).chkK [] [] [fewC many] (runS tb0 (evNo many))) ((ckNo many).chkK [] [] [fewC many] (runS tb0 (ckNo many)))
noncomputable def lawU (many : Bool) : Bool := allK isTrueK (lawRun [evNo many, ckNo many] [bookU, .sliceU 96, .agg [vi 88, vi 89]] glE) (knOf [] [fewC many])
end Go.Sx
/-! THE LAW OF WHAT IS LEFT: its runs for what is asked wrongly. -/
namespace Go.Sx
open Go.RowKit Go.Proofs
set_option maxRecDepth 100000
theorem noCkU_t : noCkU true = true := by kernel_rfl
theorem noCkU_f : noCkU false = true := by kernel_rfl
theorem lawU_t : lawU true = true := by kernel_rfl
theorem lawU_f : lawU false = true := by kernel_rfl
theorem lawI_1 : lawI 1 = true := by kernel_rfl
theorem lawN_1 : lawN 1 = true := by kernel_rfl
theorem lawI_2 : lawI 2 = true := by kernel_rfl
theorem lawN_2 : lawN 2 = true := by kernel_rfl
theorem lawI_3 : lawI 3 = true := by kernel_rfl
theorem lawN_3 : lawN 3 = true := by kernel_rfl
theorem lawI_4 : lawI 4 = true := by kernel_rfl
theorem lawN_4 : lawN 4 = true := by kernel_rfl
theorem lawI_5 : lawI 5 = true := by kernel_rfl
theorem lawN_5 : lawN 5 = true := by kernel_rfl
end Go.Sx
