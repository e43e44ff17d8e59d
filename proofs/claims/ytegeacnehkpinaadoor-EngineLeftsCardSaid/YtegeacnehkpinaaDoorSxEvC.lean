/- THE CALLS of an evening, held against their runs. -/
import Derived.Test.YtegeacnehkpinaaDoorTabFn
import Derived.Test.YtegeacnehkpinaaDoorSxEvF
/-! THE CALLS of an evening, held against their runs. -/
namespace Go.Sx
open Go.RowKit Go.Proofs
set_option maxRecDepth 100000
noncomputable def pT : Par := ⟨Tryd.prog, rcOf Tryd.rows, fun _ => True⟩
noncomputable def tb0 : Tabs := ⟨Sx.Tryd.ft.get, lFind Sx.Tryd.rt, 2000, fun _ _ _ => none⟩
theorem tabs0 : TabOk pT Sx.Tryd.tt.get tb0 := Tryd.tab (fun _ _ _ => none) (fun _ _ _ _ h => by cases h) 2000
noncomputable def runS (tb : Tabs) (c : CSpec) : T (AV × Heap) := evalN tb 60 false c.f c.args (viewHeap c.nv c.view)
noncomputable def evCk (L : Nat) : Bool := and ((evTrue L).chkK [] (evQ L) (evR L) (runS tb0 (evTrue L))) ((ckZero L).chkK [] (evQ L) (evR L) (runS tb0 (ckZero L)))
theorem evCk_1 : evCk 1 = true := by kernel_rfl
theorem evCk_2 : evCk 2 = true := by kernel_rfl
theorem evCk_3 : evCk 3 = true := by kernel_rfl
theorem evCk_4 : evCk 4 = true := by kernel_rfl
theorem evCk_5 : evCk 5 = true := by kernel_rfl
noncomputable def noCk (L : Nat) : Bool := and ((evFalse L).chkK [] [] [] (runS tb0 (evFalse L))) ((ckForty L).chkK [] [] [] (runS tb0 (ckForty L)))
theorem noCk_1 : noCk 1 = true := by kernel_rfl
theorem noCk_2 : noCk 2 = true := by kernel_rfl
theorem noCk_3 : noCk 3 = true := by kernel_rfl
theorem noCk_4 : noCk 4 = true := by kernel_rfl
theorem noCk_5 : noCk 5 = true := by kernel_rfl
noncomputable def stepCk (q : Nat × Nat) : Bool := and ((stepC false q.1 q.2).chkK [] (stepQ q.2) [] (runS tb0 (stepC false q.1 q.2))) ((stepC true q.1 q.2).chkK [] (stepQ q.2) [] (runS tb0 (stepC true q.1 q.2)))
end Go.Sx
