/- THE LAW OF THE FEET: its run, for a film of no reel, or of more than six. -/
import Derived.Test.YtjbagflebkiplaaDoorSxLawFeet
import Derived.Test.YtjbagflebkiplaaDoorSxLin
/-! THE LAW OF THE FEET: its run, for a film of no reel, or of more than six. -/
namespace Go.Sx
open Go.RowKit Go.Proofs
set_option maxRecDepth 100000
noncomputable def orcS (f : FuncId) (args : List AV) (h : Heap) : Option (T (AV × Heap)) := cond (Nat.beq f 25) (closedOrc glV args h) none
noncomputable def tbS : Tabs := ⟨Sx.Tryd.ft.get, lFind Sx.Tryd.rt, 2000, orcS⟩
noncomputable def lawS (s : AV) : Bool :=
  allR isTrueR (evalN tbS 60 false 5 [.agg [s, vi 0, vi 1, vi 2, vi 3, vi 4], .agg [vi 88, vi 89, vi 90]] (viewHeap 2000 glV)) []
theorem short_nil : lawS .nilslice = true := by kernel_rfl
theorem short_zero : lawS (.sliceX 1001 6 0 0) = true := by kernel_rfl
/-- more reels than there can be: how many, and nothing else -/
noncomputable def lawU : Bool :=
  allK isTrueK (evalN tbS 60 false 5 [.agg [.sliceU 95, vi 0, vi 1, vi 2, vi 3, vi 4], .agg [vi 88, vi 89, vi 90]] (viewHeap 2000 glV)) (knOf [] [.cmp .leq (.lit 7) (.var 95)])
theorem long_any : lawU = true := by kernel_rfl
end Go.Sx
