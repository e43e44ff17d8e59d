/- CALLS, MADE: what is called, what it reads, what it hands back. -/
import Derived.Test.YtlpencfoibbdeaaDoorTabFn
import Derived.Test.YtlpencfoibbdeaaDoorSxEnt
import Derived.Test.YtlpencfoibbdeaaDoorSxStart
/-! CALLS, MADE: what is called, what it reads, what it hands back. -/
namespace Go.Sx
open Go.RowKit Go.Proofs
set_option maxRecDepth 100000
noncomputable def pT : Par := ⟨Tryd.prog, rcOf Tryd.rows⟩
noncomputable def tb0 : Tabs := ⟨Sx.Tryd.ft.get, lFind Sx.Tryd.rt, 2000, fun _ _ _ => none⟩
theorem tabs0 : TabOk pT Sx.Tryd.tt.get tb0 := Tryd.tab (fun _ _ _ => none) (fun _ _ _ _ h => by cases h) 2000
noncomputable def gl : List (Nat × List AV) := [(0, [li 1, li 6, li 0, li 6, li 0, li 60]), (1, [li 2, li 5, li 0, li 90, li 0, li 90])]
end Go.Sx
