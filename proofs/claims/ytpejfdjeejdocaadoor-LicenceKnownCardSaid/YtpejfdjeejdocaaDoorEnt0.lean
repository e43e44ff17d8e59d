/- CALLS, MADE: what is called, what it reads, what it hands back. -/
import Derived.Test.YtpejfdjeejdocaaDoorTabFn
import Derived.Test.YtpejfdjeejdocaaDoorSxEnt
import Derived.Test.YtpejfdjeejdocaaDoorSxStart
/-! CALLS, MADE: what is called, what it reads, what it hands back. -/
namespace Go.Sx
open Go.RowKit Go.Proofs
set_option maxRecDepth 100000
noncomputable def pT : Par := ⟨Tryd.prog, rcOf Tryd.rows, fun _ _ => True⟩
noncomputable def tb0 : Tabs := ⟨Sx.Tryd.ft.get, lFind Sx.Tryd.rt, 2000, fun _ _ _ => none⟩
theorem tabs0 : TabOk pT Sx.Tryd.tt.get tb0 := Tryd.tab (fun _ _ _ => none) (fun _ _ _ _ h => by cases h) 2000
noncomputable def gl : List (Nat × List AV) := [(0, [li 1, li 4, li 0, li 20, li 0, li 4, li 0, li 65535, li 0, li 1439, li 0, li 4]), (1, [li 1, li 30, li 0, li 1000, li 0, li 30])]
end Go.Sx
