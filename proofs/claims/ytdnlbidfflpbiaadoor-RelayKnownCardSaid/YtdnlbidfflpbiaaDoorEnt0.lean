/- CALLS, MADE: what is called, what it reads, what it hands back. -/
import Derived.Test.YtdnlbidfflpbiaaDoorTabFn
import Derived.Test.YtdnlbidfflpbiaaDoorSxEnt
/-! CALLS, MADE: what is called, what it reads, what it hands back. -/
namespace Go.Sx
open Go.RowKit Go.Proofs
set_option maxRecDepth 100000
noncomputable def pT : Par := ⟨Tryd.prog, rcOf Tryd.rows, fun _ _ => True⟩
noncomputable def tb0 : Tabs := ⟨Sx.Tryd.ft.get, lFind Sx.Tryd.rt, 2000, fun _ _ _ => none⟩
theorem tabs0 : TabOk pT Sx.Tryd.tt.get tb0 := Tryd.tab (fun _ _ _ => none) (fun _ _ _ _ h => by cases h) 2000
noncomputable def gl : List (Nat × List AV) := [(0, [li 0, li 998, li 1, li 6]), (1, [li 0, li 3600, li 0, li 3600]), (2, [li 1, li 20, li 0, li 50]), (3, [li 0, li 99, li 0, li 99, li 1, li 1200])]
noncomputable def cl0 : List AV := [(li 1), (li 1), (li 4), (li 4), (li 1000), (li 1000), (li 20), (li 20), (li 8), (li 8), (li 800), (li 800), (li 9), (li 9), (li 12), (li 12), (li 600), (li 600)]
noncomputable def cl1 : List AV := [(li 1), (li 1), (li 4), (li 4), (li 1000), (li 1000), (li 5), (li 5), (li 8), (li 8), (li 800), (li 800), (li 9), (li 9), (li 12), (li 12), (li 600), (li 600)]
end Go.Sx
