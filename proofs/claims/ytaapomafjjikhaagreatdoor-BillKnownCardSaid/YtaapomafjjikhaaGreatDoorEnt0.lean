/- CALLS, MADE: what is called, what it reads, what it hands back. -/
import Derived.Test.YtaapomafjjikhaaGreatDoorTabFn
import Derived.Test.YtaapomafjjikhaaGreatDoorSxEnt
import Derived.Test.YtaapomafjjikhaaGreatDoorSxStart
/-! CALLS, MADE: what is called, what it reads, what it hands back. -/
namespace Go.Sx
open Go.RowKit Go.Proofs
set_option maxRecDepth 100000
noncomputable def pT : Par := ⟨Tryz.prog, rcOf Tryz.rows, fun _ _ => True⟩
noncomputable def tb0 : Tabs := ⟨Sx.Tryz.ft.get, lFind Sx.Tryz.rt, 2000, fun _ _ _ => none⟩
theorem tabs0 : TabOk pT Sx.Tryz.tt.get tb0 := Tryz.tab (fun _ _ _ => none) (fun _ _ _ _ h => by cases h) 2000
noncomputable def gl : List (Nat × List AV) := [(1, [li 0, li 999, li 1, li 5]), (2, [li 0, li 600, li 0, li 60]), (3, [li 1, li 20, li 0, li 50]), (4, [li 1, li 4, li 0, li 20, li 0, li 4, li 0, li 65535, li 0, li 1439, li 0, li 4]), (5, [li 0, li 15, li 0, li 999, li 0, li 1439, li 0, li 1439]), (6, [li 0, li 99, li 0, li 99, li 1, li 1200]), (7, [li 1, li 30, li 0, li 1000, li 0, li 30])]
noncomputable def cl0 : List AV := [(li 2), (.sliceX 1004 6 0 1), (li 6), (li 8), (li 1), (li 3), (li 1000), (li (-1)), (li 0), (li 1439), (li 5), (.sliceX 1006 6 0 2), (li 6), (li 6), (li 1), (li 3), (li 1000), (li 0), (li 1320), (li 1439), (li 3), (.sliceX 1005 6 0 1), (li 5), (li 5), (li 1), (li 3), (li 6000), (li 0), (li 0), (li 1439)]
noncomputable def cl1 : List AV := [(li 16), (.sliceX 1004 6 0 1), (li 6), (li 8), (li 1), (li 3), (li 1000), (li 0), (li 0), (li 1439), (li 5), (.sliceX 1006 6 0 2), (li 6), (li 6), (li 1), (li 3), (li 1000), (li 0), (li 1320), (li 1439), (li 3), (.sliceX 1005 6 0 1), (li 5), (li 5), (li 1), (li 3), (li 6000), (li 0), (li 0), (li 1439)]
noncomputable def cl2 : List AV := [(li 2), (.sliceX 1003 6 0 1), (li 6), (li 8), (li 1), (li 3), (li 1000), (li 0), (li 0), (li 1439), (li 5), (.sliceX 1005 6 0 2), (li 6), (li 6), (li 1), (li 3), (li 1000), (li 0), (li 1320), (li 1439), (li 3), (.sliceX 1004 6 0 1), (li 5), (li 5), (li 1), (li 3), (li 6000), (li 0), (li 0), (li 1439)]
noncomputable def cl3 : List AV := [(li 2), (.sliceX 1004 6 0 1), (li 6), (li 8), (li 1), (li 3), (li 1000), (li 0), (li 0), (li 1439), (li 5), (.sliceX 1006 6 0 2), (li 6), (li 6), (li 1), (li 3), (li 1000), (li 0), (li 1440), (li 1439), (li 3), (.sliceX 1005 6 0 1), (li 5), (li 5), (li 1), (li 3), (li 6000), (li 0), (li 0), (li 1439)]
noncomputable def cl4 : List AV := [(li 2), (.sliceX 1004 6 0 1), (li 6), (li 8), (li 1), (li 3), (li 1000), (li 0), (li 0), (li 1439), (li 5), (.sliceX 1006 6 0 2), (li 6), (li 6), (li 1), (li 3), (li 1000), (li 0), (li 1320), (li 1439), (li 3), (.sliceX 1005 6 0 1), (li 5), (li 5), (li 1), (li 3), (li 6000), (li 0), (li 0), (li 1439)]
noncomputable def cl5 : List AV := [(li 2), (.sliceX 1005 6 0 1), (li 6), (li 8), (li 1), (li 3), (li 1000), (li 0), (li 0), (li 1439), (li 5), (.sliceX 1007 6 0 2), (li 6), (li 6), (li 1), (li 3), (li 1000), (li 0), (li 1320), (li 1439), (li 3), (.sliceX 1006 6 0 1), (li 5), (li 5), (li 1), (li 3), (li 6000), (li 0), (li 0), (li 1439)]
noncomputable def cl6 : List AV := [(li 2), (.sliceX 1006 6 0 1), (li 6), (li 8), (li 1), (li 3), (li 1000), (li 0), (li 0), (li 1439), (li 5), (.sliceX 1008 6 0 2), (li 6), (li 6), (li 1), (li 3), (li 1000), (li 0), (li 1320), (li 1439), (li 3), (.sliceX 1007 6 0 1), (li 5), (li 5), (li 1), (li 3), (li 6000), (li 0), (li 0), (li 1439)]
noncomputable def cl7 : List AV := [(li 2), (.sliceX 1004 6 0 1), (li 6), (li 8), (li 1), (li 3), (li 1000), (li 0), (li 0), (li 1439), (li 5), (.sliceX 1006 6 0 2), (li 6), (li 6), (li 1), (li 3), (li 999), (li 0), (li 1320), (li 1439), (li 3), (.sliceX 1005 6 0 1), (li 5), (li 5), (li 1), (li 3), (li 6000), (li 0), (li 0), (li 1439)]
end Go.Sx
