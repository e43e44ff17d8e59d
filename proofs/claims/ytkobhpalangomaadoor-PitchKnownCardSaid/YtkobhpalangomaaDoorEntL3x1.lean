/- CALLS, MADE: what is called, what it reads, what it hands back. -/
import Derived.Test.YtkobhpalangomaaDoorEntL3x2
/-! CALLS, MADE: what is called, what it reads, what it hands back. -/
namespace Go.Sx
open Go.RowKit Go.Proofs
set_option maxRecDepth 100000
noncomputable def e316 : Ent := ⟨12, [(.agg [(li 6), (li 4), (.slice 1004 0 4 4), (.slice 1006 0 3 3), (.slice 1000 0 3 3), (li 50)]), (.slice 1005 0 3 3), (li 1)], 1007, [(0, .cells [(li 1), (li 6), (li 1), (li 5), (li 1), (li 4), (li 0), (li 1000)]), (1, .cells [(li 1), (li 6), (li 1), (li 5), (li 0), (li 3)]), (1000, .cells [(.slice 1001 0 3 3), (.slice 1002 0 3 3), (.slice 1003 0 3 3)]), (1001, .cells [(li 0), (li 0), (li 2)]), (1002, .cells [(li 0), (li 0), (li 0)]), (1003, .cells [(li 2), (li 0), (li 0)]), (1004, .cells [(li 0), (li 32), (li 0), (li 0)]), (1005, .cells [(li 0), (li 0), (.bool (.lit true)), (li 3), (li 0), (.bool (.lit false)), (li 4), (li 2), (.bool (.lit true))]), (1006, .cells cl47)], (.tup [(.sliceX 3068 3 0 7), (li 0)]), [(3068, .cells cl45 35 true)], []⟩
theorem e316_run : e316.run tb2 100 = true := by kernel_rfl
noncomputable def e335 : Ent := ⟨64, [(li 0), (.ptr 1000 0), (.ptr 1001 0), (.ptr 1002 0), (.ptr 1003 0), (.ptr 1007 0), (.ptr 1004 0)], 1019, [(1000, .cells [(.sliceX 1005 1 0 3)]), (1001, .cells [(.slice 1014 0 3 3)]), (1002, .cells [.nilslice]), (1003, .cells [(.slice 1006 0 3 3)]), (1004, .cells [(.func (.func 64) [] [(.ptr 1000 0), (.ptr 1001 0), (.ptr 1002 0), (.ptr 1003 0), (.ptr 1007 0), (.ptr 1004 0)])]), (1006, .cells [(.sliceX 1015 13 0 18), (.sliceX 1017 13 0 35), (.sliceX 1016 13 0 23)]), (1007, .cells cl52), (1008, .cells [(.slice 1009 0 3 3), (.slice 1010 0 3 3), (.slice 1011 0 3 3)]), (1011, .cells [(li 6), (li 0), (li 0)]), (1013, .cells cl47), (1014, .own cl43 67 false), (1015, .cells cl3), (1017, .cells cl1)], (.tup []), [], [(1014, .cells cl25 67 false)]⟩
theorem e335_run : e335.run tb2 100 = true := by kernel_rfl
end Go.Sx
