/- CALLS, MADE: what is called, what it reads, what it hands back. -/
import Derived.Test.YtkobhpalangomaaDoorEntL5x1
/-! CALLS, MADE: what is called, what it reads, what it hands back. -/
namespace Go.Sx
open Go.RowKit Go.Proofs
set_option maxRecDepth 100000
noncomputable def e245 : Ent := ⟨13, [(.agg [(li 6), (li 4), (.slice 1004 0 4 4), (.slice 1005 0 3 3), (.slice 1000 0 3 3), (li 50)])], 1006, [(0, .cells [(li 1), (li 6), (li 1), (li 5), (li 1), (li 4), (li 0), (li 1000)]), (1, .cells [(li 1), (li 6), (li 1), (li 5), (li 0), (li 3)]), (1000, .cells [(.slice 1001 0 3 3), (.slice 1002 0 3 3), (.slice 1003 0 3 3)]), (1001, .cells [(li 0), (li 0), (li 2)]), (1002, .cells [(li 0), (li 0), (li 0)]), (1003, .cells [(li 2), (li 0), (li 0)]), (1004, .cells [(li 0), (li 32), (li 0), (li 0)]), (1005, .cells cl47)], (.tup [(.sliceX 1563 1 0 3), (li 0)]), [(1563, .cells [(li 0), (li 1), (li 2)] 3 true)], []⟩
theorem e245_run : e245.run tb4 100 = true := by kernel_rfl
noncomputable def e315 : Ent := ⟨10, [(.agg [(li 6), (li 4), (.slice 1004 0 4 4), (.slice 1005 0 3 3), (.slice 1000 0 3 3), (li 50)])], 1006, [(0, .cells [(li 1), (li 6), (li 1), (li 5), (li 1), (li 4), (li 0), (li 1000)]), (1, .cells [(li 1), (li 6), (li 1), (li 5), (li 0), (li 3)]), (1000, .cells [(.slice 1001 0 3 3), (.slice 1002 0 3 3), (.slice 1003 0 3 3)]), (1001, .cells [(li 0), (li 0), (li 2)]), (1002, .cells [(li 0), (li 0), (li 0)]), (1003, .cells [(li 2), (li 0), (li 0)]), (1004, .cells [(li 0), (li 32), (li 0), (li 0)]), (1005, .cells cl47)], (.tup [(.slice 1604 0 3 3), (li 0)]), [(1604, .cells [(li 0), (li 0), (.bool (.lit true)), (li 3), (li 0), (.bool (.lit false)), (li 4), (li 0), (.bool (.lit true))] 35 false)], []⟩
theorem e315_run : e315.run tb4 100 = true := by kernel_rfl
end Go.Sx
