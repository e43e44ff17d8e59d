/- CALLS, MADE: what is called, what it reads, what it hands back. -/
import Derived.Test.YtegeacnehkpinaaDoorEntT2
/-! CALLS, MADE: what is called, what it reads, what it hands back. -/
namespace Go.Sx
open Go.RowKit Go.Proofs
set_option maxRecDepth 100000
noncomputable def e170 : Ent := ⟨20, [], 1000, [(0, .cells [(li 1), (li 99), (li 1), (li 99), (li 1), (li 20), (li 1), (li 20), (li 0), (li 60), (li 1), (li 5)])], (.bool (.lit true)), [], []⟩
theorem e170_run : e170.run tb2 100 = true := by kernel_rfl
end Go.Sx
