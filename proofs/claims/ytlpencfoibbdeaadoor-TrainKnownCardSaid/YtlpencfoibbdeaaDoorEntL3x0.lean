/- CALLS, MADE: what is called, what it reads, what it hands back. -/
import Derived.Test.YtlpencfoibbdeaaDoorEntT2
/-! CALLS, MADE: what is called, what it reads, what it hands back. -/
namespace Go.Sx
open Go.RowKit Go.Proofs
set_option maxRecDepth 100000
noncomputable def e143 : Ent := ⟨23, [], 1000, [(0, [(li 1), (li 6), (li 0), (li 6), (li 0), (li 60)]), (1, [(li 2), (li 5), (li 0), (li 90), (li 0), (li 90)])], (.bool (.lit true)), []⟩
theorem e143_run : e143.run tb2 100 = true := by kernel_rfl
end Go.Sx
