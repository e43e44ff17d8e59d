/- CALLS, MADE: what is called, what it reads, what it hands back. -/
import Derived.Test.YtdnlbidfflpbiaaDoorEntT2
/-! CALLS, MADE: what is called, what it reads, what it hands back. -/
namespace Go.Sx
open Go.RowKit Go.Proofs
set_option maxRecDepth 100000
noncomputable def e126 : Ent := ⟨19, [], 1000, [(0, .cells [(li 0), (li 998), (li 1), (li 6)]), (1, .cells [(li 0), (li 3600), (li 0), (li 3600)]), (2, .cells [(li 1), (li 20), (li 0), (li 50)]), (3, .cells [(li 0), (li 99), (li 0), (li 99), (li 1), (li 1200)])], (.bool (.lit true)), [], []⟩
theorem e126_run : e126.run tb2 100 = true := by kernel_rfl
end Go.Sx
