/- WHAT IS LEFT: held against runs. -/
import Derived.Test.YtegeacnehkpinaaDoorSxLeft
/-! WHAT IS LEFT: held against runs. -/
namespace Go.Sx
open Go.RowKit Go.Proofs
set_option maxRecDepth 100000
theorem leftF_54_4 : leftF 5 4 [false, true, true] = true := by kernel_rfl
theorem leftF_54_5 : leftF 5 4 [false, true, false] = true := by kernel_rfl
theorem leftF_54_6 : leftF 5 4 [false, false, true] = true := by kernel_rfl
theorem leftF_54_7 : leftF 5 4 [false, false, false] = true := by kernel_rfl
end Go.Sx
