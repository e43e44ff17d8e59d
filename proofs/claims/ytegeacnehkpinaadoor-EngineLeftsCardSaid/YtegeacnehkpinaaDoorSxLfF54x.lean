/- WHAT IS LEFT: held against runs. -/
import Derived.Test.YtegeacnehkpinaaDoorSxLeft
/-! WHAT IS LEFT: held against runs. -/
namespace Go.Sx
open Go.RowKit Go.Proofs
set_option maxRecDepth 100000
theorem leftF_54_0 : leftF 5 4 [true, true, true] = true := by kernel_rfl
theorem leftF_54_1 : leftF 5 4 [true, true, false] = true := by kernel_rfl
theorem leftF_54_2 : leftF 5 4 [true, false, true] = true := by kernel_rfl
theorem leftF_54_3 : leftF 5 4 [true, false, false] = true := by kernel_rfl
end Go.Sx
