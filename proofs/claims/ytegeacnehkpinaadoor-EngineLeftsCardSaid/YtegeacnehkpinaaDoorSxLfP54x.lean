/- WHAT IS LEFT: held against runs. -/
import Derived.Test.YtegeacnehkpinaaDoorSxLeft
/-! WHAT IS LEFT: held against runs. -/
namespace Go.Sx
open Go.RowKit Go.Proofs
set_option maxRecDepth 100000
theorem leftP_54_0 : leftP 5 4 [true, true, true] = true := by kernel_rfl
theorem leftP_54_1 : leftP 5 4 [true, true, false] = true := by kernel_rfl
theorem leftP_54_2 : leftP 5 4 [true, false, true] = true := by kernel_rfl
theorem leftP_54_3 : leftP 5 4 [true, false, false] = true := by kernel_rfl
end Go.Sx
