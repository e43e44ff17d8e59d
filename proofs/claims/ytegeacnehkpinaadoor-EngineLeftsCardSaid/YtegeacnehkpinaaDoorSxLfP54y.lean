/- WHAT IS LEFT: held against runs. -/
import Derived.Test.YtegeacnehkpinaaDoorSxLeft
/-! WHAT IS LEFT: held against runs. -/
namespace Go.Sx
open Go.RowKit Go.Proofs
set_option maxRecDepth 100000
theorem leftP_54_4 : leftP 5 4 [false, true, true] = true := by kernel_rfl
theorem leftP_54_5 : leftP 5 4 [false, true, false] = true := by kernel_rfl
theorem leftP_54_6 : leftP 5 4 [false, false, true] = true := by kernel_rfl
theorem leftP_54_7 : leftP 5 4 [false, false, false] = true := by kernel_rfl
end Go.Sx
