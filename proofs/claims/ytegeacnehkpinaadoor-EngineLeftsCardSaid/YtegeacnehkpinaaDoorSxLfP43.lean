/- WHAT IS LEFT: held against runs. -/
import Derived.Test.YtegeacnehkpinaaDoorSxLeft
/-! WHAT IS LEFT: held against runs. -/
namespace Go.Sx
open Go.RowKit Go.Proofs
set_option maxRecDepth 100000
theorem leftP_43_0 : leftP 4 3 [true, true] = true := by kernel_rfl
theorem leftP_43_1 : leftP 4 3 [true, false] = true := by kernel_rfl
theorem leftP_43_2 : leftP 4 3 [false, true] = true := by kernel_rfl
theorem leftP_43_3 : leftP 4 3 [false, false] = true := by kernel_rfl
end Go.Sx
