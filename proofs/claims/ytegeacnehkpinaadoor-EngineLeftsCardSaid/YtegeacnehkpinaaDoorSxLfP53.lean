/- WHAT IS LEFT: held against runs. -/
import Derived.Test.YtegeacnehkpinaaDoorSxLeft
/-! WHAT IS LEFT: held against runs. -/
namespace Go.Sx
open Go.RowKit Go.Proofs
set_option maxRecDepth 100000
theorem leftP_53_0 : leftP 5 3 [true, true] = true := by kernel_rfl
theorem leftP_53_1 : leftP 5 3 [true, false] = true := by kernel_rfl
theorem leftP_53_2 : leftP 5 3 [false, true] = true := by kernel_rfl
theorem leftP_53_3 : leftP 5 3 [false, false] = true := by kernel_rfl
end Go.Sx
