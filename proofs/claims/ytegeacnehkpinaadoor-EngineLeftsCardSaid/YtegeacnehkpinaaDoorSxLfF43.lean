/- WHAT IS LEFT: held against runs. -/
import Derived.Test.YtegeacnehkpinaaDoorSxLeft
/-! WHAT IS LEFT: held against runs. -/
namespace Go.Sx
open Go.RowKit Go.Proofs
set_option maxRecDepth 100000
theorem leftF_43_0 : leftF 4 3 [true, true] = true := by kernel_rfl
theorem leftF_43_1 : leftF 4 3 [true, false] = true := by kernel_rfl
theorem leftF_43_2 : leftF 4 3 [false, true] = true := by kernel_rfl
theorem leftF_43_3 : leftF 4 3 [false, false] = true := by kernel_rfl
end Go.Sx
