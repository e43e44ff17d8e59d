/- WHAT IS LEFT: held against runs. -/
import Derived.Test.YtegeacnehkpinaaDoorSxLeft
/-! WHAT IS LEFT: held against runs. -/
namespace Go.Sx
open Go.RowKit Go.Proofs
set_option maxRecDepth 100000
theorem leftF_32_0 : leftF 3 2 [] = true := by kernel_rfl
theorem leftF_42_0 : leftF 4 2 [] = true := by kernel_rfl
theorem leftF_52_0 : leftF 5 2 [] = true := by kernel_rfl
end Go.Sx
