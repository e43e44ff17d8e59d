/- WHAT IS LEFT: held against runs. -/
import Derived.Test.YtegeacnehkpinaaDoorSxLeft
/-! WHAT IS LEFT: held against runs. -/
namespace Go.Sx
open Go.RowKit Go.Proofs
set_option maxRecDepth 100000
theorem leftP_32_0 : leftP 3 2 [] = true := by kernel_rfl
theorem leftP_42_0 : leftP 4 2 [] = true := by kernel_rfl
theorem leftP_52_0 : leftP 5 2 [] = true := by kernel_rfl
end Go.Sx
