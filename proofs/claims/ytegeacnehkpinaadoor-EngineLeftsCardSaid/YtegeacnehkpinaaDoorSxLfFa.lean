/- WHAT IS LEFT: held against runs. -/
import Derived.Test.YtegeacnehkpinaaDoorSxLeft
/-! WHAT IS LEFT: held against runs. -/
namespace Go.Sx
open Go.RowKit Go.Proofs
set_option maxRecDepth 100000
theorem leftF_10_0 : leftF 1 0 [] = true := by kernel_rfl
theorem leftF_20_0 : leftF 2 0 [] = true := by kernel_rfl
theorem leftF_21_0 : leftF 2 1 [] = true := by kernel_rfl
theorem leftF_30_0 : leftF 3 0 [] = true := by kernel_rfl
theorem leftF_31_0 : leftF 3 1 [] = true := by kernel_rfl
theorem leftF_40_0 : leftF 4 0 [] = true := by kernel_rfl
theorem leftF_41_0 : leftF 4 1 [] = true := by kernel_rfl
theorem leftF_50_0 : leftF 5 0 [] = true := by kernel_rfl
theorem leftF_51_0 : leftF 5 1 [] = true := by kernel_rfl
end Go.Sx
