/- WHAT IS LEFT: held against runs. -/
import Derived.Test.YtegeacnehkpinaaDoorSxLeft
/-! WHAT IS LEFT: held against runs. -/
namespace Go.Sx
open Go.RowKit Go.Proofs
set_option maxRecDepth 100000
theorem leftP_10_0 : leftP 1 0 [] = true := by kernel_rfl
theorem leftP_20_0 : leftP 2 0 [] = true := by kernel_rfl
theorem leftP_21_0 : leftP 2 1 [] = true := by kernel_rfl
theorem leftP_30_0 : leftP 3 0 [] = true := by kernel_rfl
theorem leftP_31_0 : leftP 3 1 [] = true := by kernel_rfl
theorem leftP_40_0 : leftP 4 0 [] = true := by kernel_rfl
theorem leftP_41_0 : leftP 4 1 [] = true := by kernel_rfl
theorem leftP_50_0 : leftP 5 0 [] = true := by kernel_rfl
theorem leftP_51_0 : leftP 5 1 [] = true := by kernel_rfl
end Go.Sx
