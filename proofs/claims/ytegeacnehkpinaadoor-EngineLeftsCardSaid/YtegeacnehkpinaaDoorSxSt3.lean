/- A PART OF AN EVENING of 3 parts: its call is as it is said. -/
import Derived.Test.YtegeacnehkpinaaDoorSxEvC
/-! A PART OF AN EVENING of 1 parts: its call is as it is said. -/
namespace Go.Sx
open Go.RowKit Go.Proofs
set_option maxRecDepth 100000
theorem stepCk_10 : stepCk (1, 0) = true := by kernel_rfl
end Go.Sx
/-! A PART OF AN EVENING of 2 parts: its call is as it is said. -/
namespace Go.Sx
open Go.RowKit Go.Proofs
set_option maxRecDepth 100000
theorem stepCk_20 : stepCk (2, 0) = true := by kernel_rfl
theorem stepCk_21 : stepCk (2, 1) = true := by kernel_rfl
end Go.Sx
/-! A PART OF AN EVENING of 3 parts: its call is as it is said. -/
namespace Go.Sx
open Go.RowKit Go.Proofs
set_option maxRecDepth 100000
theorem stepCk_30 : stepCk (3, 0) = true := by kernel_rfl
theorem stepCk_31 : stepCk (3, 1) = true := by kernel_rfl
theorem stepCk_32 : stepCk (3, 2) = true := by kernel_rfl
end Go.Sx
