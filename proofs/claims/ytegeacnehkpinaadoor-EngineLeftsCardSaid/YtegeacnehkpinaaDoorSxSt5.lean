/- A PART OF AN EVENING of 5 parts: its call is as it is said. -/
import Derived.Test.YtegeacnehkpinaaDoorSxEvC
/-! A PART OF AN EVENING of 4 parts: its call is as it is said. -/
namespace Go.Sx
open Go.RowKit Go.Proofs
set_option maxRecDepth 100000
theorem stepCk_40 : stepCk (4, 0) = true := by kernel_rfl
theorem stepCk_41 : stepCk (4, 1) = true := by kernel_rfl
theorem stepCk_42 : stepCk (4, 2) = true := by kernel_rfl
theorem stepCk_43 : stepCk (4, 3) = true := by kernel_rfl
end Go.Sx
/-! A PART OF AN EVENING of 5 parts: its call is as it is said. -/
namespace Go.Sx
open Go.RowKit Go.Proofs
set_option maxRecDepth 100000
theorem stepCk_50 : stepCk (5, 0) = true := by kernel_rfl
theorem stepCk_51 : stepCk (5, 1) = true := by kernel_rfl
theorem stepCk_52 : stepCk (5, 2) = true := by kernel_rfl
theorem stepCk_53 : stepCk (5, 3) = true := by kernel_rfl
theorem stepCk_54 : stepCk (5, 4) = true := by kernel_rfl
end Go.Sx
