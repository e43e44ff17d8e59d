/- THE LAW OF WHAT IS LEFT: its runs. -/
import Derived.Test.YtegeacnehkpinaaDoorSxLawA
/-! THE LAW OF WHAT IS LEFT: its runs. -/
namespace Go.Sx
open Go.RowKit Go.Proofs
set_option maxRecDepth 100000
theorem badP_1 : badCk 18 1 = true := by kernel_rfl
theorem badF_1 : badCk 19 1 = true := by kernel_rfl
theorem lawB_1 : lawB 1 = true := by kernel_rfl
theorem badP_2 : badCk 18 2 = true := by kernel_rfl
theorem badF_2 : badCk 19 2 = true := by kernel_rfl
theorem lawB_2 : lawB 2 = true := by kernel_rfl
theorem badP_3 : badCk 18 3 = true := by kernel_rfl
theorem badF_3 : badCk 19 3 = true := by kernel_rfl
theorem lawB_3 : lawB 3 = true := by kernel_rfl
end Go.Sx
