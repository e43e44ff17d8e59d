/- THE LAW OF WHAT IS LEFT: its runs, II. -/
import Derived.Test.YtegeacnehkpinaaDoorSxLawA
/-! THE LAW OF WHAT IS LEFT: its runs, II. -/
namespace Go.Sx
open Go.RowKit Go.Proofs
set_option maxRecDepth 100000
theorem badP_4 : badCk 18 4 = true := by kernel_rfl
theorem badF_4 : badCk 19 4 = true := by kernel_rfl
theorem lawB_4 : lawB 4 = true := by kernel_rfl
theorem badP_5 : badCk 18 5 = true := by kernel_rfl
theorem badF_5 : badCk 19 5 = true := by kernel_rfl
theorem lawB_5 : lawB 5 = true := by kernel_rfl
end Go.Sx
