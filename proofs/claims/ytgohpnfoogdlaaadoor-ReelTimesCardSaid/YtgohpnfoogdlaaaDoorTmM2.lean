/- THE LAW OF THE TIMES, run. -/
import Derived.Test.YtgohpnfoogdlaaaDoorTmC
/-! THE LAW OF THE TIMES, run. -/
namespace Go.Sx
open Go.RowKit Go.Proofs
set_option maxRecDepth 100000
theorem lawL1 : lawLCk 1 = true := by kernel_rfl
theorem lawL2 : lawLCk 2 = true := by kernel_rfl
theorem lawL3 : lawLCk 3 = true := by kernel_rfl
theorem lawL4 : lawLCk 4 = true := by kernel_rfl
theorem lawL5 : lawLCk 5 = true := by kernel_rfl
theorem lawL6 : lawLCk 6 = true := by kernel_rfl
end Go.Sx
