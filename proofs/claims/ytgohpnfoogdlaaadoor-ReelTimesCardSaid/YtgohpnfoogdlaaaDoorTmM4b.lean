/- THE LAW OF THE TIMES, run. -/
import Derived.Test.YtgohpnfoogdlaaaDoorTmC
/-! THE LAW OF THE TIMES, run. -/
namespace Go.Sx
open Go.RowKit Go.Proofs
set_option maxRecDepth 100000
theorem law54_1 : lawCkN 5 4 1 1 = true := by kernel_rfl
theorem law64_0 : lawCkN 6 4 1 0 = true := by kernel_rfl
theorem law64_1 : lawCkN 6 4 1 1 = true := by kernel_rfl
end Go.Sx
