/- THE LAW OF THE TIMES, run. -/
import Derived.Test.YtgohpnfoogdlaaaDoorTmC
/-! THE LAW OF THE TIMES, run. -/
namespace Go.Sx
open Go.RowKit Go.Proofs
set_option maxRecDepth 100000
theorem law44_0 : lawCkN 4 4 1 0 = true := by kernel_rfl
theorem law44_1 : lawCkN 4 4 1 1 = true := by kernel_rfl
theorem law54_0 : lawCkN 5 4 1 0 = true := by kernel_rfl
end Go.Sx
