/- THE LAW OF THE TIMES, run. -/
import Derived.Test.YtgohpnfoogdlaaaDoorTmC
/-! THE LAW OF THE TIMES, run. -/
namespace Go.Sx
open Go.RowKit Go.Proofs
set_option maxRecDepth 100000
theorem law33_0 : lawCkN 3 3 0 0 = true := by kernel_rfl
theorem law43_0 : lawCkN 4 3 0 0 = true := by kernel_rfl
theorem law53_0 : lawCkN 5 3 0 0 = true := by kernel_rfl
theorem law63_0 : lawCkN 6 3 0 0 = true := by kernel_rfl
end Go.Sx
