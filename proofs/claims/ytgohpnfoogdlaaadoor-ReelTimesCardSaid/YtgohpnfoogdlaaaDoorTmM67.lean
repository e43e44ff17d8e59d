/- THE LAW OF THE TIMES, run. -/
import Derived.Test.YtgohpnfoogdlaaaDoorTmC
/-! THE LAW OF THE TIMES, run. -/
namespace Go.Sx
open Go.RowKit Go.Proofs
set_option maxRecDepth 100000
theorem law66_7 : lawCkN 6 6 3 7 = true := by kernel_rfl
end Go.Sx
