/- THE LAW OF THE TIMES, run. -/
import Derived.Test.YtgohpnfoogdlaaaDoorTmC
/-! THE LAW OF THE TIMES, run. -/
namespace Go.Sx
open Go.RowKit Go.Proofs
set_option maxRecDepth 100000
theorem law65_2 : lawCkN 6 5 2 2 = true := by kernel_rfl
theorem law65_3 : lawCkN 6 5 2 3 = true := by kernel_rfl
end Go.Sx
