/- THE LAW OF THE TIMES, run. -/
import Derived.Test.YtgohpnfoogdlaaaDoorTmC
/-! THE LAW OF THE TIMES, run. -/
namespace Go.Sx
open Go.RowKit Go.Proofs
set_option maxRecDepth 100000
theorem law55_0 : lawCkN 5 5 2 0 = true := by kernel_rfl
theorem law55_1 : lawCkN 5 5 2 1 = true := by kernel_rfl
end Go.Sx
