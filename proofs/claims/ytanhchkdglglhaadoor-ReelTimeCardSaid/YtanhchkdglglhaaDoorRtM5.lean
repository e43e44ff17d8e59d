/- THE LAW OF THE TIME, run: five reels. -/
import Derived.Test.YtanhchkdglglhaaDoorRtL
/-! THE LAW OF THE TIME, run: five reels. -/
namespace Go.Sx
open Go.RowKit Go.Proofs
set_option maxRecDepth 100000
theorem time5_0 : timeCkN 5 2 0 = true := by kernel_rfl
theorem time5_1 : timeCkN 5 2 1 = true := by kernel_rfl
theorem time5_2 : timeCkN 5 2 2 = true := by kernel_rfl
theorem time5_3 : timeCkN 5 2 3 = true := by kernel_rfl
end Go.Sx
