/- THE LAW OF THE TIME, run: up to four reels. -/
import Derived.Test.YtanhchkdglglhaaDoorRtL
/-! THE LAW OF THE TIME, run: up to four reels. -/
namespace Go.Sx
open Go.RowKit Go.Proofs
set_option maxRecDepth 100000
theorem time1_0 : timeCkN 1 0 0 = true := by kernel_rfl
theorem time2_0 : timeCkN 2 0 0 = true := by kernel_rfl
theorem time3_0 : timeCkN 3 0 0 = true := by kernel_rfl
theorem time4_0 : timeCkN 4 1 0 = true := by kernel_rfl
theorem time4_1 : timeCkN 4 1 1 = true := by kernel_rfl
end Go.Sx
