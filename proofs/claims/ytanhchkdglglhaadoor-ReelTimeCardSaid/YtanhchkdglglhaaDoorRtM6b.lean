/- THE LAW OF THE TIME, run: six reels, the second one begins none. -/
import Derived.Test.YtanhchkdglglhaaDoorRtL
/-! THE LAW OF THE TIME, run: six reels, the second one begins none. -/
namespace Go.Sx
open Go.RowKit Go.Proofs
set_option maxRecDepth 100000
theorem time6_4 : timeCkN 6 3 4 = true := by kernel_rfl
theorem time6_5 : timeCkN 6 3 5 = true := by kernel_rfl
theorem time6_6 : timeCkN 6 3 6 = true := by kernel_rfl
theorem time6_7 : timeCkN 6 3 7 = true := by kernel_rfl
end Go.Sx
