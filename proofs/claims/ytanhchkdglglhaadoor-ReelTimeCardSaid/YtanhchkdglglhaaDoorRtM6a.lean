/- THE LAW OF THE TIME, run: six reels, the second one begins a spool. -/
import Derived.Test.YtanhchkdglglhaaDoorRtL
/-! THE LAW OF THE TIME, run: six reels, the second one begins a spool. -/
namespace Go.Sx
open Go.RowKit Go.Proofs
set_option maxRecDepth 100000
theorem time6_0 : timeCkN 6 3 0 = true := by kernel_rfl
theorem time6_1 : timeCkN 6 3 1 = true := by kernel_rfl
theorem time6_2 : timeCkN 6 3 2 = true := by kernel_rfl
theorem time6_3 : timeCkN 6 3 3 = true := by kernel_rfl
end Go.Sx
