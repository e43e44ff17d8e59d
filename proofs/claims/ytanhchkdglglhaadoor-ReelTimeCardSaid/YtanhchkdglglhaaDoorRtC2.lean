/- REELS, EACH ONCE: checked. -/
import Derived.Test.YtanhchkdglglhaaDoorRtC
/-! REELS, EACH ONCE: checked. -/
namespace Go.Sx
open Go.RowKit Go.Proofs
set_option maxRecDepth 100000
theorem reels5 : reelsCk 5 = true := by kernel_rfl
theorem reels6_0 : reelsCkH 6 0 = true := by kernel_rfl
theorem reels6_1 : reelsCkH 6 1 = true := by kernel_rfl
end Go.Sx
