/- REELS, EACH ONCE: six of them, checked. -/
import Derived.Test.YtanhchkdglglhaaDoorSpRsS
/-! REELS, EACH ONCE: six of them, checked. -/
namespace Go.Sx
open Go.RowKit Go.Proofs
set_option maxRecDepth 100000
theorem reels6_2 : reelsCkH 6 2 = true := by kernel_rfl
theorem reels6_3 : reelsCkH 6 3 = true := by kernel_rfl
theorem reels6_4 : reelsCkH 6 4 = true := by kernel_rfl
theorem reels6_5 : reelsCkH 6 5 = true := by kernel_rfl
end Go.Sx
