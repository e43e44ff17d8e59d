/- REELS, EACH ONCE: checked. -/
import Derived.Test.YtanhchkdglglhaaDoorSpRsS
/-! WHAT A FILM IS ASKED: checked. -/
namespace Go.Sx
open Go.RowKit Go.Proofs
set_option maxRecDepth 100000
theorem films1 : filmsCk 1 = true := by kernel_rfl
theorem films2 : filmsCk 2 = true := by kernel_rfl
theorem films3 : filmsCk 3 = true := by kernel_rfl
theorem films4 : filmsCk 4 = true := by kernel_rfl
theorem films5 : filmsCk 5 = true := by kernel_rfl
theorem films6 : filmsCk 6 = true := by kernel_rfl
theorem reels1 : reelsCk 1 = true := by kernel_rfl
theorem reels2 : reelsCk 2 = true := by kernel_rfl
theorem reels3 : reelsCk 3 = true := by kernel_rfl
theorem reels4 : reelsCk 4 = true := by kernel_rfl
theorem reelsSt1 : stE (reelsE 1) = true := by kernel_rfl
theorem reelsSt2 : stE (reelsE 2) = true := by kernel_rfl
theorem reelsSt3 : stE (reelsE 3) = true := by kernel_rfl
theorem reelsSt4 : stE (reelsE 4) = true := by kernel_rfl
theorem reelsSt5 : stE (reelsE 5) = true := by kernel_rfl
theorem reelsSt6 : stE (reelsE 6) = true := by kernel_rfl
end Go.Sx
/-! REELS, EACH ONCE: checked. -/
namespace Go.Sx
open Go.RowKit Go.Proofs
set_option maxRecDepth 100000
theorem reels5 : reelsCk 5 = true := by kernel_rfl
theorem reels6_0 : reelsCkH 6 0 = true := by kernel_rfl
theorem reels6_1 : reelsCkH 6 1 = true := by kernel_rfl
end Go.Sx
