/- THE LAW OF STRANGE REELS: its runs, of six reels. -/
import Derived.Test.YtlaakbmimplceaaDoorStL
/-! THE LAW OF STRANGE REELS: its runs, of six reels. -/
namespace Go.Sx
set_option maxRecDepth 100000
theorem lawSt6_8 : lawSt 6 8 = true := by kernel_rfl
theorem lawSt6_9 : lawSt 6 9 = true := by kernel_rfl
theorem lawSt6_10 : lawSt 6 10 = true := by kernel_rfl
theorem lawSt6_11 : lawSt 6 11 = true := by kernel_rfl
theorem lawSt6_12 : lawSt 6 12 = true := by kernel_rfl
theorem lawSt6_13 : lawSt 6 13 = true := by kernel_rfl
theorem lawSt6_14 : lawSt 6 14 = true := by kernel_rfl
theorem lawSt6_15 : lawSt 6 15 = true := by kernel_rfl
end Go.Sx
