/- THE LAW OF STRANGE REELS: its runs, of six reels. -/
import Derived.Test.YtlaakbmimplceaaDoorStL
/-! THE LAW OF STRANGE REELS: its runs, of six reels. -/
namespace Go.Sx
set_option maxRecDepth 100000
theorem lawSt6_16 : lawSt 6 16 = true := by kernel_rfl
theorem lawSt6_17 : lawSt 6 17 = true := by kernel_rfl
theorem lawSt6_18 : lawSt 6 18 = true := by kernel_rfl
theorem lawSt6_19 : lawSt 6 19 = true := by kernel_rfl
theorem lawSt6_20 : lawSt 6 20 = true := by kernel_rfl
theorem lawSt6_21 : lawSt 6 21 = true := by kernel_rfl
theorem lawSt6_22 : lawSt 6 22 = true := by kernel_rfl
theorem lawSt6_23 : lawSt 6 23 = true := by kernel_rfl
end Go.Sx
