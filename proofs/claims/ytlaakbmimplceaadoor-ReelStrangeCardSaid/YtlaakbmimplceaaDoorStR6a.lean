/- THE LAW OF STRANGE REELS: its runs, of six reels. -/
import Derived.Test.YtlaakbmimplceaaDoorStL
/-! THE LAW OF STRANGE REELS: its runs, of six reels. -/
namespace Go.Sx
set_option maxRecDepth 100000
theorem lawSt6_0 : lawSt 6 0 = true := by kernel_rfl
theorem lawSt6_1 : lawSt 6 1 = true := by kernel_rfl
theorem lawSt6_2 : lawSt 6 2 = true := by kernel_rfl
theorem lawSt6_3 : lawSt 6 3 = true := by kernel_rfl
theorem lawSt6_4 : lawSt 6 4 = true := by kernel_rfl
theorem lawSt6_5 : lawSt 6 5 = true := by kernel_rfl
theorem lawSt6_6 : lawSt 6 6 = true := by kernel_rfl
theorem lawSt6_7 : lawSt 6 7 = true := by kernel_rfl
end Go.Sx
