/- THE LAW OF STRANGE REELS: its runs, of six reels. -/
import Derived.Test.YtlaakbmimplceaaDoorStL
/-! THE LAW OF STRANGE REELS: its runs, of six reels. -/
namespace Go.Sx
set_option maxRecDepth 100000
theorem lawSt6_24 : lawSt 6 24 = true := by kernel_rfl
theorem lawSt6_25 : lawSt 6 25 = true := by kernel_rfl
theorem lawSt6_26 : lawSt 6 26 = true := by kernel_rfl
theorem lawSt6_27 : lawSt 6 27 = true := by kernel_rfl
theorem lawSt6_28 : lawSt 6 28 = true := by kernel_rfl
theorem lawSt6_29 : lawSt 6 29 = true := by kernel_rfl
theorem lawSt6_30 : lawSt 6 30 = true := by kernel_rfl
theorem lawSt6_31 : lawSt 6 31 = true := by kernel_rfl
end Go.Sx
