/- THE LAW OF STRANGE REELS: its runs, of six reels. -/
import Derived.Test.YtlaakbmimplceaaDoorStL
/-! THE LAW OF STRANGE REELS: its runs, of six reels. -/
namespace Go.Sx
set_option maxRecDepth 100000
theorem lawSt6_32 : lawSt 6 32 = true := by kernel_rfl
theorem lawSt6_33 : lawSt 6 33 = true := by kernel_rfl
theorem lawSt6_34 : lawSt 6 34 = true := by kernel_rfl
theorem lawSt6_35 : lawSt 6 35 = true := by kernel_rfl
theorem lawSt6_36 : lawSt 6 36 = true := by kernel_rfl
theorem lawSt6_37 : lawSt 6 37 = true := by kernel_rfl
theorem lawSt6_38 : lawSt 6 38 = true := by kernel_rfl
theorem lawSt6_39 : lawSt 6 39 = true := by kernel_rfl
end Go.Sx
