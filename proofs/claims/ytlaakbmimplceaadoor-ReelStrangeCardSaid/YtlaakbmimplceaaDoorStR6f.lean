/- THE LAW OF STRANGE REELS: its runs, of six reels. -/
import Derived.Test.YtlaakbmimplceaaDoorStL
/-! THE LAW OF STRANGE REELS: its runs, of six reels. -/
namespace Go.Sx
set_option maxRecDepth 100000
theorem lawSt6_40 : lawSt 6 40 = true := by kernel_rfl
theorem lawSt6_41 : lawSt 6 41 = true := by kernel_rfl
theorem lawSt6_42 : lawSt 6 42 = true := by kernel_rfl
theorem lawSt6_43 : lawSt 6 43 = true := by kernel_rfl
theorem lawSt6_44 : lawSt 6 44 = true := by kernel_rfl
theorem lawSt6_45 : lawSt 6 45 = true := by kernel_rfl
theorem lawSt6_46 : lawSt 6 46 = true := by kernel_rfl
theorem lawSt6_47 : lawSt 6 47 = true := by kernel_rfl
end Go.Sx
