/- THE LAW OF STRANGE REELS: its runs, of six reels. -/
import Derived.Test.YtlaakbmimplceaaDoorStL
/-! THE LAW OF STRANGE REELS: its runs, of six reels. -/
namespace Go.Sx
set_option maxRecDepth 100000
theorem lawSt6_56 : lawSt 6 56 = true := by kernel_rfl
theorem lawSt6_57 : lawSt 6 57 = true := by kernel_rfl
theorem lawSt6_58 : lawSt 6 58 = true := by kernel_rfl
theorem lawSt6_59 : lawSt 6 59 = true := by kernel_rfl
theorem lawSt6_60 : lawSt 6 60 = true := by kernel_rfl
theorem lawSt6_61 : lawSt 6 61 = true := by kernel_rfl
theorem lawSt6_62 : lawSt 6 62 = true := by kernel_rfl
end Go.Sx
