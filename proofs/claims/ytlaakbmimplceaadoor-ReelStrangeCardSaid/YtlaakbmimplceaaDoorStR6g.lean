/- THE LAW OF STRANGE REELS: its runs, of six reels. -/
import Derived.Test.YtlaakbmimplceaaDoorStL
/-! THE LAW OF STRANGE REELS: its runs, of six reels. -/
namespace Go.Sx
set_option maxRecDepth 100000
theorem lawSt6_48 : lawSt 6 48 = true := by kernel_rfl
theorem lawSt6_49 : lawSt 6 49 = true := by kernel_rfl
theorem lawSt6_50 : lawSt 6 50 = true := by kernel_rfl
theorem lawSt6_51 : lawSt 6 51 = true := by kernel_rfl
theorem lawSt6_52 : lawSt 6 52 = true := by kernel_rfl
theorem lawSt6_53 : lawSt 6 53 = true := by kernel_rfl
theorem lawSt6_54 : lawSt 6 54 = true := by kernel_rfl
theorem lawSt6_55 : lawSt 6 55 = true := by kernel_rfl
end Go.Sx
