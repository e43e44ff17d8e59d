/- THE LAW OF STRANGE REELS: its runs, of four reels. -/
import Derived.Test.YtlaakbmimplceaaDoorStL
/-! THE LAW OF STRANGE REELS: its runs, of four reels. -/
namespace Go.Sx
set_option maxRecDepth 100000
theorem lawSt4_0 : lawSt 4 0 = true := by kernel_rfl
theorem lawSt4_1 : lawSt 4 1 = true := by kernel_rfl
theorem lawSt4_2 : lawSt 4 2 = true := by kernel_rfl
theorem lawSt4_3 : lawSt 4 3 = true := by kernel_rfl
theorem lawSt4_4 : lawSt 4 4 = true := by kernel_rfl
theorem lawSt4_5 : lawSt 4 5 = true := by kernel_rfl
theorem lawSt4_6 : lawSt 4 6 = true := by kernel_rfl
theorem lawSt4_7 : lawSt 4 7 = true := by kernel_rfl
theorem lawSt4_8 : lawSt 4 8 = true := by kernel_rfl
theorem lawSt4_9 : lawSt 4 9 = true := by kernel_rfl
theorem lawSt4_10 : lawSt 4 10 = true := by kernel_rfl
theorem lawSt4_11 : lawSt 4 11 = true := by kernel_rfl
theorem lawSt4_12 : lawSt 4 12 = true := by kernel_rfl
theorem lawSt4_13 : lawSt 4 13 = true := by kernel_rfl
theorem lawSt4_14 : lawSt 4 14 = true := by kernel_rfl
end Go.Sx
