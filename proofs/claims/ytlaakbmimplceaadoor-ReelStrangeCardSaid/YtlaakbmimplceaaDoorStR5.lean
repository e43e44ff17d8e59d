/- THE LAW OF STRANGE REELS: its runs, of five reels. -/
import Derived.Test.YtlaakbmimplceaaDoorStL
/-! THE LAW OF STRANGE REELS: its runs, of five reels. -/
namespace Go.Sx
set_option maxRecDepth 100000
theorem lawSt5_0 : lawSt 5 0 = true := by kernel_rfl
theorem lawSt5_1 : lawSt 5 1 = true := by kernel_rfl
theorem lawSt5_2 : lawSt 5 2 = true := by kernel_rfl
theorem lawSt5_3 : lawSt 5 3 = true := by kernel_rfl
theorem lawSt5_4 : lawSt 5 4 = true := by kernel_rfl
theorem lawSt5_5 : lawSt 5 5 = true := by kernel_rfl
theorem lawSt5_6 : lawSt 5 6 = true := by kernel_rfl
theorem lawSt5_7 : lawSt 5 7 = true := by kernel_rfl
theorem lawSt5_8 : lawSt 5 8 = true := by kernel_rfl
theorem lawSt5_9 : lawSt 5 9 = true := by kernel_rfl
theorem lawSt5_10 : lawSt 5 10 = true := by kernel_rfl
theorem lawSt5_11 : lawSt 5 11 = true := by kernel_rfl
theorem lawSt5_12 : lawSt 5 12 = true := by kernel_rfl
theorem lawSt5_13 : lawSt 5 13 = true := by kernel_rfl
theorem lawSt5_14 : lawSt 5 14 = true := by kernel_rfl
theorem lawSt5_15 : lawSt 5 15 = true := by kernel_rfl
theorem lawSt5_16 : lawSt 5 16 = true := by kernel_rfl
theorem lawSt5_17 : lawSt 5 17 = true := by kernel_rfl
theorem lawSt5_18 : lawSt 5 18 = true := by kernel_rfl
theorem lawSt5_19 : lawSt 5 19 = true := by kernel_rfl
theorem lawSt5_20 : lawSt 5 20 = true := by kernel_rfl
theorem lawSt5_21 : lawSt 5 21 = true := by kernel_rfl
theorem lawSt5_22 : lawSt 5 22 = true := by kernel_rfl
theorem lawSt5_23 : lawSt 5 23 = true := by kernel_rfl
theorem lawSt5_24 : lawSt 5 24 = true := by kernel_rfl
theorem lawSt5_25 : lawSt 5 25 = true := by kernel_rfl
theorem lawSt5_26 : lawSt 5 26 = true := by kernel_rfl
theorem lawSt5_27 : lawSt 5 27 = true := by kernel_rfl
theorem lawSt5_28 : lawSt 5 28 = true := by kernel_rfl
theorem lawSt5_29 : lawSt 5 29 = true := by kernel_rfl
theorem lawSt5_30 : lawSt 5 30 = true := by kernel_rfl
end Go.Sx
