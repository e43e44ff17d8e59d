/- THE LAW OF WHAT CAN BE SEEN BETTER: its runs, of four reels. -/
import Derived.Test.YtlaakbmimplceaaDoorNwL
/-! THE LAW OF WHAT CAN BE SEEN BETTER: its runs, of four reels. -/
namespace Go.Sx
set_option maxRecDepth 100000
theorem lawNw4_0 : lawNw false 4 0 0 = true := by kernel_rfl
theorem lawNw4_0_1 : lAll (lawNw true 4 0) (upN 7 1) = true := by kernel_rfl
theorem lawNw4_0_8 : lAll (lawNw true 4 0) (upN 8 8) = true := by kernel_rfl
theorem lawNw4_1 : lawNw false 4 1 0 = true := by kernel_rfl
theorem lawNw4_1_1 : lAll (lawNw true 4 1) (upN 7 1) = true := by kernel_rfl
theorem lawNw4_1_8 : lAll (lawNw true 4 1) (upN 8 8) = true := by kernel_rfl
theorem lawNw4_2 : lawNw false 4 2 0 = true := by kernel_rfl
theorem lawNw4_2_1 : lAll (lawNw true 4 2) (upN 7 1) = true := by kernel_rfl
theorem lawNw4_2_8 : lAll (lawNw true 4 2) (upN 8 8) = true := by kernel_rfl
theorem lawNw4_3 : lawNw false 4 3 0 = true := by kernel_rfl
theorem lawNw4_3_1 : lAll (lawNw true 4 3) (upN 7 1) = true := by kernel_rfl
theorem lawNw4_3_8 : lAll (lawNw true 4 3) (upN 8 8) = true := by kernel_rfl
end Go.Sx
