/- THE LAW OF WHAT CAN BE SEEN BETTER: its runs, of five reels. -/
import Derived.Test.YtlaakbmimplceaaDoorNwL
/-! THE LAW OF WHAT CAN BE SEEN BETTER: its runs, of five reels. -/
namespace Go.Sx
set_option maxRecDepth 100000
theorem lawNw5_0 : lawNw false 5 0 0 = true := by kernel_rfl
theorem lawNw5_0_1 : lAll (lawNw true 5 0) (upN 7 1) = true := by kernel_rfl
theorem lawNw5_0_8 : lAll (lawNw true 5 0) (upN 8 8) = true := by kernel_rfl
theorem lawNw5_0_16 : lAll (lawNw true 5 0) (upN 8 16) = true := by kernel_rfl
theorem lawNw5_0_24 : lAll (lawNw true 5 0) (upN 8 24) = true := by kernel_rfl
theorem lawNw5_1 : lawNw false 5 1 0 = true := by kernel_rfl
theorem lawNw5_1_1 : lAll (lawNw true 5 1) (upN 7 1) = true := by kernel_rfl
theorem lawNw5_1_8 : lAll (lawNw true 5 1) (upN 8 8) = true := by kernel_rfl
theorem lawNw5_1_16 : lAll (lawNw true 5 1) (upN 8 16) = true := by kernel_rfl
theorem lawNw5_1_24 : lAll (lawNw true 5 1) (upN 8 24) = true := by kernel_rfl
theorem lawNw5_2 : lawNw false 5 2 0 = true := by kernel_rfl
theorem lawNw5_2_1 : lAll (lawNw true 5 2) (upN 7 1) = true := by kernel_rfl
theorem lawNw5_2_8 : lAll (lawNw true 5 2) (upN 8 8) = true := by kernel_rfl
theorem lawNw5_2_16 : lAll (lawNw true 5 2) (upN 8 16) = true := by kernel_rfl
theorem lawNw5_2_24 : lAll (lawNw true 5 2) (upN 8 24) = true := by kernel_rfl
theorem lawNw5_3 : lawNw false 5 3 0 = true := by kernel_rfl
theorem lawNw5_3_1 : lAll (lawNw true 5 3) (upN 7 1) = true := by kernel_rfl
theorem lawNw5_3_8 : lAll (lawNw true 5 3) (upN 8 8) = true := by kernel_rfl
theorem lawNw5_3_16 : lAll (lawNw true 5 3) (upN 8 16) = true := by kernel_rfl
theorem lawNw5_3_24 : lAll (lawNw true 5 3) (upN 8 24) = true := by kernel_rfl
theorem lawNw5_4 : lawNw false 5 4 0 = true := by kernel_rfl
theorem lawNw5_4_1 : lAll (lawNw true 5 4) (upN 7 1) = true := by kernel_rfl
theorem lawNw5_4_8 : lAll (lawNw true 5 4) (upN 8 8) = true := by kernel_rfl
theorem lawNw5_4_16 : lAll (lawNw true 5 4) (upN 8 16) = true := by kernel_rfl
theorem lawNw5_4_24 : lAll (lawNw true 5 4) (upN 8 24) = true := by kernel_rfl
end Go.Sx
