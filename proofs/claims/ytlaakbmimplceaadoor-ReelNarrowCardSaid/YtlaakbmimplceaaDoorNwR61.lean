/- THE LAW OF WHAT CAN BE SEEN BETTER: its runs, of six reels. -/
import Derived.Test.YtlaakbmimplceaaDoorNwL
/-! THE LAW OF WHAT CAN BE SEEN BETTER: its runs, of six reels. -/
namespace Go.Sx
set_option maxRecDepth 100000
theorem lawNw6_1 : lawNw false 6 1 0 = true := by kernel_rfl
theorem lawNw6_1_1 : lAll (lawNw true 6 1) (upN 7 1) = true := by kernel_rfl
theorem lawNw6_1_8 : lAll (lawNw true 6 1) (upN 8 8) = true := by kernel_rfl
theorem lawNw6_1_16 : lAll (lawNw true 6 1) (upN 8 16) = true := by kernel_rfl
theorem lawNw6_1_24 : lAll (lawNw true 6 1) (upN 8 24) = true := by kernel_rfl
theorem lawNw6_1_32 : lAll (lawNw true 6 1) (upN 8 32) = true := by kernel_rfl
theorem lawNw6_1_40 : lAll (lawNw true 6 1) (upN 8 40) = true := by kernel_rfl
theorem lawNw6_1_48 : lAll (lawNw true 6 1) (upN 8 48) = true := by kernel_rfl
theorem lawNw6_1_56 : lAll (lawNw true 6 1) (upN 8 56) = true := by kernel_rfl
end Go.Sx
