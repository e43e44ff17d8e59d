/- THE LAW OF WHAT CAN BE SEEN BETTER: its runs, of six reels. -/
import Derived.Test.YtlaakbmimplceaaDoorNwL
/-! THE LAW OF WHAT CAN BE SEEN BETTER: its runs, of six reels. -/
namespace Go.Sx
set_option maxRecDepth 100000
theorem lawNw6_2 : lawNw false 6 2 0 = true := by kernel_rfl
theorem lawNw6_2_1 : lAll (lawNw true 6 2) (upN 7 1) = true := by kernel_rfl
theorem lawNw6_2_8 : lAll (lawNw true 6 2) (upN 8 8) = true := by kernel_rfl
theorem lawNw6_2_16 : lAll (lawNw true 6 2) (upN 8 16) = true := by kernel_rfl
theorem lawNw6_2_24 : lAll (lawNw true 6 2) (upN 8 24) = true := by kernel_rfl
theorem lawNw6_2_32 : lAll (lawNw true 6 2) (upN 8 32) = true := by kernel_rfl
theorem lawNw6_2_40 : lAll (lawNw true 6 2) (upN 8 40) = true := by kernel_rfl
theorem lawNw6_2_48 : lAll (lawNw true 6 2) (upN 8 48) = true := by kernel_rfl
theorem lawNw6_2_56 : lAll (lawNw true 6 2) (upN 8 56) = true := by kernel_rfl
end Go.Sx
