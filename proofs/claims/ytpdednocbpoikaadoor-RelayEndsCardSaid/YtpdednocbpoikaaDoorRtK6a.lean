/- RtK6a -/
import Derived.Test.YtpdednocbpoikaaDoorRtC
namespace Go.Sx
open Go.RowKit Go.Proofs
set_option maxRecDepth 100000
theorem ckOv5_8 : lAll (ckOv 5) (lTake (lDrop (plansL 5) 8) 1) = true := by kernel_rfl
theorem ckOv5_9 : lAll (ckOv 5) (lTake (lDrop (plansL 5) 9) 1) = true := by kernel_rfl
theorem ckOv5_10 : lAll (ckOv 5) (lTake (lDrop (plansL 5) 10) 1) = true := by kernel_rfl
theorem ckOv5_11 : lAll (ckOv 5) (lTake (lDrop (plansL 5) 11) 1) = true := by kernel_rfl
theorem ckOv5_12 : lAll (ckOv 5) (lTake (lDrop (plansL 5) 12) 1) = true := by kernel_rfl
theorem ckOv5_13 : lAll (ckOv 5) (lTake (lDrop (plansL 5) 13) 1) = true := by kernel_rfl
theorem ckOv5_14 : lAll (ckOv 5) (lTake (lDrop (plansL 5) 14) 1) = true := by kernel_rfl
theorem ckOv5_15 : lAll (ckOv 5) (lTake (lDrop (plansL 5) 15) 1) = true := by kernel_rfl
end Go.Sx
namespace Go.Sx
open Go.RowKit Go.Proofs
set_option maxRecDepth 100000
theorem ckOv6_0 : lAll (ckOv 6) (lTake (lDrop (plansL 6) 0) 1) = true := by kernel_rfl
theorem ckOv6_1 : lAll (ckOv 6) (lTake (lDrop (plansL 6) 1) 1) = true := by kernel_rfl
theorem ckOv6_2 : lAll (ckOv 6) (lTake (lDrop (plansL 6) 2) 1) = true := by kernel_rfl
theorem ckOv6_3 : lAll (ckOv 6) (lTake (lDrop (plansL 6) 3) 1) = true := by kernel_rfl
end Go.Sx
