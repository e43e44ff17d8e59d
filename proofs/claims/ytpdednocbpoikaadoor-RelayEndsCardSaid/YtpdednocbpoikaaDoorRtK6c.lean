/- RtK6c -/
import Derived.Test.YtpdednocbpoikaaDoorRtC
namespace Go.Sx
open Go.RowKit Go.Proofs
set_option maxRecDepth 100000
theorem ckOv6_4 : lAll (ckOv 6) (lTake (lDrop (plansL 6) 4) 1) = true := by kernel_rfl
theorem ckOv6_5 : lAll (ckOv 6) (lTake (lDrop (plansL 6) 5) 1) = true := by kernel_rfl
theorem ckOv6_6 : lAll (ckOv 6) (lTake (lDrop (plansL 6) 6) 1) = true := by kernel_rfl
theorem ckOv6_7 : lAll (ckOv 6) (lTake (lDrop (plansL 6) 7) 1) = true := by kernel_rfl
end Go.Sx
namespace Go.Sx
open Go.RowKit Go.Proofs
set_option maxRecDepth 100000
theorem ckOv6_8 : lAll (ckOv 6) (lTake (lDrop (plansL 6) 8) 1) = true := by kernel_rfl
theorem ckOv6_9 : lAll (ckOv 6) (lTake (lDrop (plansL 6) 9) 1) = true := by kernel_rfl
theorem ckOv6_10 : lAll (ckOv 6) (lTake (lDrop (plansL 6) 10) 1) = true := by kernel_rfl
theorem ckOv6_11 : lAll (ckOv 6) (lTake (lDrop (plansL 6) 11) 1) = true := by kernel_rfl
end Go.Sx
