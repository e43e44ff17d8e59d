/- RtK6e -/
import Derived.Test.YtpdednocbpoikaaDoorRtC
namespace Go.Sx
open Go.RowKit Go.Proofs
set_option maxRecDepth 100000
theorem ckOv6_12 : lAll (ckOv 6) (lTake (lDrop (plansL 6) 12) 1) = true := by kernel_rfl
theorem ckOv6_13 : lAll (ckOv 6) (lTake (lDrop (plansL 6) 13) 1) = true := by kernel_rfl
theorem ckOv6_14 : lAll (ckOv 6) (lTake (lDrop (plansL 6) 14) 1) = true := by kernel_rfl
theorem ckOv6_15 : lAll (ckOv 6) (lTake (lDrop (plansL 6) 15) 1) = true := by kernel_rfl
end Go.Sx
namespace Go.Sx
open Go.RowKit Go.Proofs
set_option maxRecDepth 100000
theorem ckOv6_16 : lAll (ckOv 6) (lTake (lDrop (plansL 6) 16) 1) = true := by kernel_rfl
theorem ckOv6_17 : lAll (ckOv 6) (lTake (lDrop (plansL 6) 17) 1) = true := by kernel_rfl
theorem ckOv6_18 : lAll (ckOv 6) (lTake (lDrop (plansL 6) 18) 1) = true := by kernel_rfl
theorem ckOv6_19 : lAll (ckOv 6) (lTake (lDrop (plansL 6) 19) 1) = true := by kernel_rfl
end Go.Sx
