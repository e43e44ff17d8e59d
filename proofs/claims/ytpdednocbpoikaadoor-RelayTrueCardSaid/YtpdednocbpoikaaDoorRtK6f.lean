/- RtK6f -/
import Derived.Test.YtpdednocbpoikaaDoorRtC
namespace Go.Sx
open Go.RowKit Go.Proofs
set_option maxRecDepth 100000
theorem ckOv6_20 : lAll (ckOv 6) (lTake (lDrop (plansL 6) 20) 1) = true := by kernel_rfl
theorem ckH6_20 : lAll (ckH 6) (lTake (lDrop (plansL 6) 20) 1) = true := by kernel_rfl
theorem ckOv6_21 : lAll (ckOv 6) (lTake (lDrop (plansL 6) 21) 1) = true := by kernel_rfl
theorem ckH6_21 : lAll (ckH 6) (lTake (lDrop (plansL 6) 21) 1) = true := by kernel_rfl
theorem ckOv6_22 : lAll (ckOv 6) (lTake (lDrop (plansL 6) 22) 1) = true := by kernel_rfl
theorem ckH6_22 : lAll (ckH 6) (lTake (lDrop (plansL 6) 22) 1) = true := by kernel_rfl
theorem ckOv6_23 : lAll (ckOv 6) (lTake (lDrop (plansL 6) 23) 1) = true := by kernel_rfl
theorem ckH6_23 : lAll (ckH 6) (lTake (lDrop (plansL 6) 23) 1) = true := by kernel_rfl
end Go.Sx
