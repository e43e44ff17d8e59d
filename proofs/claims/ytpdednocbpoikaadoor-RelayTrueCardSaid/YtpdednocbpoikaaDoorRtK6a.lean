/- RtK6a -/
import Derived.Test.YtpdednocbpoikaaDoorRtC
namespace Go.Sx
open Go.RowKit Go.Proofs
set_option maxRecDepth 100000
theorem ckOv6_0 : lAll (ckOv 6) (lTake (lDrop (plansL 6) 0) 1) = true := by kernel_rfl
theorem ckH6_0 : lAll (ckH 6) (lTake (lDrop (plansL 6) 0) 1) = true := by kernel_rfl
theorem ckOv6_1 : lAll (ckOv 6) (lTake (lDrop (plansL 6) 1) 1) = true := by kernel_rfl
theorem ckH6_1 : lAll (ckH 6) (lTake (lDrop (plansL 6) 1) 1) = true := by kernel_rfl
theorem ckOv6_2 : lAll (ckOv 6) (lTake (lDrop (plansL 6) 2) 1) = true := by kernel_rfl
theorem ckH6_2 : lAll (ckH 6) (lTake (lDrop (plansL 6) 2) 1) = true := by kernel_rfl
theorem ckOv6_3 : lAll (ckOv 6) (lTake (lDrop (plansL 6) 3) 1) = true := by kernel_rfl
theorem ckH6_3 : lAll (ckH 6) (lTake (lDrop (plansL 6) 3) 1) = true := by kernel_rfl
end Go.Sx
