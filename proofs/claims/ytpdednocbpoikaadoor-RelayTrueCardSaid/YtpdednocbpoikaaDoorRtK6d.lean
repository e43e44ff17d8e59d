/- RtK6d -/
import Derived.Test.YtpdednocbpoikaaDoorRtC
namespace Go.Sx
open Go.RowKit Go.Proofs
set_option maxRecDepth 100000
theorem ckOv6_12 : lAll (ckOv 6) (lTake (lDrop (plansL 6) 12) 1) = true := by kernel_rfl
theorem ckH6_12 : lAll (ckH 6) (lTake (lDrop (plansL 6) 12) 1) = true := by kernel_rfl
theorem ckOv6_13 : lAll (ckOv 6) (lTake (lDrop (plansL 6) 13) 1) = true := by kernel_rfl
theorem ckH6_13 : lAll (ckH 6) (lTake (lDrop (plansL 6) 13) 1) = true := by kernel_rfl
theorem ckOv6_14 : lAll (ckOv 6) (lTake (lDrop (plansL 6) 14) 1) = true := by kernel_rfl
theorem ckH6_14 : lAll (ckH 6) (lTake (lDrop (plansL 6) 14) 1) = true := by kernel_rfl
theorem ckOv6_15 : lAll (ckOv 6) (lTake (lDrop (plansL 6) 15) 1) = true := by kernel_rfl
theorem ckH6_15 : lAll (ckH 6) (lTake (lDrop (plansL 6) 15) 1) = true := by kernel_rfl
end Go.Sx
