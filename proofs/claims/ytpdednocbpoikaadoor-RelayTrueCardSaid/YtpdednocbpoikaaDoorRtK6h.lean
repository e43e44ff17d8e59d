/- RtK6h -/
import Derived.Test.YtpdednocbpoikaaDoorRtC
namespace Go.Sx
open Go.RowKit Go.Proofs
set_option maxRecDepth 100000
theorem ckOv6_28 : lAll (ckOv 6) (lTake (lDrop (plansL 6) 28) 1) = true := by kernel_rfl
theorem ckH6_28 : lAll (ckH 6) (lTake (lDrop (plansL 6) 28) 1) = true := by kernel_rfl
theorem ckOv6_29 : lAll (ckOv 6) (lTake (lDrop (plansL 6) 29) 1) = true := by kernel_rfl
theorem ckH6_29 : lAll (ckH 6) (lTake (lDrop (plansL 6) 29) 1) = true := by kernel_rfl
theorem ckOv6_30 : lAll (ckOv 6) (lTake (lDrop (plansL 6) 30) 1) = true := by kernel_rfl
theorem ckH6_30 : lAll (ckH 6) (lTake (lDrop (plansL 6) 30) 1) = true := by kernel_rfl
theorem ckOv6_31 : lAll (ckOv 6) (lTake (lDrop (plansL 6) 31) 1) = true := by kernel_rfl
theorem ckH6_31 : lAll (ckH 6) (lTake (lDrop (plansL 6) 31) 1) = true := by kernel_rfl
end Go.Sx
