/- RtK6e -/
import Derived.Test.YtpdednocbpoikaaDoorRtC
namespace Go.Sx
open Go.RowKit Go.Proofs
set_option maxRecDepth 100000
theorem ckOv6_16 : lAll (ckOv 6) (lTake (lDrop (plansL 6) 16) 1) = true := by kernel_rfl
theorem ckH6_16 : lAll (ckH 6) (lTake (lDrop (plansL 6) 16) 1) = true := by kernel_rfl
theorem ckOv6_17 : lAll (ckOv 6) (lTake (lDrop (plansL 6) 17) 1) = true := by kernel_rfl
theorem ckH6_17 : lAll (ckH 6) (lTake (lDrop (plansL 6) 17) 1) = true := by kernel_rfl
theorem ckOv6_18 : lAll (ckOv 6) (lTake (lDrop (plansL 6) 18) 1) = true := by kernel_rfl
theorem ckH6_18 : lAll (ckH 6) (lTake (lDrop (plansL 6) 18) 1) = true := by kernel_rfl
theorem ckOv6_19 : lAll (ckOv 6) (lTake (lDrop (plansL 6) 19) 1) = true := by kernel_rfl
theorem ckH6_19 : lAll (ckH 6) (lTake (lDrop (plansL 6) 19) 1) = true := by kernel_rfl
end Go.Sx
