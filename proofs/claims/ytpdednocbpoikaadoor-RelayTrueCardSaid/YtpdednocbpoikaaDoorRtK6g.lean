/- RtK6g -/
import Derived.Test.YtpdednocbpoikaaDoorRtC
namespace Go.Sx
open Go.RowKit Go.Proofs
set_option maxRecDepth 100000
theorem ckOv6_24 : lAll (ckOv 6) (lTake (lDrop (plansL 6) 24) 1) = true := by kernel_rfl
theorem ckH6_24 : lAll (ckH 6) (lTake (lDrop (plansL 6) 24) 1) = true := by kernel_rfl
theorem ckOv6_25 : lAll (ckOv 6) (lTake (lDrop (plansL 6) 25) 1) = true := by kernel_rfl
theorem ckH6_25 : lAll (ckH 6) (lTake (lDrop (plansL 6) 25) 1) = true := by kernel_rfl
theorem ckOv6_26 : lAll (ckOv 6) (lTake (lDrop (plansL 6) 26) 1) = true := by kernel_rfl
theorem ckH6_26 : lAll (ckH 6) (lTake (lDrop (plansL 6) 26) 1) = true := by kernel_rfl
theorem ckOv6_27 : lAll (ckOv 6) (lTake (lDrop (plansL 6) 27) 1) = true := by kernel_rfl
theorem ckH6_27 : lAll (ckH 6) (lTake (lDrop (plansL 6) 27) 1) = true := by kernel_rfl
end Go.Sx
