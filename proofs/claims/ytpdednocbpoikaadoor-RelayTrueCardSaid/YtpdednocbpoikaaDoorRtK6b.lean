/- RtK6b -/
import Derived.Test.YtpdednocbpoikaaDoorRtC
namespace Go.Sx
open Go.RowKit Go.Proofs
set_option maxRecDepth 100000
theorem ckOv6_4 : lAll (ckOv 6) (lTake (lDrop (plansL 6) 4) 1) = true := by kernel_rfl
theorem ckH6_4 : lAll (ckH 6) (lTake (lDrop (plansL 6) 4) 1) = true := by kernel_rfl
theorem ckOv6_5 : lAll (ckOv 6) (lTake (lDrop (plansL 6) 5) 1) = true := by kernel_rfl
theorem ckH6_5 : lAll (ckH 6) (lTake (lDrop (plansL 6) 5) 1) = true := by kernel_rfl
theorem ckOv6_6 : lAll (ckOv 6) (lTake (lDrop (plansL 6) 6) 1) = true := by kernel_rfl
theorem ckH6_6 : lAll (ckH 6) (lTake (lDrop (plansL 6) 6) 1) = true := by kernel_rfl
theorem ckOv6_7 : lAll (ckOv 6) (lTake (lDrop (plansL 6) 7) 1) = true := by kernel_rfl
theorem ckH6_7 : lAll (ckH 6) (lTake (lDrop (plansL 6) 7) 1) = true := by kernel_rfl
end Go.Sx
