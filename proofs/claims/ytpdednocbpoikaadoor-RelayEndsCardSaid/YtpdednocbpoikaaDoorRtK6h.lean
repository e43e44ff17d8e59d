/- RtK6h -/
import Derived.Test.YtpdednocbpoikaaDoorRtC
namespace Go.Sx
open Go.RowKit Go.Proofs
set_option maxRecDepth 100000
theorem ckOv6_20 : lAll (ckOv 6) (lTake (lDrop (plansL 6) 20) 1) = true := by kernel_rfl
theorem ckOv6_21 : lAll (ckOv 6) (lTake (lDrop (plansL 6) 21) 1) = true := by kernel_rfl
theorem ckOv6_22 : lAll (ckOv 6) (lTake (lDrop (plansL 6) 22) 1) = true := by kernel_rfl
theorem ckOv6_23 : lAll (ckOv 6) (lTake (lDrop (plansL 6) 23) 1) = true := by kernel_rfl
end Go.Sx
namespace Go.Sx
open Go.RowKit Go.Proofs
set_option maxRecDepth 100000
theorem ckOv6_24 : lAll (ckOv 6) (lTake (lDrop (plansL 6) 24) 1) = true := by kernel_rfl
theorem ckOv6_25 : lAll (ckOv 6) (lTake (lDrop (plansL 6) 25) 1) = true := by kernel_rfl
theorem ckOv6_26 : lAll (ckOv 6) (lTake (lDrop (plansL 6) 26) 1) = true := by kernel_rfl
theorem ckOv6_27 : lAll (ckOv 6) (lTake (lDrop (plansL 6) 27) 1) = true := by kernel_rfl
end Go.Sx
namespace Go.Sx
open Go.RowKit Go.Proofs
set_option maxRecDepth 100000
theorem ckOv6_28 : lAll (ckOv 6) (lTake (lDrop (plansL 6) 28) 1) = true := by kernel_rfl
theorem ckOv6_29 : lAll (ckOv 6) (lTake (lDrop (plansL 6) 29) 1) = true := by kernel_rfl
theorem ckOv6_30 : lAll (ckOv 6) (lTake (lDrop (plansL 6) 30) 1) = true := by kernel_rfl
theorem ckOv6_31 : lAll (ckOv 6) (lTake (lDrop (plansL 6) 31) 1) = true := by kernel_rfl
end Go.Sx
