/- RtK5a -/
import Derived.Test.YtpdednocbpoikaaDoorRtC
namespace Go.Sx
open Go.RowKit Go.Proofs
set_option maxRecDepth 100000
theorem ckOv4_0 : lAll (ckOv 4) (lTake (lDrop (plansL 4) 0) 2) = true := by kernel_rfl
theorem ckOv4_1 : lAll (ckOv 4) (lTake (lDrop (plansL 4) 2) 2) = true := by kernel_rfl
theorem ckOv4_2 : lAll (ckOv 4) (lTake (lDrop (plansL 4) 4) 2) = true := by kernel_rfl
theorem ckOv4_3 : lAll (ckOv 4) (lTake (lDrop (plansL 4) 6) 2) = true := by kernel_rfl
end Go.Sx
namespace Go.Sx
open Go.RowKit Go.Proofs
set_option maxRecDepth 100000
theorem ckOv5_0 : lAll (ckOv 5) (lTake (lDrop (plansL 5) 0) 1) = true := by kernel_rfl
theorem ckOv5_1 : lAll (ckOv 5) (lTake (lDrop (plansL 5) 1) 1) = true := by kernel_rfl
theorem ckOv5_2 : lAll (ckOv 5) (lTake (lDrop (plansL 5) 2) 1) = true := by kernel_rfl
theorem ckOv5_3 : lAll (ckOv 5) (lTake (lDrop (plansL 5) 3) 1) = true := by kernel_rfl
theorem ckOv5_4 : lAll (ckOv 5) (lTake (lDrop (plansL 5) 4) 1) = true := by kernel_rfl
theorem ckOv5_5 : lAll (ckOv 5) (lTake (lDrop (plansL 5) 5) 1) = true := by kernel_rfl
theorem ckOv5_6 : lAll (ckOv 5) (lTake (lDrop (plansL 5) 6) 1) = true := by kernel_rfl
theorem ckOv5_7 : lAll (ckOv 5) (lTake (lDrop (plansL 5) 7) 1) = true := by kernel_rfl
end Go.Sx
