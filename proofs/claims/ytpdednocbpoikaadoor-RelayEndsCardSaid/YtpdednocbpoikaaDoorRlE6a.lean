/- RlE6a -/
import Derived.Test.YtpdednocbpoikaaDoorRlE
namespace Go.Sx
open Go.RowKit Go.Proofs
set_option maxRecDepth 100000
theorem ckTh6_0 : lAll (ckTh 6) (lTake (lDrop (plansL 6) 0) 1) = true := by kernel_rfl
theorem ckSt6_0 : lAll (ckSt 6) (lTake (lDrop (plansL 6) 0) 1) = true := by kernel_rfl
theorem ckTh6_1 : lAll (ckTh 6) (lTake (lDrop (plansL 6) 1) 1) = true := by kernel_rfl
theorem ckSt6_1 : lAll (ckSt 6) (lTake (lDrop (plansL 6) 1) 1) = true := by kernel_rfl
theorem ckTh6_2 : lAll (ckTh 6) (lTake (lDrop (plansL 6) 2) 1) = true := by kernel_rfl
theorem ckSt6_2 : lAll (ckSt 6) (lTake (lDrop (plansL 6) 2) 1) = true := by kernel_rfl
theorem ckTh6_3 : lAll (ckTh 6) (lTake (lDrop (plansL 6) 3) 1) = true := by kernel_rfl
theorem ckSt6_3 : lAll (ckSt 6) (lTake (lDrop (plansL 6) 3) 1) = true := by kernel_rfl
theorem ckTh6_4 : lAll (ckTh 6) (lTake (lDrop (plansL 6) 4) 1) = true := by kernel_rfl
theorem ckSt6_4 : lAll (ckSt 6) (lTake (lDrop (plansL 6) 4) 1) = true := by kernel_rfl
theorem ckTh6_5 : lAll (ckTh 6) (lTake (lDrop (plansL 6) 5) 1) = true := by kernel_rfl
theorem ckSt6_5 : lAll (ckSt 6) (lTake (lDrop (plansL 6) 5) 1) = true := by kernel_rfl
theorem ckTh6_6 : lAll (ckTh 6) (lTake (lDrop (plansL 6) 6) 1) = true := by kernel_rfl
theorem ckSt6_6 : lAll (ckSt 6) (lTake (lDrop (plansL 6) 6) 1) = true := by kernel_rfl
theorem ckTh6_7 : lAll (ckTh 6) (lTake (lDrop (plansL 6) 7) 1) = true := by kernel_rfl
theorem ckSt6_7 : lAll (ckSt 6) (lTake (lDrop (plansL 6) 7) 1) = true := by kernel_rfl
end Go.Sx
