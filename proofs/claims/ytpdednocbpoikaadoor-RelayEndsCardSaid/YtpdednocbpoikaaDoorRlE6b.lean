/- RlE6b -/
import Derived.Test.YtpdednocbpoikaaDoorRlE
namespace Go.Sx
open Go.RowKit Go.Proofs
set_option maxRecDepth 100000
theorem ckTh6_8 : lAll (ckTh 6) (lTake (lDrop (plansL 6) 8) 1) = true := by kernel_rfl
theorem ckSt6_8 : lAll (ckSt 6) (lTake (lDrop (plansL 6) 8) 1) = true := by kernel_rfl
theorem ckTh6_9 : lAll (ckTh 6) (lTake (lDrop (plansL 6) 9) 1) = true := by kernel_rfl
theorem ckSt6_9 : lAll (ckSt 6) (lTake (lDrop (plansL 6) 9) 1) = true := by kernel_rfl
theorem ckTh6_10 : lAll (ckTh 6) (lTake (lDrop (plansL 6) 10) 1) = true := by kernel_rfl
theorem ckSt6_10 : lAll (ckSt 6) (lTake (lDrop (plansL 6) 10) 1) = true := by kernel_rfl
theorem ckTh6_11 : lAll (ckTh 6) (lTake (lDrop (plansL 6) 11) 1) = true := by kernel_rfl
theorem ckSt6_11 : lAll (ckSt 6) (lTake (lDrop (plansL 6) 11) 1) = true := by kernel_rfl
theorem ckTh6_12 : lAll (ckTh 6) (lTake (lDrop (plansL 6) 12) 1) = true := by kernel_rfl
theorem ckSt6_12 : lAll (ckSt 6) (lTake (lDrop (plansL 6) 12) 1) = true := by kernel_rfl
theorem ckTh6_13 : lAll (ckTh 6) (lTake (lDrop (plansL 6) 13) 1) = true := by kernel_rfl
theorem ckSt6_13 : lAll (ckSt 6) (lTake (lDrop (plansL 6) 13) 1) = true := by kernel_rfl
theorem ckTh6_14 : lAll (ckTh 6) (lTake (lDrop (plansL 6) 14) 1) = true := by kernel_rfl
theorem ckSt6_14 : lAll (ckSt 6) (lTake (lDrop (plansL 6) 14) 1) = true := by kernel_rfl
theorem ckTh6_15 : lAll (ckTh 6) (lTake (lDrop (plansL 6) 15) 1) = true := by kernel_rfl
theorem ckSt6_15 : lAll (ckSt 6) (lTake (lDrop (plansL 6) 15) 1) = true := by kernel_rfl
end Go.Sx
