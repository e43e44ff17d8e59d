/- RlE6c -/
import Derived.Test.YtpdednocbpoikaaDoorRlE
namespace Go.Sx
open Go.RowKit Go.Proofs
set_option maxRecDepth 100000
theorem ckTh6_16 : lAll (ckTh 6) (lTake (lDrop (plansL 6) 16) 1) = true := by kernel_rfl
theorem ckSt6_16 : lAll (ckSt 6) (lTake (lDrop (plansL 6) 16) 1) = true := by kernel_rfl
theorem ckTh6_17 : lAll (ckTh 6) (lTake (lDrop (plansL 6) 17) 1) = true := by kernel_rfl
theorem ckSt6_17 : lAll (ckSt 6) (lTake (lDrop (plansL 6) 17) 1) = true := by kernel_rfl
theorem ckTh6_18 : lAll (ckTh 6) (lTake (lDrop (plansL 6) 18) 1) = true := by kernel_rfl
theorem ckSt6_18 : lAll (ckSt 6) (lTake (lDrop (plansL 6) 18) 1) = true := by kernel_rfl
theorem ckTh6_19 : lAll (ckTh 6) (lTake (lDrop (plansL 6) 19) 1) = true := by kernel_rfl
theorem ckSt6_19 : lAll (ckSt 6) (lTake (lDrop (plansL 6) 19) 1) = true := by kernel_rfl
theorem ckTh6_20 : lAll (ckTh 6) (lTake (lDrop (plansL 6) 20) 1) = true := by kernel_rfl
theorem ckSt6_20 : lAll (ckSt 6) (lTake (lDrop (plansL 6) 20) 1) = true := by kernel_rfl
theorem ckTh6_21 : lAll (ckTh 6) (lTake (lDrop (plansL 6) 21) 1) = true := by kernel_rfl
theorem ckSt6_21 : lAll (ckSt 6) (lTake (lDrop (plansL 6) 21) 1) = true := by kernel_rfl
theorem ckTh6_22 : lAll (ckTh 6) (lTake (lDrop (plansL 6) 22) 1) = true := by kernel_rfl
theorem ckSt6_22 : lAll (ckSt 6) (lTake (lDrop (plansL 6) 22) 1) = true := by kernel_rfl
theorem ckTh6_23 : lAll (ckTh 6) (lTake (lDrop (plansL 6) 23) 1) = true := by kernel_rfl
theorem ckSt6_23 : lAll (ckSt 6) (lTake (lDrop (plansL 6) 23) 1) = true := by kernel_rfl
end Go.Sx
