/- RlE6d -/
import Derived.Test.YtpdednocbpoikaaDoorRlE
namespace Go.Sx
open Go.RowKit Go.Proofs
set_option maxRecDepth 100000
theorem ckTh6_24 : lAll (ckTh 6) (lTake (lDrop (plansL 6) 24) 1) = true := by kernel_rfl
theorem ckSt6_24 : lAll (ckSt 6) (lTake (lDrop (plansL 6) 24) 1) = true := by kernel_rfl
theorem ckTh6_25 : lAll (ckTh 6) (lTake (lDrop (plansL 6) 25) 1) = true := by kernel_rfl
theorem ckSt6_25 : lAll (ckSt 6) (lTake (lDrop (plansL 6) 25) 1) = true := by kernel_rfl
theorem ckTh6_26 : lAll (ckTh 6) (lTake (lDrop (plansL 6) 26) 1) = true := by kernel_rfl
theorem ckSt6_26 : lAll (ckSt 6) (lTake (lDrop (plansL 6) 26) 1) = true := by kernel_rfl
theorem ckTh6_27 : lAll (ckTh 6) (lTake (lDrop (plansL 6) 27) 1) = true := by kernel_rfl
theorem ckSt6_27 : lAll (ckSt 6) (lTake (lDrop (plansL 6) 27) 1) = true := by kernel_rfl
theorem ckTh6_28 : lAll (ckTh 6) (lTake (lDrop (plansL 6) 28) 1) = true := by kernel_rfl
theorem ckSt6_28 : lAll (ckSt 6) (lTake (lDrop (plansL 6) 28) 1) = true := by kernel_rfl
theorem ckTh6_29 : lAll (ckTh 6) (lTake (lDrop (plansL 6) 29) 1) = true := by kernel_rfl
theorem ckSt6_29 : lAll (ckSt 6) (lTake (lDrop (plansL 6) 29) 1) = true := by kernel_rfl
theorem ckTh6_30 : lAll (ckTh 6) (lTake (lDrop (plansL 6) 30) 1) = true := by kernel_rfl
theorem ckSt6_30 : lAll (ckSt 6) (lTake (lDrop (plansL 6) 30) 1) = true := by kernel_rfl
theorem ckTh6_31 : lAll (ckTh 6) (lTake (lDrop (plansL 6) 31) 1) = true := by kernel_rfl
theorem ckSt6_31 : lAll (ckSt 6) (lTake (lDrop (plansL 6) 31) 1) = true := by kernel_rfl
end Go.Sx
