/- WHEN REELS ARE THERE, by a plan: the runs end as they are said. -/
import Derived.Test.YtpdednocbpoikaaDoorRlE
/-! WHEN REELS ARE THERE, by a plan: the runs end as they are said. -/
namespace Go.Sx
open Go.RowKit Go.Proofs
set_option maxRecDepth 100000
theorem ckTh5_0 : lAll (ckTh 5) (lTake (lDrop (plansL 5) 0) 2) = true := by kernel_rfl
theorem ckSt5_0 : lAll (ckSt 5) (lTake (lDrop (plansL 5) 0) 2) = true := by kernel_rfl
theorem ckTh5_1 : lAll (ckTh 5) (lTake (lDrop (plansL 5) 2) 2) = true := by kernel_rfl
theorem ckSt5_1 : lAll (ckSt 5) (lTake (lDrop (plansL 5) 2) 2) = true := by kernel_rfl
theorem ckTh5_2 : lAll (ckTh 5) (lTake (lDrop (plansL 5) 4) 2) = true := by kernel_rfl
theorem ckSt5_2 : lAll (ckSt 5) (lTake (lDrop (plansL 5) 4) 2) = true := by kernel_rfl
theorem ckTh5_3 : lAll (ckTh 5) (lTake (lDrop (plansL 5) 6) 2) = true := by kernel_rfl
theorem ckSt5_3 : lAll (ckSt 5) (lTake (lDrop (plansL 5) 6) 2) = true := by kernel_rfl
end Go.Sx
