/- WHEN REELS ARE THERE, by a plan: the runs end as they are said. -/
import Derived.Test.YtpdednocbpoikaaDoorRlE
/-! WHEN REELS ARE THERE, by a plan: the runs end as they are said. -/
namespace Go.Sx
open Go.RowKit Go.Proofs
set_option maxRecDepth 100000
theorem ckTh5_4 : lAll (ckTh 5) (lTake (lDrop (plansL 5) 8) 2) = true := by kernel_rfl
theorem ckSt5_4 : lAll (ckSt 5) (lTake (lDrop (plansL 5) 8) 2) = true := by kernel_rfl
theorem ckTh5_5 : lAll (ckTh 5) (lTake (lDrop (plansL 5) 10) 2) = true := by kernel_rfl
theorem ckSt5_5 : lAll (ckSt 5) (lTake (lDrop (plansL 5) 10) 2) = true := by kernel_rfl
theorem ckTh5_6 : lAll (ckTh 5) (lTake (lDrop (plansL 5) 12) 2) = true := by kernel_rfl
theorem ckSt5_6 : lAll (ckSt 5) (lTake (lDrop (plansL 5) 12) 2) = true := by kernel_rfl
theorem ckTh5_7 : lAll (ckTh 5) (lTake (lDrop (plansL 5) 14) 2) = true := by kernel_rfl
theorem ckSt5_7 : lAll (ckSt 5) (lTake (lDrop (plansL 5) 14) 2) = true := by kernel_rfl
end Go.Sx
