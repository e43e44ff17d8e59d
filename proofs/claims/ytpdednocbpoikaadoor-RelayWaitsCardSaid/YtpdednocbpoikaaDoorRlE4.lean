/- WHEN REELS ARE THERE, by a plan: the runs end as they are said. -/
import Derived.Test.YtpdednocbpoikaaDoorRlE
/-! WHEN REELS ARE THERE, by a plan: the runs end as they are said. -/
namespace Go.Sx
open Go.RowKit Go.Proofs
set_option maxRecDepth 100000
theorem ckTh4_0 : lAll (ckTh 4) (lTake (lDrop (plansL 4) 0) 2) = true := by kernel_rfl
theorem ckSt4_0 : lAll (ckSt 4) (lTake (lDrop (plansL 4) 0) 2) = true := by kernel_rfl
theorem ckTh4_1 : lAll (ckTh 4) (lTake (lDrop (plansL 4) 2) 2) = true := by kernel_rfl
theorem ckSt4_1 : lAll (ckSt 4) (lTake (lDrop (plansL 4) 2) 2) = true := by kernel_rfl
theorem ckTh4_2 : lAll (ckTh 4) (lTake (lDrop (plansL 4) 4) 2) = true := by kernel_rfl
theorem ckSt4_2 : lAll (ckSt 4) (lTake (lDrop (plansL 4) 4) 2) = true := by kernel_rfl
theorem ckTh4_3 : lAll (ckTh 4) (lTake (lDrop (plansL 4) 6) 2) = true := by kernel_rfl
theorem ckSt4_3 : lAll (ckSt 4) (lTake (lDrop (plansL 4) 6) 2) = true := by kernel_rfl
end Go.Sx
