/- RtX6b -/
import Derived.Test.YtpdednocbpoikaaDoorRtW
namespace Go.Sx
open Go.RowKit Go.Proofs
set_option maxRecDepth 100000
theorem ckTr6_8 : lAll (ckTr 6) (lTake (lDrop (plansL 6) 8) 1) = true := by kernel_rfl
theorem ckTr6_9 : lAll (ckTr 6) (lTake (lDrop (plansL 6) 9) 1) = true := by kernel_rfl
theorem ckTr6_10 : lAll (ckTr 6) (lTake (lDrop (plansL 6) 10) 1) = true := by kernel_rfl
theorem ckTr6_11 : lAll (ckTr 6) (lTake (lDrop (plansL 6) 11) 1) = true := by kernel_rfl
theorem ckTr6_12 : lAll (ckTr 6) (lTake (lDrop (plansL 6) 12) 1) = true := by kernel_rfl
theorem ckTr6_13 : lAll (ckTr 6) (lTake (lDrop (plansL 6) 13) 1) = true := by kernel_rfl
theorem ckTr6_14 : lAll (ckTr 6) (lTake (lDrop (plansL 6) 14) 1) = true := by kernel_rfl
theorem ckTr6_15 : lAll (ckTr 6) (lTake (lDrop (plansL 6) 15) 1) = true := by kernel_rfl
end Go.Sx
