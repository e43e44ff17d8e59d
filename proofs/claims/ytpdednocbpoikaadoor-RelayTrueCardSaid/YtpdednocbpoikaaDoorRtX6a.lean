/- RtX6a -/
import Derived.Test.YtpdednocbpoikaaDoorRtW
namespace Go.Sx
open Go.RowKit Go.Proofs
set_option maxRecDepth 100000
theorem ckTr6_0 : lAll (ckTr 6) (lTake (lDrop (plansL 6) 0) 1) = true := by kernel_rfl
theorem ckTr6_1 : lAll (ckTr 6) (lTake (lDrop (plansL 6) 1) 1) = true := by kernel_rfl
theorem ckTr6_2 : lAll (ckTr 6) (lTake (lDrop (plansL 6) 2) 1) = true := by kernel_rfl
theorem ckTr6_3 : lAll (ckTr 6) (lTake (lDrop (plansL 6) 3) 1) = true := by kernel_rfl
theorem ckTr6_4 : lAll (ckTr 6) (lTake (lDrop (plansL 6) 4) 1) = true := by kernel_rfl
theorem ckTr6_5 : lAll (ckTr 6) (lTake (lDrop (plansL 6) 5) 1) = true := by kernel_rfl
theorem ckTr6_6 : lAll (ckTr 6) (lTake (lDrop (plansL 6) 6) 1) = true := by kernel_rfl
theorem ckTr6_7 : lAll (ckTr 6) (lTake (lDrop (plansL 6) 7) 1) = true := by kernel_rfl
end Go.Sx
