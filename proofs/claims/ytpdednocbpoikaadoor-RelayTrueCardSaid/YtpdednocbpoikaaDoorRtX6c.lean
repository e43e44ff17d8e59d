/- RtX6c -/
import Derived.Test.YtpdednocbpoikaaDoorRtW
namespace Go.Sx
open Go.RowKit Go.Proofs
set_option maxRecDepth 100000
theorem ckTr6_16 : lAll (ckTr 6) (lTake (lDrop (plansL 6) 16) 1) = true := by kernel_rfl
theorem ckTr6_17 : lAll (ckTr 6) (lTake (lDrop (plansL 6) 17) 1) = true := by kernel_rfl
theorem ckTr6_18 : lAll (ckTr 6) (lTake (lDrop (plansL 6) 18) 1) = true := by kernel_rfl
theorem ckTr6_19 : lAll (ckTr 6) (lTake (lDrop (plansL 6) 19) 1) = true := by kernel_rfl
theorem ckTr6_20 : lAll (ckTr 6) (lTake (lDrop (plansL 6) 20) 1) = true := by kernel_rfl
theorem ckTr6_21 : lAll (ckTr 6) (lTake (lDrop (plansL 6) 21) 1) = true := by kernel_rfl
theorem ckTr6_22 : lAll (ckTr 6) (lTake (lDrop (plansL 6) 22) 1) = true := by kernel_rfl
theorem ckTr6_23 : lAll (ckTr 6) (lTake (lDrop (plansL 6) 23) 1) = true := by kernel_rfl
end Go.Sx
