/- RtX6d -/
import Derived.Test.YtpdednocbpoikaaDoorRtW
namespace Go.Sx
open Go.RowKit Go.Proofs
set_option maxRecDepth 100000
theorem ckTr6_24 : lAll (ckTr 6) (lTake (lDrop (plansL 6) 24) 1) = true := by kernel_rfl
theorem ckTr6_25 : lAll (ckTr 6) (lTake (lDrop (plansL 6) 25) 1) = true := by kernel_rfl
theorem ckTr6_26 : lAll (ckTr 6) (lTake (lDrop (plansL 6) 26) 1) = true := by kernel_rfl
theorem ckTr6_27 : lAll (ckTr 6) (lTake (lDrop (plansL 6) 27) 1) = true := by kernel_rfl
theorem ckTr6_28 : lAll (ckTr 6) (lTake (lDrop (plansL 6) 28) 1) = true := by kernel_rfl
theorem ckTr6_29 : lAll (ckTr 6) (lTake (lDrop (plansL 6) 29) 1) = true := by kernel_rfl
theorem ckTr6_30 : lAll (ckTr 6) (lTake (lDrop (plansL 6) 30) 1) = true := by kernel_rfl
theorem ckTr6_31 : lAll (ckTr 6) (lTake (lDrop (plansL 6) 31) 1) = true := by kernel_rfl
end Go.Sx
