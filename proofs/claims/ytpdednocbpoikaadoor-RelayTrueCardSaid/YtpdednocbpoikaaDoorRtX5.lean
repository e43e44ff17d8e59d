/- RtX5 -/
import Derived.Test.YtpdednocbpoikaaDoorRtW
namespace Go.Sx
open Go.RowKit Go.Proofs
set_option maxRecDepth 100000
theorem ckTr1 : lAll (ckTr 1) (plansL 1) = true := by kernel_rfl
theorem ckTr2 : lAll (ckTr 2) (plansL 2) = true := by kernel_rfl
theorem ckTr3 : lAll (ckTr 3) (plansL 3) = true := by kernel_rfl
theorem ckTr4_0 : lAll (ckTr 4) (lTake (lDrop (plansL 4) 0) 2) = true := by kernel_rfl
theorem ckTr4_1 : lAll (ckTr 4) (lTake (lDrop (plansL 4) 2) 2) = true := by kernel_rfl
theorem ckTr4_2 : lAll (ckTr 4) (lTake (lDrop (plansL 4) 4) 2) = true := by kernel_rfl
theorem ckTr4_3 : lAll (ckTr 4) (lTake (lDrop (plansL 4) 6) 2) = true := by kernel_rfl
end Go.Sx
namespace Go.Sx
open Go.RowKit Go.Proofs
set_option maxRecDepth 100000
theorem ckTr5_0 : lAll (ckTr 5) (lTake (lDrop (plansL 5) 0) 1) = true := by kernel_rfl
theorem ckTr5_1 : lAll (ckTr 5) (lTake (lDrop (plansL 5) 1) 1) = true := by kernel_rfl
theorem ckTr5_2 : lAll (ckTr 5) (lTake (lDrop (plansL 5) 2) 1) = true := by kernel_rfl
theorem ckTr5_3 : lAll (ckTr 5) (lTake (lDrop (plansL 5) 3) 1) = true := by kernel_rfl
theorem ckTr5_4 : lAll (ckTr 5) (lTake (lDrop (plansL 5) 4) 1) = true := by kernel_rfl
theorem ckTr5_5 : lAll (ckTr 5) (lTake (lDrop (plansL 5) 5) 1) = true := by kernel_rfl
theorem ckTr5_6 : lAll (ckTr 5) (lTake (lDrop (plansL 5) 6) 1) = true := by kernel_rfl
theorem ckTr5_7 : lAll (ckTr 5) (lTake (lDrop (plansL 5) 7) 1) = true := by kernel_rfl
theorem ckTr5_8 : lAll (ckTr 5) (lTake (lDrop (plansL 5) 8) 1) = true := by kernel_rfl
theorem ckTr5_9 : lAll (ckTr 5) (lTake (lDrop (plansL 5) 9) 1) = true := by kernel_rfl
theorem ckTr5_10 : lAll (ckTr 5) (lTake (lDrop (plansL 5) 10) 1) = true := by kernel_rfl
theorem ckTr5_11 : lAll (ckTr 5) (lTake (lDrop (plansL 5) 11) 1) = true := by kernel_rfl
theorem ckTr5_12 : lAll (ckTr 5) (lTake (lDrop (plansL 5) 12) 1) = true := by kernel_rfl
theorem ckTr5_13 : lAll (ckTr 5) (lTake (lDrop (plansL 5) 13) 1) = true := by kernel_rfl
theorem ckTr5_14 : lAll (ckTr 5) (lTake (lDrop (plansL 5) 14) 1) = true := by kernel_rfl
theorem ckTr5_15 : lAll (ckTr 5) (lTake (lDrop (plansL 5) 15) 1) = true := by kernel_rfl
end Go.Sx
