/- THE LAW OF WHO WAITS: its runs hand back true. -/
import Derived.Test.YtpdednocbpoikaaDoorRlF
/-! THE LAW OF WHO WAITS: its runs hand back true. -/
namespace Go.Sx
open Go.RowKit Go.Proofs
set_option maxRecDepth 100000
theorem ckW3 : lAll (ckW 3) (plansL 3) = true := by kernel_rfl
theorem ckW4_0 : lAll (ckW 4) (lTake (lDrop (plansL 4) 0) 4) = true := by kernel_rfl
theorem ckW4_1 : lAll (ckW 4) (lTake (lDrop (plansL 4) 4) 4) = true := by kernel_rfl
theorem ckW5_0 : lAll (ckW 5) (lTake (lDrop (plansL 5) 0) 2) = true := by kernel_rfl
theorem ckW5_1 : lAll (ckW 5) (lTake (lDrop (plansL 5) 2) 2) = true := by kernel_rfl
theorem ckW5_2 : lAll (ckW 5) (lTake (lDrop (plansL 5) 4) 2) = true := by kernel_rfl
theorem ckW5_3 : lAll (ckW 5) (lTake (lDrop (plansL 5) 6) 2) = true := by kernel_rfl
theorem ckW5_4 : lAll (ckW 5) (lTake (lDrop (plansL 5) 8) 2) = true := by kernel_rfl
theorem ckW5_5 : lAll (ckW 5) (lTake (lDrop (plansL 5) 10) 2) = true := by kernel_rfl
theorem ckW5_6 : lAll (ckW 5) (lTake (lDrop (plansL 5) 12) 2) = true := by kernel_rfl
theorem ckW5_7 : lAll (ckW 5) (lTake (lDrop (plansL 5) 14) 2) = true := by kernel_rfl
end Go.Sx
