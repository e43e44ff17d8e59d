/- THE LAW OF WHO WAITS: its runs hand back true. -/
import Derived.Test.YtpdednocbpoikaaDoorRlF
/-! THE LAW OF WHO WAITS: its runs hand back true. -/
namespace Go.Sx
open Go.RowKit Go.Proofs
set_option maxRecDepth 100000
theorem ckW6_0 : lAll (ckW 6) (lTake (lDrop (plansL 6) 0) 2) = true := by kernel_rfl
theorem ckW6_1 : lAll (ckW 6) (lTake (lDrop (plansL 6) 2) 2) = true := by kernel_rfl
theorem ckW6_2 : lAll (ckW 6) (lTake (lDrop (plansL 6) 4) 2) = true := by kernel_rfl
theorem ckW6_3 : lAll (ckW 6) (lTake (lDrop (plansL 6) 6) 2) = true := by kernel_rfl
theorem ckW6_4 : lAll (ckW 6) (lTake (lDrop (plansL 6) 8) 2) = true := by kernel_rfl
theorem ckW6_5 : lAll (ckW 6) (lTake (lDrop (plansL 6) 10) 2) = true := by kernel_rfl
theorem ckW6_6 : lAll (ckW 6) (lTake (lDrop (plansL 6) 12) 2) = true := by kernel_rfl
theorem ckW6_7 : lAll (ckW 6) (lTake (lDrop (plansL 6) 14) 2) = true := by kernel_rfl
end Go.Sx
