/- THE LAW OF WHO WAITS: its runs hand back true. -/
import Derived.Test.YtpdednocbpoikaaDoorRlF
/-! THE LAW OF WHO WAITS: its runs hand back true. -/
namespace Go.Sx
open Go.RowKit Go.Proofs
set_option maxRecDepth 100000
theorem ckW6_8 : lAll (ckW 6) (lTake (lDrop (plansL 6) 16) 2) = true := by kernel_rfl
theorem ckW6_9 : lAll (ckW 6) (lTake (lDrop (plansL 6) 18) 2) = true := by kernel_rfl
theorem ckW6_10 : lAll (ckW 6) (lTake (lDrop (plansL 6) 20) 2) = true := by kernel_rfl
theorem ckW6_11 : lAll (ckW 6) (lTake (lDrop (plansL 6) 22) 2) = true := by kernel_rfl
theorem ckW6_12 : lAll (ckW 6) (lTake (lDrop (plansL 6) 24) 2) = true := by kernel_rfl
theorem ckW6_13 : lAll (ckW 6) (lTake (lDrop (plansL 6) 26) 2) = true := by kernel_rfl
theorem ckW6_14 : lAll (ckW 6) (lTake (lDrop (plansL 6) 28) 2) = true := by kernel_rfl
theorem ckW6_15 : lAll (ckW 6) (lTake (lDrop (plansL 6) 30) 2) = true := by kernel_rfl
end Go.Sx
