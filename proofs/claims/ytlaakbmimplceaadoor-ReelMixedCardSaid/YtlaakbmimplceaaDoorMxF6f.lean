/- MxF6f -/
import Derived.Test.YtlaakbmimplceaaDoorMxM
namespace Go.Sx
noncomputable section
open Go.RowKit Go.Proofs
set_option maxRecDepth 100000
theorem ckFm650 : ckFmB 6 5 0 = true := by kernel_rfl
theorem ckFm651 : ckFmB 6 5 1 = true := by kernel_rfl
theorem ckFm652 : ckFmB 6 5 2 = true := by kernel_rfl
theorem ckFm653 : ckFmB 6 5 3 = true := by kernel_rfl
theorem ckFm654 : ckFmB 6 5 4 = true := by kernel_rfl
end
end Go.Sx
