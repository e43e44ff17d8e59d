/- MxF6d -/
import Derived.Test.YtlaakbmimplceaaDoorMxM
namespace Go.Sx
noncomputable section
open Go.RowKit Go.Proofs
set_option maxRecDepth 100000
theorem ckFm630 : ckFmB 6 3 0 = true := by kernel_rfl
theorem ckFm631 : ckFmB 6 3 1 = true := by kernel_rfl
theorem ckFm632 : ckFmB 6 3 2 = true := by kernel_rfl
theorem ckFm634 : ckFmB 6 3 4 = true := by kernel_rfl
theorem ckFm635 : ckFmB 6 3 5 = true := by kernel_rfl
end
end Go.Sx
