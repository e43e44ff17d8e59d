/- MxF6a -/
import Derived.Test.YtlaakbmimplceaaDoorMxM
namespace Go.Sx
noncomputable section
open Go.RowKit Go.Proofs
set_option maxRecDepth 100000
theorem ckFm601 : ckFmB 6 0 1 = true := by kernel_rfl
theorem ckFm602 : ckFmB 6 0 2 = true := by kernel_rfl
theorem ckFm603 : ckFmB 6 0 3 = true := by kernel_rfl
theorem ckFm604 : ckFmB 6 0 4 = true := by kernel_rfl
theorem ckFm605 : ckFmB 6 0 5 = true := by kernel_rfl
end
end Go.Sx
