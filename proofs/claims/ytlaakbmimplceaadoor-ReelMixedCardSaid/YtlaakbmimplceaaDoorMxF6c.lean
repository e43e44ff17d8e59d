/- MxF6c -/
import Derived.Test.YtlaakbmimplceaaDoorMxM
namespace Go.Sx
noncomputable section
open Go.RowKit Go.Proofs
set_option maxRecDepth 100000
theorem ckFm620 : ckFmB 6 2 0 = true := by kernel_rfl
theorem ckFm621 : ckFmB 6 2 1 = true := by kernel_rfl
theorem ckFm623 : ckFmB 6 2 3 = true := by kernel_rfl
theorem ckFm624 : ckFmB 6 2 4 = true := by kernel_rfl
theorem ckFm625 : ckFmB 6 2 5 = true := by kernel_rfl
end
end Go.Sx
