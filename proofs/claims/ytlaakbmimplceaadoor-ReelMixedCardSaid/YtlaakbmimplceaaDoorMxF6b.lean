/- MxF6b -/
import Derived.Test.YtlaakbmimplceaaDoorMxM
namespace Go.Sx
noncomputable section
open Go.RowKit Go.Proofs
set_option maxRecDepth 100000
theorem ckFm610 : ckFmB 6 1 0 = true := by kernel_rfl
theorem ckFm612 : ckFmB 6 1 2 = true := by kernel_rfl
theorem ckFm613 : ckFmB 6 1 3 = true := by kernel_rfl
theorem ckFm614 : ckFmB 6 1 4 = true := by kernel_rfl
theorem ckFm615 : ckFmB 6 1 5 = true := by kernel_rfl
end
end Go.Sx
