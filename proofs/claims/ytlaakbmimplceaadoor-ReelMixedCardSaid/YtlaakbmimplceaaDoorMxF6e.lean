/- MxF6e -/
import Derived.Test.YtlaakbmimplceaaDoorMxM
namespace Go.Sx
noncomputable section
open Go.RowKit Go.Proofs
set_option maxRecDepth 100000
theorem ckFm640 : ckFmB 6 4 0 = true := by kernel_rfl
theorem ckFm641 : ckFmB 6 4 1 = true := by kernel_rfl
theorem ckFm642 : ckFmB 6 4 2 = true := by kernel_rfl
theorem ckFm643 : ckFmB 6 4 3 = true := by kernel_rfl
theorem ckFm645 : ckFmB 6 4 5 = true := by kernel_rfl
end
end Go.Sx
