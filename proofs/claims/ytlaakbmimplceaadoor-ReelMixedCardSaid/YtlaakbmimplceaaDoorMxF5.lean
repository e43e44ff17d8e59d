/- MxF5 -/
import Derived.Test.YtlaakbmimplceaaDoorMxM
namespace Go.Sx
noncomputable section
open Go.RowKit Go.Proofs
set_option maxRecDepth 100000
theorem ckFmA4 : lAll (ckFm 4) (upN 4 0) = true := by kernel_rfl
end
end Go.Sx
namespace Go.Sx
noncomputable section
open Go.RowKit Go.Proofs
set_option maxRecDepth 100000
theorem ckFmA50 : ckFm 5 0 = true := by kernel_rfl
theorem ckFmA51 : ckFm 5 1 = true := by kernel_rfl
theorem ckFmA52 : ckFm 5 2 = true := by kernel_rfl
theorem ckFmA53 : ckFm 5 3 = true := by kernel_rfl
theorem ckFmA54 : ckFm 5 4 = true := by kernel_rfl
end
end Go.Sx
