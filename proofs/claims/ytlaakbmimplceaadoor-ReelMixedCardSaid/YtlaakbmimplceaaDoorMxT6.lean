/- MxT6 -/
import Derived.Test.YtlaakbmimplceaaDoorMxU
namespace Go.Sx
noncomputable section
open Go.RowKit Go.Proofs
set_option maxRecDepth 100000
theorem lawMx6_0 : lawMxL 6 0 = true := by kernel_rfl
theorem lawMx6_1 : lawMxL 6 1 = true := by kernel_rfl
theorem lawMx6_2 : lawMxL 6 2 = true := by kernel_rfl
theorem lawMx6_3 : lawMxL 6 3 = true := by kernel_rfl
theorem lawMx6_4 : lawMxL 6 4 = true := by kernel_rfl
theorem lawMx6_5 : lawMxL 6 5 = true := by kernel_rfl
end
end Go.Sx
