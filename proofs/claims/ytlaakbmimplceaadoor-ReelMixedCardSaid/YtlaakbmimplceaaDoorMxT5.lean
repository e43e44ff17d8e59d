/- MxT5 -/
import Derived.Test.YtlaakbmimplceaaDoorMxU
namespace Go.Sx
noncomputable section
open Go.RowKit Go.Proofs
set_option maxRecDepth 100000
theorem lawMx3_0 : lawMxL 3 0 = true := by kernel_rfl
theorem lawMx3_1 : lawMxL 3 1 = true := by kernel_rfl
theorem lawMx3_2 : lawMxL 3 2 = true := by kernel_rfl
theorem lawMx4_0 : lawMxL 4 0 = true := by kernel_rfl
theorem lawMx4_1 : lawMxL 4 1 = true := by kernel_rfl
theorem lawMx4_2 : lawMxL 4 2 = true := by kernel_rfl
theorem lawMx4_3 : lawMxL 4 3 = true := by kernel_rfl
end
end Go.Sx
namespace Go.Sx
noncomputable section
open Go.RowKit Go.Proofs
set_option maxRecDepth 100000
theorem lawMx5_0 : lawMxL 5 0 = true := by kernel_rfl
theorem lawMx5_1 : lawMxL 5 1 = true := by kernel_rfl
theorem lawMx5_2 : lawMxL 5 2 = true := by kernel_rfl
theorem lawMx5_3 : lawMxL 5 3 = true := by kernel_rfl
theorem lawMx5_4 : lawMxL 5 4 = true := by kernel_rfl
end
end Go.Sx
