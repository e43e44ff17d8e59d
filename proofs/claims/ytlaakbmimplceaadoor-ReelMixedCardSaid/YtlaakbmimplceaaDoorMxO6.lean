/- MxO6 -/
import Derived.Test.YtlaakbmimplceaaDoorMxO
namespace Go.Sx
noncomputable section
set_option maxRecDepth 100000
theorem ckAr6_1 : ckArL 6 1 = true := by kernel_rfl
theorem ckAr6_2 : ckArL 6 2 = true := by kernel_rfl
theorem ckAr6_3 : ckArL 6 3 = true := by kernel_rfl
theorem ckAr6_4 : ckArL 6 4 = true := by kernel_rfl
theorem ckAr6_5_0 : ckAr 6 5 0 = true := by kernel_rfl
theorem ckAr6_5_1 : ckAr 6 5 1 = true := by kernel_rfl
theorem ckAr6_5_2 : ckAr 6 5 2 = true := by kernel_rfl
theorem ckAr6_5_3 : ckAr 6 5 3 = true := by kernel_rfl
theorem ckAr6_5_4 : ckAr 6 5 4 = true := by kernel_rfl
theorem ckAr6_5_5 : ckAr 6 5 5 = true := by kernel_rfl
theorem ckAr6_6_0 : ckAr 6 6 0 = true := by kernel_rfl
theorem ckAr6_6_1 : ckAr 6 6 1 = true := by kernel_rfl
theorem ckAr6_6_2 : ckAr 6 6 2 = true := by kernel_rfl
theorem ckAr6_6_3 : ckAr 6 6 3 = true := by kernel_rfl
theorem ckAr6_6_4 : ckAr 6 6 4 = true := by kernel_rfl
theorem ckAr6_6_5 : ckAr 6 6 5 = true := by kernel_rfl
end
end Go.Sx
