/- MxO5 -/
import Derived.Test.YtlaakbmimplceaaDoorMxO
namespace Go.Sx
noncomputable section
set_option maxRecDepth 100000
theorem ckAr5_1 : ckArL 5 1 = true := by kernel_rfl
theorem ckAr5_2 : ckArL 5 2 = true := by kernel_rfl
theorem ckAr5_3 : ckArL 5 3 = true := by kernel_rfl
theorem ckAr5_4 : ckArL 5 4 = true := by kernel_rfl
theorem ckAr5_5 : ckArL 5 5 = true := by kernel_rfl
end
end Go.Sx
