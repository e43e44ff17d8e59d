/- MxL6 -/
import Derived.Test.YtlaakbmimplceaaDoorMxM
namespace Go.Sx
noncomputable section
open Go.RowKit Go.Proofs
set_option maxRecDepth 100000
theorem mixCk_60 : mixCk 6 0 = true := by kernel_rfl
theorem mixCk_61 : mixCk 6 1 = true := by kernel_rfl
theorem mixCk_62 : mixCk 6 2 = true := by kernel_rfl
theorem mixCk_63 : mixCk 6 3 = true := by kernel_rfl
theorem mixCk_64 : mixCk 6 4 = true := by kernel_rfl
theorem mixCk_65 : mixCk 6 5 = true := by kernel_rfl
theorem mixCk_66 : mixCk 6 6 = true := by kernel_rfl
end
end Go.Sx
