/- MxL5 -/
import Derived.Test.YtlaakbmimplceaaDoorMxM
namespace Go.Sx
noncomputable section
open Go.RowKit Go.Proofs
set_option maxRecDepth 100000
theorem mixCk_4 : lAll (mixCk 4) (upN 5 0) = true := by kernel_rfl
end
end Go.Sx
namespace Go.Sx
noncomputable section
open Go.RowKit Go.Proofs
set_option maxRecDepth 100000
theorem mixCk_50 : mixCk 5 0 = true := by kernel_rfl
theorem mixCk_51 : mixCk 5 1 = true := by kernel_rfl
theorem mixCk_52 : mixCk 5 2 = true := by kernel_rfl
theorem mixCk_53 : mixCk 5 3 = true := by kernel_rfl
theorem mixCk_54 : mixCk 5 4 = true := by kernel_rfl
theorem mixCk_55 : mixCk 5 5 = true := by kernel_rfl
end
end Go.Sx
