/- FiA6 -/
import Derived.Test.YtlaakbmimplceaaDoorRyI
namespace Go.Sx
noncomputable section
open Go.RowKit Go.Proofs
set_option maxRecDepth 100000
theorem shuf1 : shufCk 1 = true := by kernel_rfl
theorem shuf2 : shufCk 2 = true := by kernel_rfl
theorem shuf3 : shufCk 3 = true := by kernel_rfl
theorem shuf4 : shufCk 4 = true := by kernel_rfl
theorem shuf5 : shufCk 5 = true := by kernel_rfl
end
end Go.Sx
