/- FiA7 -/
import Derived.Test.YtlaakbmimplceaaDoorRyI
namespace Go.Sx
noncomputable section
open Go.RowKit Go.Proofs
set_option maxRecDepth 100000
theorem shuf6 : shufCk 6 = true := by kernel_rfl
end
end Go.Sx
