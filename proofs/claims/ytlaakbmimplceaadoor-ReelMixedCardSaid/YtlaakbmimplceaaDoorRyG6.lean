/- RyG6 -/
import Derived.Test.YtlaakbmimplceaaDoorFiPe
namespace Go.Sx
noncomputable section
set_option maxRecDepth 100000
theorem ckS6 : ckS 6 = true := by kernel_rfl
end
end Go.Sx
