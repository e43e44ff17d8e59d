/- MxX6 -/
import Derived.Test.YtlaakbmimplceaaDoorMxX
namespace Go.Sx
noncomputable section
open Go.RowKit Go.Proofs
set_option maxRecDepth 100000
theorem condsP5 : condsP (shufRun 5) = true := by kernel_rfl
theorem condsP6 : condsP (shufRun 6) = true := by kernel_rfl
end
end Go.Sx
