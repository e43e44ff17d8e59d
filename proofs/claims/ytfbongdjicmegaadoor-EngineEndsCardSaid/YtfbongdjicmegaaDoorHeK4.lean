/- HeK4 -/
import Derived.Test.YtfbongdjicmegaaDoorHeM
namespace Go.Sx
open Go.RowKit Go.Proofs
set_option maxRecDepth 100000
theorem lawE_4:bz lawEq tE4=true:=by kernel_rfl
end Go.Sx
