/- HeC4 -/
import Derived.Test.YtfbongdjicmegaaDoorHeM
namespace Go.Sx
open Go.RowKit Go.Proofs
set_option maxRecDepth 100000
theorem ckE4:bz ckE [1,2,3,4]=true:=by kernel_rfl
end Go.Sx
