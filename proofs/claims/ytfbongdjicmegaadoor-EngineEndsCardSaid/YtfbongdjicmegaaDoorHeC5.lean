/- HeC5 -/
import Derived.Test.YtfbongdjicmegaaDoorHeM
namespace Go.Sx
open Go.RowKit Go.Proofs
set_option maxRecDepth 100000
theorem ckE5:ckE 5=true:=by kernel_rfl
end Go.Sx
