/- HaK5 -/
import Derived.Test.YtfbongdjicmegaaDoorHtA
namespace Go.Sx
open Go.RowKit Go.Proofs
set_option maxRecDepth 100000
theorem ckT5:ckT 5=true:=by kernel_rfl
end Go.Sx
