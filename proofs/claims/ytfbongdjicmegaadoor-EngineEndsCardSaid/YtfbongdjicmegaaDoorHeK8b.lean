/- HeK8b -/
import Derived.Test.YtfbongdjicmegaaDoorHeM
namespace Go.Sx
open Go.RowKit Go.Proofs
set_option maxRecDepth 100000
theorem lawE_8b:bz lawEq [(4,1,1),(5,1,5),(5,2,3)]=true:=by kernel_rfl
end Go.Sx
