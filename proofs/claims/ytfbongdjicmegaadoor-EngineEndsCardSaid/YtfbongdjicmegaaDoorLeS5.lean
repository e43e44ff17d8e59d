/- LeS5 -/
import Derived.Test.YtfbongdjicmegaaDoorLeA
namespace Go.Sx
open Go.RowKit Go.Proofs
set_option maxRecDepth 100000
theorem ckSH5:bz (ckSH 5) (cntD 5)=true:=by kernel_rfl
end Go.Sx
