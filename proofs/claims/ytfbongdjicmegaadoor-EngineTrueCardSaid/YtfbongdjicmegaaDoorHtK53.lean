/- HtK53 -/
import Derived.Test.YtfbongdjicmegaaDoorHtA
namespace Go.Sx
open Go.RowKit Go.Proofs
set_option maxRecDepth 100000
theorem lawT51:lawTn 5 1=true:=by kernel_rfl
theorem lawT52:lawTn 5 2=true:=by kernel_rfl
end Go.Sx
namespace Go.Sx
open Go.RowKit Go.Proofs
set_option maxRecDepth 100000
theorem lawT53:bF (lawTn 5) [3,4,5]=true:=by kernel_rfl
end Go.Sx
