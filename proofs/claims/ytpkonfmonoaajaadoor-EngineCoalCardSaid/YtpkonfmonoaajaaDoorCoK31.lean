/- THE CALL Coal: its search,checked for 3 parts and bunkers from 58 on. -/
import Derived.Test.YtpkonfmonoaajaaDoorCoD
/-! THE CALL Coal: its search,checked for 3 parts and bunkers from 58 on. -/
namespace Go.Sx
open Go.RowKit Go.Proofs
set_option maxRecDepth 100000
theorem ckCo31:ckCos 3 23 58=true:=by kernel_rfl
end Go.Sx
