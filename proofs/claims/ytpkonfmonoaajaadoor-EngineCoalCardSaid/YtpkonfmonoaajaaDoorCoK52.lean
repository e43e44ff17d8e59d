/- THE CALL Coal: its search,checked for 5 parts and bunkers from 81 on. -/
import Derived.Test.YtpkonfmonoaajaaDoorCoD
/-! THE CALL Coal: its search,checked for 5 parts and bunkers from 81 on. -/
namespace Go.Sx
open Go.RowKit Go.Proofs
set_option maxRecDepth 100000
theorem ckCo52:ckCos 5 19 81=true:=by kernel_rfl
end Go.Sx
