/- THE CALL Coal: its search,checked for 1 parts and bunkers from 1 on. -/
import Derived.Test.YtpkonfmonoaajaaDoorCoD
/-! THE CALL Coal: its search,checked for 1 parts and bunkers from 1 on. -/
namespace Go.Sx
open Go.RowKit Go.Proofs
set_option maxRecDepth 100000
theorem ckCo10:ckCos 1 57 1=true:=by kernel_rfl
end Go.Sx
