/- THE CALL Coal: its search,checked for 4 parts and bunkers from 81 on. -/
import Derived.Test.YtpkonfmonoaajaaDoorCoD
/-! THE CALL Coal: its search,checked for 4 parts and bunkers from 81 on. -/
namespace Go.Sx
open Go.RowKit Go.Proofs
set_option maxRecDepth 100000
theorem ckCo42:ckCos 4 19 81=true:=by kernel_rfl
end Go.Sx
