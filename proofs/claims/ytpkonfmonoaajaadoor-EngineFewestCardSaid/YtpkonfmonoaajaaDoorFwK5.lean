/- THE LAW OF THE FEWEST WALKS,checked: evenings of five parts. -/
import Derived.Test.YtpkonfmonoaajaaDoorFwD
/-! THE LAW OF THE FEWEST WALKS,checked: evenings of five parts. -/
namespace Go.Sx
open Go.RowKit Go.Proofs
set_option maxRecDepth 100000
theorem lawFw5:lawFws 5=true:=by kernel_rfl
end Go.Sx
