/- THE LAW OF THE FEWEST WALKS,checked: evenings of three parts and more. -/
import Derived.Test.YtpkonfmonoaajaaDoorFwD
/-! THE LAW OF THE FEWEST WALKS,checked: evenings of three parts and more. -/
namespace Go.Sx
open Go.RowKit Go.Proofs
set_option maxRecDepth 100000
theorem lawFw3:lawFws 3=true:=by kernel_rfl
theorem lawFw4:lawFws 4=true:=by kernel_rfl
end Go.Sx
