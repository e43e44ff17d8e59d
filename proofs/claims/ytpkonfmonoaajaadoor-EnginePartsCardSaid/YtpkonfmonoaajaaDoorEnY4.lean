/- THE LAW OF THE PARTS, checked: evenings of four and five parts. -/
import Derived.Test.YtpkonfmonoaajaaDoorEnY
/-! THE LAW OF THE PARTS, checked: evenings of four and five parts. -/
namespace Go.Sx
open Go.RowKit Go.Proofs
set_option maxRecDepth 100000
theorem lawAll4 : lawAll 4 = true := by kernel_rfl
theorem lawAll5 : lawAll 5 = true := by kernel_rfl
end Go.Sx
