/- WHETHER A TOWN OF 4 KINDS IS VALID: three spans or four. -/
import Derived.Test.YtpejfdjeejdocaaDoorLicL
/-! WHETHER A TOWN OF 4 KINDS IS VALID: three spans or four. -/
namespace Go.Sx
open Go.RowKit Go.Proofs
set_option maxRecDepth 100000
theorem know4b : lAll knowCk (sh2 4 [3, 4]) = true := by kernel_rfl
end Go.Sx
