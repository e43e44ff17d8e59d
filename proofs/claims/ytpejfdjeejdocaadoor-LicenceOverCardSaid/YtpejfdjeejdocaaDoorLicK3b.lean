/- WHETHER A TOWN OF 3 KINDS IS VALID: three spans or four. -/
import Derived.Test.YtpejfdjeejdocaaDoorLicL
/-! WHETHER A TOWN OF 3 KINDS IS VALID: three spans or four. -/
namespace Go.Sx
open Go.RowKit Go.Proofs
set_option maxRecDepth 100000
theorem know3b : lAll knowCk (sh2 3 [3, 4]) = true := by kernel_rfl
end Go.Sx
