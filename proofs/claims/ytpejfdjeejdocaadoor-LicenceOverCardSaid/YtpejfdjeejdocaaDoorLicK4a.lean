/- WHETHER A TOWN OF 4 KINDS IS VALID: no span, one or two. -/
import Derived.Test.YtpejfdjeejdocaaDoorLicL
/-! WHETHER A TOWN OF 4 KINDS IS VALID: no span, one or two. -/
namespace Go.Sx
open Go.RowKit Go.Proofs
set_option maxRecDepth 100000
theorem know4a : lAll knowCk (sh2 4 [0, 1, 2]) = true := by kernel_rfl
end Go.Sx
