/- WHETHER A TOWN OF 1 KINDS IS VALID. -/
import Derived.Test.YtpejfdjeejdocaaDoorLicK
/-! WHETHER A TOWN OF 1 KINDS IS VALID. -/
namespace Go.Sx
open Go.RowKit Go.Proofs
set_option maxRecDepth 100000
theorem know1 : lAll knowCk (sh1 1) = true := by kernel_rfl
end Go.Sx
