/- WHETHER A TOWN OF 2 KINDS IS VALID. -/
import Derived.Test.YtpejfdjeejdocaaDoorLicK
/-! WHETHER A TOWN OF 2 KINDS IS VALID. -/
namespace Go.Sx
open Go.RowKit Go.Proofs
set_option maxRecDepth 100000
theorem know2 : lAll knowCk (sh1 2) = true := by kernel_rfl
end Go.Sx
