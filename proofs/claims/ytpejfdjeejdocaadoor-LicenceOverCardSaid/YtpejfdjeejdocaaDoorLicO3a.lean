/- THE LAW'S RUN: towns of 3 kinds, no span or one. -/
import Derived.Test.YtpejfdjeejdocaaDoorLicL
/-! THE LAW'S RUN: towns of 3 kinds, no span or one. -/
namespace Go.Sx
open Go.RowKit Go.Proofs
set_option maxRecDepth 100000
theorem over3a : lAll bothCk (sh2 3 [0, 1]) = true := by kernel_rfl
end Go.Sx
