/- THE LAW'S RUN: towns of 4 kinds, two spans or more. -/
import Derived.Test.YtpejfdjeejdocaaDoorLicL
/-! THE LAW'S RUN: towns of 4 kinds, two spans or more. -/
namespace Go.Sx
open Go.RowKit Go.Proofs
set_option maxRecDepth 100000
theorem over4b : lAll bothCk (sh2 4 [2, 3, 4]) = true := by kernel_rfl
end Go.Sx
