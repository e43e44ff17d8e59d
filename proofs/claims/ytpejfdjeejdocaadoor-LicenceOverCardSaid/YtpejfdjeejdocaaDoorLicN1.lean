/- THE NEXT LICENCE, AND WHAT GOES TOGETHER: every kind of a town. -/
import Derived.Test.YtpejfdjeejdocaaDoorLicA
/-! THE NEXT LICENCE, AND WHAT GOES TOGETHER: every kind of a town. -/
namespace Go.Sx
open Go.RowKit Go.Proofs
set_option maxRecDepth 100000
theorem pre1 : lAll preCk (sh1 1) = true := by kernel_rfl
theorem pre2 : lAll preCk (sh1 2) = true := by kernel_rfl
theorem pre3 : lAll preCk (sh1 3) = true := by kernel_rfl
end Go.Sx
