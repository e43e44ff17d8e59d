/- THE NEXT LICENCE, AND WHAT GOES TOGETHER: towns of four kinds. -/
import Derived.Test.YtpejfdjeejdocaaDoorLicA
/-! THE NEXT LICENCE, AND WHAT GOES TOGETHER: towns of four kinds. -/
namespace Go.Sx
open Go.RowKit Go.Proofs
set_option maxRecDepth 100000
theorem pre4 : lAll preCk (sh1 4) = true := by kernel_rfl
end Go.Sx
