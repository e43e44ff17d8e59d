/- BeG63 -/
import Derived.Test.YtoefmmmfefdcdaaDoorRlI
namespace Go.Sx
open Go.RowKit Go.Proofs
set_option maxRecDepth 100000
theorem ckG6_6 : lAll (ckG 6) (upN 4 24) = true := by kernel_rfl
theorem ckG6_7 : lAll (ckG 6) (upN 4 28) = true := by kernel_rfl
end Go.Sx
