/- BeG62 -/
import Derived.Test.YtoefmmmfefdcdaaDoorRlI
namespace Go.Sx
open Go.RowKit Go.Proofs
set_option maxRecDepth 100000
theorem ckG6_4 : lAll (ckG 6) (upN 4 16) = true := by kernel_rfl
theorem ckG6_5 : lAll (ckG 6) (upN 4 20) = true := by kernel_rfl
end Go.Sx
