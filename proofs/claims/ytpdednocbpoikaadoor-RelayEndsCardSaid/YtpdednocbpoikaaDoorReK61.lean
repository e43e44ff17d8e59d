/- ReK61 -/
import Derived.Test.YtpdednocbpoikaaDoorReB
namespace Go.Sx
open Go.RowKit Go.Proofs
set_option maxRecDepth 100000
theorem lawEn6_0 : lAll (lawEn 6) (lTake (lDrop (plansL 6) 0) 8) = true := by kernel_rfl
end Go.Sx
namespace Go.Sx
open Go.RowKit Go.Proofs
set_option maxRecDepth 100000
theorem lawEn6_1 : lAll (lawEn 6) (lTake (lDrop (plansL 6) 8) 8) = true := by kernel_rfl
end Go.Sx
