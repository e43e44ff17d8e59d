/- ReK63 -/
import Derived.Test.YtpdednocbpoikaaDoorReB
namespace Go.Sx
open Go.RowKit Go.Proofs
set_option maxRecDepth 100000
theorem lawEn6_2 : lAll (lawEn 6) (lTake (lDrop (plansL 6) 16) 8) = true := by kernel_rfl
end Go.Sx
namespace Go.Sx
open Go.RowKit Go.Proofs
set_option maxRecDepth 100000
theorem lawEn6_3 : lAll (lawEn 6) (lTake (lDrop (plansL 6) 24) 8) = true := by kernel_rfl
end Go.Sx
