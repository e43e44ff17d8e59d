/- ORDERS THAT NUMBERS CHOOSE: those of six reels. -/
import Derived.Test.YtlaakbmimplceaaDoorSxMoved
/-! ORDERS THAT NUMBERS CHOOSE: those of six reels. -/
namespace Go.Sx
open Go.RowKit Go.Proofs
set_option maxRecDepth 100000
theorem shuf6 : shufCk 6 = true := by kernel_rfl
end Go.Sx
