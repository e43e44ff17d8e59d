/- THE REELS THAT MUST BE OF ANOTHER FILM: the run, of six reels. -/
import Derived.Test.YtlaakbmimplceaaDoorRyG
/-! THE REELS THAT MUST BE OF ANOTHER FILM: the run, of six reels. -/
namespace Go.Sx
set_option maxRecDepth 100000
theorem ckS6 : ckS 6 = true := by kernel_rfl
end Go.Sx
