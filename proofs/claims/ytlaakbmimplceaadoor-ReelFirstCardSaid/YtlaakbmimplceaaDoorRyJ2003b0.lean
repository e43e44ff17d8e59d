/- WHETHER A LIST OF ALL REELS IS AN ORDER: the runs of six reels. -/
import Derived.Test.YtlaakbmimplceaaDoorRyPu
/-! WHETHER A LIST OF ALL REELS IS AN ORDER: the runs of six reels. -/
namespace Go.Sx
set_option maxRecDepth 100000
theorem ckJ2003_6_0 : ckJr 2003 6 0 = true := by kernel_rfl
theorem ckJ2003_6_1 : ckJr 2003 6 1 = true := by kernel_rfl
end Go.Sx
