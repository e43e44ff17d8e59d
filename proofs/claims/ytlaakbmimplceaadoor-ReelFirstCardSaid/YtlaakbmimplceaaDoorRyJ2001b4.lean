/- WHETHER A LIST OF ALL REELS IS AN ORDER: the runs of six reels. -/
import Derived.Test.YtlaakbmimplceaaDoorRyPu
/-! WHETHER A LIST OF ALL REELS IS AN ORDER: the runs of six reels. -/
namespace Go.Sx
set_option maxRecDepth 100000
theorem ckJ2001_6_4 : ckJr 2001 6 4 = true := by kernel_rfl
theorem ckJ2001_6_5 : ckJr 2001 6 5 = true := by kernel_rfl
end Go.Sx
