/- WHETHER A LIST OF ALL REELS IS AN ORDER: the runs of four and five reels. -/
import Derived.Test.YtlaakbmimplceaaDoorRyPu
/-! WHETHER A LIST OF ALL REELS IS AN ORDER: the runs of four and five reels. -/
namespace Go.Sx
set_option maxRecDepth 100000
theorem ckJ2001_4 : ckJ 2001 4 = true := by kernel_rfl
theorem ckJ2001_5_0 : ckJr 2001 5 0 = true := by kernel_rfl
theorem ckJ2001_5_1 : ckJr 2001 5 1 = true := by kernel_rfl
theorem ckJ2001_5_2 : ckJr 2001 5 2 = true := by kernel_rfl
theorem ckJ2001_5_3 : ckJr 2001 5 3 = true := by kernel_rfl
theorem ckJ2001_5_4 : ckJr 2001 5 4 = true := by kernel_rfl
end Go.Sx
