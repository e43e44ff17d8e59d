/- THE LAW OF THE FIRST ORDER: its run serves, six reels. -/
import Derived.Test.YtlaakbmimplceaaDoorFiR
/-! THE LAW OF THE FIRST ORDER: its run serves, up to five reels. -/
namespace Go.Sx
set_option maxRecDepth 100000
theorem lawCk1 : lawCk 1 = true := by kernel_rfl
theorem lawCk2 : lawCk 2 = true := by kernel_rfl
theorem lawCk3 : lawCk 3 = true := by kernel_rfl
theorem lawCk4 : lawCk 4 = true := by kernel_rfl
theorem lawCk5 : lawCk 5 = true := by kernel_rfl
end Go.Sx
/-! THE LAW OF THE FIRST ORDER: its run serves, six reels. -/
namespace Go.Sx
set_option maxRecDepth 100000
theorem lawCk6 : lawCk 6 = true := by kernel_rfl
end Go.Sx
