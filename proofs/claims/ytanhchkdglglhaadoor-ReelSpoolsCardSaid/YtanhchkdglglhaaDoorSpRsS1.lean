/- HOW MANY SPOOLS: checked. -/
import Derived.Test.YtanhchkdglglhaaDoorSpRsS
/-! HOW MANY SPOOLS: checked. -/
namespace Go.Sx
open Go.RowKit Go.Proofs
set_option maxRecDepth 100000
theorem sps1 : spsCk 1 = true := by kernel_rfl
theorem sps2 : spsCk 2 = true := by kernel_rfl
theorem sps3 : spsCk 3 = true := by kernel_rfl
theorem sps4 : spsCk 4 = true := by kernel_rfl
theorem sps5 : spsCk 5 = true := by kernel_rfl
theorem sps6 : spsCk 6 = true := by kernel_rfl
theorem es1 : eCk 1 = true := by kernel_rfl
theorem es2 : eCk 2 = true := by kernel_rfl
theorem es3 : eCk 3 = true := by kernel_rfl
theorem es4 : eCk 4 = true := by kernel_rfl
theorem es5 : eCk 5 = true := by kernel_rfl
theorem es6 : eCk 6 = true := by kernel_rfl
end Go.Sx
