/- THE LAW OF THE SPOOLS, run: six reels, the second one begins none. -/
import Derived.Test.YtanhchkdglglhaaDoorSpRsS
/-! THE LAW OF THE SPOOLS, run: six reels, the second one begins none. -/
namespace Go.Sx
open Go.RowKit Go.Proofs
set_option maxRecDepth 100000
theorem law6_16 : lawCkN 6 16 = true := by kernel_rfl
theorem law6_17 : lawCkN 6 17 = true := by kernel_rfl
theorem law6_18 : lawCkN 6 18 = true := by kernel_rfl
theorem law6_19 : lawCkN 6 19 = true := by kernel_rfl
theorem law6_20 : lawCkN 6 20 = true := by kernel_rfl
theorem law6_21 : lawCkN 6 21 = true := by kernel_rfl
theorem law6_22 : lawCkN 6 22 = true := by kernel_rfl
theorem law6_23 : lawCkN 6 23 = true := by kernel_rfl
theorem law6_24 : lawCkN 6 24 = true := by kernel_rfl
theorem law6_25 : lawCkN 6 25 = true := by kernel_rfl
theorem law6_26 : lawCkN 6 26 = true := by kernel_rfl
theorem law6_27 : lawCkN 6 27 = true := by kernel_rfl
theorem law6_28 : lawCkN 6 28 = true := by kernel_rfl
theorem law6_29 : lawCkN 6 29 = true := by kernel_rfl
theorem law6_30 : lawCkN 6 30 = true := by kernel_rfl
theorem law6_31 : lawCkN 6 31 = true := by kernel_rfl
end Go.Sx
