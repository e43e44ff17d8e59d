/- THE LAW OF THE SPOOLS, run: six reels, the second one begins a spool. -/
import Derived.Test.YtanhchkdglglhaaDoorSpRsS
/-! THE LAW OF THE SPOOLS, run: six reels, the second one begins a spool. -/
namespace Go.Sx
open Go.RowKit Go.Proofs
set_option maxRecDepth 100000
theorem law6_0 : lawCkN 6 0 = true := by kernel_rfl
theorem law6_1 : lawCkN 6 1 = true := by kernel_rfl
theorem law6_2 : lawCkN 6 2 = true := by kernel_rfl
theorem law6_3 : lawCkN 6 3 = true := by kernel_rfl
theorem law6_4 : lawCkN 6 4 = true := by kernel_rfl
theorem law6_5 : lawCkN 6 5 = true := by kernel_rfl
theorem law6_6 : lawCkN 6 6 = true := by kernel_rfl
theorem law6_7 : lawCkN 6 7 = true := by kernel_rfl
theorem law6_8 : lawCkN 6 8 = true := by kernel_rfl
theorem law6_9 : lawCkN 6 9 = true := by kernel_rfl
theorem law6_10 : lawCkN 6 10 = true := by kernel_rfl
theorem law6_11 : lawCkN 6 11 = true := by kernel_rfl
theorem law6_12 : lawCkN 6 12 = true := by kernel_rfl
theorem law6_13 : lawCkN 6 13 = true := by kernel_rfl
theorem law6_14 : lawCkN 6 14 = true := by kernel_rfl
theorem law6_15 : lawCkN 6 15 = true := by kernel_rfl
end Go.Sx
