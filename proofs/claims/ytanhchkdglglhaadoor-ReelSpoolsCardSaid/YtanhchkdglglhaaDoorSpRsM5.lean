/- THE LAW OF THE SPOOLS, run: five reels. -/
import Derived.Test.YtanhchkdglglhaaDoorSpRsS
/-! THE LAW OF THE SPOOLS, run: up to four reels. -/
namespace Go.Sx
open Go.RowKit Go.Proofs
set_option maxRecDepth 100000
theorem law1_0 : lawCkN 1 0 = true := by kernel_rfl
theorem law2_0 : lawCkN 2 0 = true := by kernel_rfl
theorem law2_1 : lawCkN 2 1 = true := by kernel_rfl
theorem law3_0 : lawCkN 3 0 = true := by kernel_rfl
theorem law3_1 : lawCkN 3 1 = true := by kernel_rfl
theorem law3_2 : lawCkN 3 2 = true := by kernel_rfl
theorem law3_3 : lawCkN 3 3 = true := by kernel_rfl
theorem law4_0 : lawCkN 4 0 = true := by kernel_rfl
theorem law4_1 : lawCkN 4 1 = true := by kernel_rfl
theorem law4_2 : lawCkN 4 2 = true := by kernel_rfl
theorem law4_3 : lawCkN 4 3 = true := by kernel_rfl
theorem law4_4 : lawCkN 4 4 = true := by kernel_rfl
theorem law4_5 : lawCkN 4 5 = true := by kernel_rfl
theorem law4_6 : lawCkN 4 6 = true := by kernel_rfl
theorem law4_7 : lawCkN 4 7 = true := by kernel_rfl
end Go.Sx
/-! THE LAW OF THE SPOOLS, run: five reels. -/
namespace Go.Sx
open Go.RowKit Go.Proofs
set_option maxRecDepth 100000
theorem law5_0 : lawCkN 5 0 = true := by kernel_rfl
theorem law5_1 : lawCkN 5 1 = true := by kernel_rfl
theorem law5_2 : lawCkN 5 2 = true := by kernel_rfl
theorem law5_3 : lawCkN 5 3 = true := by kernel_rfl
theorem law5_4 : lawCkN 5 4 = true := by kernel_rfl
theorem law5_5 : lawCkN 5 5 = true := by kernel_rfl
theorem law5_6 : lawCkN 5 6 = true := by kernel_rfl
theorem law5_7 : lawCkN 5 7 = true := by kernel_rfl
theorem law5_8 : lawCkN 5 8 = true := by kernel_rfl
theorem law5_9 : lawCkN 5 9 = true := by kernel_rfl
theorem law5_10 : lawCkN 5 10 = true := by kernel_rfl
theorem law5_11 : lawCkN 5 11 = true := by kernel_rfl
theorem law5_12 : lawCkN 5 12 = true := by kernel_rfl
theorem law5_13 : lawCkN 5 13 = true := by kernel_rfl
theorem law5_14 : lawCkN 5 14 = true := by kernel_rfl
theorem law5_15 : lawCkN 5 15 = true := by kernel_rfl
end Go.Sx
