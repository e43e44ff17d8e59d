/- THE LAW OF THE TIMES, run. -/
import Derived.Test.YtgohpnfoogdlaaaDoorTmC
/-! THE LAW OF THE TIMES, run. -/
namespace Go.Sx
open Go.RowKit Go.Proofs
set_option maxRecDepth 100000
theorem law11_0 : lawCkN 1 1 0 0 = true := by kernel_rfl
theorem law21_0 : lawCkN 2 1 0 0 = true := by kernel_rfl
theorem law22_0 : lawCkN 2 2 0 0 = true := by kernel_rfl
theorem law31_0 : lawCkN 3 1 0 0 = true := by kernel_rfl
theorem law32_0 : lawCkN 3 2 0 0 = true := by kernel_rfl
theorem law41_0 : lawCkN 4 1 0 0 = true := by kernel_rfl
theorem law42_0 : lawCkN 4 2 0 0 = true := by kernel_rfl
theorem law51_0 : lawCkN 5 1 0 0 = true := by kernel_rfl
theorem law52_0 : lawCkN 5 2 0 0 = true := by kernel_rfl
theorem law61_0 : lawCkN 6 1 0 0 = true := by kernel_rfl
theorem law62_0 : lawCkN 6 2 0 0 = true := by kernel_rfl
theorem ckI_all : lAll ckI [1, 2, 3, 4, 5, 6] = true := by kernel_rfl
theorem lawTI_all : lAll lawTI [1, 2, 3, 4, 5, 6] = true := by kernel_rfl
theorem lawTS_nil : lawTS .nilslice [] = true := by kernel_rfl
theorem lawTS_few : lawTS (.sliceU 95) [.cmp .leq (.var 95) (.lit 0)] = true := by kernel_rfl
theorem lawTS_many : lawTS (.sliceU 95) [.cmp .leq (.lit 7) (.var 95)] = true := by kernel_rfl
end Go.Sx
