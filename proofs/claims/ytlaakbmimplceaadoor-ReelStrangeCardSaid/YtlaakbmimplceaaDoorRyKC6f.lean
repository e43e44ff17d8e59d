/- WHO LOOKS FOR AN ORDER: the runs, compared with what is said. -/
import Derived.Test.YtlaakbmimplceaaDoorRyI
/-! WHO LOOKS FOR AN ORDER: the runs, compared with what is said. -/
namespace Go.Sx
set_option maxRecDepth 100000
theorem kC6_15b : lAll (ckC 6) (upN 1 62) = true := by kernel_rfl
theorem kC63_0 : lAll (fun m => cond (Nat.beq (Nat.land m 63) m) (ckT (consC 63) 6 m) true) (upN 16 0) = true := by kernel_rfl
theorem kC63_1 : lAll (fun m => cond (Nat.beq (Nat.land m 63) m) (ckT (consC 63) 6 m) true) (upN 16 16) = true := by kernel_rfl
end Go.Sx
