/- WHO LOOKS FOR AN ORDER: the runs, compared with what is said. -/
import Derived.Test.YtlaakbmimplceaaDoorRyI
/-! WHO LOOKS FOR AN ORDER: the runs, compared with what is said. -/
namespace Go.Sx
set_option maxRecDepth 100000
theorem kC63_2 : lAll (fun m => cond (Nat.beq (Nat.land m 63) m) (ckT (consC 63) 6 m) true) (upN 16 32) = true := by kernel_rfl
theorem kC63_3 : lAll (fun m => cond (Nat.beq (Nat.land m 63) m) (ckT (consC 63) 6 m) true) (upN 16 48) = true := by kernel_rfl
end Go.Sx
