/- RyKC6g -/
import Derived.Test.YtlaakbmimplceaaDoorRyI
namespace Go.Sx
noncomputable section
set_option maxRecDepth 100000
theorem kC6_15b : lAll (ckC 6) (upN 1 62) = true := by kernel_rfl
theorem kC63_0 : lAll (fun m => cond (Nat.beq (Nat.land m 63) m) (ckT (consC 63) 6 m) true) (upN 16 0) = true := by kernel_rfl
theorem kC63_1 : lAll (fun m => cond (Nat.beq (Nat.land m 63) m) (ckT (consC 63) 6 m) true) (upN 16 16) = true := by kernel_rfl
end
end Go.Sx
namespace Go.Sx
noncomputable section
set_option maxRecDepth 100000
theorem kC63_2 : lAll (fun m => cond (Nat.beq (Nat.land m 63) m) (ckT (consC 63) 6 m) true) (upN 16 32) = true := by kernel_rfl
theorem kC63_3 : lAll (fun m => cond (Nat.beq (Nat.land m 63) m) (ckT (consC 63) 6 m) true) (upN 16 48) = true := by kernel_rfl
end
end Go.Sx
