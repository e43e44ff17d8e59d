/- RyKF6 -/
import Derived.Test.YtoefmmmfefdcdaaDoorEntL2x0
namespace Go.Sx
set_option maxRecDepth 100000
theorem kF1:lAll (ckT consF 1) (upN 2 0)=true:=by kernel_rfl
theorem kF2:lAll (ckT consF 2) (upN 4 0)=true:=by kernel_rfl
theorem kF3:lAll (ckT consF 3) (upN 8 0)=true:=by kernel_rfl
theorem kF4:lAll (ckT consF 4) (upN 16 0)=true:=by kernel_rfl
theorem kF5_0:lAll (ckT consF 5) (upN 8 0)=true:=by kernel_rfl
theorem kF5_1:lAll (ckT consF 5) (upN 8 8)=true:=by kernel_rfl
theorem kF5_2:lAll (ckT consF 5) (upN 8 16)=true:=by kernel_rfl
theorem kF5_3:lAll (ckT consF 5) (upN 8 24)=true:=by kernel_rfl
end Go.Sx
namespace Go.Sx
set_option maxRecDepth 100000
theorem kF6_0:lAll (ckT consF 6) (upN 8 0)=true:=by kernel_rfl
theorem kF6_1:lAll (ckT consF 6) (upN 8 8)=true:=by kernel_rfl
theorem kF6_2:lAll (ckT consF 6) (upN 8 16)=true:=by kernel_rfl
theorem kF6_3:lAll (ckT consF 6) (upN 8 24)=true:=by kernel_rfl
theorem kF6_4:lAll (ckT consF 6) (upN 8 32)=true:=by kernel_rfl
theorem kF6_5:lAll (ckT consF 6) (upN 8 40)=true:=by kernel_rfl
theorem kF6_6:lAll (ckT consF 6) (upN 8 48)=true:=by kernel_rfl
theorem kF6_7:lAll (ckT consF 6) (upN 8 56)=true:=by kernel_rfl
end Go.Sx
