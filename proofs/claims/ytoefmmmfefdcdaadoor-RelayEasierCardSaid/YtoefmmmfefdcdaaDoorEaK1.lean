/- EaK1 -/
import Derived.Test.YtoefmmmfefdcdaaDoorEaN
namespace Go.Sx
open Go.RowKit Go.Proofs
set_option maxRecDepth 100000
theorem ckE1_all:lAll (ckE 1) (upN 1 1)=true:=by kernel_rfl
theorem ckE2_all:lAll (ckE 2) (upN 2 1)=true:=by kernel_rfl
theorem ckE3_all:lAll (ckE 3) (upN 3 1)=true:=by kernel_rfl
theorem ckE4_all:lAll (ckE 4) (upN 4 1)=true:=by kernel_rfl
theorem ckE5_all:lAll (ckE 5) (upN 5 1)=true:=by kernel_rfl
end Go.Sx
namespace Go.Sx
open Go.RowKit Go.Proofs
set_option maxRecDepth 100000
theorem ckE6_all:lAll (ckE 6) (upN 6 1)=true:=by kernel_rfl
end Go.Sx
