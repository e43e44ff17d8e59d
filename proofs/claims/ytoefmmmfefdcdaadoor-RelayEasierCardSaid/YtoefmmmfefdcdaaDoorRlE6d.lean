/- RlE6d -/
import Derived.Test.YtoefmmmfefdcdaaDoorFeA
namespace Go.Sx
open Go.RowKit Go.Proofs
set_option maxRecDepth 100000
theorem ckSt6_16:lAll (ckSt 6) (lTake (lDrop (plansL 6) 16) 1)=true:=by kernel_rfl
theorem ckSt6_17:lAll (ckSt 6) (lTake (lDrop (plansL 6) 17) 1)=true:=by kernel_rfl
theorem ckSt6_18:lAll (ckSt 6) (lTake (lDrop (plansL 6) 18) 1)=true:=by kernel_rfl
theorem ckSt6_19:lAll (ckSt 6) (lTake (lDrop (plansL 6) 19) 1)=true:=by kernel_rfl
theorem ckSt6_20:lAll (ckSt 6) (lTake (lDrop (plansL 6) 20) 1)=true:=by kernel_rfl
theorem ckSt6_21:lAll (ckSt 6) (lTake (lDrop (plansL 6) 21) 1)=true:=by kernel_rfl
theorem ckSt6_22:lAll (ckSt 6) (lTake (lDrop (plansL 6) 22) 1)=true:=by kernel_rfl
theorem ckSt6_23:lAll (ckSt 6) (lTake (lDrop (plansL 6) 23) 1)=true:=by kernel_rfl
end Go.Sx
namespace Go.Sx
open Go.RowKit Go.Proofs
set_option maxRecDepth 100000
theorem ckSt6_24:lAll (ckSt 6) (lTake (lDrop (plansL 6) 24) 1)=true:=by kernel_rfl
theorem ckSt6_25:lAll (ckSt 6) (lTake (lDrop (plansL 6) 25) 1)=true:=by kernel_rfl
theorem ckSt6_26:lAll (ckSt 6) (lTake (lDrop (plansL 6) 26) 1)=true:=by kernel_rfl
theorem ckSt6_27:lAll (ckSt 6) (lTake (lDrop (plansL 6) 27) 1)=true:=by kernel_rfl
theorem ckSt6_28:lAll (ckSt 6) (lTake (lDrop (plansL 6) 28) 1)=true:=by kernel_rfl
theorem ckSt6_29:lAll (ckSt 6) (lTake (lDrop (plansL 6) 29) 1)=true:=by kernel_rfl
theorem ckSt6_30:lAll (ckSt 6) (lTake (lDrop (plansL 6) 30) 1)=true:=by kernel_rfl
theorem ckSt6_31:lAll (ckSt 6) (lTake (lDrop (plansL 6) 31) 1)=true:=by kernel_rfl
end Go.Sx
