/- RlE6b -/
import Derived.Test.YtoefmmmfefdcdaaDoorFeA
namespace Go.Sx
open Go.RowKit Go.Proofs
set_option maxRecDepth 100000
theorem ckSt6_0:lAll (ckSt 6) (lTake (lDrop (plansL 6) 0) 1)=true:=by kernel_rfl
theorem ckSt6_1:lAll (ckSt 6) (lTake (lDrop (plansL 6) 1) 1)=true:=by kernel_rfl
theorem ckSt6_2:lAll (ckSt 6) (lTake (lDrop (plansL 6) 2) 1)=true:=by kernel_rfl
theorem ckSt6_3:lAll (ckSt 6) (lTake (lDrop (plansL 6) 3) 1)=true:=by kernel_rfl
theorem ckSt6_4:lAll (ckSt 6) (lTake (lDrop (plansL 6) 4) 1)=true:=by kernel_rfl
theorem ckSt6_5:lAll (ckSt 6) (lTake (lDrop (plansL 6) 5) 1)=true:=by kernel_rfl
theorem ckSt6_6:lAll (ckSt 6) (lTake (lDrop (plansL 6) 6) 1)=true:=by kernel_rfl
theorem ckSt6_7:lAll (ckSt 6) (lTake (lDrop (plansL 6) 7) 1)=true:=by kernel_rfl
end Go.Sx
namespace Go.Sx
open Go.RowKit Go.Proofs
set_option maxRecDepth 100000
theorem ckSt6_8:lAll (ckSt 6) (lTake (lDrop (plansL 6) 8) 1)=true:=by kernel_rfl
theorem ckSt6_9:lAll (ckSt 6) (lTake (lDrop (plansL 6) 9) 1)=true:=by kernel_rfl
theorem ckSt6_10:lAll (ckSt 6) (lTake (lDrop (plansL 6) 10) 1)=true:=by kernel_rfl
theorem ckSt6_11:lAll (ckSt 6) (lTake (lDrop (plansL 6) 11) 1)=true:=by kernel_rfl
theorem ckSt6_12:lAll (ckSt 6) (lTake (lDrop (plansL 6) 12) 1)=true:=by kernel_rfl
theorem ckSt6_13:lAll (ckSt 6) (lTake (lDrop (plansL 6) 13) 1)=true:=by kernel_rfl
theorem ckSt6_14:lAll (ckSt 6) (lTake (lDrop (plansL 6) 14) 1)=true:=by kernel_rfl
theorem ckSt6_15:lAll (ckSt 6) (lTake (lDrop (plansL 6) 15) 1)=true:=by kernel_rfl
end Go.Sx
