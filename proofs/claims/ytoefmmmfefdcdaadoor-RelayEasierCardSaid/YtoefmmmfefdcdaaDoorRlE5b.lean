/- RlE5b -/
import Derived.Test.YtoefmmmfefdcdaaDoorFeA
namespace Go.Sx
open Go.RowKit Go.Proofs
set_option maxRecDepth 100000
theorem ckSt4_0:lAll (ckSt 4) (lTake (lDrop (plansL 4) 0) 2)=true:=by kernel_rfl
theorem ckSt4_1:lAll (ckSt 4) (lTake (lDrop (plansL 4) 2) 2)=true:=by kernel_rfl
theorem ckSt4_2:lAll (ckSt 4) (lTake (lDrop (plansL 4) 4) 2)=true:=by kernel_rfl
theorem ckSt4_3:lAll (ckSt 4) (lTake (lDrop (plansL 4) 6) 2)=true:=by kernel_rfl
end Go.Sx
namespace Go.Sx
open Go.RowKit Go.Proofs
set_option maxRecDepth 100000
theorem ckSt5_0:lAll (ckSt 5) (lTake (lDrop (plansL 5) 0) 2)=true:=by kernel_rfl
theorem ckSt5_1:lAll (ckSt 5) (lTake (lDrop (plansL 5) 2) 2)=true:=by kernel_rfl
theorem ckSt5_2:lAll (ckSt 5) (lTake (lDrop (plansL 5) 4) 2)=true:=by kernel_rfl
theorem ckSt5_3:lAll (ckSt 5) (lTake (lDrop (plansL 5) 6) 2)=true:=by kernel_rfl
end Go.Sx
namespace Go.Sx
open Go.RowKit Go.Proofs
set_option maxRecDepth 100000
theorem ckSt5_4:lAll (ckSt 5) (lTake (lDrop (plansL 5) 8) 2)=true:=by kernel_rfl
theorem ckSt5_5:lAll (ckSt 5) (lTake (lDrop (plansL 5) 10) 2)=true:=by kernel_rfl
theorem ckSt5_6:lAll (ckSt 5) (lTake (lDrop (plansL 5) 12) 2)=true:=by kernel_rfl
theorem ckSt5_7:lAll (ckSt 5) (lTake (lDrop (plansL 5) 14) 2)=true:=by kernel_rfl
end Go.Sx
