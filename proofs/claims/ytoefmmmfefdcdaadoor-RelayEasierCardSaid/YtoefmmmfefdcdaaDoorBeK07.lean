/- BeK07 -/
import Derived.Test.YtoefmmmfefdcdaaDoorFeA
namespace Go.Sx
open Go.RowKit Go.Proofs
set_option maxRecDepth 100000
theorem ckG56_1:lAll (ckAll 5 6) (lTake (lDrop (nodeTab 5 6) 1) 21)=true:=by kernel_rfl
theorem ckG56_22:lAll (ckAll 5 6) (lTake (lDrop (nodeTab 5 6) 22) 10)=true:=by kernel_rfl
theorem ckG61_0:lAll (ckAll 6 1) (lTake (lDrop (nodeTab 6 1) 0) 7)=true:=by kernel_rfl
theorem ckG62_0:lAll (ckAll 6 2) (lTake (lDrop (nodeTab 6 2) 0) 20)=true:=by kernel_rfl
end Go.Sx
namespace Go.Sx
open Go.RowKit Go.Proofs
set_option maxRecDepth 100000
theorem ckG63_2:lAll (ckAll 6 3) (lTake (lDrop (nodeTab 6 3) 2) 19)=true:=by kernel_rfl
theorem ckG63_21:lAll (ckAll 6 3) (lTake (lDrop (nodeTab 6 3) 21) 8)=true:=by kernel_rfl
theorem ckG63_29:lAll (ckAll 6 3) (lTake (lDrop (nodeTab 6 3) 29) 1)=true:=by kernel_rfl
end Go.Sx
