/- LeS4 -/
import Derived.Test.YtfbongdjicmegaaDoorLeA
namespace Go.Sx
open Go.RowKit Go.Proofs
set_option maxRecDepth 100000
theorem ckSH3:bz (fun m=>bz (ckSH m) (cntD m)) [1,2,3]=true:=by kernel_rfl
end Go.Sx
namespace Go.Sx
open Go.RowKit Go.Proofs
set_option maxRecDepth 100000
theorem ckSH4:bz (ckSH 4) (cntD 4)=true:=by kernel_rfl
end Go.Sx
