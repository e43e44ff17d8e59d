/- THE LAW OF WHAT IS EASIER: its checks. -/
import Derived.Test.YtfbongdjicmegaaDoorEsE
/-! THE LAW OF WHAT IS EASIER: its checks. -/
namespace Go.Sx
open Go.RowKit Go.Proofs
set_option maxRecDepth 100000
theorem lawEs1:lawEss 1=true:=by kernel_rfl
theorem lawEs2:lawEss 2=true:=by kernel_rfl
theorem lawEs3:lawEss 3=true:=by kernel_rfl
end Go.Sx
