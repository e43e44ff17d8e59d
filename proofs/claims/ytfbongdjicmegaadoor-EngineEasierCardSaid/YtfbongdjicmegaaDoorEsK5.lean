/- THE LAW OF WHAT IS EASIER: its checks. -/
import Derived.Test.YtfbongdjicmegaaDoorEsE
/-! THE LAW OF WHAT IS EASIER: its checks. -/
namespace Go.Sx
open Go.RowKit Go.Proofs
set_option maxRecDepth 100000
theorem lawEs4:lawEss 4=true:=by kernel_rfl
end Go.Sx
/-! THE LAW OF WHAT IS EASIER: its checks. -/
namespace Go.Sx
open Go.RowKit Go.Proofs
set_option maxRecDepth 100000
theorem lawEs5:lawEss 5=true:=by kernel_rfl
end Go.Sx
