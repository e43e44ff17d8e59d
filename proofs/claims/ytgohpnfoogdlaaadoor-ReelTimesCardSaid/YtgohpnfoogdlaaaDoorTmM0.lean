/- WHAT A FILM IS ASKED: checked. -/
import Derived.Test.YtgohpnfoogdlaaaDoorTmC
/-! WHAT A FILM IS ASKED: checked. -/
namespace Go.Sx
open Go.RowKit Go.Proofs
set_option maxRecDepth 100000
theorem films1 : filmsCk 1 = true := by kernel_rfl
theorem films2 : filmsCk 2 = true := by kernel_rfl
theorem films3 : filmsCk 3 = true := by kernel_rfl
theorem films4 : filmsCk 4 = true := by kernel_rfl
theorem films5 : filmsCk 5 = true := by kernel_rfl
theorem films6 : filmsCk 6 = true := by kernel_rfl
end Go.Sx
