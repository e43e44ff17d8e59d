/- THE LAW OF WHAT IS TORN OFF: its runs. -/
import Derived.Test.YtanhchkdglglhaaDoorSxTornRk
/-! THE LAW OF WHAT IS TORN OFF: its runs. -/
namespace Go.Sx
open Go.RowKit Go.Proofs
set_option maxRecDepth 100000
theorem lawT_1 : lAll lawTCk lk1 = true := by kernel_rfl
theorem lawT_2 : lAll lawTCk lk2 = true := by kernel_rfl
theorem lawT_3 : lAll lawTCk lk3 = true := by kernel_rfl
theorem lawT_4 : lAll lawTCk lk4 = true := by kernel_rfl
theorem lawT_5 : lAll lawTCk lk5 = true := by kernel_rfl
theorem lawT_6 : lAll lawTCk lk6 = true := by kernel_rfl
theorem lawT_all : ∀ q ∈ lk21, lawTCk q = true := lk21_of lawT_1 lawT_2 lawT_3 lawT_4 lawT_5 lawT_6
end Go.Sx
