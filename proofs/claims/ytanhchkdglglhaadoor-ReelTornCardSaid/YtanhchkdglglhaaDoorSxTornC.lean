/- THE LAW OF WHAT IS TORN OFF: its rounds' runs. -/
import Derived.Test.YtanhchkdglglhaaDoorSxTornL
/-! THE LAW OF WHAT IS TORN OFF: its rounds' runs. -/
namespace Go.Sx
open Go.RowKit Go.Proofs
set_option maxRecDepth 100000
theorem torn1_1 : lAll tornCk1 lk1 = true := by kernel_rfl
theorem torn1_2 : lAll tornCk1 lk2 = true := by kernel_rfl
theorem torn1_3 : lAll tornCk1 lk3 = true := by kernel_rfl
theorem torn1_4 : lAll tornCk1 lk4 = true := by kernel_rfl
theorem torn1_5 : lAll tornCk1 lk5 = true := by kernel_rfl
theorem torn1_6 : lAll tornCk1 lk6 = true := by kernel_rfl
theorem torn1_all : ∀ q ∈ lk21, tornCk1 q = true := lk21_of torn1_1 torn1_2 torn1_3 torn1_4 torn1_5 torn1_6
theorem torn2_1 : lAll tornCk2 lk1 = true := by kernel_rfl
theorem torn2_2 : lAll tornCk2 lk2 = true := by kernel_rfl
theorem torn2_3 : lAll tornCk2 lk3 = true := by kernel_rfl
theorem torn2_4 : lAll tornCk2 lk4 = true := by kernel_rfl
theorem torn2_5 : lAll tornCk2 lk5 = true := by kernel_rfl
theorem torn2_6 : lAll tornCk2 lk6 = true := by kernel_rfl
theorem torn2_all : ∀ q ∈ lk21, tornCk2 q = true := lk21_of torn2_1 torn2_2 torn2_3 torn2_4 torn2_5 torn2_6
end Go.Sx
