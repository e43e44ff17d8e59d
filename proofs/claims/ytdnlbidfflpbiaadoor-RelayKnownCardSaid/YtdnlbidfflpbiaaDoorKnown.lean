/- THE CLOSED CALL. -/
import Derived.Test.YtdnlbidfflpbiaaDoorEntT3
/-! THE CLOSED CALL. -/
namespace Go.Sx
open Go.RowKit Go.Proofs
set_option maxRecDepth 100000
theorem known_run : isTrue1 (evalN tb3 100 false 3 [] (globHeap gl)) = true := by kernel_rfl

/-- IN WHATEVER WORLD the package variables lie as said. -/
theorem known_ok {ρ : Rho} {w : World} (hg : ∀ g ∈ gl, GlobIn w ρ g) : Calls Tryd.prog 3 #[] w fun e w' => e = .returned (.bool true) ∧ Below w.heap.size w w' :=
  closed_true1 tabs3 known_run hg (Par.okB_all (fun _ _ => trivial) _ _)
end Go.Sx
