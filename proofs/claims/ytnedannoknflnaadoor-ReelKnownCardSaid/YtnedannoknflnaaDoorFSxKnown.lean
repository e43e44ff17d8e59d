/- WHAT IS SAID OF SINGLE FILMS: the closed call. -/
import Derived.Test.YtnedannoknflnaaDoorFSxKnownO
/-! WHAT IS SAID OF SINGLE FILMS: the closed call. -/
namespace Go.Sx
open Go.RowKit Go.Proofs
set_option maxRecDepth 100000
theorem known_run : isTrue1 (evalN tbK 100 false 15 [] (globHeap gl)) = true := by kernel_rfl

/-- IN WHATEVER WORLD the two package variables lie as said. -/
theorem known_ok {ρ : Rho} {w : World} (hg : ∀ g ∈ gl, GlobIn w ρ g) : Calls Tryd.prog 15 #[] w fun e w' => e = .returned (.bool true) ∧ Below w.heap.size w w' :=
  closed_true1 tabsK known_run hg
end Go.Sx
