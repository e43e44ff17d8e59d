/- THE CLOSED CALL THAT EVERY LAW OF THE LAYER ENDS WITH. -/
import Derived.Test.YtnedannoknflnaaDoorFSxWorn
/-! THE CLOSED CALL THAT EVERY LAW OF THE LAYER ENDS WITH. -/
namespace Go.Sx
open Go.RowKit Go.Proofs
set_option maxRecDepth 100000

theorem tabs0 : TabOk pT Sx.Tryd.tt.get tb0 := Tryd.tab (fun _ _ _ => none) (fun _ _ _ _ h => by cases h) 2000
theorem tabs1 : TabOk pT Sx.Tryd.tt.get tb1 := Tryd.tab orcT (orcT_ok tabs0) 2000

theorem turned_run : isTrue1 (evalN tb1 100 false 25 [] (globHeap gl)) = true := by kernel_rfl

/-- IN WHATEVER WORLD the two package variables lie as said: it hands back true, and what lay before lies as it did. -/
theorem turned_ok {ρ : Rho} {w : World} (hg : ∀ g ∈ gl, GlobIn w ρ g) : Calls Tryd.prog 25 #[] w fun e w' => e = .returned (.bool true) ∧ Below w.heap.size w w' :=
  closed_true1 tabs1 turned_run hg
end Go.Sx
