/- WHETHER A TOWN IS VALID: what the program's know hands back. -/
import Derived.Test.YtpejfdjeejdocaaDoorLicA
/-! WHETHER A TOWN IS VALID: what the program's know hands back. -/
namespace Go.Sx
open Go.RowKit Go.Proofs
set_option maxRecDepth 100000
noncomputable def inC (a b : Int) (i : Nat) : List BE := [.cmp .leq (.lit a) (.var i), .cmp .leq (.var i) (.lit b)]
noncomputable def kindC (i : Nat) : List BE := inC 1 30 i ++ inC 0 1000 (i + 1) ++ inC 0 30 (i + 2)
noncomputable def spanC (i : Nat) : List BE := inC 0 999 i ++ inC 0 999 (i + 1) ++ [.cmp .leq (.var i) (.var (i + 1))]
noncomputable def heldC (L i : Nat) : List BE := inC 0 (Int.sub (Int.ofNat L) 1) i ++ inC 0 999 (i + 1)
noncomputable def manyC (f : Nat → List BE) (s : Nat) : Nat → Nat → List BE
  | 0, _ => []
  | n + 1, i => f i ++ manyC f s n (i + s)
/-- what is so of a valid town -/
noncomputable def csT (q : Shp) : List BE := inC 0 20 0 ++ inC 0 65535 1 ++ inC 0 1439 2 ++ manyC kindC 3 q.1 10 ++ manyC spanC 2 q.2.1 30 ++ manyC (heldC q.1) 2 q.2.2 50
noncomputable def okV (q : Shp) : AV := .tup [townV q, li 0]
noncomputable def errV : AV := .tup [.agg [.nilslice, li 0, .nilslice, li 0, li 0, .nilslice], li 50]
noncomputable def knowQ (q : Shp) (K : Kn) (r : AV × Heap) : Bool := cond (eqAV r.1 errV) true (and (eqAV r.1 (okV q)) (lAll (fun c => match decK K c with
  | some b => b
  | none => false) (csT q)))
noncomputable def knowCk (q : Shp) : Bool := allW [] (knowQ q) (knowRun q) (knOf [] (emptyC q))
end Go.Sx
