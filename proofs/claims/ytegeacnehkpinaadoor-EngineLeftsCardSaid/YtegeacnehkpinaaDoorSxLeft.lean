/- WHAT IS LEFT: the program's call and the reference's, as they are said, and what is held against their runs. -/
import Derived.Test.YtegeacnehkpinaaDoorSxEvC
import Derived.Test.YtegeacnehkpinaaDoorSxEvF
/-! WHAT IS LEFT: the program's call and the reference's, as they are said, and what is held against their runs. -/
namespace Go.Sx
open Go.RowKit Go.Proofs
set_option maxRecDepth 100000
noncomputable def anyOrc (args : List AV) (h : Heap) (f : FuncId) (l : List CSpec) : Option (T (AV × Heap)) :=
  @List.rec CSpec (fun _ => Option (T (AV × Heap))) none (fun c _ ih => cond (Nat.beq f c.f) (match c.orc args h with
    | some t => some t
    | none => ih) ih) l
noncomputable def stepsL (L : Nat) : Nat → List CSpec
  | 0 => []
  | n + 1 => stepC false L n :: stepC true L n :: stepsL L n
noncomputable def specsE (L : Nat) : List CSpec := evTrue L :: ckZero L :: stepsL L L
noncomputable def orcE (L : Nat) (f : FuncId) (args : List AV) (h : Heap) : Option (T (AV × Heap)) := anyOrc args h f (specsE L)
noncomputable def tbE (L : Nat) : Tabs := ⟨Sx.Tryd.ft.get, lFind Sx.Tryd.rt, 2000, orcE L⟩
/-- held against the program's run, and the reference's; where the first parts' lights are known -/
noncomputable def leftP (L k : Nat) (pre : List Bool) : Bool := servesW (leftRules pre k) (leftU k) ((runS (tbE L) (leftC 18 L k)).bind fun r => .ret r.1) (preK pre 0 (knOf (leftQ L) (leftR L)))
noncomputable def leftF (L k : Nat) (pre : List Bool) : Bool := servesW [] (leftU k) ((runS (tbE L) (leftC 19 L k)).bind fun r => .ret r.1) (preK pre 0 (knOf (leftQ L) (leftR L)))
end Go.Sx
