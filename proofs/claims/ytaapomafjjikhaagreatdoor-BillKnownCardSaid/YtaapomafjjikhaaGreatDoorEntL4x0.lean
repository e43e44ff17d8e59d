/- CALLS, MADE: what is called, what it reads, what it hands back. -/
import Derived.Test.YtaapomafjjikhaaGreatDoorEntT3
/-! CALLS, MADE: what is called, what it reads, what it hands back. -/
namespace Go.Sx
open Go.RowKit Go.Proofs
set_option maxRecDepth 100000
noncomputable def e144 : Ent := ⟨24, [], 1000, [(1, .cells [(li 0), (li 999), (li 1), (li 5)]), (2, .cells [(li 0), (li 600), (li 0), (li 60)]), (3, .cells [(li 1), (li 20), (li 0), (li 50)]), (4, .cells [(li 1), (li 4), (li 0), (li 20), (li 0), (li 4), (li 0), (li 65535), (li 0), (li 1439), (li 0), (li 4)]), (5, .cells [(li 0), (li 15), (li 0), (li 999), (li 0), (li 1439), (li 0), (li 1439)]), (6, .cells [(li 0), (li 99), (li 0), (li 99), (li 1), (li 1200)]), (7, .cells [(li 1), (li 30), (li 0), (li 1000), (li 0), (li 30)])], (.bool (.lit true)), [], []⟩
theorem e144_run : e144.run tb3 100 = true := by kernel_rfl
end Go.Sx
