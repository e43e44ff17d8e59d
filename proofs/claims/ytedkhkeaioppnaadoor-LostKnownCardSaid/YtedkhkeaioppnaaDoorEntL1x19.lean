/- CALLS, MADE: what is called, what it reads, what it hands back. -/
import Derived.Test.YtedkhkeaioppnaaDoorEnt0
/-! CALLS, MADE: what is called, what it reads, what it hands back. -/
namespace Go.Sx
open Go.RowKit Go.Proofs
set_option maxRecDepth 100000
noncomputable def e147 : Ent := ⟨13, [(.agg [(.slice 1000 0 3 3), (.slice 1005 0 4 4), (li 10), (li 0), (li 480), (li 2), (.slice 1003 0 1 1)]), (li 700)], 1010, [(0, .cells [(li 0), (li 2879), (li 0), (li 2), (li 0), (li 6)]), (1, .cells [(li 1), (li 6), (li 0), (li 6), (li 0), (li 60)]), (2, .cells [(li 2), (li 5), (li 0), (li 90), (li 0), (li 90)]), (1000, .cells [(.slice 1001 0 1 1), (.slice 1004 0 2 2), (.slice 1002 0 1 1)]), (1001, .cells [(li 480), (li 1200)]), (1002, .cells [(li 420), (li 1320)]), (1003, .cells [(.bool (.lit false)), (li 0), (li 600), (.bool (.lit false))]), (1004, .cells [(li 480), (li 720), (li 780), (li 1140)]), (1005, .cells cl1), (1006, .cells [(li 1), (li 590), (li 600), (li 2), (li 650), (li 650)]), (1007, .cells [(li 0), (li 700), (li 700), (li 2), (li 800), (li 800)]), (1008, .cells [(li 0), (li 690), (li 690), (li 1), (li 705), (li 710)]), (1009, .cells [(li 0), (li 500), (li 500), (li 1), (li 560), (li 565), (li 2), (li 640), (li 640)])], (.tup [(li 1), (li 0)]), [], []⟩
theorem e147_run : e147.run tb0 100 = true := by kernel_rfl
end Go.Sx
