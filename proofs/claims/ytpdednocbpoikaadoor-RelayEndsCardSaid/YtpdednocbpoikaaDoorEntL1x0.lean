/- EntL1x0 -/
import Derived.Test.YtpdednocbpoikaaDoorRyV
namespace Go.Sx
open Go.RowKit Go.Proofs
set_option maxRecDepth 100000
noncomputable def e0 : Ent := ⟨40, [(.agg [(.sliceX 1000 6 0 3), (li 6), (li 8), (li 1), (li 3), (li 2000)])], 1001, [(0, .cells [(li 1), (li 20), (li 0), (li 50)]), (3, .cells [(li 0), (li 99), (li 0), (li 99), (li 1), (li 1200)]), (1000, .cells cl0)], (.tup [(.sliceX 1095 1 0 3), (li 0)]), [(1095, .cells [(li 0), (li 1), (li 2)] 3 true)], []⟩
theorem e0_run : e0.run tb0 100 = true := by kernel_rfl
noncomputable def e2 : Ent := ⟨41, [(.agg [(.sliceX 1001 6 0 3), (li 6), (li 8), (li 1), (li 3), (li 2000)]), (.slice 1000 0 1 1), (li 0)], 1002, [(0, .cells [(li 1), (li 20), (li 0), (li 50)]), (3, .cells [(li 0), (li 99), (li 0), (li 99), (li 1), (li 1200)]), (1000, .cells [(li 0), (li 1), (li 2)]), (1001, .cells cl0)], (.tup [(.agg [(li 6000), (li 8000)]), (li 0)]), [], []⟩
theorem e2_run : e2.run tb0 100 = true := by kernel_rfl
noncomputable def e3 : Ent := ⟨41, [(.agg [(.sliceX 1001 6 0 3), (li 6), (li 8), (li 1), (li 3), (li 2000)]), (.slice 1000 0 1 1), (li 1)], 1002, [(0, .cells [(li 1), (li 20), (li 0), (li 50)]), (3, .cells [(li 0), (li 99), (li 0), (li 99), (li 1), (li 1200)]), (1000, .cells [(li 0), (li 1), (li 2)]), (1001, .cells cl0)], (.tup [(.agg [(li 5982), (li 7992)]), (li 0)]), [], []⟩
theorem e3_run : e3.run tb0 100 = true := by kernel_rfl
noncomputable def e4 : Ent := ⟨41, [(.agg [(.sliceX 1001 6 0 3), (li 6), (li 8), (li 1), (li 3), (li 2000)]), (.slice 1000 1 1 1), (li 0)], 1002, [(0, .cells [(li 1), (li 20), (li 0), (li 50)]), (3, .cells [(li 0), (li 99), (li 0), (li 99), (li 1), (li 1200)]), (1000, .cells [(li 0), (li 1), (li 2)]), (1001, .cells cl0)], (.tup [(.agg [(li 4800), (li 6400)]), (li 0)]), [], []⟩
theorem e4_run : e4.run tb0 100 = true := by kernel_rfl
noncomputable def e5 : Ent := ⟨41, [(.agg [(.sliceX 1001 6 0 3), (li 6), (li 8), (li 1), (li 3), (li 2000)]), (.slice 1000 1 1 1), (li 1)], 1002, [(0, .cells [(li 1), (li 20), (li 0), (li 50)]), (3, .cells [(li 0), (li 99), (li 0), (li 99), (li 1), (li 1200)]), (1000, .cells [(li 0), (li 1), (li 2)]), (1001, .cells cl0)], (.tup [(.agg [(li 4782), (li 6392)]), (li 0)]), [], []⟩
theorem e5_run : e5.run tb0 100 = true := by kernel_rfl
noncomputable def e6 : Ent := ⟨41, [(.agg [(.sliceX 1001 6 0 3), (li 6), (li 8), (li 1), (li 3), (li 2000)]), (.slice 1000 2 1 1), (li 0)], 1002, [(0, .cells [(li 1), (li 20), (li 0), (li 50)]), (3, .cells [(li 0), (li 99), (li 0), (li 99), (li 1), (li 1200)]), (1000, .cells [(li 0), (li 1), (li 2)]), (1001, .cells cl0)], (.tup [(.agg [(li 3600), (li 4800)]), (li 0)]), [], []⟩
theorem e6_run : e6.run tb0 100 = true := by kernel_rfl
noncomputable def e7 : Ent := ⟨41, [(.agg [(.sliceX 1001 6 0 3), (li 6), (li 8), (li 1), (li 3), (li 2000)]), (.slice 1000 2 1 1), (li 1)], 1002, [(0, .cells [(li 1), (li 20), (li 0), (li 50)]), (3, .cells [(li 0), (li 99), (li 0), (li 99), (li 1), (li 1200)]), (1000, .cells [(li 0), (li 1), (li 2)]), (1001, .cells cl0)], (.tup [(.agg [(li 3582), (li 4792)]), (li 0)]), [], []⟩
theorem e7_run : e7.run tb0 100 = true := by kernel_rfl
end Go.Sx
