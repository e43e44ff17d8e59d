/- CALLS, MADE: what is called, what it reads, what it hands back. -/
import Derived.Test.YtdnlbidfflpbiaaDoorEnt0
/-! CALLS, MADE: what is called, what it reads, what it hands back. -/
namespace Go.Sx
open Go.RowKit Go.Proofs
set_option maxRecDepth 100000
noncomputable def e0 : Ent := ⟨33, [(.agg [.nilslice, (li 0), (li 0), (li 0), (li 0), (li 0)])], 1000, [], (.tup [.nilslice, (li 10)]), [], []⟩
theorem e0_run : e0.run tb0 100 = true := by kernel_rfl
noncomputable def e9 : Ent := ⟨33, [(.agg [(.sliceX 1000 6 0 3), (li 0), (li 1), (li 1), (li 3), (li 2000)])], 1001, [(2, .cells [(li 1), (li 20), (li 0), (li 50)]), (3, .cells [(li 0), (li 99), (li 0), (li 99), (li 1), (li 1200)]), (1000, .cells cl1)], (.tup [.nilslice, (li 10)]), [], []⟩
theorem e9_run : e9.run tb0 100 = true := by kernel_rfl
noncomputable def e18 : Ent := ⟨33, [(.agg [(.sliceX 1000 6 0 3), (li 6), (li 8), (li 1), (li 3), (li 2000)])], 1001, [(3, .cells [(li 0), (li 99), (li 0), (li 99), (li 1), (li 1200)]), (1000, .cells cl0)], (.tup [.nilslice, (li 10)]), [], []⟩
theorem e18_run : e18.run tb0 100 = true := by kernel_rfl
noncomputable def e27 : Ent := ⟨33, [(.agg [(.sliceX 1000 6 0 3), (li 6), (li 8), (li 1), (li 3), (li 2000)])], 1001, [(2, .cells [(li 1), (li 20), (li 0), (li 50)]), (3, .cells [(li 0), (li 99), (li 0), (li 99), (li 1), (li 1200)]), (1000, .cells cl1)], (.tup [(.sliceX 1095 1 0 3), (li 0)]), [(1095, .cells [(li 0), (li 1), (li 2)] 3 true)], []⟩
theorem e27_run : e27.run tb0 100 = true := by kernel_rfl
noncomputable def e99 : Ent := ⟨62, [(.agg [(.sliceX 1001 6 0 3), (li 6), (li 8), (li 1), (li 3), (li 2000)]), (.slice 1000 0 1 1), (li 0)], 1002, [(2, .cells [(li 1), (li 20), (li 0), (li 50)]), (3, .cells [(li 0), (li 99), (li 0), (li 99), (li 1), (li 1200)]), (1000, .cells [(li 0), (li 1), (li 2)]), (1001, .cells cl1)], (.tup [(.agg [(li 6000), (li 8000)]), (li 0)]), [], []⟩
theorem e99_run : e99.run tb0 100 = true := by kernel_rfl
noncomputable def e100 : Ent := ⟨62, [(.agg [(.sliceX 1001 6 0 3), (li 6), (li 8), (li 1), (li 3), (li 2000)]), (.slice 1000 0 1 1), (li 1)], 1002, [(2, .cells [(li 1), (li 20), (li 0), (li 50)]), (3, .cells [(li 0), (li 99), (li 0), (li 99), (li 1), (li 1200)]), (1000, .cells [(li 0), (li 1), (li 2)]), (1001, .cells cl1)], (.tup [(.agg [(li 5982), (li 7992)]), (li 0)]), [], []⟩
theorem e100_run : e100.run tb0 100 = true := by kernel_rfl
noncomputable def e101 : Ent := ⟨62, [(.agg [(.sliceX 1001 6 0 3), (li 6), (li 8), (li 1), (li 3), (li 2000)]), (.slice 1000 1 1 1), (li 0)], 1002, [(2, .cells [(li 1), (li 20), (li 0), (li 50)]), (3, .cells [(li 0), (li 99), (li 0), (li 99), (li 1), (li 1200)]), (1000, .cells [(li 0), (li 1), (li 2)]), (1001, .cells cl1)], (.tup [(.agg [(li 4800), (li 6400)]), (li 0)]), [], []⟩
theorem e101_run : e101.run tb0 100 = true := by kernel_rfl
noncomputable def e102 : Ent := ⟨62, [(.agg [(.sliceX 1001 6 0 3), (li 6), (li 8), (li 1), (li 3), (li 2000)]), (.slice 1000 1 1 1), (li 1)], 1002, [(2, .cells [(li 1), (li 20), (li 0), (li 50)]), (3, .cells [(li 0), (li 99), (li 0), (li 99), (li 1), (li 1200)]), (1000, .cells [(li 0), (li 1), (li 2)]), (1001, .cells cl1)], (.tup [(.agg [(li 4782), (li 6392)]), (li 0)]), [], []⟩
theorem e102_run : e102.run tb0 100 = true := by kernel_rfl
noncomputable def e103 : Ent := ⟨62, [(.agg [(.sliceX 1001 6 0 3), (li 6), (li 8), (li 1), (li 3), (li 2000)]), (.slice 1000 2 1 1), (li 0)], 1002, [(2, .cells [(li 1), (li 20), (li 0), (li 50)]), (3, .cells [(li 0), (li 99), (li 0), (li 99), (li 1), (li 1200)]), (1000, .cells [(li 0), (li 1), (li 2)]), (1001, .cells cl1)], (.tup [(.agg [(li 3600), (li 4800)]), (li 0)]), [], []⟩
theorem e103_run : e103.run tb0 100 = true := by kernel_rfl
noncomputable def e104 : Ent := ⟨62, [(.agg [(.sliceX 1001 6 0 3), (li 6), (li 8), (li 1), (li 3), (li 2000)]), (.slice 1000 2 1 1), (li 1)], 1002, [(2, .cells [(li 1), (li 20), (li 0), (li 50)]), (3, .cells [(li 0), (li 99), (li 0), (li 99), (li 1), (li 1200)]), (1000, .cells [(li 0), (li 1), (li 2)]), (1001, .cells cl1)], (.tup [(.agg [(li 3582), (li 4792)]), (li 0)]), [], []⟩
theorem e104_run : e104.run tb0 100 = true := by kernel_rfl
noncomputable def e114 : Ent := ⟨33, [(.agg [(.sliceX 1000 6 0 1), (li 6), (li 8), (li 1), (li 3), (li 2000)])], 1001, [(2, .cells [(li 1), (li 20), (li 0), (li 50)]), (3, .cells [(li 0), (li 99), (li 0), (li 99), (li 1), (li 1200)]), (1000, .cells [(li 1), (li 1), (li 4), (li 4), (li 10), (li 10)])], (.tup [(.sliceX 1053 1 0 1), (li 0)]), [(1053, .cells [(li 0)] 3 true)], []⟩
theorem e114_run : e114.run tb0 100 = true := by kernel_rfl
noncomputable def e115 : Ent := ⟨62, [(.agg [(.sliceX 1001 6 0 1), (li 6), (li 8), (li 1), (li 3), (li 2000)]), (.slice 1000 0 1 1), (li 0)], 1002, [(2, .cells [(li 1), (li 20), (li 0), (li 50)]), (3, .cells [(li 0), (li 99), (li 0), (li 99), (li 1), (li 1200)]), (1000, .cells [(li 0)]), (1001, .cells [(li 1), (li 1), (li 4), (li 4), (li 10), (li 10)])], (.tup [(.agg [(li 60), (li 80)]), (li 0)]), [], []⟩
theorem e115_run : e115.run tb0 100 = true := by kernel_rfl
noncomputable def e116 : Ent := ⟨62, [(.agg [(.sliceX 1001 6 0 1), (li 6), (li 8), (li 1), (li 3), (li 2000)]), (.slice 1000 0 1 1), (li 1)], 1002, [(2, .cells [(li 1), (li 20), (li 0), (li 50)]), (3, .cells [(li 0), (li 99), (li 0), (li 99), (li 1), (li 1200)]), (1000, .cells [(li 0)]), (1001, .cells [(li 1), (li 1), (li 4), (li 4), (li 10), (li 10)])], (.tup [(.agg [(li 42), (li 72)]), (li 0)]), [], []⟩
theorem e116_run : e116.run tb0 100 = true := by kernel_rfl
end Go.Sx
