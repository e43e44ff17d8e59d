/- CALLS, MADE: what is called, what it reads, what it hands back. -/
import Derived.Test.YtkobhpalangomaaDoorEnt0
/-! CALLS, MADE: what is called, what it reads, what it hands back. -/
namespace Go.Sx
open Go.RowKit Go.Proofs
set_option maxRecDepth 100000
noncomputable def e0 : Ent := ⟨14, [(.agg [(li 0), (li 0), .nilslice, .nilslice, .nilslice, (li 0)])], 1000, [(0, .cells [(li 1), (li 6), (li 1), (li 5), (li 1), (li 4), (li 0), (li 1000)])], (li 20), [], []⟩
theorem e0_run : e0.run tb0 100 = true := by kernel_rfl
noncomputable def e2 : Ent := ⟨14, [(.agg [(li 7), (li 4), (.slice 1004 0 4 4), (.slice 1005 0 3 3), (.slice 1000 0 3 3), (li 50)])], 1006, [(0, .cells [(li 1), (li 6), (li 1), (li 5), (li 1), (li 4), (li 0), (li 1000)])], (li 20), [], []⟩
theorem e2_run : e2.run tb0 100 = true := by kernel_rfl
noncomputable def e4 : Ent := ⟨14, [(.agg [(li 6), (li 5), (.slice 1004 0 4 4), (.slice 1005 0 3 3), (.slice 1000 0 3 3), (li 50)])], 1006, [(0, .cells [(li 1), (li 6), (li 1), (li 5), (li 1), (li 4), (li 0), (li 1000)]), (1, .cells [(li 1), (li 6), (li 1), (li 5), (li 0), (li 3)]), (1005, .cells cl47)], (li 20), [], []⟩
theorem e4_run : e4.run tb0 100 = true := by kernel_rfl
noncomputable def e6 : Ent := ⟨14, [(.agg [(li 6), (li 4), (.slice 1004 0 4 4), (.slice 1005 0 3 3), (.slice 1000 0 3 3), (li 50)])], 1006, [(0, .cells [(li 1), (li 6), (li 1), (li 5), (li 1), (li 4), (li 0), (li 1000)]), (1, .cells [(li 1), (li 6), (li 1), (li 5), (li 0), (li 3)]), (1004, .cells [(li 64), (li 32), (li 0), (li 0)]), (1005, .cells cl47)], (li 20), [], []⟩
theorem e6_run : e6.run tb0 100 = true := by kernel_rfl
noncomputable def e8 : Ent := ⟨14, [(.agg [(li 6), (li 4), (.slice 1004 0 4 4), (.slice 1005 0 5 5), (.slice 1000 0 3 3), (li 50)])], 1006, [(0, .cells [(li 1), (li 6), (li 1), (li 5), (li 1), (li 4), (li 0), (li 1000)])], (li 20), [], []⟩
theorem e8_run : e8.run tb0 100 = true := by kernel_rfl
noncomputable def e10 : Ent := ⟨14, [(.agg [(li 6), (li 4), (.slice 1004 0 4 4), (.slice 1005 0 3 3), (.slice 1000 0 3 3), (li 50)])], 1006, [(0, .cells [(li 1), (li 6), (li 1), (li 5), (li 1), (li 4), (li 0), (li 1000)]), (1, .cells [(li 1), (li 6), (li 1), (li 5), (li 0), (li 3)]), (1005, .cells cl48)], (li 20), [], []⟩
theorem e10_run : e10.run tb0 100 = true := by kernel_rfl
noncomputable def e12 : Ent := ⟨14, [(.agg [(li 6), (li 4), (.slice 1004 0 4 4), (.slice 1005 0 3 3), (.slice 1000 0 3 3), (li 50)])], 1006, [(0, .cells [(li 1), (li 6), (li 1), (li 5), (li 1), (li 4), (li 0), (li 1000)]), (1, .cells [(li 1), (li 6), (li 1), (li 5), (li 0), (li 3)]), (1005, .cells cl49)], (li 20), [], []⟩
theorem e12_run : e12.run tb0 100 = true := by kernel_rfl
noncomputable def e14 : Ent := ⟨14, [(.agg [(li 6), (li 4), (.slice 1004 0 4 4), (.slice 1005 0 3 3), (.slice 1000 0 3 3), (li 50)])], 1006, [(0, .cells [(li 1), (li 6), (li 1), (li 5), (li 1), (li 4), (li 0), (li 1000)]), (1, .cells [(li 1), (li 6), (li 1), (li 5), (li 0), (li 3)]), (1000, .cells [(.slice 1001 0 2 2), (.slice 1002 0 3 3), (.slice 1003 0 3 3)]), (1004, .cells [(li 0), (li 32), (li 0), (li 0)]), (1005, .cells cl47)], (li 20), [], []⟩
theorem e14_run : e14.run tb0 100 = true := by kernel_rfl
noncomputable def e16 : Ent := ⟨14, [(.agg [(li 6), (li 4), (.slice 1004 0 4 4), (.slice 1005 0 3 3), (.slice 1000 0 3 3), (li 50)])], 1006, [(0, .cells [(li 1), (li 6), (li 1), (li 5), (li 1), (li 4), (li 0), (li 1000)]), (1, .cells [(li 1), (li 6), (li 1), (li 5), (li 0), (li 3)]), (1000, .cells [(.slice 1001 0 3 3), (.slice 1002 0 3 3), (.slice 1003 0 3 3)]), (1001, .cells [(li 0), (li 1), (li 2)]), (1002, .cells [(li 0), (li 0), (li 0)]), (1004, .cells [(li 0), (li 32), (li 0), (li 0)]), (1005, .cells cl47)], (li 20), [], []⟩
theorem e16_run : e16.run tb0 100 = true := by kernel_rfl
noncomputable def e18 : Ent := ⟨14, [(.agg [(li 6), (li 4), (.slice 1004 0 4 4), (.slice 1005 0 3 3), (.slice 1000 0 2 3), (li 50)])], 1006, [(0, .cells [(li 1), (li 6), (li 1), (li 5), (li 1), (li 4), (li 0), (li 1000)]), (1, .cells [(li 1), (li 6), (li 1), (li 5), (li 0), (li 3)]), (1004, .cells [(li 0), (li 32), (li 0), (li 0)]), (1005, .cells cl47)], (li 20), [], []⟩
theorem e18_run : e18.run tb0 100 = true := by kernel_rfl
noncomputable def e20 : Ent := ⟨14, [(.agg [(li 6), (li 4), (.slice 1004 0 4 4), (.slice 1005 0 3 3), (.slice 1000 0 3 3), (li 1001)])], 1006, [(0, .cells [(li 1), (li 6), (li 1), (li 5), (li 1), (li 4), (li 0), (li 1000)])], (li 20), [], []⟩
theorem e20_run : e20.run tb0 100 = true := by kernel_rfl
noncomputable def e22 : Ent := ⟨14, [(.agg [(li 6), (li 4), (.slice 1004 0 4 4), (.slice 1005 0 3 3), (.slice 1000 0 3 3), (li 50)])], 1006, [(0, .cells [(li 1), (li 6), (li 1), (li 5), (li 1), (li 4), (li 0), (li 1000)]), (1, .cells [(li 1), (li 6), (li 1), (li 5), (li 0), (li 3)]), (1000, .cells [(.slice 1001 0 3 3), (.slice 1002 0 3 3), (.slice 1003 0 3 3)]), (1001, .cells [(li 0), (li 0), (li 2)]), (1002, .cells [(li 0), (li 0), (li 0)]), (1003, .cells [(li 2), (li 0), (li 0)]), (1004, .cells [(li 0), (li 32), (li 0), (li 0)]), (1005, .cells cl47)], (li 0), [], []⟩
theorem e22_run : e22.run tb0 100 = true := by kernel_rfl
noncomputable def e23 : Ent := ⟨45, [(.func (.func 61) [(.agg [(li 0), (li 0), (li 3), (li 2)])] [])], 1000, [], (.agg [(li 7), (li 7), (li 0), (li 0), (li 0)]), [], []⟩
theorem e23_run : e23.run tb0 100 = true := by kernel_rfl
noncomputable def e24 : Ent := ⟨45, [(.func (.func 61) [(.agg [(li 0), (li 0), (li 2), (li 3)])] [])], 1000, [], (.agg [(li 3), (li 3), (li 3), (li 0), (li 0)]), [], []⟩
theorem e24_run : e24.run tb0 100 = true := by kernel_rfl
noncomputable def e25 : Ent := ⟨45, [(.func (.func 61) [(.agg [(li 0), (li 1), (li 3), (li 2)])] [])], 1000, [], (.agg [(li 0), (li 7), (li 7), (li 0), (li 0)]), [], []⟩
theorem e25_run : e25.run tb0 100 = true := by kernel_rfl
noncomputable def e26 : Ent := ⟨45, [(.func (.func 61) [(.agg [(li 0), (li 1), (li 2), (li 3)])] [])], 1000, [], (.agg [(li 0), (li 3), (li 3), (li 3), (li 0)]), [], []⟩
theorem e26_run : e26.run tb0 100 = true := by kernel_rfl
noncomputable def e27 : Ent := ⟨45, [(.func (.func 61) [(.agg [(li 0), (li 2), (li 3), (li 2)])] [])], 1000, [], (.agg [(li 0), (li 0), (li 7), (li 7), (li 0)]), [], []⟩
theorem e27_run : e27.run tb0 100 = true := by kernel_rfl
noncomputable def e28 : Ent := ⟨45, [(.func (.func 61) [(.agg [(li 0), (li 2), (li 2), (li 3)])] [])], 1000, [], (.agg [(li 0), (li 0), (li 3), (li 3), (li 3)]), [], []⟩
theorem e28_run : e28.run tb0 100 = true := by kernel_rfl
noncomputable def e29 : Ent := ⟨45, [(.func (.func 61) [(.agg [(li 0), (li 3), (li 3), (li 2)])] [])], 1000, [], (.agg [(li 0), (li 0), (li 0), (li 7), (li 7)]), [], []⟩
theorem e29_run : e29.run tb0 100 = true := by kernel_rfl
noncomputable def e30 : Ent := ⟨45, [(.func (.func 61) [(.agg [(li 0), (li 3), (li 2), (li 3)])] [])], 1000, [], (.agg [(li 0), (li 0), (li 0), (li 3), (li 3)]), [], []⟩
theorem e30_run : e30.run tb0 100 = true := by kernel_rfl
noncomputable def e31 : Ent := ⟨45, [(.func (.func 61) [(.agg [(li 1), (li 0), (li 3), (li 2)])] [])], 1000, [], (.agg [(li 14), (li 14), (li 0), (li 0), (li 0)]), [], []⟩
theorem e31_run : e31.run tb0 100 = true := by kernel_rfl
noncomputable def e32 : Ent := ⟨45, [(.func (.func 61) [(.agg [(li 1), (li 0), (li 2), (li 3)])] [])], 1000, [], (.agg [(li 6), (li 6), (li 6), (li 0), (li 0)]), [], []⟩
theorem e32_run : e32.run tb0 100 = true := by kernel_rfl
noncomputable def e33 : Ent := ⟨45, [(.func (.func 61) [(.agg [(li 1), (li 1), (li 3), (li 2)])] [])], 1000, [], (.agg [(li 0), (li 14), (li 14), (li 0), (li 0)]), [], []⟩
theorem e33_run : e33.run tb0 100 = true := by kernel_rfl
noncomputable def e34 : Ent := ⟨45, [(.func (.func 61) [(.agg [(li 1), (li 1), (li 2), (li 3)])] [])], 1000, [], (.agg [(li 0), (li 6), (li 6), (li 6), (li 0)]), [], []⟩
theorem e34_run : e34.run tb0 100 = true := by kernel_rfl
noncomputable def e35 : Ent := ⟨45, [(.func (.func 61) [(.agg [(li 1), (li 2), (li 3), (li 2)])] [])], 1000, [], (.agg [(li 0), (li 0), (li 14), (li 14), (li 0)]), [], []⟩
theorem e35_run : e35.run tb0 100 = true := by kernel_rfl
noncomputable def e36 : Ent := ⟨45, [(.func (.func 61) [(.agg [(li 1), (li 2), (li 2), (li 3)])] [])], 1000, [], (.agg [(li 0), (li 0), (li 6), (li 6), (li 6)]), [], []⟩
theorem e36_run : e36.run tb0 100 = true := by kernel_rfl
noncomputable def e37 : Ent := ⟨45, [(.func (.func 61) [(.agg [(li 1), (li 3), (li 3), (li 2)])] [])], 1000, [], (.agg [(li 0), (li 0), (li 0), (li 14), (li 14)]), [], []⟩
theorem e37_run : e37.run tb0 100 = true := by kernel_rfl
noncomputable def e38 : Ent := ⟨45, [(.func (.func 61) [(.agg [(li 1), (li 3), (li 2), (li 3)])] [])], 1000, [], (.agg [(li 0), (li 0), (li 0), (li 6), (li 6)]), [], []⟩
theorem e38_run : e38.run tb0 100 = true := by kernel_rfl
noncomputable def e39 : Ent := ⟨45, [(.func (.func 61) [(.agg [(li 2), (li 0), (li 3), (li 2)])] [])], 1000, [], (.agg [(li 28), (li 28), (li 0), (li 0), (li 0)]), [], []⟩
theorem e39_run : e39.run tb0 100 = true := by kernel_rfl
noncomputable def e40 : Ent := ⟨45, [(.func (.func 61) [(.agg [(li 2), (li 0), (li 2), (li 3)])] [])], 1000, [], (.agg [(li 12), (li 12), (li 12), (li 0), (li 0)]), [], []⟩
theorem e40_run : e40.run tb0 100 = true := by kernel_rfl
noncomputable def e41 : Ent := ⟨45, [(.func (.func 61) [(.agg [(li 2), (li 1), (li 3), (li 2)])] [])], 1000, [], (.agg [(li 0), (li 28), (li 28), (li 0), (li 0)]), [], []⟩
theorem e41_run : e41.run tb0 100 = true := by kernel_rfl
noncomputable def e42 : Ent := ⟨45, [(.func (.func 61) [(.agg [(li 2), (li 1), (li 2), (li 3)])] [])], 1000, [], (.agg [(li 0), (li 12), (li 12), (li 12), (li 0)]), [], []⟩
theorem e42_run : e42.run tb0 100 = true := by kernel_rfl
noncomputable def e43 : Ent := ⟨45, [(.func (.func 61) [(.agg [(li 2), (li 2), (li 3), (li 2)])] [])], 1000, [], (.agg [(li 0), (li 0), (li 28), (li 28), (li 0)]), [], []⟩
theorem e43_run : e43.run tb0 100 = true := by kernel_rfl
noncomputable def e44 : Ent := ⟨45, [(.func (.func 61) [(.agg [(li 2), (li 2), (li 2), (li 3)])] [])], 1000, [], (.agg [(li 0), (li 0), (li 12), (li 12), (li 12)]), [], []⟩
theorem e44_run : e44.run tb0 100 = true := by kernel_rfl
noncomputable def e45 : Ent := ⟨45, [(.func (.func 61) [(.agg [(li 2), (li 3), (li 3), (li 2)])] [])], 1000, [], (.agg [(li 0), (li 0), (li 0), (li 28), (li 28)]), [], []⟩
theorem e45_run : e45.run tb0 100 = true := by kernel_rfl
noncomputable def e46 : Ent := ⟨45, [(.func (.func 61) [(.agg [(li 2), (li 3), (li 2), (li 3)])] [])], 1000, [], (.agg [(li 0), (li 0), (li 0), (li 12), (li 12)]), [], []⟩
theorem e46_run : e46.run tb0 100 = true := by kernel_rfl
noncomputable def e47 : Ent := ⟨45, [(.func (.func 61) [(.agg [(li 3), (li 0), (li 3), (li 2)])] [])], 1000, [], (.agg [(li 56), (li 56), (li 0), (li 0), (li 0)]), [], []⟩
theorem e47_run : e47.run tb0 100 = true := by kernel_rfl
noncomputable def e48 : Ent := ⟨45, [(.func (.func 61) [(.agg [(li 3), (li 0), (li 2), (li 3)])] [])], 1000, [], (.agg [(li 24), (li 24), (li 24), (li 0), (li 0)]), [], []⟩
theorem e48_run : e48.run tb0 100 = true := by kernel_rfl
noncomputable def e49 : Ent := ⟨45, [(.func (.func 61) [(.agg [(li 3), (li 1), (li 3), (li 2)])] [])], 1000, [], (.agg [(li 0), (li 56), (li 56), (li 0), (li 0)]), [], []⟩
theorem e49_run : e49.run tb0 100 = true := by kernel_rfl
noncomputable def e50 : Ent := ⟨45, [(.func (.func 61) [(.agg [(li 3), (li 1), (li 2), (li 3)])] [])], 1000, [], (.agg [(li 0), (li 24), (li 24), (li 24), (li 0)]), [], []⟩
theorem e50_run : e50.run tb0 100 = true := by kernel_rfl
noncomputable def e51 : Ent := ⟨45, [(.func (.func 61) [(.agg [(li 3), (li 2), (li 3), (li 2)])] [])], 1000, [], (.agg [(li 0), (li 0), (li 56), (li 56), (li 0)]), [], []⟩
theorem e51_run : e51.run tb0 100 = true := by kernel_rfl
noncomputable def e52 : Ent := ⟨45, [(.func (.func 61) [(.agg [(li 3), (li 2), (li 2), (li 3)])] [])], 1000, [], (.agg [(li 0), (li 0), (li 24), (li 24), (li 24)]), [], []⟩
theorem e52_run : e52.run tb0 100 = true := by kernel_rfl
noncomputable def e53 : Ent := ⟨45, [(.func (.func 61) [(.agg [(li 3), (li 3), (li 3), (li 2)])] [])], 1000, [], (.agg [(li 0), (li 0), (li 0), (li 56), (li 56)]), [], []⟩
theorem e53_run : e53.run tb0 100 = true := by kernel_rfl
noncomputable def e54 : Ent := ⟨45, [(.func (.func 61) [(.agg [(li 3), (li 3), (li 2), (li 3)])] [])], 1000, [], (.agg [(li 0), (li 0), (li 0), (li 24), (li 24)]), [], []⟩
theorem e54_run : e54.run tb0 100 = true := by kernel_rfl
noncomputable def e55 : Ent := ⟨45, [(.func (.func 61) [(.agg [(li 4), (li 0), (li 3), (li 2)])] [])], 1000, [], (.agg [(li 48), (li 48), (li 0), (li 0), (li 0)]), [], []⟩
theorem e55_run : e55.run tb0 100 = true := by kernel_rfl
noncomputable def e56 : Ent := ⟨45, [(.func (.func 61) [(.agg [(li 4), (li 0), (li 2), (li 3)])] [])], 1000, [], (.agg [(li 48), (li 48), (li 48), (li 0), (li 0)]), [], []⟩
theorem e56_run : e56.run tb0 100 = true := by kernel_rfl
noncomputable def e57 : Ent := ⟨45, [(.func (.func 61) [(.agg [(li 4), (li 1), (li 3), (li 2)])] [])], 1000, [], (.agg [(li 0), (li 48), (li 48), (li 0), (li 0)]), [], []⟩
theorem e57_run : e57.run tb0 100 = true := by kernel_rfl
noncomputable def e58 : Ent := ⟨45, [(.func (.func 61) [(.agg [(li 4), (li 1), (li 2), (li 3)])] [])], 1000, [], (.agg [(li 0), (li 48), (li 48), (li 48), (li 0)]), [], []⟩
theorem e58_run : e58.run tb0 100 = true := by kernel_rfl
noncomputable def e59 : Ent := ⟨45, [(.func (.func 61) [(.agg [(li 4), (li 2), (li 3), (li 2)])] [])], 1000, [], (.agg [(li 0), (li 0), (li 48), (li 48), (li 0)]), [], []⟩
theorem e59_run : e59.run tb0 100 = true := by kernel_rfl
noncomputable def e60 : Ent := ⟨45, [(.func (.func 61) [(.agg [(li 4), (li 2), (li 2), (li 3)])] [])], 1000, [], (.agg [(li 0), (li 0), (li 48), (li 48), (li 48)]), [], []⟩
theorem e60_run : e60.run tb0 100 = true := by kernel_rfl
noncomputable def e61 : Ent := ⟨45, [(.func (.func 61) [(.agg [(li 4), (li 3), (li 3), (li 2)])] [])], 1000, [], (.agg [(li 0), (li 0), (li 0), (li 48), (li 48)]), [], []⟩
theorem e61_run : e61.run tb0 100 = true := by kernel_rfl
noncomputable def e62 : Ent := ⟨45, [(.func (.func 61) [(.agg [(li 4), (li 3), (li 2), (li 3)])] [])], 1000, [], (.agg [(li 0), (li 0), (li 0), (li 48), (li 48)]), [], []⟩
theorem e62_run : e62.run tb0 100 = true := by kernel_rfl
noncomputable def e63 : Ent := ⟨45, [(.func (.func 61) [(.agg [(li 5), (li 0), (li 3), (li 2)])] [])], 1000, [], (.agg [(li 32), (li 32), (li 0), (li 0), (li 0)]), [], []⟩
theorem e63_run : e63.run tb0 100 = true := by kernel_rfl
noncomputable def e64 : Ent := ⟨45, [(.func (.func 61) [(.agg [(li 5), (li 0), (li 2), (li 3)])] [])], 1000, [], (.agg [(li 32), (li 32), (li 32), (li 0), (li 0)]), [], []⟩
theorem e64_run : e64.run tb0 100 = true := by kernel_rfl
noncomputable def e65 : Ent := ⟨45, [(.func (.func 61) [(.agg [(li 5), (li 1), (li 3), (li 2)])] [])], 1000, [], (.agg [(li 0), (li 32), (li 32), (li 0), (li 0)]), [], []⟩
theorem e65_run : e65.run tb0 100 = true := by kernel_rfl
noncomputable def e66 : Ent := ⟨45, [(.func (.func 61) [(.agg [(li 5), (li 1), (li 2), (li 3)])] [])], 1000, [], (.agg [(li 0), (li 32), (li 32), (li 32), (li 0)]), [], []⟩
theorem e66_run : e66.run tb0 100 = true := by kernel_rfl
noncomputable def e67 : Ent := ⟨45, [(.func (.func 61) [(.agg [(li 5), (li 2), (li 3), (li 2)])] [])], 1000, [], (.agg [(li 0), (li 0), (li 32), (li 32), (li 0)]), [], []⟩
theorem e67_run : e67.run tb0 100 = true := by kernel_rfl
noncomputable def e68 : Ent := ⟨45, [(.func (.func 61) [(.agg [(li 5), (li 2), (li 2), (li 3)])] [])], 1000, [], (.agg [(li 0), (li 0), (li 32), (li 32), (li 32)]), [], []⟩
theorem e68_run : e68.run tb0 100 = true := by kernel_rfl
noncomputable def e69 : Ent := ⟨45, [(.func (.func 61) [(.agg [(li 5), (li 3), (li 3), (li 2)])] [])], 1000, [], (.agg [(li 0), (li 0), (li 0), (li 32), (li 32)]), [], []⟩
theorem e69_run : e69.run tb0 100 = true := by kernel_rfl
noncomputable def e70 : Ent := ⟨45, [(.func (.func 61) [(.agg [(li 5), (li 3), (li 2), (li 3)])] [])], 1000, [], (.agg [(li 0), (li 0), (li 0), (li 32), (li 32)]), [], []⟩
theorem e70_run : e70.run tb0 100 = true := by kernel_rfl
noncomputable def e71 : Ent := ⟨45, [(.func (.func 61) [(.agg [(li 0), (li 0), (li 1), (li 1)])] [])], 1000, [], (.agg [(li 1), (li 0), (li 0), (li 0), (li 0)]), [], []⟩
theorem e71_run : e71.run tb0 100 = true := by kernel_rfl
noncomputable def e72 : Ent := ⟨45, [(.func (.func 61) [(.agg [(li 0), (li 1), (li 1), (li 1)])] [])], 1000, [], (.agg [(li 0), (li 1), (li 0), (li 0), (li 0)]), [], []⟩
theorem e72_run : e72.run tb0 100 = true := by kernel_rfl
noncomputable def e73 : Ent := ⟨45, [(.func (.func 61) [(.agg [(li 0), (li 2), (li 1), (li 1)])] [])], 1000, [], (.agg [(li 0), (li 0), (li 1), (li 0), (li 0)]), [], []⟩
theorem e73_run : e73.run tb0 100 = true := by kernel_rfl
noncomputable def e74 : Ent := ⟨45, [(.func (.func 61) [(.agg [(li 0), (li 3), (li 1), (li 1)])] [])], 1000, [], (.agg [(li 0), (li 0), (li 0), (li 1), (li 0)]), [], []⟩
theorem e74_run : e74.run tb0 100 = true := by kernel_rfl
noncomputable def e75 : Ent := ⟨45, [(.func (.func 61) [(.agg [(li 1), (li 0), (li 1), (li 1)])] [])], 1000, [], (.agg [(li 2), (li 0), (li 0), (li 0), (li 0)]), [], []⟩
theorem e75_run : e75.run tb0 100 = true := by kernel_rfl
noncomputable def e76 : Ent := ⟨45, [(.func (.func 61) [(.agg [(li 1), (li 1), (li 1), (li 1)])] [])], 1000, [], (.agg [(li 0), (li 2), (li 0), (li 0), (li 0)]), [], []⟩
theorem e76_run : e76.run tb0 100 = true := by kernel_rfl
noncomputable def e77 : Ent := ⟨45, [(.func (.func 61) [(.agg [(li 1), (li 2), (li 1), (li 1)])] [])], 1000, [], (.agg [(li 0), (li 0), (li 2), (li 0), (li 0)]), [], []⟩
theorem e77_run : e77.run tb0 100 = true := by kernel_rfl
noncomputable def e78 : Ent := ⟨45, [(.func (.func 61) [(.agg [(li 1), (li 3), (li 1), (li 1)])] [])], 1000, [], (.agg [(li 0), (li 0), (li 0), (li 2), (li 0)]), [], []⟩
theorem e78_run : e78.run tb0 100 = true := by kernel_rfl
noncomputable def e79 : Ent := ⟨45, [(.func (.func 61) [(.agg [(li 2), (li 0), (li 1), (li 1)])] [])], 1000, [], (.agg [(li 4), (li 0), (li 0), (li 0), (li 0)]), [], []⟩
theorem e79_run : e79.run tb0 100 = true := by kernel_rfl
noncomputable def e80 : Ent := ⟨45, [(.func (.func 61) [(.agg [(li 2), (li 1), (li 1), (li 1)])] [])], 1000, [], (.agg [(li 0), (li 4), (li 0), (li 0), (li 0)]), [], []⟩
theorem e80_run : e80.run tb0 100 = true := by kernel_rfl
noncomputable def e81 : Ent := ⟨45, [(.func (.func 61) [(.agg [(li 2), (li 2), (li 1), (li 1)])] [])], 1000, [], (.agg [(li 0), (li 0), (li 4), (li 0), (li 0)]), [], []⟩
theorem e81_run : e81.run tb0 100 = true := by kernel_rfl
noncomputable def e82 : Ent := ⟨45, [(.func (.func 61) [(.agg [(li 2), (li 3), (li 1), (li 1)])] [])], 1000, [], (.agg [(li 0), (li 0), (li 0), (li 4), (li 0)]), [], []⟩
theorem e82_run : e82.run tb0 100 = true := by kernel_rfl
noncomputable def e83 : Ent := ⟨45, [(.func (.func 61) [(.agg [(li 3), (li 0), (li 1), (li 1)])] [])], 1000, [], (.agg [(li 8), (li 0), (li 0), (li 0), (li 0)]), [], []⟩
theorem e83_run : e83.run tb0 100 = true := by kernel_rfl
noncomputable def e84 : Ent := ⟨45, [(.func (.func 61) [(.agg [(li 3), (li 1), (li 1), (li 1)])] [])], 1000, [], (.agg [(li 0), (li 8), (li 0), (li 0), (li 0)]), [], []⟩
theorem e84_run : e84.run tb0 100 = true := by kernel_rfl
noncomputable def e85 : Ent := ⟨45, [(.func (.func 61) [(.agg [(li 3), (li 2), (li 1), (li 1)])] [])], 1000, [], (.agg [(li 0), (li 0), (li 8), (li 0), (li 0)]), [], []⟩
theorem e85_run : e85.run tb0 100 = true := by kernel_rfl
noncomputable def e86 : Ent := ⟨45, [(.func (.func 61) [(.agg [(li 3), (li 3), (li 1), (li 1)])] [])], 1000, [], (.agg [(li 0), (li 0), (li 0), (li 8), (li 0)]), [], []⟩
theorem e86_run : e86.run tb0 100 = true := by kernel_rfl
noncomputable def e87 : Ent := ⟨45, [(.func (.func 61) [(.agg [(li 4), (li 0), (li 1), (li 1)])] [])], 1000, [], (.agg [(li 16), (li 0), (li 0), (li 0), (li 0)]), [], []⟩
theorem e87_run : e87.run tb0 100 = true := by kernel_rfl
noncomputable def e88 : Ent := ⟨45, [(.func (.func 61) [(.agg [(li 4), (li 1), (li 1), (li 1)])] [])], 1000, [], (.agg [(li 0), (li 16), (li 0), (li 0), (li 0)]), [], []⟩
theorem e88_run : e88.run tb0 100 = true := by kernel_rfl
noncomputable def e89 : Ent := ⟨45, [(.func (.func 61) [(.agg [(li 4), (li 2), (li 1), (li 1)])] [])], 1000, [], (.agg [(li 0), (li 0), (li 16), (li 0), (li 0)]), [], []⟩
theorem e89_run : e89.run tb0 100 = true := by kernel_rfl
noncomputable def e90 : Ent := ⟨45, [(.func (.func 61) [(.agg [(li 4), (li 3), (li 1), (li 1)])] [])], 1000, [], (.agg [(li 0), (li 0), (li 0), (li 16), (li 0)]), [], []⟩
theorem e90_run : e90.run tb0 100 = true := by kernel_rfl
noncomputable def e91 : Ent := ⟨45, [(.func (.func 61) [(.agg [(li 5), (li 0), (li 1), (li 1)])] [])], 1000, [], (.agg [(li 32), (li 0), (li 0), (li 0), (li 0)]), [], []⟩
theorem e91_run : e91.run tb0 100 = true := by kernel_rfl
noncomputable def e92 : Ent := ⟨45, [(.func (.func 61) [(.agg [(li 5), (li 1), (li 1), (li 1)])] [])], 1000, [], (.agg [(li 0), (li 32), (li 0), (li 0), (li 0)]), [], []⟩
theorem e92_run : e92.run tb0 100 = true := by kernel_rfl
noncomputable def e93 : Ent := ⟨45, [(.func (.func 61) [(.agg [(li 5), (li 2), (li 1), (li 1)])] [])], 1000, [], (.agg [(li 0), (li 0), (li 32), (li 0), (li 0)]), [], []⟩
theorem e93_run : e93.run tb0 100 = true := by kernel_rfl
noncomputable def e94 : Ent := ⟨45, [(.func (.func 61) [(.agg [(li 5), (li 3), (li 1), (li 1)])] [])], 1000, [], (.agg [(li 0), (li 0), (li 0), (li 32), (li 0)]), [], []⟩
theorem e94_run : e94.run tb0 100 = true := by kernel_rfl
noncomputable def e95 : Ent := ⟨45, [(.func (.func 61) [(.agg [(li 0), (li 0), (li 2), (li 1)])] [])], 1000, [], (.agg [(li 3), (li 0), (li 0), (li 0), (li 0)]), [], []⟩
theorem e95_run : e95.run tb0 100 = true := by kernel_rfl
noncomputable def e96 : Ent := ⟨45, [(.func (.func 61) [(.agg [(li 0), (li 0), (li 1), (li 2)])] [])], 1000, [], (.agg [(li 1), (li 1), (li 0), (li 0), (li 0)]), [], []⟩
theorem e96_run : e96.run tb0 100 = true := by kernel_rfl
noncomputable def e97 : Ent := ⟨45, [(.func (.func 61) [(.agg [(li 0), (li 1), (li 2), (li 1)])] [])], 1000, [], (.agg [(li 0), (li 3), (li 0), (li 0), (li 0)]), [], []⟩
theorem e97_run : e97.run tb0 100 = true := by kernel_rfl
noncomputable def e98 : Ent := ⟨45, [(.func (.func 61) [(.agg [(li 0), (li 1), (li 1), (li 2)])] [])], 1000, [], (.agg [(li 0), (li 1), (li 1), (li 0), (li 0)]), [], []⟩
theorem e98_run : e98.run tb0 100 = true := by kernel_rfl
noncomputable def e99 : Ent := ⟨45, [(.func (.func 61) [(.agg [(li 0), (li 2), (li 2), (li 1)])] [])], 1000, [], (.agg [(li 0), (li 0), (li 3), (li 0), (li 0)]), [], []⟩
theorem e99_run : e99.run tb0 100 = true := by kernel_rfl
noncomputable def e100 : Ent := ⟨45, [(.func (.func 61) [(.agg [(li 0), (li 2), (li 1), (li 2)])] [])], 1000, [], (.agg [(li 0), (li 0), (li 1), (li 1), (li 0)]), [], []⟩
theorem e100_run : e100.run tb0 100 = true := by kernel_rfl
noncomputable def e101 : Ent := ⟨45, [(.func (.func 61) [(.agg [(li 0), (li 3), (li 2), (li 1)])] [])], 1000, [], (.agg [(li 0), (li 0), (li 0), (li 3), (li 0)]), [], []⟩
theorem e101_run : e101.run tb0 100 = true := by kernel_rfl
noncomputable def e102 : Ent := ⟨45, [(.func (.func 61) [(.agg [(li 0), (li 3), (li 1), (li 2)])] [])], 1000, [], (.agg [(li 0), (li 0), (li 0), (li 1), (li 1)]), [], []⟩
theorem e102_run : e102.run tb0 100 = true := by kernel_rfl
noncomputable def e103 : Ent := ⟨45, [(.func (.func 61) [(.agg [(li 1), (li 0), (li 2), (li 1)])] [])], 1000, [], (.agg [(li 6), (li 0), (li 0), (li 0), (li 0)]), [], []⟩
theorem e103_run : e103.run tb0 100 = true := by kernel_rfl
noncomputable def e104 : Ent := ⟨45, [(.func (.func 61) [(.agg [(li 1), (li 0), (li 1), (li 2)])] [])], 1000, [], (.agg [(li 2), (li 2), (li 0), (li 0), (li 0)]), [], []⟩
theorem e104_run : e104.run tb0 100 = true := by kernel_rfl
noncomputable def e105 : Ent := ⟨45, [(.func (.func 61) [(.agg [(li 1), (li 1), (li 2), (li 1)])] [])], 1000, [], (.agg [(li 0), (li 6), (li 0), (li 0), (li 0)]), [], []⟩
theorem e105_run : e105.run tb0 100 = true := by kernel_rfl
noncomputable def e106 : Ent := ⟨45, [(.func (.func 61) [(.agg [(li 1), (li 1), (li 1), (li 2)])] [])], 1000, [], (.agg [(li 0), (li 2), (li 2), (li 0), (li 0)]), [], []⟩
theorem e106_run : e106.run tb0 100 = true := by kernel_rfl
noncomputable def e107 : Ent := ⟨45, [(.func (.func 61) [(.agg [(li 1), (li 2), (li 2), (li 1)])] [])], 1000, [], (.agg [(li 0), (li 0), (li 6), (li 0), (li 0)]), [], []⟩
theorem e107_run : e107.run tb0 100 = true := by kernel_rfl
noncomputable def e108 : Ent := ⟨45, [(.func (.func 61) [(.agg [(li 1), (li 2), (li 1), (li 2)])] [])], 1000, [], (.agg [(li 0), (li 0), (li 2), (li 2), (li 0)]), [], []⟩
theorem e108_run : e108.run tb0 100 = true := by kernel_rfl
noncomputable def e109 : Ent := ⟨45, [(.func (.func 61) [(.agg [(li 1), (li 3), (li 2), (li 1)])] [])], 1000, [], (.agg [(li 0), (li 0), (li 0), (li 6), (li 0)]), [], []⟩
theorem e109_run : e109.run tb0 100 = true := by kernel_rfl
noncomputable def e110 : Ent := ⟨45, [(.func (.func 61) [(.agg [(li 1), (li 3), (li 1), (li 2)])] [])], 1000, [], (.agg [(li 0), (li 0), (li 0), (li 2), (li 2)]), [], []⟩
theorem e110_run : e110.run tb0 100 = true := by kernel_rfl
end Go.Sx
