/- CALLS, MADE: what is called, what it reads, what it hands back. -/
import Derived.Test.YtkobhpalangomaaDoorEnt0
/-! CALLS, MADE: what is called, what it reads, what it hands back. -/
namespace Go.Sx
open Go.RowKit Go.Proofs
set_option maxRecDepth 100000
noncomputable def e111 : Ent := ⟨45, [(.func (.func 61) [(.agg [(li 2), (li 0), (li 2), (li 1)])] [])], 1000, [], (.agg [(li 12), (li 0), (li 0), (li 0), (li 0)]), [], []⟩
theorem e111_run : e111.run tb0 100 = true := by kernel_rfl
noncomputable def e112 : Ent := ⟨45, [(.func (.func 61) [(.agg [(li 2), (li 0), (li 1), (li 2)])] [])], 1000, [], (.agg [(li 4), (li 4), (li 0), (li 0), (li 0)]), [], []⟩
theorem e112_run : e112.run tb0 100 = true := by kernel_rfl
noncomputable def e113 : Ent := ⟨45, [(.func (.func 61) [(.agg [(li 2), (li 1), (li 2), (li 1)])] [])], 1000, [], (.agg [(li 0), (li 12), (li 0), (li 0), (li 0)]), [], []⟩
theorem e113_run : e113.run tb0 100 = true := by kernel_rfl
noncomputable def e114 : Ent := ⟨45, [(.func (.func 61) [(.agg [(li 2), (li 1), (li 1), (li 2)])] [])], 1000, [], (.agg [(li 0), (li 4), (li 4), (li 0), (li 0)]), [], []⟩
theorem e114_run : e114.run tb0 100 = true := by kernel_rfl
noncomputable def e115 : Ent := ⟨45, [(.func (.func 61) [(.agg [(li 2), (li 2), (li 2), (li 1)])] [])], 1000, [], (.agg [(li 0), (li 0), (li 12), (li 0), (li 0)]), [], []⟩
theorem e115_run : e115.run tb0 100 = true := by kernel_rfl
noncomputable def e116 : Ent := ⟨45, [(.func (.func 61) [(.agg [(li 2), (li 2), (li 1), (li 2)])] [])], 1000, [], (.agg [(li 0), (li 0), (li 4), (li 4), (li 0)]), [], []⟩
theorem e116_run : e116.run tb0 100 = true := by kernel_rfl
noncomputable def e117 : Ent := ⟨45, [(.func (.func 61) [(.agg [(li 2), (li 3), (li 2), (li 1)])] [])], 1000, [], (.agg [(li 0), (li 0), (li 0), (li 12), (li 0)]), [], []⟩
theorem e117_run : e117.run tb0 100 = true := by kernel_rfl
noncomputable def e118 : Ent := ⟨45, [(.func (.func 61) [(.agg [(li 2), (li 3), (li 1), (li 2)])] [])], 1000, [], (.agg [(li 0), (li 0), (li 0), (li 4), (li 4)]), [], []⟩
theorem e118_run : e118.run tb0 100 = true := by kernel_rfl
noncomputable def e119 : Ent := ⟨45, [(.func (.func 61) [(.agg [(li 3), (li 0), (li 2), (li 1)])] [])], 1000, [], (.agg [(li 24), (li 0), (li 0), (li 0), (li 0)]), [], []⟩
theorem e119_run : e119.run tb0 100 = true := by kernel_rfl
noncomputable def e120 : Ent := ⟨45, [(.func (.func 61) [(.agg [(li 3), (li 0), (li 1), (li 2)])] [])], 1000, [], (.agg [(li 8), (li 8), (li 0), (li 0), (li 0)]), [], []⟩
theorem e120_run : e120.run tb0 100 = true := by kernel_rfl
noncomputable def e121 : Ent := ⟨45, [(.func (.func 61) [(.agg [(li 3), (li 1), (li 2), (li 1)])] [])], 1000, [], (.agg [(li 0), (li 24), (li 0), (li 0), (li 0)]), [], []⟩
theorem e121_run : e121.run tb0 100 = true := by kernel_rfl
noncomputable def e122 : Ent := ⟨45, [(.func (.func 61) [(.agg [(li 3), (li 1), (li 1), (li 2)])] [])], 1000, [], (.agg [(li 0), (li 8), (li 8), (li 0), (li 0)]), [], []⟩
theorem e122_run : e122.run tb0 100 = true := by kernel_rfl
noncomputable def e123 : Ent := ⟨45, [(.func (.func 61) [(.agg [(li 3), (li 2), (li 2), (li 1)])] [])], 1000, [], (.agg [(li 0), (li 0), (li 24), (li 0), (li 0)]), [], []⟩
theorem e123_run : e123.run tb0 100 = true := by kernel_rfl
noncomputable def e124 : Ent := ⟨45, [(.func (.func 61) [(.agg [(li 3), (li 2), (li 1), (li 2)])] [])], 1000, [], (.agg [(li 0), (li 0), (li 8), (li 8), (li 0)]), [], []⟩
theorem e124_run : e124.run tb0 100 = true := by kernel_rfl
noncomputable def e125 : Ent := ⟨45, [(.func (.func 61) [(.agg [(li 3), (li 3), (li 2), (li 1)])] [])], 1000, [], (.agg [(li 0), (li 0), (li 0), (li 24), (li 0)]), [], []⟩
theorem e125_run : e125.run tb0 100 = true := by kernel_rfl
noncomputable def e126 : Ent := ⟨45, [(.func (.func 61) [(.agg [(li 3), (li 3), (li 1), (li 2)])] [])], 1000, [], (.agg [(li 0), (li 0), (li 0), (li 8), (li 8)]), [], []⟩
theorem e126_run : e126.run tb0 100 = true := by kernel_rfl
noncomputable def e127 : Ent := ⟨45, [(.func (.func 61) [(.agg [(li 4), (li 0), (li 2), (li 1)])] [])], 1000, [], (.agg [(li 48), (li 0), (li 0), (li 0), (li 0)]), [], []⟩
theorem e127_run : e127.run tb0 100 = true := by kernel_rfl
noncomputable def e128 : Ent := ⟨45, [(.func (.func 61) [(.agg [(li 4), (li 0), (li 1), (li 2)])] [])], 1000, [], (.agg [(li 16), (li 16), (li 0), (li 0), (li 0)]), [], []⟩
theorem e128_run : e128.run tb0 100 = true := by kernel_rfl
noncomputable def e129 : Ent := ⟨45, [(.func (.func 61) [(.agg [(li 4), (li 1), (li 2), (li 1)])] [])], 1000, [], (.agg [(li 0), (li 48), (li 0), (li 0), (li 0)]), [], []⟩
theorem e129_run : e129.run tb0 100 = true := by kernel_rfl
noncomputable def e130 : Ent := ⟨45, [(.func (.func 61) [(.agg [(li 4), (li 1), (li 1), (li 2)])] [])], 1000, [], (.agg [(li 0), (li 16), (li 16), (li 0), (li 0)]), [], []⟩
theorem e130_run : e130.run tb0 100 = true := by kernel_rfl
noncomputable def e131 : Ent := ⟨45, [(.func (.func 61) [(.agg [(li 4), (li 2), (li 2), (li 1)])] [])], 1000, [], (.agg [(li 0), (li 0), (li 48), (li 0), (li 0)]), [], []⟩
theorem e131_run : e131.run tb0 100 = true := by kernel_rfl
noncomputable def e132 : Ent := ⟨45, [(.func (.func 61) [(.agg [(li 4), (li 2), (li 1), (li 2)])] [])], 1000, [], (.agg [(li 0), (li 0), (li 16), (li 16), (li 0)]), [], []⟩
theorem e132_run : e132.run tb0 100 = true := by kernel_rfl
noncomputable def e133 : Ent := ⟨45, [(.func (.func 61) [(.agg [(li 4), (li 3), (li 2), (li 1)])] [])], 1000, [], (.agg [(li 0), (li 0), (li 0), (li 48), (li 0)]), [], []⟩
theorem e133_run : e133.run tb0 100 = true := by kernel_rfl
noncomputable def e134 : Ent := ⟨45, [(.func (.func 61) [(.agg [(li 4), (li 3), (li 1), (li 2)])] [])], 1000, [], (.agg [(li 0), (li 0), (li 0), (li 16), (li 16)]), [], []⟩
theorem e134_run : e134.run tb0 100 = true := by kernel_rfl
noncomputable def e135 : Ent := ⟨45, [(.func (.func 61) [(.agg [(li 5), (li 0), (li 2), (li 1)])] [])], 1000, [], (.agg [(li 32), (li 0), (li 0), (li 0), (li 0)]), [], []⟩
theorem e135_run : e135.run tb0 100 = true := by kernel_rfl
noncomputable def e136 : Ent := ⟨45, [(.func (.func 61) [(.agg [(li 5), (li 0), (li 1), (li 2)])] [])], 1000, [], (.agg [(li 32), (li 32), (li 0), (li 0), (li 0)]), [], []⟩
theorem e136_run : e136.run tb0 100 = true := by kernel_rfl
noncomputable def e137 : Ent := ⟨45, [(.func (.func 61) [(.agg [(li 5), (li 1), (li 2), (li 1)])] [])], 1000, [], (.agg [(li 0), (li 32), (li 0), (li 0), (li 0)]), [], []⟩
theorem e137_run : e137.run tb0 100 = true := by kernel_rfl
noncomputable def e138 : Ent := ⟨45, [(.func (.func 61) [(.agg [(li 5), (li 1), (li 1), (li 2)])] [])], 1000, [], (.agg [(li 0), (li 32), (li 32), (li 0), (li 0)]), [], []⟩
theorem e138_run : e138.run tb0 100 = true := by kernel_rfl
noncomputable def e139 : Ent := ⟨45, [(.func (.func 61) [(.agg [(li 5), (li 2), (li 2), (li 1)])] [])], 1000, [], (.agg [(li 0), (li 0), (li 32), (li 0), (li 0)]), [], []⟩
theorem e139_run : e139.run tb0 100 = true := by kernel_rfl
noncomputable def e140 : Ent := ⟨45, [(.func (.func 61) [(.agg [(li 5), (li 2), (li 1), (li 2)])] [])], 1000, [], (.agg [(li 0), (li 0), (li 32), (li 32), (li 0)]), [], []⟩
theorem e140_run : e140.run tb0 100 = true := by kernel_rfl
noncomputable def e141 : Ent := ⟨45, [(.func (.func 61) [(.agg [(li 5), (li 3), (li 2), (li 1)])] [])], 1000, [], (.agg [(li 0), (li 0), (li 0), (li 32), (li 0)]), [], []⟩
theorem e141_run : e141.run tb0 100 = true := by kernel_rfl
noncomputable def e142 : Ent := ⟨45, [(.func (.func 61) [(.agg [(li 5), (li 3), (li 1), (li 2)])] [])], 1000, [], (.agg [(li 0), (li 0), (li 0), (li 32), (li 32)]), [], []⟩
theorem e142_run : e142.run tb0 100 = true := by kernel_rfl
noncomputable def e144 : Ent := ⟨42, [(li 0), (.slice 1000 0 2 2)], 1001, [(1000, .cells [(li 0), (li (-3))])], (li 0), [], []⟩
theorem e144_run : e144.run tb0 100 = true := by kernel_rfl
noncomputable def e145 : Ent := ⟨42, [(li 0), (.slice 1000 0 1 1)], 1001, [(1000, .cells [(li 0)])], (li 0), [], []⟩
theorem e145_run : e145.run tb0 100 = true := by kernel_rfl
noncomputable def e146 : Ent := ⟨42, [(li 0), (.slice 1000 0 2 2)], 1001, [(1000, .cells [(li (-3)), (li (-1))])], (li 0), [], []⟩
theorem e146_run : e146.run tb0 100 = true := by kernel_rfl
noncomputable def e147 : Ent := ⟨42, [(li 1), (.slice 1000 0 1 1)], 1001, [(1000, .cells [(li 0)])], (li 1), [], []⟩
theorem e147_run : e147.run tb0 100 = true := by kernel_rfl
noncomputable def e148 : Ent := ⟨42, [(li 0), (.slice 1000 0 2 2)], 1001, [(1000, .cells [(li 3), (li (-6))])], (li 3), [], []⟩
theorem e148_run : e148.run tb0 100 = true := by kernel_rfl
noncomputable def e149 : Ent := ⟨42, [(li 0), (.slice 1000 0 1 1)], 1001, [(1000, .cells [(li 3)])], (li 3), [], []⟩
theorem e149_run : e149.run tb0 100 = true := by kernel_rfl
noncomputable def e150 : Ent := ⟨42, [(li 0), (.slice 1000 0 2 2)], 1001, [(1000, .cells [(li (-1)), (li (-3))])], (li 0), [], []⟩
theorem e150_run : e150.run tb0 100 = true := by kernel_rfl
noncomputable def e151 : Ent := ⟨42, [(li 3), (.slice 1000 0 1 1)], 1001, [(1000, .cells [(li 0)])], (li 3), [], []⟩
theorem e151_run : e151.run tb0 100 = true := by kernel_rfl
noncomputable def e152 : Ent := ⟨42, [(li 0), (.slice 1000 0 2 2)], 1001, [(1000, .cells [(li 2), (li (-5))])], (li 2), [], []⟩
theorem e152_run : e152.run tb0 100 = true := by kernel_rfl
noncomputable def e153 : Ent := ⟨42, [(li 0), (.slice 1000 0 1 1)], 1001, [(1000, .cells [(li 2)])], (li 2), [], []⟩
theorem e153_run : e153.run tb0 100 = true := by kernel_rfl
noncomputable def e154 : Ent := ⟨42, [(li 0), (.slice 1000 0 2 2)], 1001, [(1000, .cells [(li (-1)), (li (-4))])], (li 0), [], []⟩
theorem e154_run : e154.run tb0 100 = true := by kernel_rfl
noncomputable def e155 : Ent := ⟨42, [(li 2), (.slice 1000 0 1 1)], 1001, [(1000, .cells [(li 0)])], (li 2), [], []⟩
theorem e155_run : e155.run tb0 100 = true := by kernel_rfl
noncomputable def e156 : Ent := ⟨42, [(li 1), (.slice 1000 0 1 1)], 1001, [(1000, .cells [(li 2)])], (li 2), [], []⟩
theorem e156_run : e156.run tb0 100 = true := by kernel_rfl
noncomputable def e157 : Ent := ⟨42, [(li 0), (.slice 1000 0 2 2)], 1001, [(1000, .cells [(li (-6)), (li 3)])], (li 3), [], []⟩
theorem e157_run : e157.run tb0 100 = true := by kernel_rfl
noncomputable def e158 : Ent := ⟨42, [(li 0), (.slice 1000 0 2 2)], 1001, [(1000, .cells [(li (-2)), (li 0)])], (li 0), [], []⟩
theorem e158_run : e158.run tb0 100 = true := by kernel_rfl
noncomputable def e159 : Ent := ⟨42, [(li 0), (.slice 1000 0 2 2)], 1001, [(1000, .cells [(li (-1)), (li (-2))])], (li 0), [], []⟩
theorem e159_run : e159.run tb0 100 = true := by kernel_rfl
noncomputable def e160 : Ent := ⟨42, [(li 0), (.slice 1000 0 2 2)], 1001, [(1000, .cells [(li (-5)), (li 2)])], (li 2), [], []⟩
theorem e160_run : e160.run tb0 100 = true := by kernel_rfl
noncomputable def e161 : Ent := ⟨42, [(li 0), (.slice 1000 0 2 2)], 1001, [(1000, .cells [(li (-4)), (li (-1))])], (li 0), [], []⟩
theorem e161_run : e161.run tb0 100 = true := by kernel_rfl
noncomputable def e162 : Ent := ⟨42, [(li 0), (.slice 1000 0 2 2)], 1001, [(1000, .cells [(li 0), (li (-2))])], (li 0), [], []⟩
theorem e162_run : e162.run tb0 100 = true := by kernel_rfl
noncomputable def e163 : Ent := ⟨42, [(li 0), (.slice 1000 0 2 2)], 1001, [(1000, .cells [(li (-2)), (li (-1))])], (li 0), [], []⟩
theorem e163_run : e163.run tb0 100 = true := by kernel_rfl
noncomputable def e164 : Ent := ⟨45, [(.func (.func 46) [(.agg [(li 6), (li 4), (li 3), (li 35), (li 51), (li 16), (li 0)])] [])], 1000, [], (.agg [(li 60), (li 28), (li 12), (li 47), (li 0)]), [], []⟩
theorem e164_run : e164.run tb0 100 = true := by kernel_rfl
noncomputable def e166 : Ent := ⟨42, [(li 0), (.slice 1000 0 2 2)], 1001, [(1000, .cells [(li 1), (li (-4))])], (li 1), [], []⟩
theorem e166_run : e166.run tb0 100 = true := by kernel_rfl
noncomputable def e167 : Ent := ⟨42, [(li 0), (.slice 1000 0 1 1)], 1001, [(1000, .cells [(li 1)])], (li 1), [], []⟩
theorem e167_run : e167.run tb0 100 = true := by kernel_rfl
noncomputable def e169 : Ent := ⟨14, [(.agg [(li 6), (li 4), (.slice 1004 0 4 4), (.slice 1005 0 3 3), (.slice 1000 0 3 3), (li 50)])], 1006, [(0, .cells [(li 1), (li 6), (li 1), (li 5), (li 1), (li 4), (li 0), (li 1000)]), (1, .cells [(li 1), (li 6), (li 1), (li 5), (li 0), (li 3)]), (1000, .cells [(.slice 1001 0 3 3), (.slice 1002 0 3 3), (.slice 1003 0 3 3)]), (1001, .cells [(li 0), (li 0), (li 6)]), (1002, .cells [(li 0), (li 0), (li 0)]), (1003, .cells [(li 6), (li 0), (li 0)]), (1004, .cells [(li 0), (li 32), (li 0), (li 0)]), (1005, .cells cl47)], (li 0), [], []⟩
theorem e169_run : e169.run tb0 100 = true := by kernel_rfl
noncomputable def e171 : Ent := ⟨42, [(li 1), (.slice 1000 0 1 1)], 1001, [(1000, .cells [(li 6)])], (li 6), [], []⟩
theorem e171_run : e171.run tb0 100 = true := by kernel_rfl
noncomputable def e172 : Ent := ⟨45, [(.func (.func 46) [(.agg [(li 6), (li 4), (li 7), (li 39), (li 0), (li 0), (li 0)])] [])], 1000, [], (.agg [(li 56), (li 24), (li 63), (li 63), (li 0)]), [], []⟩
theorem e172_run : e172.run tb0 100 = true := by kernel_rfl
noncomputable def e173 : Ent := ⟨42, [(li 0), (.slice 1000 0 2 2)], 1001, [(1000, .cells [(li (-2)), (li (-3))])], (li 0), [], []⟩
theorem e173_run : e173.run tb0 100 = true := by kernel_rfl
noncomputable def e174 : Ent := ⟨42, [(li 0), (.slice 1000 0 2 2)], 1001, [(1000, .cells [(li (-3)), (li 0)])], (li 0), [], []⟩
theorem e174_run : e174.run tb0 100 = true := by kernel_rfl
noncomputable def e175 : Ent := ⟨42, [(li 0), (.slice 1000 0 2 2)], 1001, [(1000, .cells [(li (-4)), (li 0)])], (li 0), [], []⟩
theorem e175_run : e175.run tb0 100 = true := by kernel_rfl
noncomputable def e176 : Ent := ⟨42, [(li 0), (.slice 1000 0 2 2)], 1001, [(1000, .cells [(li (-4)), (li 1)])], (li 1), [], []⟩
theorem e176_run : e176.run tb0 100 = true := by kernel_rfl
noncomputable def e177 : Ent := ⟨42, [(li 0), (.slice 1000 0 2 2)], 1001, [(1000, .cells [(li (-3)), (li (-2))])], (li 0), [], []⟩
theorem e177_run : e177.run tb0 100 = true := by kernel_rfl
noncomputable def e178 : Ent := ⟨42, [(li 0), (.slice 1000 0 2 2)], 1001, [(1000, .cells [(li (-2)), (li (-2))])], (li 0), [], []⟩
theorem e178_run : e178.run tb0 100 = true := by kernel_rfl
noncomputable def e179 : Ent := ⟨42, [(li 0), (.slice 1000 0 2 2)], 1001, [(1000, .cells [(li (-5)), (li 0)])], (li 0), [], []⟩
theorem e179_run : e179.run tb0 100 = true := by kernel_rfl
noncomputable def e180 : Ent := ⟨42, [(li 0), (.slice 1000 0 2 2)], 1001, [(1000, .cells [(li (-6)), (li 1)])], (li 1), [], []⟩
theorem e180_run : e180.run tb0 100 = true := by kernel_rfl
noncomputable def e181 : Ent := ⟨42, [(li 0), (.slice 1000 0 2 2)], 1001, [(1000, .cells [(li (-5)), (li 1)])], (li 1), [], []⟩
theorem e181_run : e181.run tb0 100 = true := by kernel_rfl
noncomputable def e182 : Ent := ⟨42, [(li 1), (.slice 1000 0 1 1)], 1001, [(1000, .cells [(li 1)])], (li 1), [], []⟩
theorem e182_run : e182.run tb0 100 = true := by kernel_rfl
noncomputable def e183 : Ent := ⟨42, [(li 0), (.slice 1000 0 2 2)], 1001, [(1000, .cells [(li (-6)), (li 2)])], (li 2), [], []⟩
theorem e183_run : e183.run tb0 100 = true := by kernel_rfl
noncomputable def e185 : Ent := ⟨45, [(.func (.func 46) [(.agg [(li 6), (li 4), (li 3), (li 35), (li 3), (li 0), (li 0)])] [])], 1000, [], (.agg [(li 60), (li 28), (li 60), (li 63), (li 0)]), [], []⟩
theorem e185_run : e185.run tb0 100 = true := by kernel_rfl
noncomputable def e187 : Ent := ⟨45, [(.func (.func 46) [(.agg [(li 6), (li 4), (li 0), (li 39), (li 7), (li 0), (li 0)])] [])], 1000, [], (.agg [(li 63), (li 24), (li 56), (li 63), (li 0)]), [], []⟩
theorem e187_run : e187.run tb0 100 = true := by kernel_rfl
noncomputable def e189 : Ent := ⟨45, [(.func (.func 46) [(.agg [(li 6), (li 4), (li 0), (li 35), (li 3), (li 3), (li 0)])] [])], 1000, [], (.agg [(li 63), (li 28), (li 60), (li 60), (li 0)]), [], []⟩
theorem e189_run : e189.run tb0 100 = true := by kernel_rfl
noncomputable def e190 : Ent := ⟨42, [(li 0), (.slice 1000 0 2 2)], 1001, [(1000, .cells [(li 0), (li (-4))])], (li 0), [], []⟩
theorem e190_run : e190.run tb0 100 = true := by kernel_rfl
noncomputable def e192 : Ent := ⟨45, [(.func (.func 46) [(.agg [(li 6), (li 4), (li 0), (li 32), (li 7), (li 7), (li 0)])] [])], 1000, [], (.agg [(li 63), (li 31), (li 56), (li 56), (li 0)]), [], []⟩
theorem e192_run : e192.run tb0 100 = true := by kernel_rfl
noncomputable def e194 : Ent := ⟨45, [(.func (.func 46) [(.agg [(li 6), (li 4), (li 14), (li 46), (li 0), (li 0), (li 0)])] [])], 1000, [], (.agg [(li 49), (li 17), (li 63), (li 63), (li 0)]), [], []⟩
theorem e194_run : e194.run tb0 100 = true := by kernel_rfl
noncomputable def e196 : Ent := ⟨45, [(.func (.func 46) [(.agg [(li 6), (li 4), (li 6), (li 38), (li 6), (li 0), (li 0)])] [])], 1000, [], (.agg [(li 57), (li 25), (li 57), (li 63), (li 0)]), [], []⟩
theorem e196_run : e196.run tb0 100 = true := by kernel_rfl
noncomputable def e198 : Ent := ⟨45, [(.func (.func 46) [(.agg [(li 6), (li 4), (li 0), (li 46), (li 14), (li 0), (li 0)])] [])], 1000, [], (.agg [(li 63), (li 17), (li 49), (li 63), (li 0)]), [], []⟩
theorem e198_run : e198.run tb0 100 = true := by kernel_rfl
noncomputable def e200 : Ent := ⟨45, [(.func (.func 46) [(.agg [(li 6), (li 4), (li 0), (li 38), (li 6), (li 6), (li 0)])] [])], 1000, [], (.agg [(li 63), (li 25), (li 57), (li 57), (li 0)]), [], []⟩
theorem e200_run : e200.run tb0 100 = true := by kernel_rfl
noncomputable def e202 : Ent := ⟨45, [(.func (.func 46) [(.agg [(li 6), (li 4), (li 0), (li 32), (li 14), (li 14), (li 0)])] [])], 1000, [], (.agg [(li 63), (li 31), (li 49), (li 49), (li 0)]), [], []⟩
theorem e202_run : e202.run tb0 100 = true := by kernel_rfl
noncomputable def e204 : Ent := ⟨45, [(.func (.func 46) [(.agg [(li 6), (li 4), (li 28), (li 60), (li 0), (li 0), (li 0)])] [])], 1000, [], (.agg [(li 35), (li 3), (li 63), (li 63), (li 0)]), [], []⟩
theorem e204_run : e204.run tb0 100 = true := by kernel_rfl
noncomputable def e205 : Ent := ⟨42, [(li 0), (.slice 1000 0 2 2)], 1001, [(1000, .cells [(li 0), (li (-5))])], (li 0), [], []⟩
theorem e205_run : e205.run tb0 100 = true := by kernel_rfl
noncomputable def e206 : Ent := ⟨42, [(li 0), (.slice 1000 0 2 2)], 1001, [(1000, .cells [(li 1), (li (-5))])], (li 1), [], []⟩
theorem e206_run : e206.run tb0 100 = true := by kernel_rfl
noncomputable def e208 : Ent := ⟨45, [(.func (.func 46) [(.agg [(li 6), (li 4), (li 12), (li 44), (li 12), (li 0), (li 0)])] [])], 1000, [], (.agg [(li 51), (li 19), (li 51), (li 63), (li 0)]), [], []⟩
theorem e208_run : e208.run tb0 100 = true := by kernel_rfl
noncomputable def e210 : Ent := ⟨45, [(.func (.func 46) [(.agg [(li 6), (li 4), (li 0), (li 60), (li 28), (li 0), (li 0)])] [])], 1000, [], (.agg [(li 63), (li 3), (li 35), (li 63), (li 0)]), [], []⟩
theorem e210_run : e210.run tb0 100 = true := by kernel_rfl
noncomputable def e212 : Ent := ⟨45, [(.func (.func 46) [(.agg [(li 6), (li 4), (li 0), (li 44), (li 12), (li 12), (li 0)])] [])], 1000, [], (.agg [(li 63), (li 19), (li 51), (li 51), (li 0)]), [], []⟩
theorem e212_run : e212.run tb0 100 = true := by kernel_rfl
noncomputable def e214 : Ent := ⟨45, [(.func (.func 46) [(.agg [(li 6), (li 4), (li 0), (li 32), (li 28), (li 28), (li 0)])] [])], 1000, [], (.agg [(li 63), (li 31), (li 35), (li 35), (li 0)]), [], []⟩
theorem e214_run : e214.run tb0 100 = true := by kernel_rfl
noncomputable def e216 : Ent := ⟨45, [(.func (.func 46) [(.agg [(li 6), (li 4), (li 24), (li 56), (li 24), (li 0), (li 0)])] [])], 1000, [], (.agg [(li 39), (li 7), (li 39), (li 63), (li 0)]), [], []⟩
theorem e216_run : e216.run tb0 100 = true := by kernel_rfl
noncomputable def e218 : Ent := ⟨45, [(.func (.func 46) [(.agg [(li 6), (li 4), (li 0), (li 56), (li 24), (li 24), (li 0)])] [])], 1000, [], (.agg [(li 63), (li 7), (li 39), (li 39), (li 0)]), [], []⟩
theorem e218_run : e218.run tb0 100 = true := by kernel_rfl
noncomputable def e220 : Ent := ⟨45, [(.func (.func 46) [(.agg [(li 6), (li 4), (li 0), (li 32), (li 56), (li 56), (li 0)])] [])], 1000, [], (.agg [(li 63), (li 31), (li 7), (li 7), (li 0)]), [], []⟩
theorem e220_run : e220.run tb0 100 = true := by kernel_rfl
noncomputable def e221 : Ent := ⟨42, [(li 0), (.slice 1000 0 2 2)], 1001, [(1000, .cells [(li 1), (li (-6))])], (li 1), [], []⟩
theorem e221_run : e221.run tb0 100 = true := by kernel_rfl
noncomputable def e222 : Ent := ⟨42, [(li 0), (.slice 1000 0 2 2)], 1001, [(1000, .cells [(li 2), (li (-6))])], (li 2), [], []⟩
theorem e222_run : e222.run tb0 100 = true := by kernel_rfl
noncomputable def e226 : Ent := ⟨14, [(.agg [(li 1), (li 1), (.slice 1000 0 1 1), (.slice 1003 0 1 1), (.slice 1001 0 1 1), (li 0)])], 1004, [(0, .cells [(li 1), (li 6), (li 1), (li 5), (li 1), (li 4), (li 0), (li 1000)]), (1, .cells [(li 1), (li 6), (li 1), (li 5), (li 0), (li 3)]), (1000, .cells [(li 1)]), (1001, .cells [(.slice 1002 0 1 1)]), (1002, .cells [(li 0)]), (1003, .cells [(li 1), (li 1), (li 0), (.bool (.lit false)), (.bool (.lit false))])], (li 0), [], []⟩
theorem e226_run : e226.run tb0 100 = true := by kernel_rfl
noncomputable def e228 : Ent := ⟨64, [(li 0), (.ptr 1000 0), (.ptr 1001 0), (.ptr 1002 0), (.ptr 1003 0), (.ptr 1007 0), (.ptr 1004 0)], 1014, [(1000, .cells [(.sliceX 1005 1 0 1)]), (1003, .cells [(.slice 1006 0 1 1)]), (1006, .cells [.nilslice])], (.tup []), [], []⟩
theorem e228_run : e228.run tb0 100 = true := by kernel_rfl
noncomputable def e229 : Ent := ⟨45, [(.func (.func 46) [(.agg [(li 6), (li 4), (li 49), (li 32), (li 7), (li 7), (li 0)])] [])], 1000, [], (.agg [(li 14), (li 31), (li 56), (li 56), (li 0)]), [], []⟩
theorem e229_run : e229.run tb0 100 = true := by kernel_rfl
noncomputable def e230 : Ent := ⟨64, [(li 1), (.ptr 1000 0), (.ptr 1001 0), (.ptr 1002 0), (.ptr 1003 0), (.ptr 1007 0), (.ptr 1004 0)], 1017, [(1000, .cells [(.sliceX 1005 1 0 1)]), (1001, .cells [(.slice 1013 0 1 1)]), (1002, .own [.nilslice] 71 false), (1013, .cells [(li 0), (li 0), (li 0), (.bool (.lit false)), (li 0), (li 0), (li 3), (li 2), (li 7), (li 7), (li 0), (li 0), (li 0)])], (.tup []), [(1018, .cells [(li 0), (li 0), (li 0), (.bool (.lit false)), (li 0), (li 0), (li 3), (li 2), (li 7), (li 7), (li 0), (li 0), (li 0)] 67 true)], [(1002, .cells [(.sliceX 1018 13 0 1)] 71 false)]⟩
theorem e230_run : e230.run tb0 100 = true := by kernel_rfl
noncomputable def e232 : Ent := ⟨45, [(.func (.func 46) [(.agg [(li 6), (li 4), (li 7), (li 39), (li 0), (li 1), (li 0)])] [])], 1000, [], (.agg [(li 56), (li 24), (li 63), (li 62), (li 0)]), [], []⟩
theorem e232_run : e232.run tb0 100 = true := by kernel_rfl
noncomputable def e233 : Ent := ⟨64, [(li 2), (.ptr 1000 0), (.ptr 1001 0), (.ptr 1002 0), (.ptr 1003 0), (.ptr 1007 0), (.ptr 1004 0)], 1018, [(1000, .cells [(.sliceX 1005 1 0 2)]), (1001, .cells [(.slice 1014 0 2 2)]), (1002, .own [.nilslice] 71 false), (1014, .cells cl46)], (.tup []), [(1019, .cells cl46 67 true)], [(1002, .cells [(.sliceX 1019 13 0 2)] 71 false)]⟩
theorem e233_run : e233.run tb0 100 = true := by kernel_rfl
noncomputable def e236 : Ent := ⟨45, [(.func (.func 46) [(.agg [(li 6), (li 4), (li 7), (li 39), (li 32), (li 32), (li 0)])] [])], 1000, [], (.agg [(li 56), (li 24), (li 31), (li 31), (li 0)]), [], []⟩
theorem e236_run : e236.run tb0 100 = true := by kernel_rfl
noncomputable def e237 : Ent := ⟨42, [(li 0), (.slice 1000 0 2 2)], 1001, [(1000, .cells [(li 4), (li (-6))])], (li 4), [], []⟩
theorem e237_run : e237.run tb0 100 = true := by kernel_rfl
noncomputable def e238 : Ent := ⟨42, [(li 0), (.slice 1000 0 1 1)], 1001, [(1000, .cells [(li 4)])], (li 4), [], []⟩
theorem e238_run : e238.run tb0 100 = true := by kernel_rfl
noncomputable def e239 : Ent := ⟨42, [(li 4), (.slice 1000 0 1 1)], 1001, [(1000, .cells [(li 0)])], (li 4), [], []⟩
theorem e239_run : e239.run tb0 100 = true := by kernel_rfl
noncomputable def e240 : Ent := ⟨45, [(.func (.func 46) [(.agg [(li 6), (li 4), (li 7), (li 39), (li 32), (li 33), (li 0)])] [])], 1000, [], (.agg [(li 56), (li 24), (li 31), (li 30), (li 0)]), [], []⟩
theorem e240_run : e240.run tb0 100 = true := by kernel_rfl
noncomputable def e241 : Ent := ⟨64, [(li 3), (.ptr 1000 0), (.ptr 1001 0), (.ptr 1002 0), (.ptr 1003 0), (.ptr 1007 0), (.ptr 1004 0)], 1019, [(1000, .cells [(.sliceX 1005 1 0 3)]), (1001, .cells [(.slice 1014 0 3 3)]), (1002, .own [.nilslice] 71 false), (1014, .cells cl32)], (.tup []), [(1020, .cells cl32 67 true)], [(1002, .cells [(.sliceX 1020 13 0 3)] 71 false)]⟩
theorem e241_run : e241.run tb0 100 = true := by kernel_rfl
noncomputable def e247 : Ent := ⟨45, [(.func (.func 46) [(.agg [(li 6), (li 4), (li 11), (li 35), (li 19), (li 16), (li 0)])] [])], 1000, [], (.agg [(li 52), (li 28), (li 44), (li 47), (li 0)]), [], []⟩
theorem e247_run : e247.run tb0 100 = true := by kernel_rfl
noncomputable def e248 : Ent := ⟨45, [(.func (.func 46) [(.agg [(li 6), (li 4), (li 3), (li 43), (li 19), (li 16), (li 0)])] [])], 1000, [], (.agg [(li 60), (li 20), (li 44), (li 47), (li 0)]), [], []⟩
theorem e248_run : e248.run tb0 100 = true := by kernel_rfl
noncomputable def e249 : Ent := ⟨45, [(.func (.func 46) [(.agg [(li 6), (li 4), (li 3), (li 35), (li 27), (li 16), (li 0)])] [])], 1000, [], (.agg [(li 60), (li 28), (li 36), (li 47), (li 0)]), [], []⟩
theorem e249_run : e249.run tb0 100 = true := by kernel_rfl
noncomputable def e250 : Ent := ⟨45, [(.func (.func 46) [(.agg [(li 6), (li 4), (li 3), (li 35), (li 19), (li 24), (li 0)])] [])], 1000, [], (.agg [(li 60), (li 28), (li 44), (li 39), (li 0)]), [], []⟩
theorem e250_run : e250.run tb0 100 = true := by kernel_rfl
noncomputable def e251 : Ent := ⟨42, [(li 0), (.slice 1000 0 2 2)], 1001, [(1000, .cells [(li (-1)), (li (-1))])], (li 0), [], []⟩
theorem e251_run : e251.run tb0 100 = true := by kernel_rfl
noncomputable def e252 : Ent := ⟨45, [(.func (.func 46) [(.agg [(li 6), (li 4), (li 19), (li 35), (li 19), (li 16), (li 0)])] [])], 1000, [], (.agg [(li 44), (li 28), (li 44), (li 47), (li 0)]), [], []⟩
theorem e252_run : e252.run tb0 100 = true := by kernel_rfl
noncomputable def e253 : Ent := ⟨45, [(.func (.func 46) [(.agg [(li 6), (li 4), (li 3), (li 51), (li 19), (li 16), (li 0)])] [])], 1000, [], (.agg [(li 60), (li 12), (li 44), (li 47), (li 0)]), [], []⟩
theorem e253_run : e253.run tb0 100 = true := by kernel_rfl
noncomputable def e254 : Ent := ⟨45, [(.func (.func 46) [(.agg [(li 6), (li 4), (li 35), (li 35), (li 19), (li 16), (li 0)])] [])], 1000, [], (.agg [(li 28), (li 28), (li 44), (li 47), (li 0)]), [], []⟩
theorem e254_run : e254.run tb0 100 = true := by kernel_rfl
noncomputable def e255 : Ent := ⟨45, [(.func (.func 46) [(.agg [(li 6), (li 4), (li 3), (li 35), (li 19), (li 48), (li 0)])] [])], 1000, [], (.agg [(li 60), (li 28), (li 44), (li 15), (li 0)]), [], []⟩
theorem e255_run : e255.run tb0 100 = true := by kernel_rfl
noncomputable def e259 : Ent := ⟨42, [(li 3), (.slice 1000 0 1 1)], 1001, [(1000, .cells [(li 6)])], (li 6), [], []⟩
theorem e259_run : e259.run tb0 100 = true := by kernel_rfl
noncomputable def e260 : Ent := ⟨42, [(li 6), (.slice 1000 0 1 1)], 1001, [(1000, .cells [(li 2)])], (li 6), [], []⟩
theorem e260_run : e260.run tb0 100 = true := by kernel_rfl
noncomputable def e261 : Ent := ⟨42, [(li 6), (.slice 1000 0 1 1)], 1001, [(1000, .cells [(li 1)])], (li 6), [], []⟩
theorem e261_run : e261.run tb0 100 = true := by kernel_rfl
noncomputable def e262 : Ent := ⟨42, [(li 6), (.slice 1000 0 1 1)], 1001, [(1000, .cells [(li 3)])], (li 6), [], []⟩
theorem e262_run : e262.run tb0 100 = true := by kernel_rfl
noncomputable def e263 : Ent := ⟨42, [(li 6), (.slice 1000 0 1 1)], 1001, [(1000, .cells [(li 4)])], (li 6), [], []⟩
theorem e263_run : e263.run tb0 100 = true := by kernel_rfl
noncomputable def e264 : Ent := ⟨42, [(li 6), (.slice 1000 0 1 1)], 1001, [(1000, .cells [(li 5)])], (li 6), [], []⟩
theorem e264_run : e264.run tb0 100 = true := by kernel_rfl
noncomputable def e265 : Ent := ⟨42, [(li 6), (.slice 1000 0 1 1)], 1001, [(1000, .cells [(li 6)])], (li 6), [], []⟩
theorem e265_run : e265.run tb0 100 = true := by kernel_rfl
noncomputable def e268 : Ent := ⟨42, [(li 2), (.slice 1000 0 1 1)], 1001, [(1000, .cells [(li 2)])], (li 2), [], []⟩
theorem e268_run : e268.run tb0 100 = true := by kernel_rfl
noncomputable def e269 : Ent := ⟨42, [(li 2), (.slice 1000 0 1 1)], 1001, [(1000, .cells [(li 1)])], (li 2), [], []⟩
theorem e269_run : e269.run tb0 100 = true := by kernel_rfl
noncomputable def e270 : Ent := ⟨42, [(li 2), (.slice 1000 0 1 1)], 1001, [(1000, .cells [(li 3)])], (li 3), [], []⟩
theorem e270_run : e270.run tb0 100 = true := by kernel_rfl
noncomputable def e271 : Ent := ⟨42, [(li 2), (.slice 1000 0 1 1)], 1001, [(1000, .cells [(li 4)])], (li 4), [], []⟩
theorem e271_run : e271.run tb0 100 = true := by kernel_rfl
noncomputable def e272 : Ent := ⟨42, [(li 2), (.slice 1000 0 1 1)], 1001, [(1000, .cells [(li 5)])], (li 5), [], []⟩
theorem e272_run : e272.run tb0 100 = true := by kernel_rfl
noncomputable def e273 : Ent := ⟨42, [(li 2), (.slice 1000 0 1 1)], 1001, [(1000, .cells [(li 6)])], (li 6), [], []⟩
theorem e273_run : e273.run tb0 100 = true := by kernel_rfl
noncomputable def e274 : Ent := ⟨45, [(.func (.func 46) [(.agg [(li 6), (li 4), (li 19), (li 51), (li 3), (li 0), (li 0)])] [])], 1000, [], (.agg [(li 44), (li 12), (li 60), (li 63), (li 0)]), [], []⟩
theorem e274_run : e274.run tb0 100 = true := by kernel_rfl
noncomputable def e275 : Ent := ⟨42, [(li 5), (.slice 1000 0 1 1)], 1001, [(1000, .cells [(li 1)])], (li 5), [], []⟩
theorem e275_run : e275.run tb0 100 = true := by kernel_rfl
noncomputable def e276 : Ent := ⟨42, [(li 5), (.slice 1000 0 1 1)], 1001, [(1000, .cells [(li 2)])], (li 5), [], []⟩
theorem e276_run : e276.run tb0 100 = true := by kernel_rfl
noncomputable def e277 : Ent := ⟨42, [(li 5), (.slice 1000 0 1 1)], 1001, [(1000, .cells [(li 3)])], (li 5), [], []⟩
theorem e277_run : e277.run tb0 100 = true := by kernel_rfl
noncomputable def e278 : Ent := ⟨42, [(li 5), (.slice 1000 0 1 1)], 1001, [(1000, .cells [(li 4)])], (li 5), [], []⟩
theorem e278_run : e278.run tb0 100 = true := by kernel_rfl
noncomputable def e279 : Ent := ⟨45, [(.func (.func 46) [(.agg [(li 6), (li 4), (li 27), (li 51), (li 3), (li 0), (li 0)])] [])], 1000, [], (.agg [(li 36), (li 12), (li 60), (li 63), (li 0)]), [], []⟩
theorem e279_run : e279.run tb0 100 = true := by kernel_rfl
noncomputable def e280 : Ent := ⟨64, [(li 3), (.ptr 1000 0), (.ptr 1001 0), (.ptr 1002 0), (.ptr 1003 0), (.ptr 1007 0), (.ptr 1004 0)], 1020, [(1000, .cells [(.sliceX 1005 1 0 3)]), (1001, .cells [(.slice 1014 0 3 3)]), (1002, .own [(.sliceX 1015 13 0 3)] 71 false), (1014, .cells cl44)], (.tup []), [(1021, .cells cl44 67 true)], [(1002, .cells [(.sliceX 1021 13 0 3)] 71 false)]⟩
theorem e280_run : e280.run tb0 100 = true := by kernel_rfl
noncomputable def e281 : Ent := ⟨42, [(li 5), (.slice 1000 0 1 1)], 1001, [(1000, .cells [(li 5)])], (li 5), [], []⟩
theorem e281_run : e281.run tb0 100 = true := by kernel_rfl
noncomputable def e282 : Ent := ⟨42, [(li 5), (.slice 1000 0 1 1)], 1001, [(1000, .cells [(li 6)])], (li 6), [], []⟩
theorem e282_run : e282.run tb0 100 = true := by kernel_rfl
noncomputable def e285 : Ent := ⟨42, [(li 3), (.slice 1000 0 1 1)], 1001, [(1000, .cells [(li 2)])], (li 3), [], []⟩
theorem e285_run : e285.run tb0 100 = true := by kernel_rfl
noncomputable def e286 : Ent := ⟨42, [(li 3), (.slice 1000 0 1 1)], 1001, [(1000, .cells [(li 1)])], (li 3), [], []⟩
theorem e286_run : e286.run tb0 100 = true := by kernel_rfl
noncomputable def e287 : Ent := ⟨42, [(li 3), (.slice 1000 0 1 1)], 1001, [(1000, .cells [(li 3)])], (li 3), [], []⟩
theorem e287_run : e287.run tb0 100 = true := by kernel_rfl
noncomputable def e288 : Ent := ⟨42, [(li 3), (.slice 1000 0 1 1)], 1001, [(1000, .cells [(li 4)])], (li 4), [], []⟩
theorem e288_run : e288.run tb0 100 = true := by kernel_rfl
end Go.Sx
