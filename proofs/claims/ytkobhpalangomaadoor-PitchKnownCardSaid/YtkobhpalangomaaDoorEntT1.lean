/- CALLS, MADE: what is called, what it reads, what it hands back. -/
import Derived.Test.YtkobhpalangomaaDoorEnt0
import Derived.Test.YtkobhpalangomaaDoorEntL1x0
import Derived.Test.YtkobhpalangomaaDoorEntL1x1
/-! CALLS, MADE: what is called, what it reads, what it hands back. -/
namespace Go.Sx
open Go.RowKit Go.Proofs
set_option maxRecDepth 100000
noncomputable def e289 : Ent := ⟨42, [(li 3), (.slice 1000 0 1 1)], 1001, [(1000, .cells [(li 5)])], (li 5), [], []⟩
theorem e289_run : e289.run tb0 100 = true := by kernel_rfl
noncomputable def e293 : Ent := ⟨42, [(li 4), (.slice 1000 0 1 1)], 1001, [(1000, .cells [(li 2)])], (li 4), [], []⟩
theorem e293_run : e293.run tb0 100 = true := by kernel_rfl
noncomputable def e294 : Ent := ⟨42, [(li 4), (.slice 1000 0 1 1)], 1001, [(1000, .cells [(li 1)])], (li 4), [], []⟩
theorem e294_run : e294.run tb0 100 = true := by kernel_rfl
noncomputable def e295 : Ent := ⟨42, [(li 4), (.slice 1000 0 1 1)], 1001, [(1000, .cells [(li 3)])], (li 4), [], []⟩
theorem e295_run : e295.run tb0 100 = true := by kernel_rfl
noncomputable def e296 : Ent := ⟨42, [(li 4), (.slice 1000 0 1 1)], 1001, [(1000, .cells [(li 4)])], (li 4), [], []⟩
theorem e296_run : e296.run tb0 100 = true := by kernel_rfl
noncomputable def e297 : Ent := ⟨42, [(li 4), (.slice 1000 0 1 1)], 1001, [(1000, .cells [(li 5)])], (li 5), [], []⟩
theorem e297_run : e297.run tb0 100 = true := by kernel_rfl
noncomputable def e298 : Ent := ⟨42, [(li 4), (.slice 1000 0 1 1)], 1001, [(1000, .cells [(li 6)])], (li 6), [], []⟩
theorem e298_run : e298.run tb0 100 = true := by kernel_rfl
noncomputable def e304 : Ent := ⟨42, [(li 0), (.slice 1000 0 1 1)], 1001, [(1000, .cells [(li 5)])], (li 5), [], []⟩
theorem e304_run : e304.run tb0 100 = true := by kernel_rfl
noncomputable def e312 : Ent := ⟨42, [(li 0), (.slice 1000 0 1 1)], 1001, [(1000, .cells [(li 6)])], (li 6), [], []⟩
theorem e312_run : e312.run tb0 100 = true := by kernel_rfl
end Go.Sx
/-! CALLS, MADE: what is called, what it reads, what it hands back. -/
namespace Go.Sx
open Go.RowKit Go.Proofs
set_option maxRecDepth 100000
theorem bk0 (k : Nat) : RunL tb0 100 k [e0] := ⟨(lAll_cons (p := Ent.run tb0 100) e0_run rfl)⟩
theorem bk2 (k : Nat) : RunL tb0 100 k [e2, e48, e130, e279] := ⟨(lAll_cons (p := Ent.run tb0 100) e2_run (lAll_cons (p := Ent.run tb0 100) e48_run (lAll_cons (p := Ent.run tb0 100) e130_run (lAll_cons (p := Ent.run tb0 100) e279_run rfl))))⟩
theorem bk4 (k : Nat) : RunL tb0 100 k [e4] := ⟨(lAll_cons (p := Ent.run tb0 100) e4_run rfl)⟩
theorem bk6 (k : Nat) : RunL tb0 100 k [e6, e10, e12, e14, e16, e22, e43, e80, e125, e169] := ⟨(lAll_cons (p := Ent.run tb0 100) e6_run (lAll_cons (p := Ent.run tb0 100) e10_run (lAll_cons (p := Ent.run tb0 100) e12_run (lAll_cons (p := Ent.run tb0 100) e14_run (lAll_cons (p := Ent.run tb0 100) e16_run (lAll_cons (p := Ent.run tb0 100) e22_run (lAll_cons (p := Ent.run tb0 100) e43_run (lAll_cons (p := Ent.run tb0 100) e80_run (lAll_cons (p := Ent.run tb0 100) e125_run (lAll_cons (p := Ent.run tb0 100) e169_run rfl))))))))))⟩
theorem bk8 (k : Nat) : RunL tb0 100 k [e8] := ⟨(lAll_cons (p := Ent.run tb0 100) e8_run rfl)⟩
theorem bk18 (k : Nat) : RunL tb0 100 k [e18, e86, e104] := ⟨(lAll_cons (p := Ent.run tb0 100) e18_run (lAll_cons (p := Ent.run tb0 100) e86_run (lAll_cons (p := Ent.run tb0 100) e104_run rfl)))⟩
theorem bk20 (k : Nat) : RunL tb0 100 k [e20, e196, e274] := ⟨(lAll_cons (p := Ent.run tb0 100) e20_run (lAll_cons (p := Ent.run tb0 100) e196_run (lAll_cons (p := Ent.run tb0 100) e274_run rfl)))⟩
theorem bk23 (k : Nat) : RunL tb0 100 k [e23, e70, e105] := ⟨(lAll_cons (p := Ent.run tb0 100) e23_run (lAll_cons (p := Ent.run tb0 100) e70_run (lAll_cons (p := Ent.run tb0 100) e105_run rfl)))⟩
theorem bk24 (k : Nat) : RunL tb0 100 k [e24, e106, e226] := ⟨(lAll_cons (p := Ent.run tb0 100) e24_run (lAll_cons (p := Ent.run tb0 100) e106_run (lAll_cons (p := Ent.run tb0 100) e226_run rfl)))⟩
theorem bk25 (k : Nat) : RunL tb0 100 k [e25, e71, e107] := ⟨(lAll_cons (p := Ent.run tb0 100) e25_run (lAll_cons (p := Ent.run tb0 100) e71_run (lAll_cons (p := Ent.run tb0 100) e107_run rfl)))⟩
theorem bk26 (k : Nat) : RunL tb0 100 k [e26, e108] := ⟨(lAll_cons (p := Ent.run tb0 100) e26_run (lAll_cons (p := Ent.run tb0 100) e108_run rfl))⟩
theorem bk27 (k : Nat) : RunL tb0 100 k [e27, e72, e109, e144, e146, e148, e150, e152, e154, e157, e158, e159, e160, e161, e162, e163, e166, e173, e174, e175, e176, e177, e178, e179, e180, e181, e183, e190, e205, e206, e221, e222, e237, e251] := ⟨(lAll_cons (p := Ent.run tb0 100) e27_run (lAll_cons (p := Ent.run tb0 100) e72_run (lAll_cons (p := Ent.run tb0 100) e109_run (lAll_cons (p := Ent.run tb0 100) e144_run (lAll_cons (p := Ent.run tb0 100) e146_run (lAll_cons (p := Ent.run tb0 100) e148_run (lAll_cons (p := Ent.run tb0 100) e150_run (lAll_cons (p := Ent.run tb0 100) e152_run (lAll_cons (p := Ent.run tb0 100) e154_run (lAll_cons (p := Ent.run tb0 100) e157_run (lAll_cons (p := Ent.run tb0 100) e158_run (lAll_cons (p := Ent.run tb0 100) e159_run (lAll_cons (p := Ent.run tb0 100) e160_run (lAll_cons (p := Ent.run tb0 100) e161_run (lAll_cons (p := Ent.run tb0 100) e162_run (lAll_cons (p := Ent.run tb0 100) e163_run (lAll_cons (p := Ent.run tb0 100) e166_run (lAll_cons (p := Ent.run tb0 100) e173_run (lAll_cons (p := Ent.run tb0 100) e174_run (lAll_cons (p := Ent.run tb0 100) e175_run (lAll_cons (p := Ent.run tb0 100) e176_run (lAll_cons (p := Ent.run tb0 100) e177_run (lAll_cons (p := Ent.run tb0 100) e178_run (lAll_cons (p := Ent.run tb0 100) e179_run (lAll_cons (p := Ent.run tb0 100) e180_run (lAll_cons (p := Ent.run tb0 100) e181_run (lAll_cons (p := Ent.run tb0 100) e183_run (lAll_cons (p := Ent.run tb0 100) e190_run (lAll_cons (p := Ent.run tb0 100) e205_run (lAll_cons (p := Ent.run tb0 100) e206_run (lAll_cons (p := Ent.run tb0 100) e221_run (lAll_cons (p := Ent.run tb0 100) e222_run (lAll_cons (p := Ent.run tb0 100) e237_run (lAll_cons (p := Ent.run tb0 100) e251_run rfl))))))))))))))))))))))))))))))))))⟩
theorem bk28 (k : Nat) : RunL tb0 100 k [e28, e110] := ⟨(lAll_cons (p := Ent.run tb0 100) e28_run (lAll_cons (p := Ent.run tb0 100) e110_run rfl))⟩
theorem bk29 (k : Nat) : RunL tb0 100 k [e29, e73] := ⟨(lAll_cons (p := Ent.run tb0 100) e29_run (lAll_cons (p := Ent.run tb0 100) e73_run rfl))⟩
theorem bk30 (k : Nat) : RunL tb0 100 k [e30, e212, e239, e293, e294, e295, e296, e297, e298] := ⟨(lAll_cons (p := Ent.run tb0 100) e30_run (lAll_cons (p := Ent.run tb0 100) e212_run (lAll_cons (p := Ent.run tb0 100) e239_run (lAll_cons (p := Ent.run tb0 100) e293_run (lAll_cons (p := Ent.run tb0 100) e294_run (lAll_cons (p := Ent.run tb0 100) e295_run (lAll_cons (p := Ent.run tb0 100) e296_run (lAll_cons (p := Ent.run tb0 100) e297_run (lAll_cons (p := Ent.run tb0 100) e298_run rfl)))))))))⟩
theorem bk31 (k : Nat) : RunL tb0 100 k [e31, e113] := ⟨(lAll_cons (p := Ent.run tb0 100) e31_run (lAll_cons (p := Ent.run tb0 100) e113_run rfl))⟩
theorem bk32 (k : Nat) : RunL tb0 100 k [e32, e114] := ⟨(lAll_cons (p := Ent.run tb0 100) e32_run (lAll_cons (p := Ent.run tb0 100) e114_run rfl))⟩
theorem bk33 (k : Nat) : RunL tb0 100 k [e33, e75, e115] := ⟨(lAll_cons (p := Ent.run tb0 100) e33_run (lAll_cons (p := Ent.run tb0 100) e75_run (lAll_cons (p := Ent.run tb0 100) e115_run rfl)))⟩
theorem bk34 (k : Nat) : RunL tb0 100 k [e34, e116] := ⟨(lAll_cons (p := Ent.run tb0 100) e34_run (lAll_cons (p := Ent.run tb0 100) e116_run rfl))⟩
theorem bk35 (k : Nat) : RunL tb0 100 k [e35, e76, e117] := ⟨(lAll_cons (p := Ent.run tb0 100) e35_run (lAll_cons (p := Ent.run tb0 100) e76_run (lAll_cons (p := Ent.run tb0 100) e117_run rfl)))⟩
theorem bk36 (k : Nat) : RunL tb0 100 k [e36, e118] := ⟨(lAll_cons (p := Ent.run tb0 100) e36_run (lAll_cons (p := Ent.run tb0 100) e118_run rfl))⟩
theorem bk37 (k : Nat) : RunL tb0 100 k [e37, e77] := ⟨(lAll_cons (p := Ent.run tb0 100) e37_run (lAll_cons (p := Ent.run tb0 100) e77_run rfl))⟩
theorem bk38 (k : Nat) : RunL tb0 100 k [e38] := ⟨(lAll_cons (p := Ent.run tb0 100) e38_run rfl)⟩
theorem bk39 (k : Nat) : RunL tb0 100 k [e39, e121] := ⟨(lAll_cons (p := Ent.run tb0 100) e39_run (lAll_cons (p := Ent.run tb0 100) e121_run rfl))⟩
theorem bk40 (k : Nat) : RunL tb0 100 k [e40, e122] := ⟨(lAll_cons (p := Ent.run tb0 100) e40_run (lAll_cons (p := Ent.run tb0 100) e122_run rfl))⟩
theorem bk41 (k : Nat) : RunL tb0 100 k [e41, e79, e123] := ⟨(lAll_cons (p := Ent.run tb0 100) e41_run (lAll_cons (p := Ent.run tb0 100) e79_run (lAll_cons (p := Ent.run tb0 100) e123_run rfl)))⟩
theorem bk42 (k : Nat) : RunL tb0 100 k [e42, e124] := ⟨(lAll_cons (p := Ent.run tb0 100) e42_run (lAll_cons (p := Ent.run tb0 100) e124_run rfl))⟩
theorem bk44 (k : Nat) : RunL tb0 100 k [e44, e126] := ⟨(lAll_cons (p := Ent.run tb0 100) e44_run (lAll_cons (p := Ent.run tb0 100) e126_run rfl))⟩
theorem bk45 (k : Nat) : RunL tb0 100 k [e45, e81] := ⟨(lAll_cons (p := Ent.run tb0 100) e45_run (lAll_cons (p := Ent.run tb0 100) e81_run rfl))⟩
theorem bk46 (k : Nat) : RunL tb0 100 k [e46] := ⟨(lAll_cons (p := Ent.run tb0 100) e46_run rfl)⟩
theorem bk47 (k : Nat) : RunL tb0 100 k [e47, e129] := ⟨(lAll_cons (p := Ent.run tb0 100) e47_run (lAll_cons (p := Ent.run tb0 100) e129_run rfl))⟩
theorem bk49 (k : Nat) : RunL tb0 100 k [e49, e83, e131] := ⟨(lAll_cons (p := Ent.run tb0 100) e49_run (lAll_cons (p := Ent.run tb0 100) e83_run (lAll_cons (p := Ent.run tb0 100) e131_run rfl)))⟩
theorem bk50 (k : Nat) : RunL tb0 100 k [e50, e132] := ⟨(lAll_cons (p := Ent.run tb0 100) e50_run (lAll_cons (p := Ent.run tb0 100) e132_run rfl))⟩
theorem bk51 (k : Nat) : RunL tb0 100 k [e51, e84, e133] := ⟨(lAll_cons (p := Ent.run tb0 100) e51_run (lAll_cons (p := Ent.run tb0 100) e84_run (lAll_cons (p := Ent.run tb0 100) e133_run rfl)))⟩
theorem bk52 (k : Nat) : RunL tb0 100 k [e52, e134, e145, e149, e153, e167, e238, e304, e312] := ⟨(lAll_cons (p := Ent.run tb0 100) e52_run (lAll_cons (p := Ent.run tb0 100) e134_run (lAll_cons (p := Ent.run tb0 100) e145_run (lAll_cons (p := Ent.run tb0 100) e149_run (lAll_cons (p := Ent.run tb0 100) e153_run (lAll_cons (p := Ent.run tb0 100) e167_run (lAll_cons (p := Ent.run tb0 100) e238_run (lAll_cons (p := Ent.run tb0 100) e304_run (lAll_cons (p := Ent.run tb0 100) e312_run rfl)))))))))⟩
theorem bk53 (k : Nat) : RunL tb0 100 k [e53, e85] := ⟨(lAll_cons (p := Ent.run tb0 100) e53_run (lAll_cons (p := Ent.run tb0 100) e85_run rfl))⟩
theorem bk54 (k : Nat) : RunL tb0 100 k [e54] := ⟨(lAll_cons (p := Ent.run tb0 100) e54_run rfl)⟩
theorem bk55 (k : Nat) : RunL tb0 100 k [e55, e137] := ⟨(lAll_cons (p := Ent.run tb0 100) e55_run (lAll_cons (p := Ent.run tb0 100) e137_run rfl))⟩
theorem bk56 (k : Nat) : RunL tb0 100 k [e56, e138] := ⟨(lAll_cons (p := Ent.run tb0 100) e56_run (lAll_cons (p := Ent.run tb0 100) e138_run rfl))⟩
theorem bk57 (k : Nat) : RunL tb0 100 k [e57, e87, e139] := ⟨(lAll_cons (p := Ent.run tb0 100) e57_run (lAll_cons (p := Ent.run tb0 100) e87_run (lAll_cons (p := Ent.run tb0 100) e139_run rfl)))⟩
theorem bk58 (k : Nat) : RunL tb0 100 k [e58, e140] := ⟨(lAll_cons (p := Ent.run tb0 100) e58_run (lAll_cons (p := Ent.run tb0 100) e140_run rfl))⟩
theorem bk59 (k : Nat) : RunL tb0 100 k [e59, e88, e141] := ⟨(lAll_cons (p := Ent.run tb0 100) e59_run (lAll_cons (p := Ent.run tb0 100) e88_run (lAll_cons (p := Ent.run tb0 100) e141_run rfl)))⟩
theorem bk60 (k : Nat) : RunL tb0 100 k [e60, e95, e142] := ⟨(lAll_cons (p := Ent.run tb0 100) e60_run (lAll_cons (p := Ent.run tb0 100) e95_run (lAll_cons (p := Ent.run tb0 100) e142_run rfl)))⟩
theorem bk61 (k : Nat) : RunL tb0 100 k [e61, e89] := ⟨(lAll_cons (p := Ent.run tb0 100) e61_run (lAll_cons (p := Ent.run tb0 100) e89_run rfl))⟩
theorem bk62 (k : Nat) : RunL tb0 100 k [e62, e97] := ⟨(lAll_cons (p := Ent.run tb0 100) e62_run (lAll_cons (p := Ent.run tb0 100) e97_run rfl))⟩
theorem bk63 (k : Nat) : RunL tb0 100 k [e63] := ⟨(lAll_cons (p := Ent.run tb0 100) e63_run rfl)⟩
theorem bk64 (k : Nat) : RunL tb0 100 k [e64, e208] := ⟨(lAll_cons (p := Ent.run tb0 100) e64_run (lAll_cons (p := Ent.run tb0 100) e208_run rfl))⟩
theorem bk65 (k : Nat) : RunL tb0 100 k [e65, e91] := ⟨(lAll_cons (p := Ent.run tb0 100) e65_run (lAll_cons (p := Ent.run tb0 100) e91_run rfl))⟩
theorem bk66 (k : Nat) : RunL tb0 100 k [e66] := ⟨(lAll_cons (p := Ent.run tb0 100) e66_run rfl)⟩
theorem bk67 (k : Nat) : RunL tb0 100 k [e67, e92] := ⟨(lAll_cons (p := Ent.run tb0 100) e67_run (lAll_cons (p := Ent.run tb0 100) e92_run rfl))⟩
theorem bk68 (k : Nat) : RunL tb0 100 k [e68, e103] := ⟨(lAll_cons (p := Ent.run tb0 100) e68_run (lAll_cons (p := Ent.run tb0 100) e103_run rfl))⟩
theorem bk69 (k : Nat) : RunL tb0 100 k [e69, e93] := ⟨(lAll_cons (p := Ent.run tb0 100) e69_run (lAll_cons (p := Ent.run tb0 100) e93_run rfl))⟩
theorem bk74 (k : Nat) : RunL tb0 100 k [e74, e253] := ⟨(lAll_cons (p := Ent.run tb0 100) e74_run (lAll_cons (p := Ent.run tb0 100) e253_run rfl))⟩
theorem bk78 (k : Nat) : RunL tb0 100 k [e78] := ⟨(lAll_cons (p := Ent.run tb0 100) e78_run rfl)⟩
theorem bk82 (k : Nat) : RunL tb0 100 k [e82, e96] := ⟨(lAll_cons (p := Ent.run tb0 100) e82_run (lAll_cons (p := Ent.run tb0 100) e96_run rfl))⟩
theorem bk90 (k : Nat) : RunL tb0 100 k [e90, e112] := ⟨(lAll_cons (p := Ent.run tb0 100) e90_run (lAll_cons (p := Ent.run tb0 100) e112_run rfl))⟩
theorem bk94 (k : Nat) : RunL tb0 100 k [e94, e120] := ⟨(lAll_cons (p := Ent.run tb0 100) e94_run (lAll_cons (p := Ent.run tb0 100) e120_run rfl))⟩
theorem bk98 (k : Nat) : RunL tb0 100 k [e98] := ⟨(lAll_cons (p := Ent.run tb0 100) e98_run rfl)⟩
theorem bk99 (k : Nat) : RunL tb0 100 k [e99] := ⟨(lAll_cons (p := Ent.run tb0 100) e99_run rfl)⟩
theorem bk100 (k : Nat) : RunL tb0 100 k [e100] := ⟨(lAll_cons (p := Ent.run tb0 100) e100_run rfl)⟩
theorem bk101 (k : Nat) : RunL tb0 100 k [e101] := ⟨(lAll_cons (p := Ent.run tb0 100) e101_run rfl)⟩
theorem bk102 (k : Nat) : RunL tb0 100 k [e102] := ⟨(lAll_cons (p := Ent.run tb0 100) e102_run rfl)⟩
theorem bk111 (k : Nat) : RunL tb0 100 k [e111] := ⟨(lAll_cons (p := Ent.run tb0 100) e111_run rfl)⟩
theorem bk119 (k : Nat) : RunL tb0 100 k [e119] := ⟨(lAll_cons (p := Ent.run tb0 100) e119_run rfl)⟩
theorem bk127 (k : Nat) : RunL tb0 100 k [e127] := ⟨(lAll_cons (p := Ent.run tb0 100) e127_run rfl)⟩
theorem bk128 (k : Nat) : RunL tb0 100 k [e128] := ⟨(lAll_cons (p := Ent.run tb0 100) e128_run rfl)⟩
theorem bk135 (k : Nat) : RunL tb0 100 k [e135] := ⟨(lAll_cons (p := Ent.run tb0 100) e135_run rfl)⟩
theorem bk136 (k : Nat) : RunL tb0 100 k [e136] := ⟨(lAll_cons (p := Ent.run tb0 100) e136_run rfl)⟩
theorem bk147 (k : Nat) : RunL tb0 100 k [e147, e156, e171, e182] := ⟨(lAll_cons (p := Ent.run tb0 100) e147_run (lAll_cons (p := Ent.run tb0 100) e156_run (lAll_cons (p := Ent.run tb0 100) e171_run (lAll_cons (p := Ent.run tb0 100) e182_run rfl))))⟩
theorem bk151 (k : Nat) : RunL tb0 100 k [e151, e259, e285, e286, e287, e288, e289] := ⟨(lAll_cons (p := Ent.run tb0 100) e151_run (lAll_cons (p := Ent.run tb0 100) e259_run (lAll_cons (p := Ent.run tb0 100) e285_run (lAll_cons (p := Ent.run tb0 100) e286_run (lAll_cons (p := Ent.run tb0 100) e287_run (lAll_cons (p := Ent.run tb0 100) e288_run (lAll_cons (p := Ent.run tb0 100) e289_run rfl)))))))⟩
theorem bk155 (k : Nat) : RunL tb0 100 k [e155, e268, e269, e270, e271, e272, e273] := ⟨(lAll_cons (p := Ent.run tb0 100) e155_run (lAll_cons (p := Ent.run tb0 100) e268_run (lAll_cons (p := Ent.run tb0 100) e269_run (lAll_cons (p := Ent.run tb0 100) e270_run (lAll_cons (p := Ent.run tb0 100) e271_run (lAll_cons (p := Ent.run tb0 100) e272_run (lAll_cons (p := Ent.run tb0 100) e273_run rfl)))))))⟩
theorem bk164 (k : Nat) : RunL tb0 100 k [e164] := ⟨(lAll_cons (p := Ent.run tb0 100) e164_run rfl)⟩
theorem bk172 (k : Nat) : RunL tb0 100 k [e172, e192, e236] := ⟨(lAll_cons (p := Ent.run tb0 100) e172_run (lAll_cons (p := Ent.run tb0 100) e192_run (lAll_cons (p := Ent.run tb0 100) e236_run rfl)))⟩
theorem bk185 (k : Nat) : RunL tb0 100 k [e185] := ⟨(lAll_cons (p := Ent.run tb0 100) e185_run rfl)⟩
theorem bk187 (k : Nat) : RunL tb0 100 k [e187] := ⟨(lAll_cons (p := Ent.run tb0 100) e187_run rfl)⟩
theorem bk189 (k : Nat) : RunL tb0 100 k [e189] := ⟨(lAll_cons (p := Ent.run tb0 100) e189_run rfl)⟩
theorem bk194 (k : Nat) : RunL tb0 100 k [e194] := ⟨(lAll_cons (p := Ent.run tb0 100) e194_run rfl)⟩
theorem bk198 (k : Nat) : RunL tb0 100 k [e198] := ⟨(lAll_cons (p := Ent.run tb0 100) e198_run rfl)⟩
theorem bk200 (k : Nat) : RunL tb0 100 k [e200] := ⟨(lAll_cons (p := Ent.run tb0 100) e200_run rfl)⟩
theorem bk202 (k : Nat) : RunL tb0 100 k [e202] := ⟨(lAll_cons (p := Ent.run tb0 100) e202_run rfl)⟩
theorem bk204 (k : Nat) : RunL tb0 100 k [e204, e233] := ⟨(lAll_cons (p := Ent.run tb0 100) e204_run (lAll_cons (p := Ent.run tb0 100) e233_run rfl))⟩
theorem bk210 (k : Nat) : RunL tb0 100 k [e210, e214] := ⟨(lAll_cons (p := Ent.run tb0 100) e210_run (lAll_cons (p := Ent.run tb0 100) e214_run rfl))⟩
theorem bk216 (k : Nat) : RunL tb0 100 k [e216] := ⟨(lAll_cons (p := Ent.run tb0 100) e216_run rfl)⟩
theorem bk218 (k : Nat) : RunL tb0 100 k [e218] := ⟨(lAll_cons (p := Ent.run tb0 100) e218_run rfl)⟩
theorem bk220 (k : Nat) : RunL tb0 100 k [e220] := ⟨(lAll_cons (p := Ent.run tb0 100) e220_run rfl)⟩
theorem bk228 (k : Nat) : RunL tb0 100 k [e228] := ⟨(lAll_cons (p := Ent.run tb0 100) e228_run rfl)⟩
theorem bk229 (k : Nat) : RunL tb0 100 k [e229] := ⟨(lAll_cons (p := Ent.run tb0 100) e229_run rfl)⟩
theorem bk230 (k : Nat) : RunL tb0 100 k [e230] := ⟨(lAll_cons (p := Ent.run tb0 100) e230_run rfl)⟩
theorem bk232 (k : Nat) : RunL tb0 100 k [e232, e240] := ⟨(lAll_cons (p := Ent.run tb0 100) e232_run (lAll_cons (p := Ent.run tb0 100) e240_run rfl))⟩
theorem bk241 (k : Nat) : RunL tb0 100 k [e241, e280] := ⟨(lAll_cons (p := Ent.run tb0 100) e241_run (lAll_cons (p := Ent.run tb0 100) e280_run rfl))⟩
theorem bk247 (k : Nat) : RunL tb0 100 k [e247, e249] := ⟨(lAll_cons (p := Ent.run tb0 100) e247_run (lAll_cons (p := Ent.run tb0 100) e249_run rfl))⟩
theorem bk248 (k : Nat) : RunL tb0 100 k [e248, e250] := ⟨(lAll_cons (p := Ent.run tb0 100) e248_run (lAll_cons (p := Ent.run tb0 100) e250_run rfl))⟩
theorem bk252 (k : Nat) : RunL tb0 100 k [e252] := ⟨(lAll_cons (p := Ent.run tb0 100) e252_run rfl)⟩
theorem bk254 (k : Nat) : RunL tb0 100 k [e254] := ⟨(lAll_cons (p := Ent.run tb0 100) e254_run rfl)⟩
theorem bk255 (k : Nat) : RunL tb0 100 k [e255] := ⟨(lAll_cons (p := Ent.run tb0 100) e255_run rfl)⟩
theorem bk260 (k : Nat) : RunL tb0 100 k [e260, e261, e262, e263, e264, e265] := ⟨(lAll_cons (p := Ent.run tb0 100) e260_run (lAll_cons (p := Ent.run tb0 100) e261_run (lAll_cons (p := Ent.run tb0 100) e262_run (lAll_cons (p := Ent.run tb0 100) e263_run (lAll_cons (p := Ent.run tb0 100) e264_run (lAll_cons (p := Ent.run tb0 100) e265_run rfl))))))⟩
theorem bk275 (k : Nat) : RunL tb0 100 k [e275, e276, e277, e278, e281, e282] := ⟨(lAll_cons (p := Ent.run tb0 100) e275_run (lAll_cons (p := Ent.run tb0 100) e276_run (lAll_cons (p := Ent.run tb0 100) e277_run (lAll_cons (p := Ent.run tb0 100) e278_run (lAll_cons (p := Ent.run tb0 100) e281_run (lAll_cons (p := Ent.run tb0 100) e282_run rfl))))))⟩
noncomputable def ents1 : PT (List Ent) := (.node none (.node none (.node none (.node none (.node (some [e60, e95, e142]) (.node none .nil (.node none (.node (some [e232, e240]) .nil .nil) .nil)) (.node (some [e23, e70, e105]) (.node (some [e33, e75, e115]) (.node (some [e53, e85]) .nil .nil) (.node (some [e40, e122]) .nil .nil)) (.node (some [e6, e10, e12, e14, e16, e22, e43, e80, e125, e169]) (.node (some [e90, e112]) .nil .nil) (.node (some [e50, e132]) .nil .nil)))) (.node none .nil (.node none .nil (.node none .nil (.node (some [e229]) .nil .nil))))) (.node none (.node (some [e0]) (.node (some [e255]) (.node (some [e185]) (.node (some [e194]) .nil .nil) (.node (some [e204, e233]) .nil .nil)) (.node (some [e164]) .nil .nil)) (.node (some [e74, e253]) (.node none (.node (some [e28, e110]) .nil .nil) .nil) (.node (some [e100]) (.node (some [e38]) .nil .nil) .nil))) (.node none (.node (some [e151, e259, e285, e286, e287, e288, e289]) (.node (some [e247, e249]) (.node (some [e127]) .nil .nil) (.node (some [e65, e91]) .nil .nil)) (.node none (.node (some [e55, e137]) .nil .nil) .nil)) (.node (some [e248, e250]) (.node (some [e216]) .nil .nil) .nil)))) (.node none (.node none (.node (some [e24, e106, e226]) (.node none (.node none .nil (.node (some [e228]) .nil .nil)) .nil) (.node (some [e34, e116]) (.node (some [e44, e126]) (.node (some [e99]) .nil .nil) (.node (some [e37, e77]) .nil .nil)) (.node (some [e54]) (.node (some [e27, e72, e109, e144, e146, e148, e150, e152, e154, e157, e158, e159, e160, e161, e162, e163, e166, e173, e174, e175, e176, e177, e178, e179, e180, e181, e183, e190, e205, e206, e221, e222, e237, e251]) .nil .nil) (.node (some [e82, e96]) .nil .nil)))) (.node none .nil (.node none (.node none .nil (.node (some [e147, e156, e171, e182]) .nil .nil)) .nil))) (.node (some [e49, e83, e131]) .nil (.node (some [e189]) (.node (some [e59, e88, e141]) (.node (some [e69, e93]) (.node (some [e56, e138]) .nil .nil) (.node (some [e111]) .nil .nil)) (.node (some [e128]) (.node (some [e66]) .nil .nil) (.node (some [e39, e121]) .nil .nil))) (.node none (.node (some [e8]) .nil .nil) (.node (some [e275, e276, e277, e278, e281, e282]) .nil .nil)))))) (.node (some [e155, e268, e269, e270, e271, e272, e273]) (.node none (.node none (.node (some [e35, e76, e117]) (.node (some [e198]) (.node (some [e187]) (.node (some [e172, e192, e236]) .nil .nil) .nil) (.node (some [e220]) (.node (some [e202]) .nil .nil) (.node (some [e210, e214]) .nil .nil))) (.node (some [e45, e81]) (.node (some [e18, e86, e104]) (.node (some [e42, e124]) .nil .nil) (.node (some [e62, e97]) .nil .nil)) (.node (some [e32, e114]) (.node (some [e52, e134, e145, e149, e153, e167, e238, e304, e312]) .nil .nil) (.node (some [e25, e71, e107]) .nil .nil)))) (.node none (.node none (.node (some [e218]) .nil .nil) .nil) .nil)) (.node none (.node none (.node none (.node none .nil (.node (some [e241, e280]) .nil .nil)) .nil) (.node (some [e102]) (.node (some [e30, e212, e239, e293, e294, e295, e296, e297, e298]) .nil .nil) .nil)) (.node none (.node (some [e119]) (.node (some [e47, e129]) (.node (some [e67, e92]) .nil .nil) (.node (some [e136]) .nil .nil)) (.node (some [e57, e87, e139]) .nil (.node (some [e64, e208]) .nil .nil))) .nil))) (.node none (.node (some [e63]) (.node (some [e46]) (.node none (.node none .nil (.node (some [e230]) .nil .nil)) .nil) (.node none (.node (some [e101]) (.node (some [e78]) .nil .nil) (.node (some [e26, e108]) .nil .nil)) (.node (some [e29, e73]) (.node (some [e98]) .nil .nil) (.node (some [e36, e118]) .nil .nil)))) (.node none (.node none .nil (.node none .nil (.node (some [e135]) .nil .nil))) (.node none (.node none .nil (.node (some [e200]) .nil .nil)) .nil))) (.node (some [e94, e120]) (.node none (.node (some [e20, e196, e274]) (.node (some [e254]) .nil .nil) (.node none (.node (some [e260, e261, e262, e263, e264, e265]) .nil .nil) .nil)) (.node (some [e252]) (.node (some [e4]) .nil .nil) .nil)) (.node none (.node (some [e2, e48, e130, e279]) (.node (some [e58, e140]) (.node (some [e31, e113]) .nil .nil) (.node (some [e51, e84, e133]) .nil .nil)) (.node (some [e68, e103]) (.node (some [e41, e79, e123]) .nil .nil) (.node (some [e61, e89]) .nil .nil))) .nil)))))
theorem ents1_run : ents1.Every (RunL tb0 100) := ⟨ev0, ⟨ev0, ⟨ev0, ⟨ev0, ⟨ev1 (bk60 _), ⟨ev0, trivial, ⟨ev0, ⟨ev1 (bk232 _), trivial, trivial⟩, trivial⟩⟩, ⟨ev1 (bk23 _), ⟨ev1 (bk33 _), ⟨ev1 (bk53 _), trivial, trivial⟩, ⟨ev1 (bk40 _), trivial, trivial⟩⟩, ⟨ev1 (bk6 _), ⟨ev1 (bk90 _), trivial, trivial⟩, ⟨ev1 (bk50 _), trivial, trivial⟩⟩⟩⟩, ⟨ev0, trivial, ⟨ev0, trivial, ⟨ev0, trivial, ⟨ev1 (bk229 _), trivial, trivial⟩⟩⟩⟩⟩, ⟨ev0, ⟨ev1 (bk0 _), ⟨ev1 (bk255 _), ⟨ev1 (bk185 _), ⟨ev1 (bk194 _), trivial, trivial⟩, ⟨ev1 (bk204 _), trivial, trivial⟩⟩, ⟨ev1 (bk164 _), trivial, trivial⟩⟩, ⟨ev1 (bk74 _), ⟨ev0, ⟨ev1 (bk28 _), trivial, trivial⟩, trivial⟩, ⟨ev1 (bk100 _), ⟨ev1 (bk38 _), trivial, trivial⟩, trivial⟩⟩⟩, ⟨ev0, ⟨ev1 (bk151 _), ⟨ev1 (bk247 _), ⟨ev1 (bk127 _), trivial, trivial⟩, ⟨ev1 (bk65 _), trivial, trivial⟩⟩, ⟨ev0, ⟨ev1 (bk55 _), trivial, trivial⟩, trivial⟩⟩, ⟨ev1 (bk248 _), ⟨ev1 (bk216 _), trivial, trivial⟩, trivial⟩⟩⟩⟩, ⟨ev0, ⟨ev0, ⟨ev1 (bk24 _), ⟨ev0, ⟨ev0, trivial, ⟨ev1 (bk228 _), trivial, trivial⟩⟩, trivial⟩, ⟨ev1 (bk34 _), ⟨ev1 (bk44 _), ⟨ev1 (bk99 _), trivial, trivial⟩, ⟨ev1 (bk37 _), trivial, trivial⟩⟩, ⟨ev1 (bk54 _), ⟨ev1 (bk27 _), trivial, trivial⟩, ⟨ev1 (bk82 _), trivial, trivial⟩⟩⟩⟩, ⟨ev0, trivial, ⟨ev0, ⟨ev0, trivial, ⟨ev1 (bk147 _), trivial, trivial⟩⟩, trivial⟩⟩⟩, ⟨ev1 (bk49 _), trivial, ⟨ev1 (bk189 _), ⟨ev1 (bk59 _), ⟨ev1 (bk69 _), ⟨ev1 (bk56 _), trivial, trivial⟩, ⟨ev1 (bk111 _), trivial, trivial⟩⟩, ⟨ev1 (bk128 _), ⟨ev1 (bk66 _), trivial, trivial⟩, ⟨ev1 (bk39 _), trivial, trivial⟩⟩⟩, ⟨ev0, ⟨ev1 (bk8 _), trivial, trivial⟩, ⟨ev1 (bk275 _), trivial, trivial⟩⟩⟩⟩⟩⟩, ⟨ev1 (bk155 _), ⟨ev0, ⟨ev0, ⟨ev1 (bk35 _), ⟨ev1 (bk198 _), ⟨ev1 (bk187 _), ⟨ev1 (bk172 _), trivial, trivial⟩, trivial⟩, ⟨ev1 (bk220 _), ⟨ev1 (bk202 _), trivial, trivial⟩, ⟨ev1 (bk210 _), trivial, trivial⟩⟩⟩, ⟨ev1 (bk45 _), ⟨ev1 (bk18 _), ⟨ev1 (bk42 _), trivial, trivial⟩, ⟨ev1 (bk62 _), trivial, trivial⟩⟩, ⟨ev1 (bk32 _), ⟨ev1 (bk52 _), trivial, trivial⟩, ⟨ev1 (bk25 _), trivial, trivial⟩⟩⟩⟩, ⟨ev0, ⟨ev0, ⟨ev1 (bk218 _), trivial, trivial⟩, trivial⟩, trivial⟩⟩, ⟨ev0, ⟨ev0, ⟨ev0, ⟨ev0, trivial, ⟨ev1 (bk241 _), trivial, trivial⟩⟩, trivial⟩, ⟨ev1 (bk102 _), ⟨ev1 (bk30 _), trivial, trivial⟩, trivial⟩⟩, ⟨ev0, ⟨ev1 (bk119 _), ⟨ev1 (bk47 _), ⟨ev1 (bk67 _), trivial, trivial⟩, ⟨ev1 (bk136 _), trivial, trivial⟩⟩, ⟨ev1 (bk57 _), trivial, ⟨ev1 (bk64 _), trivial, trivial⟩⟩⟩, trivial⟩⟩⟩, ⟨ev0, ⟨ev1 (bk63 _), ⟨ev1 (bk46 _), ⟨ev0, ⟨ev0, trivial, ⟨ev1 (bk230 _), trivial, trivial⟩⟩, trivial⟩, ⟨ev0, ⟨ev1 (bk101 _), ⟨ev1 (bk78 _), trivial, trivial⟩, ⟨ev1 (bk26 _), trivial, trivial⟩⟩, ⟨ev1 (bk29 _), ⟨ev1 (bk98 _), trivial, trivial⟩, ⟨ev1 (bk36 _), trivial, trivial⟩⟩⟩⟩, ⟨ev0, ⟨ev0, trivial, ⟨ev0, trivial, ⟨ev1 (bk135 _), trivial, trivial⟩⟩⟩, ⟨ev0, ⟨ev0, trivial, ⟨ev1 (bk200 _), trivial, trivial⟩⟩, trivial⟩⟩⟩, ⟨ev1 (bk94 _), ⟨ev0, ⟨ev1 (bk20 _), ⟨ev1 (bk254 _), trivial, trivial⟩, ⟨ev0, ⟨ev1 (bk260 _), trivial, trivial⟩, trivial⟩⟩, ⟨ev1 (bk252 _), ⟨ev1 (bk4 _), trivial, trivial⟩, trivial⟩⟩, ⟨ev0, ⟨ev1 (bk2 _), ⟨ev1 (bk58 _), ⟨ev1 (bk31 _), trivial, trivial⟩, ⟨ev1 (bk51 _), trivial, trivial⟩⟩, ⟨ev1 (bk68 _), ⟨ev1 (bk41 _), trivial, trivial⟩, ⟨ev1 (bk61 _), trivial, trivial⟩⟩⟩, trivial⟩⟩⟩⟩⟩
noncomputable def orc1 (f : FuncId) (args : List AV) (h : Heap) : Option (T (AV × Heap)) := entPT 256 ents1 f args h
theorem orc1_ok : ∀ f args h t, orc1 f args h = some t → CallOk pT f args h t := fun _ _ _ _ e => entPT_ok tabs0 ents1_run e
noncomputable def tb1 : Tabs := ⟨Sx.Tryd.ft.get, lFind Sx.Tryd.rt, 2000, orc1⟩
theorem tabs1 : TabOk pT Sx.Tryd.tt.get tb1 := Tryd.tab orc1 orc1_ok 2000
end Go.Sx
