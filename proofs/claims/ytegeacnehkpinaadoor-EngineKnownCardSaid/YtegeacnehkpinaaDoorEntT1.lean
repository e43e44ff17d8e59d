/- CALLS, MADE: what is called, what it reads, what it hands back. -/
import Derived.Test.YtegeacnehkpinaaDoorEntL1x0
import Derived.Test.YtegeacnehkpinaaDoorEntL1x1
/-! CALLS, MADE: what is called, what it reads, what it hands back. -/
namespace Go.Sx
open Go.RowKit Go.Proofs
set_option maxRecDepth 100000
theorem bk0 (k : Nat) : RunL tb0 100 k [e0] := ⟨(lAll_cons (p := Ent.run tb0 100) e0_run rfl)⟩
theorem bk1 (k : Nat) : RunL tb0 100 k [e1, e96, e98, e100, e106, e124, e125, e152] := ⟨(lAll_cons (p := Ent.run tb0 100) e1_run (lAll_cons (p := Ent.run tb0 100) e96_run (lAll_cons (p := Ent.run tb0 100) e98_run (lAll_cons (p := Ent.run tb0 100) e100_run (lAll_cons (p := Ent.run tb0 100) e106_run (lAll_cons (p := Ent.run tb0 100) e124_run (lAll_cons (p := Ent.run tb0 100) e125_run (lAll_cons (p := Ent.run tb0 100) e152_run rfl))))))))⟩
theorem bk2 (k : Nat) : RunL tb0 100 k [e2] := ⟨(lAll_cons (p := Ent.run tb0 100) e2_run rfl)⟩
theorem bk3 (k : Nat) : RunL tb0 100 k [e3, e23] := ⟨(lAll_cons (p := Ent.run tb0 100) e3_run (lAll_cons (p := Ent.run tb0 100) e23_run rfl))⟩
theorem bk4 (k : Nat) : RunL tb0 100 k [e4] := ⟨(lAll_cons (p := Ent.run tb0 100) e4_run rfl)⟩
theorem bk5 (k : Nat) : RunL tb0 100 k [e5] := ⟨(lAll_cons (p := Ent.run tb0 100) e5_run rfl)⟩
theorem bk6 (k : Nat) : RunL tb0 100 k [e6, e15] := ⟨(lAll_cons (p := Ent.run tb0 100) e6_run (lAll_cons (p := Ent.run tb0 100) e15_run rfl))⟩
theorem bk7 (k : Nat) : RunL tb0 100 k [e7] := ⟨(lAll_cons (p := Ent.run tb0 100) e7_run rfl)⟩
theorem bk8 (k : Nat) : RunL tb0 100 k [e8] := ⟨(lAll_cons (p := Ent.run tb0 100) e8_run rfl)⟩
theorem bk9 (k : Nat) : RunL tb0 100 k [e9] := ⟨(lAll_cons (p := Ent.run tb0 100) e9_run rfl)⟩
theorem bk10 (k : Nat) : RunL tb0 100 k [e10] := ⟨(lAll_cons (p := Ent.run tb0 100) e10_run rfl)⟩
theorem bk11 (k : Nat) : RunL tb0 100 k [e11, e155] := ⟨(lAll_cons (p := Ent.run tb0 100) e11_run (lAll_cons (p := Ent.run tb0 100) e155_run rfl))⟩
theorem bk12 (k : Nat) : RunL tb0 100 k [e12] := ⟨(lAll_cons (p := Ent.run tb0 100) e12_run rfl)⟩
theorem bk13 (k : Nat) : RunL tb0 100 k [e13, e22] := ⟨(lAll_cons (p := Ent.run tb0 100) e13_run (lAll_cons (p := Ent.run tb0 100) e22_run rfl))⟩
theorem bk14 (k : Nat) : RunL tb0 100 k [e14] := ⟨(lAll_cons (p := Ent.run tb0 100) e14_run rfl)⟩
theorem bk16 (k : Nat) : RunL tb0 100 k [e16, e120] := ⟨(lAll_cons (p := Ent.run tb0 100) e16_run (lAll_cons (p := Ent.run tb0 100) e120_run rfl))⟩
theorem bk17 (k : Nat) : RunL tb0 100 k [e17] := ⟨(lAll_cons (p := Ent.run tb0 100) e17_run rfl)⟩
theorem bk18 (k : Nat) : RunL tb0 100 k [e18] := ⟨(lAll_cons (p := Ent.run tb0 100) e18_run rfl)⟩
theorem bk19 (k : Nat) : RunL tb0 100 k [e19, e78] := ⟨(lAll_cons (p := Ent.run tb0 100) e19_run (lAll_cons (p := Ent.run tb0 100) e78_run rfl))⟩
theorem bk20 (k : Nat) : RunL tb0 100 k [e20] := ⟨(lAll_cons (p := Ent.run tb0 100) e20_run rfl)⟩
theorem bk21 (k : Nat) : RunL tb0 100 k [e21] := ⟨(lAll_cons (p := Ent.run tb0 100) e21_run rfl)⟩
theorem bk24 (k : Nat) : RunL tb0 100 k [e24] := ⟨(lAll_cons (p := Ent.run tb0 100) e24_run rfl)⟩
theorem bk25 (k : Nat) : RunL tb0 100 k [e25] := ⟨(lAll_cons (p := Ent.run tb0 100) e25_run rfl)⟩
theorem bk26 (k : Nat) : RunL tb0 100 k [e26, e126] := ⟨(lAll_cons (p := Ent.run tb0 100) e26_run (lAll_cons (p := Ent.run tb0 100) e126_run rfl))⟩
theorem bk27 (k : Nat) : RunL tb0 100 k [e27] := ⟨(lAll_cons (p := Ent.run tb0 100) e27_run rfl)⟩
theorem bk28 (k : Nat) : RunL tb0 100 k [e28] := ⟨(lAll_cons (p := Ent.run tb0 100) e28_run rfl)⟩
theorem bk29 (k : Nat) : RunL tb0 100 k [e29] := ⟨(lAll_cons (p := Ent.run tb0 100) e29_run rfl)⟩
theorem bk30 (k : Nat) : RunL tb0 100 k [e30, e85, e101] := ⟨(lAll_cons (p := Ent.run tb0 100) e30_run (lAll_cons (p := Ent.run tb0 100) e85_run (lAll_cons (p := Ent.run tb0 100) e101_run rfl)))⟩
theorem bk31 (k : Nat) : RunL tb0 100 k [e31, e48] := ⟨(lAll_cons (p := Ent.run tb0 100) e31_run (lAll_cons (p := Ent.run tb0 100) e48_run rfl))⟩
theorem bk32 (k : Nat) : RunL tb0 100 k [e32] := ⟨(lAll_cons (p := Ent.run tb0 100) e32_run rfl)⟩
theorem bk33 (k : Nat) : RunL tb0 100 k [e33] := ⟨(lAll_cons (p := Ent.run tb0 100) e33_run rfl)⟩
theorem bk34 (k : Nat) : RunL tb0 100 k [e34] := ⟨(lAll_cons (p := Ent.run tb0 100) e34_run rfl)⟩
theorem bk35 (k : Nat) : RunL tb0 100 k [e35] := ⟨(lAll_cons (p := Ent.run tb0 100) e35_run rfl)⟩
theorem bk36 (k : Nat) : RunL tb0 100 k [e36] := ⟨(lAll_cons (p := Ent.run tb0 100) e36_run rfl)⟩
theorem bk37 (k : Nat) : RunL tb0 100 k [e37] := ⟨(lAll_cons (p := Ent.run tb0 100) e37_run rfl)⟩
theorem bk38 (k : Nat) : RunL tb0 100 k [e38] := ⟨(lAll_cons (p := Ent.run tb0 100) e38_run rfl)⟩
theorem bk39 (k : Nat) : RunL tb0 100 k [e39] := ⟨(lAll_cons (p := Ent.run tb0 100) e39_run rfl)⟩
theorem bk40 (k : Nat) : RunL tb0 100 k [e40] := ⟨(lAll_cons (p := Ent.run tb0 100) e40_run rfl)⟩
theorem bk41 (k : Nat) : RunL tb0 100 k [e41] := ⟨(lAll_cons (p := Ent.run tb0 100) e41_run rfl)⟩
theorem bk42 (k : Nat) : RunL tb0 100 k [e42] := ⟨(lAll_cons (p := Ent.run tb0 100) e42_run rfl)⟩
theorem bk43 (k : Nat) : RunL tb0 100 k [e43] := ⟨(lAll_cons (p := Ent.run tb0 100) e43_run rfl)⟩
theorem bk44 (k : Nat) : RunL tb0 100 k [e44, e68] := ⟨(lAll_cons (p := Ent.run tb0 100) e44_run (lAll_cons (p := Ent.run tb0 100) e68_run rfl))⟩
theorem bk45 (k : Nat) : RunL tb0 100 k [e45] := ⟨(lAll_cons (p := Ent.run tb0 100) e45_run rfl)⟩
theorem bk46 (k : Nat) : RunL tb0 100 k [e46] := ⟨(lAll_cons (p := Ent.run tb0 100) e46_run rfl)⟩
theorem bk47 (k : Nat) : RunL tb0 100 k [e47] := ⟨(lAll_cons (p := Ent.run tb0 100) e47_run rfl)⟩
theorem bk49 (k : Nat) : RunL tb0 100 k [e49] := ⟨(lAll_cons (p := Ent.run tb0 100) e49_run rfl)⟩
theorem bk50 (k : Nat) : RunL tb0 100 k [e50] := ⟨(lAll_cons (p := Ent.run tb0 100) e50_run rfl)⟩
theorem bk51 (k : Nat) : RunL tb0 100 k [e51] := ⟨(lAll_cons (p := Ent.run tb0 100) e51_run rfl)⟩
theorem bk52 (k : Nat) : RunL tb0 100 k [e52] := ⟨(lAll_cons (p := Ent.run tb0 100) e52_run rfl)⟩
theorem bk53 (k : Nat) : RunL tb0 100 k [e53] := ⟨(lAll_cons (p := Ent.run tb0 100) e53_run rfl)⟩
theorem bk54 (k : Nat) : RunL tb0 100 k [e54] := ⟨(lAll_cons (p := Ent.run tb0 100) e54_run rfl)⟩
theorem bk55 (k : Nat) : RunL tb0 100 k [e55] := ⟨(lAll_cons (p := Ent.run tb0 100) e55_run rfl)⟩
theorem bk56 (k : Nat) : RunL tb0 100 k [e56] := ⟨(lAll_cons (p := Ent.run tb0 100) e56_run rfl)⟩
theorem bk57 (k : Nat) : RunL tb0 100 k [e57] := ⟨(lAll_cons (p := Ent.run tb0 100) e57_run rfl)⟩
theorem bk58 (k : Nat) : RunL tb0 100 k [e58] := ⟨(lAll_cons (p := Ent.run tb0 100) e58_run rfl)⟩
theorem bk59 (k : Nat) : RunL tb0 100 k [e59] := ⟨(lAll_cons (p := Ent.run tb0 100) e59_run rfl)⟩
theorem bk60 (k : Nat) : RunL tb0 100 k [e60] := ⟨(lAll_cons (p := Ent.run tb0 100) e60_run rfl)⟩
theorem bk61 (k : Nat) : RunL tb0 100 k [e61] := ⟨(lAll_cons (p := Ent.run tb0 100) e61_run rfl)⟩
theorem bk62 (k : Nat) : RunL tb0 100 k [e62] := ⟨(lAll_cons (p := Ent.run tb0 100) e62_run rfl)⟩
theorem bk63 (k : Nat) : RunL tb0 100 k [e63] := ⟨(lAll_cons (p := Ent.run tb0 100) e63_run rfl)⟩
theorem bk64 (k : Nat) : RunL tb0 100 k [e64] := ⟨(lAll_cons (p := Ent.run tb0 100) e64_run rfl)⟩
theorem bk65 (k : Nat) : RunL tb0 100 k [e65] := ⟨(lAll_cons (p := Ent.run tb0 100) e65_run rfl)⟩
theorem bk66 (k : Nat) : RunL tb0 100 k [e66] := ⟨(lAll_cons (p := Ent.run tb0 100) e66_run rfl)⟩
theorem bk67 (k : Nat) : RunL tb0 100 k [e67] := ⟨(lAll_cons (p := Ent.run tb0 100) e67_run rfl)⟩
theorem bk69 (k : Nat) : RunL tb0 100 k [e69] := ⟨(lAll_cons (p := Ent.run tb0 100) e69_run rfl)⟩
theorem bk70 (k : Nat) : RunL tb0 100 k [e70] := ⟨(lAll_cons (p := Ent.run tb0 100) e70_run rfl)⟩
theorem bk71 (k : Nat) : RunL tb0 100 k [e71] := ⟨(lAll_cons (p := Ent.run tb0 100) e71_run rfl)⟩
theorem bk72 (k : Nat) : RunL tb0 100 k [e72] := ⟨(lAll_cons (p := Ent.run tb0 100) e72_run rfl)⟩
theorem bk73 (k : Nat) : RunL tb0 100 k [e73] := ⟨(lAll_cons (p := Ent.run tb0 100) e73_run rfl)⟩
theorem bk74 (k : Nat) : RunL tb0 100 k [e74] := ⟨(lAll_cons (p := Ent.run tb0 100) e74_run rfl)⟩
theorem bk75 (k : Nat) : RunL tb0 100 k [e75] := ⟨(lAll_cons (p := Ent.run tb0 100) e75_run rfl)⟩
theorem bk76 (k : Nat) : RunL tb0 100 k [e76] := ⟨(lAll_cons (p := Ent.run tb0 100) e76_run rfl)⟩
theorem bk77 (k : Nat) : RunL tb0 100 k [e77] := ⟨(lAll_cons (p := Ent.run tb0 100) e77_run rfl)⟩
theorem bk79 (k : Nat) : RunL tb0 100 k [e79] := ⟨(lAll_cons (p := Ent.run tb0 100) e79_run rfl)⟩
theorem bk80 (k : Nat) : RunL tb0 100 k [e80] := ⟨(lAll_cons (p := Ent.run tb0 100) e80_run rfl)⟩
theorem bk81 (k : Nat) : RunL tb0 100 k [e81] := ⟨(lAll_cons (p := Ent.run tb0 100) e81_run rfl)⟩
theorem bk82 (k : Nat) : RunL tb0 100 k [e82, e167] := ⟨(lAll_cons (p := Ent.run tb0 100) e82_run (lAll_cons (p := Ent.run tb0 100) e167_run rfl))⟩
theorem bk83 (k : Nat) : RunL tb0 100 k [e83] := ⟨(lAll_cons (p := Ent.run tb0 100) e83_run rfl)⟩
theorem bk84 (k : Nat) : RunL tb0 100 k [e84, e102, e165] := ⟨(lAll_cons (p := Ent.run tb0 100) e84_run (lAll_cons (p := Ent.run tb0 100) e102_run (lAll_cons (p := Ent.run tb0 100) e165_run rfl)))⟩
theorem bk86 (k : Nat) : RunL tb0 100 k [e86, e92] := ⟨(lAll_cons (p := Ent.run tb0 100) e86_run (lAll_cons (p := Ent.run tb0 100) e92_run rfl))⟩
theorem bk87 (k : Nat) : RunL tb0 100 k [e87] := ⟨(lAll_cons (p := Ent.run tb0 100) e87_run rfl)⟩
theorem bk88 (k : Nat) : RunL tb0 100 k [e88] := ⟨(lAll_cons (p := Ent.run tb0 100) e88_run rfl)⟩
theorem bk89 (k : Nat) : RunL tb0 100 k [e89] := ⟨(lAll_cons (p := Ent.run tb0 100) e89_run rfl)⟩
theorem bk90 (k : Nat) : RunL tb0 100 k [e90] := ⟨(lAll_cons (p := Ent.run tb0 100) e90_run rfl)⟩
theorem bk91 (k : Nat) : RunL tb0 100 k [e91] := ⟨(lAll_cons (p := Ent.run tb0 100) e91_run rfl)⟩
theorem bk93 (k : Nat) : RunL tb0 100 k [e93] := ⟨(lAll_cons (p := Ent.run tb0 100) e93_run rfl)⟩
theorem bk94 (k : Nat) : RunL tb0 100 k [e94] := ⟨(lAll_cons (p := Ent.run tb0 100) e94_run rfl)⟩
theorem bk95 (k : Nat) : RunL tb0 100 k [e95, e97, e99] := ⟨(lAll_cons (p := Ent.run tb0 100) e95_run (lAll_cons (p := Ent.run tb0 100) e97_run (lAll_cons (p := Ent.run tb0 100) e99_run rfl)))⟩
theorem bk103 (k : Nat) : RunL tb0 100 k [e103] := ⟨(lAll_cons (p := Ent.run tb0 100) e103_run rfl)⟩
theorem bk104 (k : Nat) : RunL tb0 100 k [e104] := ⟨(lAll_cons (p := Ent.run tb0 100) e104_run rfl)⟩
theorem bk105 (k : Nat) : RunL tb0 100 k [e105, e123] := ⟨(lAll_cons (p := Ent.run tb0 100) e105_run (lAll_cons (p := Ent.run tb0 100) e123_run rfl))⟩
theorem bk107 (k : Nat) : RunL tb0 100 k [e107, e109, e110, e111, e112, e113, e114] := ⟨(lAll_cons (p := Ent.run tb0 100) e107_run (lAll_cons (p := Ent.run tb0 100) e109_run (lAll_cons (p := Ent.run tb0 100) e110_run (lAll_cons (p := Ent.run tb0 100) e111_run (lAll_cons (p := Ent.run tb0 100) e112_run (lAll_cons (p := Ent.run tb0 100) e113_run (lAll_cons (p := Ent.run tb0 100) e114_run rfl)))))))⟩
theorem bk116 (k : Nat) : RunL tb0 100 k [e116] := ⟨(lAll_cons (p := Ent.run tb0 100) e116_run rfl)⟩
theorem bk117 (k : Nat) : RunL tb0 100 k [e117] := ⟨(lAll_cons (p := Ent.run tb0 100) e117_run rfl)⟩
theorem bk118 (k : Nat) : RunL tb0 100 k [e118] := ⟨(lAll_cons (p := Ent.run tb0 100) e118_run rfl)⟩
theorem bk119 (k : Nat) : RunL tb0 100 k [e119, e164] := ⟨(lAll_cons (p := Ent.run tb0 100) e119_run (lAll_cons (p := Ent.run tb0 100) e164_run rfl))⟩
theorem bk122 (k : Nat) : RunL tb0 100 k [e122] := ⟨(lAll_cons (p := Ent.run tb0 100) e122_run rfl)⟩
theorem bk127 (k : Nat) : RunL tb0 100 k [e127] := ⟨(lAll_cons (p := Ent.run tb0 100) e127_run rfl)⟩
theorem bk129 (k : Nat) : RunL tb0 100 k [e129, e130, e131, e132, e133, e134, e136, e137, e138, e139, e140, e141, e143, e144, e145, e146, e147, e148, e153, e157, e158, e159, e160, e161, e162] := ⟨(lAll_cons (p := Ent.run tb0 100) e129_run (lAll_cons (p := Ent.run tb0 100) e130_run (lAll_cons (p := Ent.run tb0 100) e131_run (lAll_cons (p := Ent.run tb0 100) e132_run (lAll_cons (p := Ent.run tb0 100) e133_run (lAll_cons (p := Ent.run tb0 100) e134_run (lAll_cons (p := Ent.run tb0 100) e136_run (lAll_cons (p := Ent.run tb0 100) e137_run (lAll_cons (p := Ent.run tb0 100) e138_run (lAll_cons (p := Ent.run tb0 100) e139_run (lAll_cons (p := Ent.run tb0 100) e140_run (lAll_cons (p := Ent.run tb0 100) e141_run (lAll_cons (p := Ent.run tb0 100) e143_run (lAll_cons (p := Ent.run tb0 100) e144_run (lAll_cons (p := Ent.run tb0 100) e145_run (lAll_cons (p := Ent.run tb0 100) e146_run (lAll_cons (p := Ent.run tb0 100) e147_run (lAll_cons (p := Ent.run tb0 100) e148_run (lAll_cons (p := Ent.run tb0 100) e153_run (lAll_cons (p := Ent.run tb0 100) e157_run (lAll_cons (p := Ent.run tb0 100) e158_run (lAll_cons (p := Ent.run tb0 100) e159_run (lAll_cons (p := Ent.run tb0 100) e160_run (lAll_cons (p := Ent.run tb0 100) e161_run (lAll_cons (p := Ent.run tb0 100) e162_run rfl)))))))))))))))))))))))))⟩
theorem bk150 (k : Nat) : RunL tb0 100 k [e150] := ⟨(lAll_cons (p := Ent.run tb0 100) e150_run rfl)⟩
theorem bk151 (k : Nat) : RunL tb0 100 k [e151] := ⟨(lAll_cons (p := Ent.run tb0 100) e151_run rfl)⟩
theorem bk166 (k : Nat) : RunL tb0 100 k [e166] := ⟨(lAll_cons (p := Ent.run tb0 100) e166_run rfl)⟩
theorem bk168 (k : Nat) : RunL tb0 100 k [e168] := ⟨(lAll_cons (p := Ent.run tb0 100) e168_run rfl)⟩
noncomputable def ents1 : PT (List Ent) := (.node (some [e20]) (.node (some [e63]) (.node (some [e38]) (.node none (.node (some [e42]) (.node (some [e79]) (.node (some [e67]) .nil (.node (some [e36]) .nil .nil)) (.node (some [e95, e97, e99]) .nil .nil)) (.node none .nil (.node (some [e28]) (.node (some [e14]) .nil .nil) (.node (some [e83]) .nil .nil)))) (.node (some [e10]) (.node (some [e75]) (.node (some [e24]) (.node (some [e60]) .nil .nil) .nil) (.node none .nil (.node (some [e77]) .nil .nil))) (.node (some [e51]) (.node (some [e17]) .nil .nil) (.node none (.node (some [e91]) .nil .nil) .nil)))) (.node none (.node (some [e47]) (.node (some [e70]) (.node (some [e52]) .nil (.node (some [e62]) .nil .nil)) (.node (some [e103]) (.node (some [e45]) .nil .nil) .nil)) (.node none (.node none .nil (.node (some [e150]) .nil .nil)) (.node (some [e33]) (.node (some [e19, e78]) .nil .nil) (.node (some [e30, e85, e101]) .nil .nil)))) (.node none (.node none (.node (some [e86, e92]) (.node (some [e54]) .nil .nil) .nil) .nil) (.node none (.node none (.node (some [e5]) .nil .nil) .nil) (.node (some [e69]) .nil .nil))))) (.node (some [e44, e68]) (.node none (.node none (.node (some [e21]) .nil (.node none .nil (.node (some [e119, e164]) .nil .nil))) (.node (some [e82, e167]) (.node (some [e0]) (.node (some [e31, e48]) .nil .nil) (.node (some [e12]) .nil .nil)) .nil)) (.node none (.node none .nil (.node (some [e56]) (.node (some [e3, e23]) .nil .nil) (.node (some [e87]) .nil .nil))) (.node (some [e74]) (.node (some [e168]) (.node (some [e81]) .nil .nil) .nil) (.node (some [e9]) (.node (some [e16, e120]) .nil .nil) (.node (some [e25]) .nil .nil))))) (.node none (.node none (.node (some [e26, e126]) .nil (.node (some [e37]) .nil .nil)) (.node (some [e27]) (.node (some [e46]) .nil .nil) (.node (some [e76]) .nil .nil))) (.node (some [e1, e96, e98, e100, e106, e124, e125, e152]) (.node none (.node none .nil (.node (some [e7]) .nil .nil)) .nil) (.node none (.node (some [e43]) (.node (some [e107, e109, e110, e111, e112, e113, e114]) .nil .nil) .nil) (.node none (.node (some [e29]) .nil .nil) .nil)))))) (.node (some [e49]) (.node (some [e117]) (.node (some [e57]) (.node (some [e53]) (.node (some [e35]) (.node (some [e93]) .nil (.node (some [e13, e22]) .nil .nil)) (.node (some [e105, e123]) (.node (some [e64]) .nil .nil) .nil)) (.node none .nil (.node (some [e39]) .nil .nil))) (.node none (.node (some [e55]) .nil .nil) (.node none (.node (some [e89]) .nil .nil) (.node none .nil (.node (some [e4]) .nil .nil))))) (.node none (.node none (.node (some [e40]) (.node none (.node (some [e11, e155]) .nil .nil) (.node (some [e18]) .nil .nil)) .nil) (.node (some [e65]) (.node (some [e84, e102, e165]) .nil (.node (some [e122]) .nil .nil)) .nil)) (.node (some [e94]) (.node none (.node none (.node (some [e166]) .nil .nil) (.node (some [e73]) .nil .nil)) (.node (some [e8]) (.node (some [e41]) .nil .nil) .nil)) (.node (some [e118]) .nil (.node (some [e58]) .nil (.node (some [e129, e130, e131, e132, e133, e134, e136, e137, e138, e139, e140, e141, e143, e144, e145, e146, e147, e148, e153, e157, e158, e159, e160, e161, e162]) .nil .nil)))))) (.node none (.node none (.node none (.node none (.node none (.node (some [e116]) .nil .nil) (.node (some [e71]) .nil .nil)) (.node (some [e151]) .nil .nil)) (.node none (.node none (.node (some [e90]) .nil .nil) (.node (some [e66]) .nil .nil)) .nil)) (.node (some [e59]) (.node none (.node (some [e80]) .nil .nil) .nil) (.node (some [e34]) (.node none (.node (some [e104]) .nil .nil) .nil) .nil))) (.node none (.node none (.node none (.node none (.node (some [e127]) .nil .nil) .nil) .nil) (.node none (.node (some [e88]) .nil .nil) .nil)) (.node none (.node (some [e72]) (.node (some [e6, e15]) .nil .nil) (.node none (.node (some [e50]) .nil .nil) .nil)) (.node none .nil (.node (some [e2]) (.node (some [e61]) .nil .nil) (.node (some [e32]) .nil .nil))))))))
theorem ents1_run : ents1.Every (RunL tb0 100) := ⟨ev1 (bk20 _), ⟨ev1 (bk63 _), ⟨ev1 (bk38 _), ⟨ev0, ⟨ev1 (bk42 _), ⟨ev1 (bk79 _), ⟨ev1 (bk67 _), trivial, ⟨ev1 (bk36 _), trivial, trivial⟩⟩, ⟨ev1 (bk95 _), trivial, trivial⟩⟩, ⟨ev0, trivial, ⟨ev1 (bk28 _), ⟨ev1 (bk14 _), trivial, trivial⟩, ⟨ev1 (bk83 _), trivial, trivial⟩⟩⟩⟩, ⟨ev1 (bk10 _), ⟨ev1 (bk75 _), ⟨ev1 (bk24 _), ⟨ev1 (bk60 _), trivial, trivial⟩, trivial⟩, ⟨ev0, trivial, ⟨ev1 (bk77 _), trivial, trivial⟩⟩⟩, ⟨ev1 (bk51 _), ⟨ev1 (bk17 _), trivial, trivial⟩, ⟨ev0, ⟨ev1 (bk91 _), trivial, trivial⟩, trivial⟩⟩⟩⟩, ⟨ev0, ⟨ev1 (bk47 _), ⟨ev1 (bk70 _), ⟨ev1 (bk52 _), trivial, ⟨ev1 (bk62 _), trivial, trivial⟩⟩, ⟨ev1 (bk103 _), ⟨ev1 (bk45 _), trivial, trivial⟩, trivial⟩⟩, ⟨ev0, ⟨ev0, trivial, ⟨ev1 (bk150 _), trivial, trivial⟩⟩, ⟨ev1 (bk33 _), ⟨ev1 (bk19 _), trivial, trivial⟩, ⟨ev1 (bk30 _), trivial, trivial⟩⟩⟩⟩, ⟨ev0, ⟨ev0, ⟨ev1 (bk86 _), ⟨ev1 (bk54 _), trivial, trivial⟩, trivial⟩, trivial⟩, ⟨ev0, ⟨ev0, ⟨ev1 (bk5 _), trivial, trivial⟩, trivial⟩, ⟨ev1 (bk69 _), trivial, trivial⟩⟩⟩⟩⟩, ⟨ev1 (bk44 _), ⟨ev0, ⟨ev0, ⟨ev1 (bk21 _), trivial, ⟨ev0, trivial, ⟨ev1 (bk119 _), trivial, trivial⟩⟩⟩, ⟨ev1 (bk82 _), ⟨ev1 (bk0 _), ⟨ev1 (bk31 _), trivial, trivial⟩, ⟨ev1 (bk12 _), trivial, trivial⟩⟩, trivial⟩⟩, ⟨ev0, ⟨ev0, trivial, ⟨ev1 (bk56 _), ⟨ev1 (bk3 _), trivial, trivial⟩, ⟨ev1 (bk87 _), trivial, trivial⟩⟩⟩, ⟨ev1 (bk74 _), ⟨ev1 (bk168 _), ⟨ev1 (bk81 _), trivial, trivial⟩, trivial⟩, ⟨ev1 (bk9 _), ⟨ev1 (bk16 _), trivial, trivial⟩, ⟨ev1 (bk25 _), trivial, trivial⟩⟩⟩⟩⟩, ⟨ev0, ⟨ev0, ⟨ev1 (bk26 _), trivial, ⟨ev1 (bk37 _), trivial, trivial⟩⟩, ⟨ev1 (bk27 _), ⟨ev1 (bk46 _), trivial, trivial⟩, ⟨ev1 (bk76 _), trivial, trivial⟩⟩⟩, ⟨ev1 (bk1 _), ⟨ev0, ⟨ev0, trivial, ⟨ev1 (bk7 _), trivial, trivial⟩⟩, trivial⟩, ⟨ev0, ⟨ev1 (bk43 _), ⟨ev1 (bk107 _), trivial, trivial⟩, trivial⟩, ⟨ev0, ⟨ev1 (bk29 _), trivial, trivial⟩, trivial⟩⟩⟩⟩⟩⟩, ⟨ev1 (bk49 _), ⟨ev1 (bk117 _), ⟨ev1 (bk57 _), ⟨ev1 (bk53 _), ⟨ev1 (bk35 _), ⟨ev1 (bk93 _), trivial, ⟨ev1 (bk13 _), trivial, trivial⟩⟩, ⟨ev1 (bk105 _), ⟨ev1 (bk64 _), trivial, trivial⟩, trivial⟩⟩, ⟨ev0, trivial, ⟨ev1 (bk39 _), trivial, trivial⟩⟩⟩, ⟨ev0, ⟨ev1 (bk55 _), trivial, trivial⟩, ⟨ev0, ⟨ev1 (bk89 _), trivial, trivial⟩, ⟨ev0, trivial, ⟨ev1 (bk4 _), trivial, trivial⟩⟩⟩⟩⟩, ⟨ev0, ⟨ev0, ⟨ev1 (bk40 _), ⟨ev0, ⟨ev1 (bk11 _), trivial, trivial⟩, ⟨ev1 (bk18 _), trivial, trivial⟩⟩, trivial⟩, ⟨ev1 (bk65 _), ⟨ev1 (bk84 _), trivial, ⟨ev1 (bk122 _), trivial, trivial⟩⟩, trivial⟩⟩, ⟨ev1 (bk94 _), ⟨ev0, ⟨ev0, ⟨ev1 (bk166 _), trivial, trivial⟩, ⟨ev1 (bk73 _), trivial, trivial⟩⟩, ⟨ev1 (bk8 _), ⟨ev1 (bk41 _), trivial, trivial⟩, trivial⟩⟩, ⟨ev1 (bk118 _), trivial, ⟨ev1 (bk58 _), trivial, ⟨ev1 (bk129 _), trivial, trivial⟩⟩⟩⟩⟩⟩, ⟨ev0, ⟨ev0, ⟨ev0, ⟨ev0, ⟨ev0, ⟨ev1 (bk116 _), trivial, trivial⟩, ⟨ev1 (bk71 _), trivial, trivial⟩⟩, ⟨ev1 (bk151 _), trivial, trivial⟩⟩, ⟨ev0, ⟨ev0, ⟨ev1 (bk90 _), trivial, trivial⟩, ⟨ev1 (bk66 _), trivial, trivial⟩⟩, trivial⟩⟩, ⟨ev1 (bk59 _), ⟨ev0, ⟨ev1 (bk80 _), trivial, trivial⟩, trivial⟩, ⟨ev1 (bk34 _), ⟨ev0, ⟨ev1 (bk104 _), trivial, trivial⟩, trivial⟩, trivial⟩⟩⟩, ⟨ev0, ⟨ev0, ⟨ev0, ⟨ev0, ⟨ev1 (bk127 _), trivial, trivial⟩, trivial⟩, trivial⟩, ⟨ev0, ⟨ev1 (bk88 _), trivial, trivial⟩, trivial⟩⟩, ⟨ev0, ⟨ev1 (bk72 _), ⟨ev1 (bk6 _), trivial, trivial⟩, ⟨ev0, ⟨ev1 (bk50 _), trivial, trivial⟩, trivial⟩⟩, ⟨ev0, trivial, ⟨ev1 (bk2 _), ⟨ev1 (bk61 _), trivial, trivial⟩, ⟨ev1 (bk32 _), trivial, trivial⟩⟩⟩⟩⟩⟩⟩⟩
noncomputable def orc1 (f : FuncId) (args : List AV) (h : Heap) : Option (T (AV × Heap)) := entPT 256 ents1 f args h
theorem orc1_ok : ∀ f args h t, orc1 f args h = some t → CallOk pT f args h t := fun _ _ _ _ e => entPT_ok tabs0 ents1_run e
noncomputable def tb1 : Tabs := ⟨Sx.Tryd.ft.get, lFind Sx.Tryd.rt, 2000, orc1⟩
theorem tabs1 : TabOk pT Sx.Tryd.tt.get tb1 := Tryd.tab orc1 orc1_ok 2000
end Go.Sx
