/- CALLS, MADE: what is called, what it reads, what it hands back. -/
import Derived.Test.YtdnlbidfflpbiaaDoorEntL2x0
/-! CALLS, MADE: what is called, what it reads, what it hands back. -/
namespace Go.Sx
open Go.RowKit Go.Proofs
set_option maxRecDepth 100000
theorem bk1 (k : Nat) : RunL tb1 100 k [e1] := ⟨(lAll_cons (p := Ent.run tb1 100) e1_run rfl)⟩
theorem bk2 (k : Nat) : RunL tb1 100 k [e2, e44, e47] := ⟨(lAll_cons (p := Ent.run tb1 100) e2_run (lAll_cons (p := Ent.run tb1 100) e44_run (lAll_cons (p := Ent.run tb1 100) e47_run rfl)))⟩
theorem bk3 (k : Nat) : RunL tb1 100 k [e3, e7, e58] := ⟨(lAll_cons (p := Ent.run tb1 100) e3_run (lAll_cons (p := Ent.run tb1 100) e7_run (lAll_cons (p := Ent.run tb1 100) e58_run rfl)))⟩
theorem bk4 (k : Nat) : RunL tb1 100 k [e4] := ⟨(lAll_cons (p := Ent.run tb1 100) e4_run rfl)⟩
theorem bk5 (k : Nat) : RunL tb1 100 k [e5] := ⟨(lAll_cons (p := Ent.run tb1 100) e5_run rfl)⟩
theorem bk6 (k : Nat) : RunL tb1 100 k [e6, e113] := ⟨(lAll_cons (p := Ent.run tb1 100) e6_run (lAll_cons (p := Ent.run tb1 100) e113_run rfl))⟩
theorem bk8 (k : Nat) : RunL tb1 100 k [e8] := ⟨(lAll_cons (p := Ent.run tb1 100) e8_run rfl)⟩
theorem bk10 (k : Nat) : RunL tb1 100 k [e10] := ⟨(lAll_cons (p := Ent.run tb1 100) e10_run rfl)⟩
theorem bk11 (k : Nat) : RunL tb1 100 k [e11, e112] := ⟨(lAll_cons (p := Ent.run tb1 100) e11_run (lAll_cons (p := Ent.run tb1 100) e112_run rfl))⟩
theorem bk12 (k : Nat) : RunL tb1 100 k [e12] := ⟨(lAll_cons (p := Ent.run tb1 100) e12_run rfl)⟩
theorem bk13 (k : Nat) : RunL tb1 100 k [e13] := ⟨(lAll_cons (p := Ent.run tb1 100) e13_run rfl)⟩
theorem bk14 (k : Nat) : RunL tb1 100 k [e14, e72, e76] := ⟨(lAll_cons (p := Ent.run tb1 100) e14_run (lAll_cons (p := Ent.run tb1 100) e72_run (lAll_cons (p := Ent.run tb1 100) e76_run rfl)))⟩
theorem bk15 (k : Nat) : RunL tb1 100 k [e15, e51, e61] := ⟨(lAll_cons (p := Ent.run tb1 100) e15_run (lAll_cons (p := Ent.run tb1 100) e51_run (lAll_cons (p := Ent.run tb1 100) e61_run rfl)))⟩
theorem bk16 (k : Nat) : RunL tb1 100 k [e16] := ⟨(lAll_cons (p := Ent.run tb1 100) e16_run rfl)⟩
theorem bk17 (k : Nat) : RunL tb1 100 k [e17] := ⟨(lAll_cons (p := Ent.run tb1 100) e17_run rfl)⟩
theorem bk19 (k : Nat) : RunL tb1 100 k [e19, e68] := ⟨(lAll_cons (p := Ent.run tb1 100) e19_run (lAll_cons (p := Ent.run tb1 100) e68_run rfl))⟩
theorem bk20 (k : Nat) : RunL tb1 100 k [e20, e69] := ⟨(lAll_cons (p := Ent.run tb1 100) e20_run (lAll_cons (p := Ent.run tb1 100) e69_run rfl))⟩
theorem bk21 (k : Nat) : RunL tb1 100 k [e21, e70] := ⟨(lAll_cons (p := Ent.run tb1 100) e21_run (lAll_cons (p := Ent.run tb1 100) e70_run rfl))⟩
theorem bk22 (k : Nat) : RunL tb1 100 k [e22, e82, e94, e108] := ⟨(lAll_cons (p := Ent.run tb1 100) e22_run (lAll_cons (p := Ent.run tb1 100) e82_run (lAll_cons (p := Ent.run tb1 100) e94_run (lAll_cons (p := Ent.run tb1 100) e108_run rfl))))⟩
theorem bk23 (k : Nat) : RunL tb1 100 k [e23, e123] := ⟨(lAll_cons (p := Ent.run tb1 100) e23_run (lAll_cons (p := Ent.run tb1 100) e123_run rfl))⟩
theorem bk24 (k : Nat) : RunL tb1 100 k [e24, e97] := ⟨(lAll_cons (p := Ent.run tb1 100) e24_run (lAll_cons (p := Ent.run tb1 100) e97_run rfl))⟩
theorem bk25 (k : Nat) : RunL tb1 100 k [e25] := ⟨(lAll_cons (p := Ent.run tb1 100) e25_run rfl)⟩
theorem bk26 (k : Nat) : RunL tb1 100 k [e26, e85, e120] := ⟨(lAll_cons (p := Ent.run tb1 100) e26_run (lAll_cons (p := Ent.run tb1 100) e85_run (lAll_cons (p := Ent.run tb1 100) e120_run rfl)))⟩
theorem bk28 (k : Nat) : RunL tb1 100 k [e28] := ⟨(lAll_cons (p := Ent.run tb1 100) e28_run rfl)⟩
theorem bk29 (k : Nat) : RunL tb1 100 k [e29] := ⟨(lAll_cons (p := Ent.run tb1 100) e29_run rfl)⟩
theorem bk30 (k : Nat) : RunL tb1 100 k [e30, e36] := ⟨(lAll_cons (p := Ent.run tb1 100) e30_run (lAll_cons (p := Ent.run tb1 100) e36_run rfl))⟩
theorem bk31 (k : Nat) : RunL tb1 100 k [e31, e59] := ⟨(lAll_cons (p := Ent.run tb1 100) e31_run (lAll_cons (p := Ent.run tb1 100) e59_run rfl))⟩
theorem bk32 (k : Nat) : RunL tb1 100 k [e32, e33, e38, e39] := ⟨(lAll_cons (p := Ent.run tb1 100) e32_run (lAll_cons (p := Ent.run tb1 100) e33_run (lAll_cons (p := Ent.run tb1 100) e38_run (lAll_cons (p := Ent.run tb1 100) e39_run rfl))))⟩
theorem bk34 (k : Nat) : RunL tb1 100 k [e34] := ⟨(lAll_cons (p := Ent.run tb1 100) e34_run rfl)⟩
theorem bk35 (k : Nat) : RunL tb1 100 k [e35] := ⟨(lAll_cons (p := Ent.run tb1 100) e35_run rfl)⟩
theorem bk37 (k : Nat) : RunL tb1 100 k [e37] := ⟨(lAll_cons (p := Ent.run tb1 100) e37_run rfl)⟩
theorem bk40 (k : Nat) : RunL tb1 100 k [e40, e65] := ⟨(lAll_cons (p := Ent.run tb1 100) e40_run (lAll_cons (p := Ent.run tb1 100) e65_run rfl))⟩
theorem bk41 (k : Nat) : RunL tb1 100 k [e41] := ⟨(lAll_cons (p := Ent.run tb1 100) e41_run rfl)⟩
theorem bk42 (k : Nat) : RunL tb1 100 k [e42, e90] := ⟨(lAll_cons (p := Ent.run tb1 100) e42_run (lAll_cons (p := Ent.run tb1 100) e90_run rfl))⟩
theorem bk43 (k : Nat) : RunL tb1 100 k [e43] := ⟨(lAll_cons (p := Ent.run tb1 100) e43_run rfl)⟩
theorem bk45 (k : Nat) : RunL tb1 100 k [e45, e118] := ⟨(lAll_cons (p := Ent.run tb1 100) e45_run (lAll_cons (p := Ent.run tb1 100) e118_run rfl))⟩
theorem bk46 (k : Nat) : RunL tb1 100 k [e46, e83, e95, e122] := ⟨(lAll_cons (p := Ent.run tb1 100) e46_run (lAll_cons (p := Ent.run tb1 100) e83_run (lAll_cons (p := Ent.run tb1 100) e95_run (lAll_cons (p := Ent.run tb1 100) e122_run rfl))))⟩
theorem bk48 (k : Nat) : RunL tb1 100 k [e48, e96] := ⟨(lAll_cons (p := Ent.run tb1 100) e48_run (lAll_cons (p := Ent.run tb1 100) e96_run rfl))⟩
theorem bk49 (k : Nat) : RunL tb1 100 k [e49, e52] := ⟨(lAll_cons (p := Ent.run tb1 100) e49_run (lAll_cons (p := Ent.run tb1 100) e52_run rfl))⟩
theorem bk50 (k : Nat) : RunL tb1 100 k [e50] := ⟨(lAll_cons (p := Ent.run tb1 100) e50_run rfl)⟩
theorem bk53 (k : Nat) : RunL tb1 100 k [e53, e125] := ⟨(lAll_cons (p := Ent.run tb1 100) e53_run (lAll_cons (p := Ent.run tb1 100) e125_run rfl))⟩
theorem bk54 (k : Nat) : RunL tb1 100 k [e54] := ⟨(lAll_cons (p := Ent.run tb1 100) e54_run rfl)⟩
theorem bk55 (k : Nat) : RunL tb1 100 k [e55] := ⟨(lAll_cons (p := Ent.run tb1 100) e55_run rfl)⟩
theorem bk56 (k : Nat) : RunL tb1 100 k [e56] := ⟨(lAll_cons (p := Ent.run tb1 100) e56_run rfl)⟩
theorem bk57 (k : Nat) : RunL tb1 100 k [e57] := ⟨(lAll_cons (p := Ent.run tb1 100) e57_run rfl)⟩
theorem bk60 (k : Nat) : RunL tb1 100 k [e60, e91] := ⟨(lAll_cons (p := Ent.run tb1 100) e60_run (lAll_cons (p := Ent.run tb1 100) e91_run rfl))⟩
theorem bk62 (k : Nat) : RunL tb1 100 k [e62] := ⟨(lAll_cons (p := Ent.run tb1 100) e62_run rfl)⟩
theorem bk63 (k : Nat) : RunL tb1 100 k [e63] := ⟨(lAll_cons (p := Ent.run tb1 100) e63_run rfl)⟩
theorem bk64 (k : Nat) : RunL tb1 100 k [e64] := ⟨(lAll_cons (p := Ent.run tb1 100) e64_run rfl)⟩
theorem bk66 (k : Nat) : RunL tb1 100 k [e66] := ⟨(lAll_cons (p := Ent.run tb1 100) e66_run rfl)⟩
theorem bk67 (k : Nat) : RunL tb1 100 k [e67] := ⟨(lAll_cons (p := Ent.run tb1 100) e67_run rfl)⟩
theorem bk71 (k : Nat) : RunL tb1 100 k [e71] := ⟨(lAll_cons (p := Ent.run tb1 100) e71_run rfl)⟩
theorem bk73 (k : Nat) : RunL tb1 100 k [e73, e77] := ⟨(lAll_cons (p := Ent.run tb1 100) e73_run (lAll_cons (p := Ent.run tb1 100) e77_run rfl))⟩
theorem bk74 (k : Nat) : RunL tb1 100 k [e74, e78] := ⟨(lAll_cons (p := Ent.run tb1 100) e74_run (lAll_cons (p := Ent.run tb1 100) e78_run rfl))⟩
theorem bk75 (k : Nat) : RunL tb1 100 k [e75, e79] := ⟨(lAll_cons (p := Ent.run tb1 100) e75_run (lAll_cons (p := Ent.run tb1 100) e79_run rfl))⟩
theorem bk80 (k : Nat) : RunL tb1 100 k [e80, e92] := ⟨(lAll_cons (p := Ent.run tb1 100) e80_run (lAll_cons (p := Ent.run tb1 100) e92_run rfl))⟩
theorem bk81 (k : Nat) : RunL tb1 100 k [e81, e93, e107] := ⟨(lAll_cons (p := Ent.run tb1 100) e81_run (lAll_cons (p := Ent.run tb1 100) e93_run (lAll_cons (p := Ent.run tb1 100) e107_run rfl)))⟩
theorem bk84 (k : Nat) : RunL tb1 100 k [e84, e119] := ⟨(lAll_cons (p := Ent.run tb1 100) e84_run (lAll_cons (p := Ent.run tb1 100) e119_run rfl))⟩
theorem bk86 (k : Nat) : RunL tb1 100 k [e86, e109, e121] := ⟨(lAll_cons (p := Ent.run tb1 100) e86_run (lAll_cons (p := Ent.run tb1 100) e109_run (lAll_cons (p := Ent.run tb1 100) e121_run rfl)))⟩
theorem bk87 (k : Nat) : RunL tb1 100 k [e87] := ⟨(lAll_cons (p := Ent.run tb1 100) e87_run rfl)⟩
theorem bk88 (k : Nat) : RunL tb1 100 k [e88] := ⟨(lAll_cons (p := Ent.run tb1 100) e88_run rfl)⟩
theorem bk89 (k : Nat) : RunL tb1 100 k [e89] := ⟨(lAll_cons (p := Ent.run tb1 100) e89_run rfl)⟩
theorem bk98 (k : Nat) : RunL tb1 100 k [e98] := ⟨(lAll_cons (p := Ent.run tb1 100) e98_run rfl)⟩
theorem bk105 (k : Nat) : RunL tb1 100 k [e105] := ⟨(lAll_cons (p := Ent.run tb1 100) e105_run rfl)⟩
theorem bk106 (k : Nat) : RunL tb1 100 k [e106] := ⟨(lAll_cons (p := Ent.run tb1 100) e106_run rfl)⟩
theorem bk110 (k : Nat) : RunL tb1 100 k [e110] := ⟨(lAll_cons (p := Ent.run tb1 100) e110_run rfl)⟩
theorem bk111 (k : Nat) : RunL tb1 100 k [e111] := ⟨(lAll_cons (p := Ent.run tb1 100) e111_run rfl)⟩
theorem bk117 (k : Nat) : RunL tb1 100 k [e117] := ⟨(lAll_cons (p := Ent.run tb1 100) e117_run rfl)⟩
theorem bk124 (k : Nat) : RunL tb1 100 k [e124] := ⟨(lAll_cons (p := Ent.run tb1 100) e124_run rfl)⟩
noncomputable def ents2 : PT (List Ent) := (.node (some [e17]) (.node none (.node (some [e53, e125]) (.node none (.node (some [e48, e96]) (.node (some [e106]) (.node (some [e45, e118]) (.node (some [e71]) .nil .nil) .nil) .nil) (.node (some [e19, e68]) .nil (.node (some [e87]) .nil .nil))) (.node none (.node (some [e50]) .nil .nil) (.node (some [e30, e36]) .nil (.node (some [e34]) .nil .nil)))) (.node (some [e22, e82, e94, e108]) (.node none (.node none (.node (some [e11, e112]) .nil .nil) .nil) (.node (some [e88]) (.node (some [e56]) .nil .nil) .nil)) (.node none (.node none (.node (some [e62]) .nil .nil) .nil) (.node (some [e26, e85, e120]) .nil (.node (some [e3, e7, e58]) .nil .nil))))) (.node none (.node (some [e74, e78]) (.node (some [e10]) (.node none (.node (some [e63]) .nil .nil) (.node (some [e105]) .nil .nil)) (.node (some [e84, e119]) .nil (.node (some [e6, e113]) .nil .nil))) (.node none .nil (.node (some [e67]) (.node (some [e57]) .nil .nil) .nil))) (.node none (.node (some [e8]) (.node (some [e35]) .nil (.node (some [e1]) .nil .nil)) (.node none (.node (some [e32, e33, e38, e39]) .nil .nil) .nil)) (.node none (.node (some [e60, e91]) (.node (some [e21, e70]) .nil .nil) .nil) (.node (some [e89]) (.node (some [e4]) .nil .nil) .nil))))) (.node (some [e110]) (.node none (.node none (.node none (.node (some [e24, e97]) (.node (some [e31, e59]) .nil .nil) .nil) (.node (some [e14, e72, e76]) (.node (some [e75, e79]) .nil .nil) (.node (some [e2, e44, e47]) .nil .nil))) (.node none (.node (some [e124]) .nil (.node (some [e29]) .nil .nil)) (.node (some [e13]) .nil (.node (some [e66]) .nil .nil)))) (.node (some [e42, e90]) (.node none (.node none (.node (some [e55]) .nil .nil) .nil) (.node (some [e49, e52]) (.node (some [e98]) .nil .nil) (.node (some [e5]) .nil .nil))) (.node none (.node none (.node (some [e64]) .nil .nil) .nil) (.node (some [e81, e93, e107]) .nil (.node (some [e15, e51, e61]) .nil .nil))))) (.node (some [e37]) (.node (some [e86, e109, e121]) (.node (some [e12]) (.node none (.node (some [e25]) .nil .nil) (.node (some [e111]) .nil .nil)) (.node (some [e80, e92]) (.node (some [e54]) .nil .nil) .nil)) (.node none (.node none .nil (.node (some [e41]) .nil .nil)) (.node (some [e73, e77]) .nil .nil))) (.node (some [e46, e83, e95, e122]) (.node none (.node (some [e43]) .nil .nil) (.node (some [e28]) (.node (some [e40, e65]) .nil .nil) .nil)) (.node (some [e16]) (.node none (.node (some [e23, e123]) .nil .nil) .nil) (.node (some [e117]) .nil (.node (some [e20, e69]) .nil .nil)))))))
theorem ents2_run : ents2.Every (RunL tb1 100) := ⟨ev1 (bk17 _), ⟨ev0, ⟨ev1 (bk53 _), ⟨ev0, ⟨ev1 (bk48 _), ⟨ev1 (bk106 _), ⟨ev1 (bk45 _), ⟨ev1 (bk71 _), trivial, trivial⟩, trivial⟩, trivial⟩, ⟨ev1 (bk19 _), trivial, ⟨ev1 (bk87 _), trivial, trivial⟩⟩⟩, ⟨ev0, ⟨ev1 (bk50 _), trivial, trivial⟩, ⟨ev1 (bk30 _), trivial, ⟨ev1 (bk34 _), trivial, trivial⟩⟩⟩⟩, ⟨ev1 (bk22 _), ⟨ev0, ⟨ev0, ⟨ev1 (bk11 _), trivial, trivial⟩, trivial⟩, ⟨ev1 (bk88 _), ⟨ev1 (bk56 _), trivial, trivial⟩, trivial⟩⟩, ⟨ev0, ⟨ev0, ⟨ev1 (bk62 _), trivial, trivial⟩, trivial⟩, ⟨ev1 (bk26 _), trivial, ⟨ev1 (bk3 _), trivial, trivial⟩⟩⟩⟩⟩, ⟨ev0, ⟨ev1 (bk74 _), ⟨ev1 (bk10 _), ⟨ev0, ⟨ev1 (bk63 _), trivial, trivial⟩, ⟨ev1 (bk105 _), trivial, trivial⟩⟩, ⟨ev1 (bk84 _), trivial, ⟨ev1 (bk6 _), trivial, trivial⟩⟩⟩, ⟨ev0, trivial, ⟨ev1 (bk67 _), ⟨ev1 (bk57 _), trivial, trivial⟩, trivial⟩⟩⟩, ⟨ev0, ⟨ev1 (bk8 _), ⟨ev1 (bk35 _), trivial, ⟨ev1 (bk1 _), trivial, trivial⟩⟩, ⟨ev0, ⟨ev1 (bk32 _), trivial, trivial⟩, trivial⟩⟩, ⟨ev0, ⟨ev1 (bk60 _), ⟨ev1 (bk21 _), trivial, trivial⟩, trivial⟩, ⟨ev1 (bk89 _), ⟨ev1 (bk4 _), trivial, trivial⟩, trivial⟩⟩⟩⟩⟩, ⟨ev1 (bk110 _), ⟨ev0, ⟨ev0, ⟨ev0, ⟨ev1 (bk24 _), ⟨ev1 (bk31 _), trivial, trivial⟩, trivial⟩, ⟨ev1 (bk14 _), ⟨ev1 (bk75 _), trivial, trivial⟩, ⟨ev1 (bk2 _), trivial, trivial⟩⟩⟩, ⟨ev0, ⟨ev1 (bk124 _), trivial, ⟨ev1 (bk29 _), trivial, trivial⟩⟩, ⟨ev1 (bk13 _), trivial, ⟨ev1 (bk66 _), trivial, trivial⟩⟩⟩⟩, ⟨ev1 (bk42 _), ⟨ev0, ⟨ev0, ⟨ev1 (bk55 _), trivial, trivial⟩, trivial⟩, ⟨ev1 (bk49 _), ⟨ev1 (bk98 _), trivial, trivial⟩, ⟨ev1 (bk5 _), trivial, trivial⟩⟩⟩, ⟨ev0, ⟨ev0, ⟨ev1 (bk64 _), trivial, trivial⟩, trivial⟩, ⟨ev1 (bk81 _), trivial, ⟨ev1 (bk15 _), trivial, trivial⟩⟩⟩⟩⟩, ⟨ev1 (bk37 _), ⟨ev1 (bk86 _), ⟨ev1 (bk12 _), ⟨ev0, ⟨ev1 (bk25 _), trivial, trivial⟩, ⟨ev1 (bk111 _), trivial, trivial⟩⟩, ⟨ev1 (bk80 _), ⟨ev1 (bk54 _), trivial, trivial⟩, trivial⟩⟩, ⟨ev0, ⟨ev0, trivial, ⟨ev1 (bk41 _), trivial, trivial⟩⟩, ⟨ev1 (bk73 _), trivial, trivial⟩⟩⟩, ⟨ev1 (bk46 _), ⟨ev0, ⟨ev1 (bk43 _), trivial, trivial⟩, ⟨ev1 (bk28 _), ⟨ev1 (bk40 _), trivial, trivial⟩, trivial⟩⟩, ⟨ev1 (bk16 _), ⟨ev0, ⟨ev1 (bk23 _), trivial, trivial⟩, trivial⟩, ⟨ev1 (bk117 _), trivial, ⟨ev1 (bk20 _), trivial, trivial⟩⟩⟩⟩⟩⟩⟩
noncomputable def orc2 (f : FuncId) (args : List AV) (h : Heap) : Option (T (AV × Heap)) :=
  match entPT 128 ents2 f args h with
  | some t => some t
  | none => orc1 f args h
theorem orc2_ok : ∀ f args h t, orc2 f args h = some t → CallOk pT f args h t := by
  intro f args h t e
  unfold orc2 at e
  split at e
  · rename_i u hu
    cases e
    exact entPT_ok tabs1 ents2_run hu
  · exact orc1_ok f args h t e
noncomputable def tb2 : Tabs := ⟨Sx.Tryd.ft.get, lFind Sx.Tryd.rt, 2000, orc2⟩
theorem tabs2 : TabOk pT Sx.Tryd.tt.get tb2 := Tryd.tab orc2 orc2_ok 2000
end Go.Sx
