/- CALLS, MADE: what is called, what it reads, what it hands back. -/
import Derived.Test.YtlpencfoibbdeaaDoorEntL2x0
import Derived.Test.YtlpencfoibbdeaaDoorEntL2x1
import Derived.Test.YtlpencfoibbdeaaDoorEntL2x2
import Derived.Test.YtlpencfoibbdeaaDoorEntL2x3
import Derived.Test.YtlpencfoibbdeaaDoorEntL2x4
/-! CALLS, MADE: what is called, what it reads, what it hands back. -/
namespace Go.Sx
open Go.RowKit Go.Proofs
set_option maxRecDepth 100000
noncomputable def ents2 : List Ent := [e3, e4, e5, e6, e7, e8, e9, e11, e12, e13, e14, e15, e16, e17, e19, e20, e21, e22, e23, e27, e28, e29, e30, e31, e32, e33, e34, e35, e37, e38, e39, e40, e41, e42, e43, e44, e45, e47, e48, e49, e50, e51, e52, e53, e54, e55, e57, e58, e59, e60, e61, e62, e63, e64, e65, e67, e68, e69, e70, e71, e72, e73, e74, e75, e77, e78, e79, e80, e81, e82, e83, e84, e85, e86, e87, e88, e89, e90, e91, e92, e93, e94, e95, e96, e97, e98, e99, e100, e101, e102, e103, e104, e105, e106, e107, e108, e109, e110, e111, e112, e113, e114, e115, e116, e117, e118, e119, e120, e121, e122, e123, e124, e125, e126, e127, e128, e129, e130, e131, e132, e133, e134, e135, e136, e137, e138, e139, e140, e141, e142]
theorem ents2_run : lAll (Ent.run tb1 100) ents2 = true := lAll_cons e3_run (lAll_cons e4_run (lAll_cons e5_run (lAll_cons e6_run (lAll_cons e7_run (lAll_cons e8_run (lAll_cons e9_run (lAll_cons e11_run (lAll_cons e12_run (lAll_cons e13_run (lAll_cons e14_run (lAll_cons e15_run (lAll_cons e16_run (lAll_cons e17_run (lAll_cons e19_run (lAll_cons e20_run (lAll_cons e21_run (lAll_cons e22_run (lAll_cons e23_run (lAll_cons e27_run (lAll_cons e28_run (lAll_cons e29_run (lAll_cons e30_run (lAll_cons e31_run (lAll_cons e32_run (lAll_cons e33_run (lAll_cons e34_run (lAll_cons e35_run (lAll_cons e37_run (lAll_cons e38_run (lAll_cons e39_run (lAll_cons e40_run (lAll_cons e41_run (lAll_cons e42_run (lAll_cons e43_run (lAll_cons e44_run (lAll_cons e45_run (lAll_cons e47_run (lAll_cons e48_run (lAll_cons e49_run (lAll_cons e50_run (lAll_cons e51_run (lAll_cons e52_run (lAll_cons e53_run (lAll_cons e54_run (lAll_cons e55_run (lAll_cons e57_run (lAll_cons e58_run (lAll_cons e59_run (lAll_cons e60_run (lAll_cons e61_run (lAll_cons e62_run (lAll_cons e63_run (lAll_cons e64_run (lAll_cons e65_run (lAll_cons e67_run (lAll_cons e68_run (lAll_cons e69_run (lAll_cons e70_run (lAll_cons e71_run (lAll_cons e72_run (lAll_cons e73_run (lAll_cons e74_run (lAll_cons e75_run (lAll_cons e77_run (lAll_cons e78_run (lAll_cons e79_run (lAll_cons e80_run (lAll_cons e81_run (lAll_cons e82_run (lAll_cons e83_run (lAll_cons e84_run (lAll_cons e85_run (lAll_cons e86_run (lAll_cons e87_run (lAll_cons e88_run (lAll_cons e89_run (lAll_cons e90_run (lAll_cons e91_run (lAll_cons e92_run (lAll_cons e93_run (lAll_cons e94_run (lAll_cons e95_run (lAll_cons e96_run (lAll_cons e97_run (lAll_cons e98_run (lAll_cons e99_run (lAll_cons e100_run (lAll_cons e101_run (lAll_cons e102_run (lAll_cons e103_run (lAll_cons e104_run (lAll_cons e105_run (lAll_cons e106_run (lAll_cons e107_run (lAll_cons e108_run (lAll_cons e109_run (lAll_cons e110_run (lAll_cons e111_run (lAll_cons e112_run (lAll_cons e113_run (lAll_cons e114_run (lAll_cons e115_run (lAll_cons e116_run (lAll_cons e117_run (lAll_cons e118_run (lAll_cons e119_run (lAll_cons e120_run (lAll_cons e121_run (lAll_cons e122_run (lAll_cons e123_run (lAll_cons e124_run (lAll_cons e125_run (lAll_cons e126_run (lAll_cons e127_run (lAll_cons e128_run (lAll_cons e129_run (lAll_cons e130_run (lAll_cons e131_run (lAll_cons e132_run (lAll_cons e133_run (lAll_cons e134_run (lAll_cons e135_run (lAll_cons e136_run (lAll_cons e137_run (lAll_cons e138_run (lAll_cons e139_run (lAll_cons e140_run (lAll_cons e141_run (lAll_cons e142_run rfl)))))))))))))))))))))))))))))))))))))))))))))))))))))))))))))))))))))))))))))))))))))))))))))))))))))))))))))))))))))))))))))))))
noncomputable def orc2 (f : FuncId) (args : List AV) (h : Heap) : Option (T (AV × Heap)) :=
  match entOrc f args h ents2 with
  | some t => some t
  | none => orc1 f args h
theorem orc2_ok : ∀ f args h t, orc2 f args h = some t → CallOk pT f args h t := by
  intro f args h t e
  unfold orc2 at e
  split at e
  · rename_i u hu
    cases e
    exact entOrc_ok tabs1 ents2_run hu
  · exact orc1_ok f args h t e
noncomputable def tb2 : Tabs := ⟨Sx.Tryd.ft.get, lFind Sx.Tryd.rt, 2000, orc2⟩
theorem tabs2 : TabOk pT Sx.Tryd.tt.get tb2 := Tryd.tab orc2 orc2_ok 2000
end Go.Sx
