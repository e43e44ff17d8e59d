/- CALLS, MADE: what is called, what it reads, what it hands back. -/
import Derived.Test.YtedkhkeaioppnaaDoorEntL1x0
import Derived.Test.YtedkhkeaioppnaaDoorEntL1x1
import Derived.Test.YtedkhkeaioppnaaDoorEntL1x2
import Derived.Test.YtedkhkeaioppnaaDoorEntL1x3
import Derived.Test.YtedkhkeaioppnaaDoorEntL1x4
import Derived.Test.YtedkhkeaioppnaaDoorEntL1x5
import Derived.Test.YtedkhkeaioppnaaDoorEntL1x6
import Derived.Test.YtedkhkeaioppnaaDoorEntL1x7
import Derived.Test.YtedkhkeaioppnaaDoorEntL1x8
import Derived.Test.YtedkhkeaioppnaaDoorEntL1x9
import Derived.Test.YtedkhkeaioppnaaDoorEntL1x10
import Derived.Test.YtedkhkeaioppnaaDoorEntL1x11
import Derived.Test.YtedkhkeaioppnaaDoorEntL1x12
import Derived.Test.YtedkhkeaioppnaaDoorEntL1x13
import Derived.Test.YtedkhkeaioppnaaDoorEntL1x14
import Derived.Test.YtedkhkeaioppnaaDoorEntL1x15
import Derived.Test.YtedkhkeaioppnaaDoorEntL1x16
import Derived.Test.YtedkhkeaioppnaaDoorEntL1x17
import Derived.Test.YtedkhkeaioppnaaDoorEntL1x18
import Derived.Test.YtedkhkeaioppnaaDoorEntL1x19
/-! CALLS, MADE: what is called, what it reads, what it hands back. -/
namespace Go.Sx
open Go.RowKit Go.Proofs
set_option maxRecDepth 100000
theorem bk0 (k : Nat) : RunL tb0 100 k [e0, e59, e69, e79, e89, e109, e135] := ⟨(lAll_cons (p := Ent.run tb0 100) e0_run (lAll_cons (p := Ent.run tb0 100) e59_run (lAll_cons (p := Ent.run tb0 100) e69_run (lAll_cons (p := Ent.run tb0 100) e79_run (lAll_cons (p := Ent.run tb0 100) e89_run (lAll_cons (p := Ent.run tb0 100) e109_run (lAll_cons (p := Ent.run tb0 100) e135_run rfl)))))))⟩
theorem bk4 (k : Nat) : RunL tb0 100 k [e4, e138] := ⟨(lAll_cons (p := Ent.run tb0 100) e4_run (lAll_cons (p := Ent.run tb0 100) e138_run rfl))⟩
theorem bk9 (k : Nat) : RunL tb0 100 k [e9] := ⟨(lAll_cons (p := Ent.run tb0 100) e9_run rfl)⟩
theorem bk10 (k : Nat) : RunL tb0 100 k [e10] := ⟨(lAll_cons (p := Ent.run tb0 100) e10_run rfl)⟩
theorem bk14 (k : Nat) : RunL tb0 100 k [e14] := ⟨(lAll_cons (p := Ent.run tb0 100) e14_run rfl)⟩
theorem bk19 (k : Nat) : RunL tb0 100 k [e19, e54, e64, e74, e84, e104, e133, e147] := ⟨(lAll_cons (p := Ent.run tb0 100) e19_run (lAll_cons (p := Ent.run tb0 100) e54_run (lAll_cons (p := Ent.run tb0 100) e64_run (lAll_cons (p := Ent.run tb0 100) e74_run (lAll_cons (p := Ent.run tb0 100) e84_run (lAll_cons (p := Ent.run tb0 100) e104_run (lAll_cons (p := Ent.run tb0 100) e133_run (lAll_cons (p := Ent.run tb0 100) e147_run rfl))))))))⟩
theorem bk20 (k : Nat) : RunL tb0 100 k [e20] := ⟨(lAll_cons (p := Ent.run tb0 100) e20_run rfl)⟩
theorem bk24 (k : Nat) : RunL tb0 100 k [e24] := ⟨(lAll_cons (p := Ent.run tb0 100) e24_run rfl)⟩
theorem bk29 (k : Nat) : RunL tb0 100 k [e29] := ⟨(lAll_cons (p := Ent.run tb0 100) e29_run rfl)⟩
theorem bk30 (k : Nat) : RunL tb0 100 k [e30] := ⟨(lAll_cons (p := Ent.run tb0 100) e30_run rfl)⟩
theorem bk34 (k : Nat) : RunL tb0 100 k [e34] := ⟨(lAll_cons (p := Ent.run tb0 100) e34_run rfl)⟩
theorem bk39 (k : Nat) : RunL tb0 100 k [e39] := ⟨(lAll_cons (p := Ent.run tb0 100) e39_run rfl)⟩
theorem bk40 (k : Nat) : RunL tb0 100 k [e40] := ⟨(lAll_cons (p := Ent.run tb0 100) e40_run rfl)⟩
theorem bk44 (k : Nat) : RunL tb0 100 k [e44] := ⟨(lAll_cons (p := Ent.run tb0 100) e44_run rfl)⟩
theorem bk49 (k : Nat) : RunL tb0 100 k [e49] := ⟨(lAll_cons (p := Ent.run tb0 100) e49_run rfl)⟩
theorem bk50 (k : Nat) : RunL tb0 100 k [e50, e60, e70, e80, e100] := ⟨(lAll_cons (p := Ent.run tb0 100) e50_run (lAll_cons (p := Ent.run tb0 100) e60_run (lAll_cons (p := Ent.run tb0 100) e70_run (lAll_cons (p := Ent.run tb0 100) e80_run (lAll_cons (p := Ent.run tb0 100) e100_run rfl)))))⟩
theorem bk90 (k : Nat) : RunL tb0 100 k [e90] := ⟨(lAll_cons (p := Ent.run tb0 100) e90_run rfl)⟩
theorem bk94 (k : Nat) : RunL tb0 100 k [e94, e144] := ⟨(lAll_cons (p := Ent.run tb0 100) e94_run (lAll_cons (p := Ent.run tb0 100) e144_run rfl))⟩
theorem bk99 (k : Nat) : RunL tb0 100 k [e99, e121, e123] := ⟨(lAll_cons (p := Ent.run tb0 100) e99_run (lAll_cons (p := Ent.run tb0 100) e121_run (lAll_cons (p := Ent.run tb0 100) e123_run rfl)))⟩
theorem bk110 (k : Nat) : RunL tb0 100 k [e110] := ⟨(lAll_cons (p := Ent.run tb0 100) e110_run rfl)⟩
theorem bk125 (k : Nat) : RunL tb0 100 k [e125, e132] := ⟨(lAll_cons (p := Ent.run tb0 100) e125_run (lAll_cons (p := Ent.run tb0 100) e132_run rfl))⟩
theorem bk127 (k : Nat) : RunL tb0 100 k [e127, e137] := ⟨(lAll_cons (p := Ent.run tb0 100) e127_run (lAll_cons (p := Ent.run tb0 100) e137_run rfl))⟩
theorem bk128 (k : Nat) : RunL tb0 100 k [e128, e136] := ⟨(lAll_cons (p := Ent.run tb0 100) e128_run (lAll_cons (p := Ent.run tb0 100) e136_run rfl))⟩
theorem bk129 (k : Nat) : RunL tb0 100 k [e129] := ⟨(lAll_cons (p := Ent.run tb0 100) e129_run rfl)⟩
theorem bk130 (k : Nat) : RunL tb0 100 k [e130, e143] := ⟨(lAll_cons (p := Ent.run tb0 100) e130_run (lAll_cons (p := Ent.run tb0 100) e143_run rfl))⟩
theorem bk131 (k : Nat) : RunL tb0 100 k [e131, e141] := ⟨(lAll_cons (p := Ent.run tb0 100) e131_run (lAll_cons (p := Ent.run tb0 100) e141_run rfl))⟩
theorem bk140 (k : Nat) : RunL tb0 100 k [e140, e142] := ⟨(lAll_cons (p := Ent.run tb0 100) e140_run (lAll_cons (p := Ent.run tb0 100) e142_run rfl))⟩
theorem bk145 (k : Nat) : RunL tb0 100 k [e145] := ⟨(lAll_cons (p := Ent.run tb0 100) e145_run rfl)⟩
theorem bk146 (k : Nat) : RunL tb0 100 k [e146] := ⟨(lAll_cons (p := Ent.run tb0 100) e146_run rfl)⟩
noncomputable def ents1 : PT (List Ent) := (.node (some [e146]) (.node none (.node (some [e34]) (.node none (.node none (.node (some [e130, e143]) (.node (some [e125, e132]) .nil .nil) .nil) .nil) .nil) (.node none (.node none (.node (some [e50, e60, e70, e80, e100]) .nil .nil) .nil) (.node (some [e99, e121, e123]) .nil (.node (some [e128, e136]) .nil .nil)))) (.node none (.node none (.node (some [e129]) .nil .nil) (.node (some [e30]) (.node (some [e90]) .nil .nil) (.node (some [e110]) .nil .nil))) (.node none (.node (some [e0, e59, e69, e79, e89, e109, e135]) (.node (some [e39]) .nil .nil) .nil) (.node none .nil (.node (some [e4, e138]) .nil .nil))))) (.node none (.node none (.node (some [e29]) (.node (some [e140, e142]) .nil .nil) (.node none (.node (some [e94, e144]) .nil .nil) .nil)) (.node (some [e44]) .nil (.node none .nil (.node (some [e20]) .nil .nil)))) (.node (some [e49]) (.node none (.node none (.node (some [e14]) .nil .nil) (.node (some [e19, e54, e64, e74, e84, e104, e133, e147]) .nil .nil)) (.node (some [e145]) (.node (some [e127, e137]) .nil .nil) (.node (some [e40]) .nil .nil))) (.node (some [e9]) (.node (some [e131, e141]) (.node (some [e10]) .nil .nil) .nil) (.node (some [e24]) .nil .nil)))))
theorem ents1_run : ents1.Every (RunL tb0 100) := ⟨ev1 (bk146 _), ⟨ev0, ⟨ev1 (bk34 _), ⟨ev0, ⟨ev0, ⟨ev1 (bk130 _), ⟨ev1 (bk125 _), trivial, trivial⟩, trivial⟩, trivial⟩, trivial⟩, ⟨ev0, ⟨ev0, ⟨ev1 (bk50 _), trivial, trivial⟩, trivial⟩, ⟨ev1 (bk99 _), trivial, ⟨ev1 (bk128 _), trivial, trivial⟩⟩⟩⟩, ⟨ev0, ⟨ev0, ⟨ev1 (bk129 _), trivial, trivial⟩, ⟨ev1 (bk30 _), ⟨ev1 (bk90 _), trivial, trivial⟩, ⟨ev1 (bk110 _), trivial, trivial⟩⟩⟩, ⟨ev0, ⟨ev1 (bk0 _), ⟨ev1 (bk39 _), trivial, trivial⟩, trivial⟩, ⟨ev0, trivial, ⟨ev1 (bk4 _), trivial, trivial⟩⟩⟩⟩⟩, ⟨ev0, ⟨ev0, ⟨ev1 (bk29 _), ⟨ev1 (bk140 _), trivial, trivial⟩, ⟨ev0, ⟨ev1 (bk94 _), trivial, trivial⟩, trivial⟩⟩, ⟨ev1 (bk44 _), trivial, ⟨ev0, trivial, ⟨ev1 (bk20 _), trivial, trivial⟩⟩⟩⟩, ⟨ev1 (bk49 _), ⟨ev0, ⟨ev0, ⟨ev1 (bk14 _), trivial, trivial⟩, ⟨ev1 (bk19 _), trivial, trivial⟩⟩, ⟨ev1 (bk145 _), ⟨ev1 (bk127 _), trivial, trivial⟩, ⟨ev1 (bk40 _), trivial, trivial⟩⟩⟩, ⟨ev1 (bk9 _), ⟨ev1 (bk131 _), ⟨ev1 (bk10 _), trivial, trivial⟩, trivial⟩, ⟨ev1 (bk24 _), trivial, trivial⟩⟩⟩⟩⟩
noncomputable def orc1 (f : FuncId) (args : List AV) (h : Heap) : Option (T (AV × Heap)) := entPT 64 ents1 f args h
theorem orc1_ok : ∀ f args h t, orc1 f args h = some t → CallOk pT f args h t := fun _ _ _ _ e => entPT_ok tabs0 ents1_run e
noncomputable def tb1 : Tabs := ⟨Sx.Tryd.ft.get, lFind Sx.Tryd.rt, 2000, orc1⟩
theorem tabs1 : TabOk pT Sx.Tryd.tt.get tb1 := Tryd.tab orc1 orc1_ok 2000
end Go.Sx
/-! CALLS, MADE: what is called, what it reads, what it hands back. -/
namespace Go.Sx
open Go.RowKit Go.Proofs
set_option maxRecDepth 100000
noncomputable def e1 : Ent := ⟨7, [(.agg [.nilslice, .nilslice, (li 0), (li 0), (li 0), (li 0), .nilslice]), .nilslice], 1000, [(0, .cells [(li 0), (li 2879), (li 0), (li 2), (li 0), (li 6)])], (.tup [(.bool (.lit false)), (li 100)]), [], []⟩
theorem e1_run : e1.run tb1 100 = true := by kernel_rfl
noncomputable def e2 : Ent := ⟨8, [(.agg [.nilslice, .nilslice, (li 0), (li 0), (li 0), (li 0), .nilslice])], 1000, [(0, .cells [(li 0), (li 2879), (li 0), (li 2), (li 0), (li 6)])], (.tup [(li 0), (li 100)]), [], []⟩
theorem e2_run : e2.run tb1 100 = true := by kernel_rfl
noncomputable def e3 : Ent := ⟨9, [(.agg [.nilslice, .nilslice, (li 0), (li 0), (li 0), (li 0), .nilslice])], 1000, [(0, .cells [(li 0), (li 2879), (li 0), (li 2), (li 0), (li 6)])], (.tup [.nilslice, (li 100)]), [], []⟩
theorem e3_run : e3.run tb1 100 = true := by kernel_rfl
noncomputable def e5 : Ent := ⟨10, [(.agg [.nilslice, .nilslice, (li 0), (li 0), (li 0), (li 0), .nilslice]), (li (-1))], 1000, [(0, .cells [(li 0), (li 2879), (li 0), (li 2), (li 0), (li 6)])], (.tup [.nilslice, .nilslice, (li 100)]), [], []⟩
theorem e5_run : e5.run tb1 100 = true := by kernel_rfl
noncomputable def e6 : Ent := ⟨11, [(.agg [.nilslice, .nilslice, (li 0), (li 0), (li 0), (li 0), .nilslice]), (li (-1))], 1000, [(0, .cells [(li 0), (li 2879), (li 0), (li 2), (li 0), (li 6)])], (.tup [(.agg [(li 0), (li 0)]), (li 100)]), [], []⟩
theorem e6_run : e6.run tb1 100 = true := by kernel_rfl
noncomputable def e7 : Ent := ⟨12, [(.agg [.nilslice, .nilslice, (li 0), (li 0), (li 0), (li 0), .nilslice])], 1000, [(0, .cells [(li 0), (li 2879), (li 0), (li 2), (li 0), (li 6)])], (.tup [.nilslice, (li 100)]), [], []⟩
theorem e7_run : e7.run tb1 100 = true := by kernel_rfl
noncomputable def e8 : Ent := ⟨13, [(.agg [.nilslice, .nilslice, (li 0), (li 0), (li 0), (li 0), .nilslice]), (li (-1))], 1000, [(0, .cells [(li 0), (li 2879), (li 0), (li 2), (li 0), (li 6)])], (.tup [(li 0), (li 100)]), [], []⟩
theorem e8_run : e8.run tb1 100 = true := by kernel_rfl
noncomputable def e11 : Ent := ⟨7, [(.agg [(.slice 1000 0 3 3), (.slice 1004 0 4 4), (li 61), (li 0), (li 480), (li 2), .nilslice]), .nilslice], 1009, [(0, .cells [(li 0), (li 2879), (li 0), (li 2), (li 0), (li 6)]), (1, .cells [(li 1), (li 6), (li 0), (li 6), (li 0), (li 60)])], (.tup [(.bool (.lit false)), (li 100)]), [], []⟩
theorem e11_run : e11.run tb1 100 = true := by kernel_rfl
noncomputable def e12 : Ent := ⟨8, [(.agg [(.slice 1000 0 3 3), (.slice 1004 0 4 4), (li 61), (li 0), (li 480), (li 2), .nilslice])], 1009, [(0, .cells [(li 0), (li 2879), (li 0), (li 2), (li 0), (li 6)]), (1, .cells [(li 1), (li 6), (li 0), (li 6), (li 0), (li 60)])], (.tup [(li 0), (li 100)]), [], []⟩
theorem e12_run : e12.run tb1 100 = true := by kernel_rfl
noncomputable def e13 : Ent := ⟨9, [(.agg [(.slice 1000 0 3 3), (.slice 1004 0 4 4), (li 61), (li 0), (li 480), (li 2), .nilslice])], 1009, [(0, .cells [(li 0), (li 2879), (li 0), (li 2), (li 0), (li 6)]), (1, .cells [(li 1), (li 6), (li 0), (li 6), (li 0), (li 60)])], (.tup [.nilslice, (li 100)]), [], []⟩
theorem e13_run : e13.run tb1 100 = true := by kernel_rfl
noncomputable def e15 : Ent := ⟨10, [(.agg [(.slice 1000 0 3 3), (.slice 1004 0 4 4), (li 61), (li 0), (li 480), (li 2), .nilslice]), (li (-1))], 1009, [(0, .cells [(li 0), (li 2879), (li 0), (li 2), (li 0), (li 6)]), (1, .cells [(li 1), (li 6), (li 0), (li 6), (li 0), (li 60)])], (.tup [.nilslice, .nilslice, (li 100)]), [], []⟩
theorem e15_run : e15.run tb1 100 = true := by kernel_rfl
noncomputable def e16 : Ent := ⟨11, [(.agg [(.slice 1000 0 3 3), (.slice 1004 0 4 4), (li 61), (li 0), (li 480), (li 2), .nilslice]), (li (-1))], 1009, [(0, .cells [(li 0), (li 2879), (li 0), (li 2), (li 0), (li 6)]), (1, .cells [(li 1), (li 6), (li 0), (li 6), (li 0), (li 60)])], (.tup [(.agg [(li 0), (li 0)]), (li 100)]), [], []⟩
theorem e16_run : e16.run tb1 100 = true := by kernel_rfl
noncomputable def e17 : Ent := ⟨12, [(.agg [(.slice 1000 0 3 3), (.slice 1004 0 4 4), (li 61), (li 0), (li 480), (li 2), .nilslice])], 1009, [(0, .cells [(li 0), (li 2879), (li 0), (li 2), (li 0), (li 6)]), (1, .cells [(li 1), (li 6), (li 0), (li 6), (li 0), (li 60)])], (.tup [.nilslice, (li 100)]), [], []⟩
theorem e17_run : e17.run tb1 100 = true := by kernel_rfl
noncomputable def e18 : Ent := ⟨13, [(.agg [(.slice 1000 0 3 3), (.slice 1004 0 4 4), (li 61), (li 0), (li 480), (li 2), .nilslice]), (li (-1))], 1009, [(0, .cells [(li 0), (li 2879), (li 0), (li 2), (li 0), (li 6)]), (1, .cells [(li 1), (li 6), (li 0), (li 6), (li 0), (li 60)])], (.tup [(li 0), (li 100)]), [], []⟩
theorem e18_run : e18.run tb1 100 = true := by kernel_rfl
noncomputable def e21 : Ent := ⟨7, [(.agg [(.slice 1000 0 3 3), (.slice 1004 0 4 4), (li 10), (li 3), (li 480), (li 2), .nilslice]), .nilslice], 1009, [(0, .cells [(li 0), (li 2879), (li 0), (li 2), (li 0), (li 6)])], (.tup [(.bool (.lit false)), (li 100)]), [], []⟩
theorem e21_run : e21.run tb1 100 = true := by kernel_rfl
noncomputable def e22 : Ent := ⟨8, [(.agg [(.slice 1000 0 3 3), (.slice 1004 0 4 4), (li 10), (li 3), (li 480), (li 2), .nilslice])], 1009, [(0, .cells [(li 0), (li 2879), (li 0), (li 2), (li 0), (li 6)])], (.tup [(li 0), (li 100)]), [], []⟩
theorem e22_run : e22.run tb1 100 = true := by kernel_rfl
noncomputable def e23 : Ent := ⟨9, [(.agg [(.slice 1000 0 3 3), (.slice 1004 0 4 4), (li 10), (li 3), (li 480), (li 2), .nilslice])], 1009, [(0, .cells [(li 0), (li 2879), (li 0), (li 2), (li 0), (li 6)])], (.tup [.nilslice, (li 100)]), [], []⟩
theorem e23_run : e23.run tb1 100 = true := by kernel_rfl
noncomputable def e25 : Ent := ⟨10, [(.agg [(.slice 1000 0 3 3), (.slice 1004 0 4 4), (li 10), (li 3), (li 480), (li 2), .nilslice]), (li (-1))], 1009, [(0, .cells [(li 0), (li 2879), (li 0), (li 2), (li 0), (li 6)])], (.tup [.nilslice, .nilslice, (li 100)]), [], []⟩
theorem e25_run : e25.run tb1 100 = true := by kernel_rfl
noncomputable def e26 : Ent := ⟨11, [(.agg [(.slice 1000 0 3 3), (.slice 1004 0 4 4), (li 10), (li 3), (li 480), (li 2), .nilslice]), (li (-1))], 1009, [(0, .cells [(li 0), (li 2879), (li 0), (li 2), (li 0), (li 6)])], (.tup [(.agg [(li 0), (li 0)]), (li 100)]), [], []⟩
theorem e26_run : e26.run tb1 100 = true := by kernel_rfl
noncomputable def e27 : Ent := ⟨12, [(.agg [(.slice 1000 0 3 3), (.slice 1004 0 4 4), (li 10), (li 3), (li 480), (li 2), .nilslice])], 1009, [(0, .cells [(li 0), (li 2879), (li 0), (li 2), (li 0), (li 6)])], (.tup [.nilslice, (li 100)]), [], []⟩
theorem e27_run : e27.run tb1 100 = true := by kernel_rfl
noncomputable def e28 : Ent := ⟨13, [(.agg [(.slice 1000 0 3 3), (.slice 1004 0 4 4), (li 10), (li 3), (li 480), (li 2), .nilslice]), (li (-1))], 1009, [(0, .cells [(li 0), (li 2879), (li 0), (li 2), (li 0), (li 6)])], (.tup [(li 0), (li 100)]), [], []⟩
theorem e28_run : e28.run tb1 100 = true := by kernel_rfl
noncomputable def e31 : Ent := ⟨7, [(.agg [(.slice 1000 0 3 3), (.slice 1004 0 4 4), (li 10), (li 0), (li 2880), (li 2), .nilslice]), .nilslice], 1009, [(0, .cells [(li 0), (li 2879), (li 0), (li 2), (li 0), (li 6)])], (.tup [(.bool (.lit false)), (li 100)]), [], []⟩
theorem e31_run : e31.run tb1 100 = true := by kernel_rfl
noncomputable def e32 : Ent := ⟨8, [(.agg [(.slice 1000 0 3 3), (.slice 1004 0 4 4), (li 10), (li 0), (li 2880), (li 2), .nilslice])], 1009, [(0, .cells [(li 0), (li 2879), (li 0), (li 2), (li 0), (li 6)])], (.tup [(li 0), (li 100)]), [], []⟩
theorem e32_run : e32.run tb1 100 = true := by kernel_rfl
noncomputable def e33 : Ent := ⟨9, [(.agg [(.slice 1000 0 3 3), (.slice 1004 0 4 4), (li 10), (li 0), (li 2880), (li 2), .nilslice])], 1009, [(0, .cells [(li 0), (li 2879), (li 0), (li 2), (li 0), (li 6)])], (.tup [.nilslice, (li 100)]), [], []⟩
theorem e33_run : e33.run tb1 100 = true := by kernel_rfl
noncomputable def e35 : Ent := ⟨10, [(.agg [(.slice 1000 0 3 3), (.slice 1004 0 4 4), (li 10), (li 0), (li 2880), (li 2), .nilslice]), (li (-1))], 1009, [(0, .cells [(li 0), (li 2879), (li 0), (li 2), (li 0), (li 6)])], (.tup [.nilslice, .nilslice, (li 100)]), [], []⟩
theorem e35_run : e35.run tb1 100 = true := by kernel_rfl
noncomputable def e36 : Ent := ⟨11, [(.agg [(.slice 1000 0 3 3), (.slice 1004 0 4 4), (li 10), (li 0), (li 2880), (li 2), .nilslice]), (li (-1))], 1009, [(0, .cells [(li 0), (li 2879), (li 0), (li 2), (li 0), (li 6)])], (.tup [(.agg [(li 0), (li 0)]), (li 100)]), [], []⟩
theorem e36_run : e36.run tb1 100 = true := by kernel_rfl
noncomputable def e37 : Ent := ⟨12, [(.agg [(.slice 1000 0 3 3), (.slice 1004 0 4 4), (li 10), (li 0), (li 2880), (li 2), .nilslice])], 1009, [(0, .cells [(li 0), (li 2879), (li 0), (li 2), (li 0), (li 6)])], (.tup [.nilslice, (li 100)]), [], []⟩
theorem e37_run : e37.run tb1 100 = true := by kernel_rfl
noncomputable def e38 : Ent := ⟨13, [(.agg [(.slice 1000 0 3 3), (.slice 1004 0 4 4), (li 10), (li 0), (li 2880), (li 2), .nilslice]), (li (-1))], 1009, [(0, .cells [(li 0), (li 2879), (li 0), (li 2), (li 0), (li 6)])], (.tup [(li 0), (li 100)]), [], []⟩
theorem e38_run : e38.run tb1 100 = true := by kernel_rfl
noncomputable def e41 : Ent := ⟨7, [(.agg [(.slice 1000 0 3 3), (.slice 1004 0 4 4), (li 10), (li 0), (li 480), (li 3), .nilslice]), .nilslice], 1009, [(0, .cells [(li 0), (li 2879), (li 0), (li 2), (li 0), (li 6)])], (.tup [(.bool (.lit false)), (li 100)]), [], []⟩
theorem e41_run : e41.run tb1 100 = true := by kernel_rfl
noncomputable def e42 : Ent := ⟨8, [(.agg [(.slice 1000 0 3 3), (.slice 1004 0 4 4), (li 10), (li 0), (li 480), (li 3), .nilslice])], 1009, [(0, .cells [(li 0), (li 2879), (li 0), (li 2), (li 0), (li 6)])], (.tup [(li 0), (li 100)]), [], []⟩
theorem e42_run : e42.run tb1 100 = true := by kernel_rfl
noncomputable def e43 : Ent := ⟨9, [(.agg [(.slice 1000 0 3 3), (.slice 1004 0 4 4), (li 10), (li 0), (li 480), (li 3), .nilslice])], 1009, [(0, .cells [(li 0), (li 2879), (li 0), (li 2), (li 0), (li 6)])], (.tup [.nilslice, (li 100)]), [], []⟩
theorem e43_run : e43.run tb1 100 = true := by kernel_rfl
noncomputable def e45 : Ent := ⟨10, [(.agg [(.slice 1000 0 3 3), (.slice 1004 0 4 4), (li 10), (li 0), (li 480), (li 3), .nilslice]), (li (-1))], 1009, [(0, .cells [(li 0), (li 2879), (li 0), (li 2), (li 0), (li 6)])], (.tup [.nilslice, .nilslice, (li 100)]), [], []⟩
theorem e45_run : e45.run tb1 100 = true := by kernel_rfl
noncomputable def e46 : Ent := ⟨11, [(.agg [(.slice 1000 0 3 3), (.slice 1004 0 4 4), (li 10), (li 0), (li 480), (li 3), .nilslice]), (li (-1))], 1009, [(0, .cells [(li 0), (li 2879), (li 0), (li 2), (li 0), (li 6)])], (.tup [(.agg [(li 0), (li 0)]), (li 100)]), [], []⟩
theorem e46_run : e46.run tb1 100 = true := by kernel_rfl
noncomputable def e47 : Ent := ⟨12, [(.agg [(.slice 1000 0 3 3), (.slice 1004 0 4 4), (li 10), (li 0), (li 480), (li 3), .nilslice])], 1009, [(0, .cells [(li 0), (li 2879), (li 0), (li 2), (li 0), (li 6)])], (.tup [.nilslice, (li 100)]), [], []⟩
theorem e47_run : e47.run tb1 100 = true := by kernel_rfl
noncomputable def e48 : Ent := ⟨13, [(.agg [(.slice 1000 0 3 3), (.slice 1004 0 4 4), (li 10), (li 0), (li 480), (li 3), .nilslice]), (li (-1))], 1009, [(0, .cells [(li 0), (li 2879), (li 0), (li 2), (li 0), (li 6)])], (.tup [(li 0), (li 100)]), [], []⟩
theorem e48_run : e48.run tb1 100 = true := by kernel_rfl
noncomputable def e51 : Ent := ⟨7, [(.agg [(.slice 1000 0 3 3), (.slice 1005 0 4 4), (li 10), (li 0), (li 480), (li 2), (.slice 1003 0 1 1)]), .nilslice], 1010, [(0, .cells [(li 0), (li 2879), (li 0), (li 2), (li 0), (li 6)]), (1003, .cells [(.bool (.lit false)), (li 3), (li 600), (.bool (.lit true))])], (.tup [(.bool (.lit false)), (li 100)]), [], []⟩
theorem e51_run : e51.run tb1 100 = true := by kernel_rfl
noncomputable def e52 : Ent := ⟨8, [(.agg [(.slice 1000 0 3 3), (.slice 1005 0 4 4), (li 10), (li 0), (li 480), (li 2), (.slice 1003 0 1 1)])], 1010, [(0, .cells [(li 0), (li 2879), (li 0), (li 2), (li 0), (li 6)]), (1003, .cells [(.bool (.lit false)), (li 3), (li 600), (.bool (.lit true))])], (.tup [(li 0), (li 100)]), [], []⟩
theorem e52_run : e52.run tb1 100 = true := by kernel_rfl
noncomputable def e53 : Ent := ⟨9, [(.agg [(.slice 1000 0 3 3), (.slice 1005 0 4 4), (li 10), (li 0), (li 480), (li 2), (.slice 1003 0 1 1)])], 1010, [(0, .cells [(li 0), (li 2879), (li 0), (li 2), (li 0), (li 6)]), (1003, .cells [(.bool (.lit false)), (li 3), (li 600), (.bool (.lit true))])], (.tup [.nilslice, (li 100)]), [], []⟩
theorem e53_run : e53.run tb1 100 = true := by kernel_rfl
noncomputable def e55 : Ent := ⟨10, [(.agg [(.slice 1000 0 3 3), (.slice 1005 0 4 4), (li 10), (li 0), (li 480), (li 2), (.slice 1003 0 1 1)]), (li (-1))], 1010, [(0, .cells [(li 0), (li 2879), (li 0), (li 2), (li 0), (li 6)]), (1003, .cells [(.bool (.lit false)), (li 3), (li 600), (.bool (.lit true))])], (.tup [.nilslice, .nilslice, (li 100)]), [], []⟩
theorem e55_run : e55.run tb1 100 = true := by kernel_rfl
noncomputable def e56 : Ent := ⟨11, [(.agg [(.slice 1000 0 3 3), (.slice 1005 0 4 4), (li 10), (li 0), (li 480), (li 2), (.slice 1003 0 1 1)]), (li (-1))], 1010, [(0, .cells [(li 0), (li 2879), (li 0), (li 2), (li 0), (li 6)]), (1003, .cells [(.bool (.lit false)), (li 3), (li 600), (.bool (.lit true))])], (.tup [(.agg [(li 0), (li 0)]), (li 100)]), [], []⟩
theorem e56_run : e56.run tb1 100 = true := by kernel_rfl
noncomputable def e57 : Ent := ⟨12, [(.agg [(.slice 1000 0 3 3), (.slice 1005 0 4 4), (li 10), (li 0), (li 480), (li 2), (.slice 1003 0 1 1)])], 1010, [(0, .cells [(li 0), (li 2879), (li 0), (li 2), (li 0), (li 6)]), (1003, .cells [(.bool (.lit false)), (li 3), (li 600), (.bool (.lit true))])], (.tup [.nilslice, (li 100)]), [], []⟩
theorem e57_run : e57.run tb1 100 = true := by kernel_rfl
noncomputable def e58 : Ent := ⟨13, [(.agg [(.slice 1000 0 3 3), (.slice 1005 0 4 4), (li 10), (li 0), (li 480), (li 2), (.slice 1003 0 1 1)]), (li (-1))], 1010, [(0, .cells [(li 0), (li 2879), (li 0), (li 2), (li 0), (li 6)]), (1003, .cells [(.bool (.lit false)), (li 3), (li 600), (.bool (.lit true))])], (.tup [(li 0), (li 100)]), [], []⟩
theorem e58_run : e58.run tb1 100 = true := by kernel_rfl
noncomputable def e61 : Ent := ⟨7, [(.agg [(.slice 1000 0 3 3), (.slice 1005 0 4 4), (li 10), (li 0), (li 480), (li 2), (.slice 1003 0 1 1)]), .nilslice], 1010, [(0, .cells [(li 0), (li 2879), (li 0), (li 2), (li 0), (li 6)]), (1003, .cells [(.bool (.lit true)), (li 4), (li 600), (.bool (.lit true))])], (.tup [(.bool (.lit false)), (li 100)]), [], []⟩
theorem e61_run : e61.run tb1 100 = true := by kernel_rfl
noncomputable def e62 : Ent := ⟨8, [(.agg [(.slice 1000 0 3 3), (.slice 1005 0 4 4), (li 10), (li 0), (li 480), (li 2), (.slice 1003 0 1 1)])], 1010, [(0, .cells [(li 0), (li 2879), (li 0), (li 2), (li 0), (li 6)]), (1003, .cells [(.bool (.lit true)), (li 4), (li 600), (.bool (.lit true))])], (.tup [(li 0), (li 100)]), [], []⟩
theorem e62_run : e62.run tb1 100 = true := by kernel_rfl
noncomputable def e63 : Ent := ⟨9, [(.agg [(.slice 1000 0 3 3), (.slice 1005 0 4 4), (li 10), (li 0), (li 480), (li 2), (.slice 1003 0 1 1)])], 1010, [(0, .cells [(li 0), (li 2879), (li 0), (li 2), (li 0), (li 6)]), (1003, .cells [(.bool (.lit true)), (li 4), (li 600), (.bool (.lit true))])], (.tup [.nilslice, (li 100)]), [], []⟩
theorem e63_run : e63.run tb1 100 = true := by kernel_rfl
noncomputable def e65 : Ent := ⟨10, [(.agg [(.slice 1000 0 3 3), (.slice 1005 0 4 4), (li 10), (li 0), (li 480), (li 2), (.slice 1003 0 1 1)]), (li (-1))], 1010, [(0, .cells [(li 0), (li 2879), (li 0), (li 2), (li 0), (li 6)]), (1003, .cells [(.bool (.lit true)), (li 4), (li 600), (.bool (.lit true))])], (.tup [.nilslice, .nilslice, (li 100)]), [], []⟩
theorem e65_run : e65.run tb1 100 = true := by kernel_rfl
noncomputable def e66 : Ent := ⟨11, [(.agg [(.slice 1000 0 3 3), (.slice 1005 0 4 4), (li 10), (li 0), (li 480), (li 2), (.slice 1003 0 1 1)]), (li (-1))], 1010, [(0, .cells [(li 0), (li 2879), (li 0), (li 2), (li 0), (li 6)]), (1003, .cells [(.bool (.lit true)), (li 4), (li 600), (.bool (.lit true))])], (.tup [(.agg [(li 0), (li 0)]), (li 100)]), [], []⟩
theorem e66_run : e66.run tb1 100 = true := by kernel_rfl
noncomputable def e67 : Ent := ⟨12, [(.agg [(.slice 1000 0 3 3), (.slice 1005 0 4 4), (li 10), (li 0), (li 480), (li 2), (.slice 1003 0 1 1)])], 1010, [(0, .cells [(li 0), (li 2879), (li 0), (li 2), (li 0), (li 6)]), (1003, .cells [(.bool (.lit true)), (li 4), (li 600), (.bool (.lit true))])], (.tup [.nilslice, (li 100)]), [], []⟩
theorem e67_run : e67.run tb1 100 = true := by kernel_rfl
noncomputable def e68 : Ent := ⟨13, [(.agg [(.slice 1000 0 3 3), (.slice 1005 0 4 4), (li 10), (li 0), (li 480), (li 2), (.slice 1003 0 1 1)]), (li (-1))], 1010, [(0, .cells [(li 0), (li 2879), (li 0), (li 2), (li 0), (li 6)]), (1003, .cells [(.bool (.lit true)), (li 4), (li 600), (.bool (.lit true))])], (.tup [(li 0), (li 100)]), [], []⟩
theorem e68_run : e68.run tb1 100 = true := by kernel_rfl
noncomputable def e71 : Ent := ⟨7, [(.agg [(.slice 1000 0 3 3), (.slice 1005 0 4 4), (li 10), (li 0), (li 480), (li 2), (.slice 1003 0 1 1)]), .nilslice], 1010, [(0, .cells [(li 0), (li 2879), (li 0), (li 2), (li 0), (li 6)]), (1003, .cells [(.bool (.lit false)), (li 0), (li 479), (.bool (.lit true))])], (.tup [(.bool (.lit false)), (li 100)]), [], []⟩
theorem e71_run : e71.run tb1 100 = true := by kernel_rfl
noncomputable def e72 : Ent := ⟨8, [(.agg [(.slice 1000 0 3 3), (.slice 1005 0 4 4), (li 10), (li 0), (li 480), (li 2), (.slice 1003 0 1 1)])], 1010, [(0, .cells [(li 0), (li 2879), (li 0), (li 2), (li 0), (li 6)]), (1003, .cells [(.bool (.lit false)), (li 0), (li 479), (.bool (.lit true))])], (.tup [(li 0), (li 100)]), [], []⟩
theorem e72_run : e72.run tb1 100 = true := by kernel_rfl
noncomputable def e73 : Ent := ⟨9, [(.agg [(.slice 1000 0 3 3), (.slice 1005 0 4 4), (li 10), (li 0), (li 480), (li 2), (.slice 1003 0 1 1)])], 1010, [(0, .cells [(li 0), (li 2879), (li 0), (li 2), (li 0), (li 6)]), (1003, .cells [(.bool (.lit false)), (li 0), (li 479), (.bool (.lit true))])], (.tup [.nilslice, (li 100)]), [], []⟩
theorem e73_run : e73.run tb1 100 = true := by kernel_rfl
noncomputable def e75 : Ent := ⟨10, [(.agg [(.slice 1000 0 3 3), (.slice 1005 0 4 4), (li 10), (li 0), (li 480), (li 2), (.slice 1003 0 1 1)]), (li (-1))], 1010, [(0, .cells [(li 0), (li 2879), (li 0), (li 2), (li 0), (li 6)]), (1003, .cells [(.bool (.lit false)), (li 0), (li 479), (.bool (.lit true))])], (.tup [.nilslice, .nilslice, (li 100)]), [], []⟩
theorem e75_run : e75.run tb1 100 = true := by kernel_rfl
noncomputable def e76 : Ent := ⟨11, [(.agg [(.slice 1000 0 3 3), (.slice 1005 0 4 4), (li 10), (li 0), (li 480), (li 2), (.slice 1003 0 1 1)]), (li (-1))], 1010, [(0, .cells [(li 0), (li 2879), (li 0), (li 2), (li 0), (li 6)]), (1003, .cells [(.bool (.lit false)), (li 0), (li 479), (.bool (.lit true))])], (.tup [(.agg [(li 0), (li 0)]), (li 100)]), [], []⟩
theorem e76_run : e76.run tb1 100 = true := by kernel_rfl
noncomputable def e77 : Ent := ⟨12, [(.agg [(.slice 1000 0 3 3), (.slice 1005 0 4 4), (li 10), (li 0), (li 480), (li 2), (.slice 1003 0 1 1)])], 1010, [(0, .cells [(li 0), (li 2879), (li 0), (li 2), (li 0), (li 6)]), (1003, .cells [(.bool (.lit false)), (li 0), (li 479), (.bool (.lit true))])], (.tup [.nilslice, (li 100)]), [], []⟩
theorem e77_run : e77.run tb1 100 = true := by kernel_rfl
noncomputable def e78 : Ent := ⟨13, [(.agg [(.slice 1000 0 3 3), (.slice 1005 0 4 4), (li 10), (li 0), (li 480), (li 2), (.slice 1003 0 1 1)]), (li (-1))], 1010, [(0, .cells [(li 0), (li 2879), (li 0), (li 2), (li 0), (li 6)]), (1003, .cells [(.bool (.lit false)), (li 0), (li 479), (.bool (.lit true))])], (.tup [(li 0), (li 100)]), [], []⟩
theorem e78_run : e78.run tb1 100 = true := by kernel_rfl
noncomputable def e81 : Ent := ⟨7, [(.agg [(.slice 1000 0 3 3), (.slice 1005 0 4 4), (li 10), (li 0), (li 480), (li 2), (.slice 1003 0 1 1)]), .nilslice], 1010, [(0, .cells [(li 0), (li 2879), (li 0), (li 2), (li 0), (li 6)]), (1003, .cells [(.bool (.lit true)), (li 0), (li 3000), (.bool (.lit true))])], (.tup [(.bool (.lit false)), (li 100)]), [], []⟩
theorem e81_run : e81.run tb1 100 = true := by kernel_rfl
noncomputable def e82 : Ent := ⟨8, [(.agg [(.slice 1000 0 3 3), (.slice 1005 0 4 4), (li 10), (li 0), (li 480), (li 2), (.slice 1003 0 1 1)])], 1010, [(0, .cells [(li 0), (li 2879), (li 0), (li 2), (li 0), (li 6)]), (1003, .cells [(.bool (.lit true)), (li 0), (li 3000), (.bool (.lit true))])], (.tup [(li 0), (li 100)]), [], []⟩
theorem e82_run : e82.run tb1 100 = true := by kernel_rfl
noncomputable def e83 : Ent := ⟨9, [(.agg [(.slice 1000 0 3 3), (.slice 1005 0 4 4), (li 10), (li 0), (li 480), (li 2), (.slice 1003 0 1 1)])], 1010, [(0, .cells [(li 0), (li 2879), (li 0), (li 2), (li 0), (li 6)]), (1003, .cells [(.bool (.lit true)), (li 0), (li 3000), (.bool (.lit true))])], (.tup [.nilslice, (li 100)]), [], []⟩
theorem e83_run : e83.run tb1 100 = true := by kernel_rfl
noncomputable def e85 : Ent := ⟨10, [(.agg [(.slice 1000 0 3 3), (.slice 1005 0 4 4), (li 10), (li 0), (li 480), (li 2), (.slice 1003 0 1 1)]), (li (-1))], 1010, [(0, .cells [(li 0), (li 2879), (li 0), (li 2), (li 0), (li 6)]), (1003, .cells [(.bool (.lit true)), (li 0), (li 3000), (.bool (.lit true))])], (.tup [.nilslice, .nilslice, (li 100)]), [], []⟩
theorem e85_run : e85.run tb1 100 = true := by kernel_rfl
noncomputable def e86 : Ent := ⟨11, [(.agg [(.slice 1000 0 3 3), (.slice 1005 0 4 4), (li 10), (li 0), (li 480), (li 2), (.slice 1003 0 1 1)]), (li (-1))], 1010, [(0, .cells [(li 0), (li 2879), (li 0), (li 2), (li 0), (li 6)]), (1003, .cells [(.bool (.lit true)), (li 0), (li 3000), (.bool (.lit true))])], (.tup [(.agg [(li 0), (li 0)]), (li 100)]), [], []⟩
theorem e86_run : e86.run tb1 100 = true := by kernel_rfl
noncomputable def e87 : Ent := ⟨12, [(.agg [(.slice 1000 0 3 3), (.slice 1005 0 4 4), (li 10), (li 0), (li 480), (li 2), (.slice 1003 0 1 1)])], 1010, [(0, .cells [(li 0), (li 2879), (li 0), (li 2), (li 0), (li 6)]), (1003, .cells [(.bool (.lit true)), (li 0), (li 3000), (.bool (.lit true))])], (.tup [.nilslice, (li 100)]), [], []⟩
theorem e87_run : e87.run tb1 100 = true := by kernel_rfl
noncomputable def e88 : Ent := ⟨13, [(.agg [(.slice 1000 0 3 3), (.slice 1005 0 4 4), (li 10), (li 0), (li 480), (li 2), (.slice 1003 0 1 1)]), (li (-1))], 1010, [(0, .cells [(li 0), (li 2879), (li 0), (li 2), (li 0), (li 6)]), (1003, .cells [(.bool (.lit true)), (li 0), (li 3000), (.bool (.lit true))])], (.tup [(li 0), (li 100)]), [], []⟩
theorem e88_run : e88.run tb1 100 = true := by kernel_rfl
noncomputable def e91 : Ent := ⟨7, [(.agg [(.slice 1000 0 3 3), (.slice 1004 0 4 4), (li 10), (li 0), (li 480), (li 2), (.slice 1009 0 7 7)]), .nilslice], 1010, [(0, .cells [(li 0), (li 2879), (li 0), (li 2), (li 0), (li 6)])], (.tup [(.bool (.lit false)), (li 100)]), [], []⟩
theorem e91_run : e91.run tb1 100 = true := by kernel_rfl
noncomputable def e92 : Ent := ⟨8, [(.agg [(.slice 1000 0 3 3), (.slice 1004 0 4 4), (li 10), (li 0), (li 480), (li 2), (.slice 1009 0 7 7)])], 1010, [(0, .cells [(li 0), (li 2879), (li 0), (li 2), (li 0), (li 6)])], (.tup [(li 0), (li 100)]), [], []⟩
theorem e92_run : e92.run tb1 100 = true := by kernel_rfl
noncomputable def e93 : Ent := ⟨9, [(.agg [(.slice 1000 0 3 3), (.slice 1004 0 4 4), (li 10), (li 0), (li 480), (li 2), (.slice 1009 0 7 7)])], 1010, [(0, .cells [(li 0), (li 2879), (li 0), (li 2), (li 0), (li 6)])], (.tup [.nilslice, (li 100)]), [], []⟩
theorem e93_run : e93.run tb1 100 = true := by kernel_rfl
noncomputable def e95 : Ent := ⟨10, [(.agg [(.slice 1000 0 3 3), (.slice 1004 0 4 4), (li 10), (li 0), (li 480), (li 2), (.slice 1009 0 7 7)]), (li (-1))], 1010, [(0, .cells [(li 0), (li 2879), (li 0), (li 2), (li 0), (li 6)])], (.tup [.nilslice, .nilslice, (li 100)]), [], []⟩
theorem e95_run : e95.run tb1 100 = true := by kernel_rfl
noncomputable def e96 : Ent := ⟨11, [(.agg [(.slice 1000 0 3 3), (.slice 1004 0 4 4), (li 10), (li 0), (li 480), (li 2), (.slice 1009 0 7 7)]), (li (-1))], 1010, [(0, .cells [(li 0), (li 2879), (li 0), (li 2), (li 0), (li 6)])], (.tup [(.agg [(li 0), (li 0)]), (li 100)]), [], []⟩
theorem e96_run : e96.run tb1 100 = true := by kernel_rfl
noncomputable def e97 : Ent := ⟨12, [(.agg [(.slice 1000 0 3 3), (.slice 1004 0 4 4), (li 10), (li 0), (li 480), (li 2), (.slice 1009 0 7 7)])], 1010, [(0, .cells [(li 0), (li 2879), (li 0), (li 2), (li 0), (li 6)])], (.tup [.nilslice, (li 100)]), [], []⟩
theorem e97_run : e97.run tb1 100 = true := by kernel_rfl
noncomputable def e98 : Ent := ⟨13, [(.agg [(.slice 1000 0 3 3), (.slice 1004 0 4 4), (li 10), (li 0), (li 480), (li 2), (.slice 1009 0 7 7)]), (li (-1))], 1010, [(0, .cells [(li 0), (li 2879), (li 0), (li 2), (li 0), (li 6)])], (.tup [(li 0), (li 100)]), [], []⟩
theorem e98_run : e98.run tb1 100 = true := by kernel_rfl
noncomputable def e101 : Ent := ⟨7, [(.agg [(.slice 1000 0 3 3), (.slice 1005 0 4 4), (li 10), (li 0), (li 480), (li 2), (.slice 1003 0 1 1)]), .nilslice], 1010, [(0, .cells [(li 0), (li 2879), (li 0), (li 2), (li 0), (li 6)]), (1003, .cells [(.bool (.lit true)), (li (-1)), (li 600), (.bool (.lit true))])], (.tup [(.bool (.lit false)), (li 100)]), [], []⟩
theorem e101_run : e101.run tb1 100 = true := by kernel_rfl
noncomputable def e102 : Ent := ⟨8, [(.agg [(.slice 1000 0 3 3), (.slice 1005 0 4 4), (li 10), (li 0), (li 480), (li 2), (.slice 1003 0 1 1)])], 1010, [(0, .cells [(li 0), (li 2879), (li 0), (li 2), (li 0), (li 6)]), (1003, .cells [(.bool (.lit true)), (li (-1)), (li 600), (.bool (.lit true))])], (.tup [(li 0), (li 100)]), [], []⟩
theorem e102_run : e102.run tb1 100 = true := by kernel_rfl
noncomputable def e103 : Ent := ⟨9, [(.agg [(.slice 1000 0 3 3), (.slice 1005 0 4 4), (li 10), (li 0), (li 480), (li 2), (.slice 1003 0 1 1)])], 1010, [(0, .cells [(li 0), (li 2879), (li 0), (li 2), (li 0), (li 6)]), (1003, .cells [(.bool (.lit true)), (li (-1)), (li 600), (.bool (.lit true))])], (.tup [.nilslice, (li 100)]), [], []⟩
theorem e103_run : e103.run tb1 100 = true := by kernel_rfl
noncomputable def e105 : Ent := ⟨10, [(.agg [(.slice 1000 0 3 3), (.slice 1005 0 4 4), (li 10), (li 0), (li 480), (li 2), (.slice 1003 0 1 1)]), (li (-1))], 1010, [(0, .cells [(li 0), (li 2879), (li 0), (li 2), (li 0), (li 6)]), (1003, .cells [(.bool (.lit true)), (li (-1)), (li 600), (.bool (.lit true))])], (.tup [.nilslice, .nilslice, (li 100)]), [], []⟩
theorem e105_run : e105.run tb1 100 = true := by kernel_rfl
noncomputable def e106 : Ent := ⟨11, [(.agg [(.slice 1000 0 3 3), (.slice 1005 0 4 4), (li 10), (li 0), (li 480), (li 2), (.slice 1003 0 1 1)]), (li (-1))], 1010, [(0, .cells [(li 0), (li 2879), (li 0), (li 2), (li 0), (li 6)]), (1003, .cells [(.bool (.lit true)), (li (-1)), (li 600), (.bool (.lit true))])], (.tup [(.agg [(li 0), (li 0)]), (li 100)]), [], []⟩
theorem e106_run : e106.run tb1 100 = true := by kernel_rfl
noncomputable def e107 : Ent := ⟨12, [(.agg [(.slice 1000 0 3 3), (.slice 1005 0 4 4), (li 10), (li 0), (li 480), (li 2), (.slice 1003 0 1 1)])], 1010, [(0, .cells [(li 0), (li 2879), (li 0), (li 2), (li 0), (li 6)]), (1003, .cells [(.bool (.lit true)), (li (-1)), (li 600), (.bool (.lit true))])], (.tup [.nilslice, (li 100)]), [], []⟩
theorem e107_run : e107.run tb1 100 = true := by kernel_rfl
noncomputable def e108 : Ent := ⟨13, [(.agg [(.slice 1000 0 3 3), (.slice 1005 0 4 4), (li 10), (li 0), (li 480), (li 2), (.slice 1003 0 1 1)]), (li (-1))], 1010, [(0, .cells [(li 0), (li 2879), (li 0), (li 2), (li 0), (li 6)]), (1003, .cells [(.bool (.lit true)), (li (-1)), (li 600), (.bool (.lit true))])], (.tup [(li 0), (li 100)]), [], []⟩
theorem e108_run : e108.run tb1 100 = true := by kernel_rfl
noncomputable def e111 : Ent := ⟨7, [(.agg [(.slice 1000 0 3 3), (.slice 1005 0 4 4), (li 10), (li 0), (li 480), (li 2), .nilslice]), (.slice 1003 0 1 1)], 1010, [(0, .cells [(li 0), (li 2879), (li 0), (li 2), (li 0), (li 6)]), (1, .cells [(li 1), (li 6), (li 0), (li 6), (li 0), (li 60)]), (2, .cells [(li 2), (li 5), (li 0), (li 90), (li 0), (li 90)]), (1000, .cells [(.slice 1001 0 1 1), (.slice 1004 0 2 2), (.slice 1002 0 1 1)]), (1001, .cells [(li 480), (li 1200)]), (1002, .cells [(li 420), (li 1320)]), (1003, .cells [(li 1), (li 0), (li 1)]), (1004, .cells [(li 480), (li 720), (li 780), (li 1140)]), (1005, .cells cl1), (1006, .cells [(li 1), (li 590), (li 600), (li 2), (li 650), (li 650)]), (1007, .cells [(li 0), (li 700), (li 700), (li 2), (li 800), (li 800)]), (1008, .cells [(li 0), (li 690), (li 690), (li 1), (li 705), (li 710)]), (1009, .cells [(li 0), (li 500), (li 500), (li 1), (li 560), (li 565), (li 2), (li 640), (li 640)])], (.tup [(.bool (.lit false)), (li 101)]), [], []⟩
theorem e111_run : e111.run tb1 100 = true := by kernel_rfl
noncomputable def e112 : Ent := ⟨7, [(.agg [(.slice 1000 0 3 3), (.slice 1005 0 4 4), (li 10), (li 0), (li 480), (li 2), .nilslice]), (.slice 1003 0 1 1)], 1010, [(0, .cells [(li 0), (li 2879), (li 0), (li 2), (li 0), (li 6)]), (1, .cells [(li 1), (li 6), (li 0), (li 6), (li 0), (li 60)]), (2, .cells [(li 2), (li 5), (li 0), (li 90), (li 0), (li 90)]), (1000, .cells [(.slice 1001 0 1 1), (.slice 1004 0 2 2), (.slice 1002 0 1 1)]), (1001, .cells [(li 480), (li 1200)]), (1002, .cells [(li 420), (li 1320)]), (1003, .cells [(li 4), (li 0), (li 1)]), (1004, .cells [(li 480), (li 720), (li 780), (li 1140)]), (1005, .cells cl1), (1006, .cells [(li 1), (li 590), (li 600), (li 2), (li 650), (li 650)]), (1007, .cells [(li 0), (li 700), (li 700), (li 2), (li 800), (li 800)]), (1008, .cells [(li 0), (li 690), (li 690), (li 1), (li 705), (li 710)]), (1009, .cells [(li 0), (li 500), (li 500), (li 1), (li 560), (li 565), (li 2), (li 640), (li 640)])], (.tup [(.bool (.lit false)), (li 101)]), [], []⟩
theorem e112_run : e112.run tb1 100 = true := by kernel_rfl
noncomputable def e113 : Ent := ⟨7, [(.agg [(.slice 1000 0 3 3), (.slice 1005 0 4 4), (li 10), (li 0), (li 480), (li 2), .nilslice]), (.slice 1003 0 1 1)], 1010, [(0, .cells [(li 0), (li 2879), (li 0), (li 2), (li 0), (li 6)]), (1, .cells [(li 1), (li 6), (li 0), (li 6), (li 0), (li 60)]), (2, .cells [(li 2), (li 5), (li 0), (li 90), (li 0), (li 90)]), (1000, .cells [(.slice 1001 0 1 1), (.slice 1004 0 2 2), (.slice 1002 0 1 1)]), (1001, .cells [(li 480), (li 1200)]), (1002, .cells [(li 420), (li 1320)]), (1003, .cells [(li (-1)), (li 0), (li 1)]), (1004, .cells [(li 480), (li 720), (li 780), (li 1140)]), (1005, .cells cl1), (1006, .cells [(li 1), (li 590), (li 600), (li 2), (li 650), (li 650)]), (1007, .cells [(li 0), (li 700), (li 700), (li 2), (li 800), (li 800)]), (1008, .cells [(li 0), (li 690), (li 690), (li 1), (li 705), (li 710)]), (1009, .cells [(li 0), (li 500), (li 500), (li 1), (li 560), (li 565), (li 2), (li 640), (li 640)])], (.tup [(.bool (.lit false)), (li 101)]), [], []⟩
theorem e113_run : e113.run tb1 100 = true := by kernel_rfl
noncomputable def e114 : Ent := ⟨7, [(.agg [(.slice 1000 0 3 3), (.slice 1005 0 4 4), (li 10), (li 0), (li 480), (li 2), .nilslice]), (.slice 1003 0 1 1)], 1010, [(0, .cells [(li 0), (li 2879), (li 0), (li 2), (li 0), (li 6)]), (1, .cells [(li 1), (li 6), (li 0), (li 6), (li 0), (li 60)]), (2, .cells [(li 2), (li 5), (li 0), (li 90), (li 0), (li 90)]), (1000, .cells [(.slice 1001 0 1 1), (.slice 1004 0 2 2), (.slice 1002 0 1 1)]), (1001, .cells [(li 480), (li 1200)]), (1002, .cells [(li 420), (li 1320)]), (1003, .cells [(li 0), (li 0), (li 0)]), (1004, .cells [(li 480), (li 720), (li 780), (li 1140)]), (1005, .cells cl1), (1006, .cells [(li 1), (li 590), (li 600), (li 2), (li 650), (li 650)]), (1007, .cells [(li 0), (li 700), (li 700), (li 2), (li 800), (li 800)]), (1008, .cells [(li 0), (li 690), (li 690), (li 1), (li 705), (li 710)]), (1009, .cells [(li 0), (li 500), (li 500), (li 1), (li 560), (li 565), (li 2), (li 640), (li 640)])], (.tup [(.bool (.lit false)), (li 101)]), [], []⟩
theorem e114_run : e114.run tb1 100 = true := by kernel_rfl
noncomputable def e115 : Ent := ⟨7, [(.agg [(.slice 1000 0 3 3), (.slice 1005 0 4 4), (li 10), (li 0), (li 480), (li 2), .nilslice]), (.slice 1003 0 1 1)], 1010, [(0, .cells [(li 0), (li 2879), (li 0), (li 2), (li 0), (li 6)]), (1, .cells [(li 1), (li 6), (li 0), (li 6), (li 0), (li 60)]), (2, .cells [(li 2), (li 5), (li 0), (li 90), (li 0), (li 90)]), (1000, .cells [(.slice 1001 0 1 1), (.slice 1004 0 2 2), (.slice 1002 0 1 1)]), (1001, .cells [(li 480), (li 1200)]), (1002, .cells [(li 420), (li 1320)]), (1003, .cells [(li 0), (li 2), (li 1)]), (1004, .cells [(li 480), (li 720), (li 780), (li 1140)]), (1005, .cells cl1), (1006, .cells [(li 1), (li 590), (li 600), (li 2), (li 650), (li 650)]), (1007, .cells [(li 0), (li 700), (li 700), (li 2), (li 800), (li 800)]), (1008, .cells [(li 0), (li 690), (li 690), (li 1), (li 705), (li 710)]), (1009, .cells [(li 0), (li 500), (li 500), (li 1), (li 560), (li 565), (li 2), (li 640), (li 640)])], (.tup [(.bool (.lit false)), (li 101)]), [], []⟩
theorem e115_run : e115.run tb1 100 = true := by kernel_rfl
noncomputable def e116 : Ent := ⟨7, [(.agg [(.slice 1000 0 3 3), (.slice 1005 0 4 4), (li 10), (li 0), (li 480), (li 2), .nilslice]), (.slice 1003 0 1 1)], 1010, [(0, .cells [(li 0), (li 2879), (li 0), (li 2), (li 0), (li 6)]), (1, .cells [(li 1), (li 6), (li 0), (li 6), (li 0), (li 60)]), (2, .cells [(li 2), (li 5), (li 0), (li 90), (li 0), (li 90)]), (1000, .cells [(.slice 1001 0 1 1), (.slice 1004 0 2 2), (.slice 1002 0 1 1)]), (1001, .cells [(li 480), (li 1200)]), (1002, .cells [(li 420), (li 1320)]), (1003, .cells [(li 0), (li 0), (li 3)]), (1004, .cells [(li 480), (li 720), (li 780), (li 1140)]), (1005, .cells cl1), (1006, .cells [(li 1), (li 590), (li 600), (li 2), (li 650), (li 650)]), (1007, .cells [(li 0), (li 700), (li 700), (li 2), (li 800), (li 800)]), (1008, .cells [(li 0), (li 690), (li 690), (li 1), (li 705), (li 710)]), (1009, .cells [(li 0), (li 500), (li 500), (li 1), (li 560), (li 565), (li 2), (li 640), (li 640)])], (.tup [(.bool (.lit false)), (li 101)]), [], []⟩
theorem e116_run : e116.run tb1 100 = true := by kernel_rfl
noncomputable def e117 : Ent := ⟨7, [(.agg [(.slice 1000 0 3 3), (.slice 1005 0 4 4), (li 10), (li 0), (li 480), (li 2), .nilslice]), (.slice 1003 0 1 1)], 1010, [(0, .cells [(li 0), (li 2879), (li 0), (li 2), (li 0), (li 6)]), (1, .cells [(li 1), (li 6), (li 0), (li 6), (li 0), (li 60)]), (2, .cells [(li 2), (li 5), (li 0), (li 90), (li 0), (li 90)]), (1000, .cells [(.slice 1001 0 1 1), (.slice 1004 0 2 2), (.slice 1002 0 1 1)]), (1001, .cells [(li 480), (li 1200)]), (1002, .cells [(li 420), (li 1320)]), (1003, .cells [(li 0), (li (-1)), (li 1)]), (1004, .cells [(li 480), (li 720), (li 780), (li 1140)]), (1005, .cells cl1), (1006, .cells [(li 1), (li 590), (li 600), (li 2), (li 650), (li 650)]), (1007, .cells [(li 0), (li 700), (li 700), (li 2), (li 800), (li 800)]), (1008, .cells [(li 0), (li 690), (li 690), (li 1), (li 705), (li 710)]), (1009, .cells [(li 0), (li 500), (li 500), (li 1), (li 560), (li 565), (li 2), (li 640), (li 640)])], (.tup [(.bool (.lit false)), (li 101)]), [], []⟩
theorem e117_run : e117.run tb1 100 = true := by kernel_rfl
noncomputable def e118 : Ent := ⟨7, [(.agg [(.slice 1000 0 3 3), (.slice 1005 0 4 4), (li 10), (li 0), (li 480), (li 2), .nilslice]), (.slice 1004 0 2 2)], 1010, [(0, .cells [(li 0), (li 2879), (li 0), (li 2), (li 0), (li 6)]), (1, .cells [(li 1), (li 6), (li 0), (li 6), (li 0), (li 60)]), (2, .cells [(li 2), (li 5), (li 0), (li 90), (li 0), (li 90)]), (1000, .cells [(.slice 1001 0 1 1), (.slice 1003 0 2 2), (.slice 1002 0 1 1)]), (1001, .cells [(li 480), (li 1200)]), (1002, .cells [(li 420), (li 1320)]), (1003, .cells [(li 480), (li 720), (li 780), (li 1140)]), (1004, .cells [(li 0), (li 0), (li 1), (li 0), (li 1), (li 2)]), (1005, .cells cl1), (1006, .cells [(li 1), (li 590), (li 600), (li 2), (li 650), (li 650)]), (1007, .cells [(li 0), (li 700), (li 700), (li 2), (li 800), (li 800)]), (1008, .cells [(li 0), (li 690), (li 690), (li 1), (li 705), (li 710)]), (1009, .cells [(li 0), (li 500), (li 500), (li 1), (li 560), (li 565), (li 2), (li 640), (li 640)])], (.tup [(.bool (.lit false)), (li 101)]), [], []⟩
theorem e118_run : e118.run tb1 100 = true := by kernel_rfl
noncomputable def e119 : Ent := ⟨7, [(.agg [(.slice 1000 0 3 3), (.slice 1005 0 4 4), (li 10), (li 0), (li 480), (li 2), .nilslice]), (.slice 1004 0 2 2)], 1010, [(0, .cells [(li 0), (li 2879), (li 0), (li 2), (li 0), (li 6)]), (1, .cells [(li 1), (li 6), (li 0), (li 6), (li 0), (li 60)]), (2, .cells [(li 2), (li 5), (li 0), (li 90), (li 0), (li 90)]), (1000, .cells [(.slice 1001 0 1 1), (.slice 1003 0 2 2), (.slice 1002 0 1 1)]), (1001, .cells [(li 480), (li 1200)]), (1002, .cells [(li 420), (li 1320)]), (1003, .cells [(li 480), (li 720), (li 780), (li 1140)]), (1004, .cells [(li 0), (li 0), (li 2), (li 1), (li 0), (li 1)]), (1005, .cells cl1), (1006, .cells [(li 1), (li 590), (li 600), (li 2), (li 650), (li 650)]), (1007, .cells [(li 0), (li 700), (li 700), (li 2), (li 800), (li 800)]), (1008, .cells [(li 0), (li 690), (li 690), (li 1), (li 705), (li 710)]), (1009, .cells [(li 0), (li 500), (li 500), (li 1), (li 560), (li 565), (li 2), (li 640), (li 640)])], (.tup [(.bool (.lit false)), (li 101)]), [], []⟩
theorem e119_run : e119.run tb1 100 = true := by kernel_rfl
noncomputable def e120 : Ent := ⟨7, [(.agg [(.slice 1000 0 3 3), (.slice 1005 0 4 4), (li 10), (li 0), (li 480), (li 2), .nilslice]), (.slice 1004 0 3 3)], 1010, [(0, .cells [(li 0), (li 2879), (li 0), (li 2), (li 0), (li 6)]), (1, .cells [(li 1), (li 6), (li 0), (li 6), (li 0), (li 60)]), (2, .cells [(li 2), (li 5), (li 0), (li 90), (li 0), (li 90)]), (1000, .cells [(.slice 1001 0 1 1), (.slice 1003 0 2 2), (.slice 1002 0 1 1)]), (1001, .cells [(li 480), (li 1200)]), (1002, .cells [(li 420), (li 1320)]), (1003, .cells [(li 480), (li 720), (li 780), (li 1140)]), (1005, .cells cl1), (1006, .cells [(li 1), (li 590), (li 600), (li 2), (li 650), (li 650)]), (1007, .cells [(li 0), (li 700), (li 700), (li 2), (li 800), (li 800)]), (1008, .cells [(li 0), (li 690), (li 690), (li 1), (li 705), (li 710)]), (1009, .cells [(li 0), (li 500), (li 500), (li 1), (li 560), (li 565), (li 2), (li 640), (li 640)])], (.tup [(.bool (.lit false)), (li 101)]), [], []⟩
theorem e120_run : e120.run tb1 100 = true := by kernel_rfl
noncomputable def e122 : Ent := ⟨10, [(.agg [(.slice 1000 0 3 3), (.slice 1005 0 4 4), (li 10), (li 0), (li 480), (li 2), (.slice 1004 0 2 2)]), (li 479)], 1010, [(0, .cells [(li 0), (li 2879), (li 0), (li 2), (li 0), (li 6)]), (1, .cells [(li 1), (li 6), (li 0), (li 6), (li 0), (li 60)]), (2, .cells [(li 2), (li 5), (li 0), (li 90), (li 0), (li 90)]), (1000, .cells [(.slice 1001 0 1 1), (.slice 1003 0 2 2), (.slice 1002 0 1 1)]), (1001, .cells [(li 480), (li 1200)]), (1002, .cells [(li 420), (li 1320)]), (1003, .cells [(li 480), (li 720), (li 780), (li 1140)]), (1004, .cells cl3), (1005, .cells cl1), (1006, .cells [(li 1), (li 590), (li 600), (li 2), (li 650), (li 650)]), (1007, .cells [(li 0), (li 700), (li 700), (li 2), (li 800), (li 800)]), (1008, .cells [(li 0), (li 690), (li 690), (li 1), (li 705), (li 710)]), (1009, .cells [(li 0), (li 500), (li 500), (li 1), (li 560), (li 565), (li 2), (li 640), (li 640)])], (.tup [.nilslice, .nilslice, (li 101)]), [], []⟩
theorem e122_run : e122.run tb1 100 = true := by kernel_rfl
noncomputable def e124 : Ent := ⟨10, [(.agg [(.slice 1000 0 3 3), (.slice 1005 0 4 4), (li 10), (li 0), (li 480), (li 2), (.slice 1004 0 2 2)]), (li 3000)], 1010, [(0, .cells [(li 0), (li 2879), (li 0), (li 2), (li 0), (li 6)]), (1, .cells [(li 1), (li 6), (li 0), (li 6), (li 0), (li 60)]), (2, .cells [(li 2), (li 5), (li 0), (li 90), (li 0), (li 90)]), (1000, .cells [(.slice 1001 0 1 1), (.slice 1003 0 2 2), (.slice 1002 0 1 1)]), (1001, .cells [(li 480), (li 1200)]), (1002, .cells [(li 420), (li 1320)]), (1003, .cells [(li 480), (li 720), (li 780), (li 1140)]), (1004, .cells cl3), (1005, .cells cl1), (1006, .cells [(li 1), (li 590), (li 600), (li 2), (li 650), (li 650)]), (1007, .cells [(li 0), (li 700), (li 700), (li 2), (li 800), (li 800)]), (1008, .cells [(li 0), (li 690), (li 690), (li 1), (li 705), (li 710)]), (1009, .cells [(li 0), (li 500), (li 500), (li 1), (li 560), (li 565), (li 2), (li 640), (li 640)])], (.tup [.nilslice, .nilslice, (li 101)]), [], []⟩
theorem e124_run : e124.run tb1 100 = true := by kernel_rfl
noncomputable def e126 : Ent := ⟨13, [(.agg [(.slice 1000 0 3 3), (.slice 1005 0 4 4), (li 10), (li 0), (li 480), (li 2), (.slice 1004 0 2 2)]), (li 479)], 1010, [(0, .cells [(li 0), (li 2879), (li 0), (li 2), (li 0), (li 6)]), (1, .cells [(li 1), (li 6), (li 0), (li 6), (li 0), (li 60)]), (2, .cells [(li 2), (li 5), (li 0), (li 90), (li 0), (li 90)]), (1000, .cells [(.slice 1001 0 1 1), (.slice 1003 0 2 2), (.slice 1002 0 1 1)]), (1001, .cells [(li 480), (li 1200)]), (1002, .cells [(li 420), (li 1320)]), (1003, .cells [(li 480), (li 720), (li 780), (li 1140)]), (1004, .cells cl3), (1005, .cells cl1), (1006, .cells [(li 1), (li 590), (li 600), (li 2), (li 650), (li 650)]), (1007, .cells [(li 0), (li 700), (li 700), (li 2), (li 800), (li 800)]), (1008, .cells [(li 0), (li 690), (li 690), (li 1), (li 705), (li 710)]), (1009, .cells [(li 0), (li 500), (li 500), (li 1), (li 560), (li 565), (li 2), (li 640), (li 640)])], (.tup [(li 0), (li 101)]), [], []⟩
theorem e126_run : e126.run tb1 100 = true := by kernel_rfl
noncomputable def e134 : Ent := ⟨8, [(.agg [(.slice 1000 0 3 3), (.slice 1004 0 4 4), (li 10), (li 0), (li 480), (li 2), .nilslice])], 1009, [(0, .cells [(li 0), (li 2879), (li 0), (li 2), (li 0), (li 6)]), (1, .cells [(li 1), (li 6), (li 0), (li 6), (li 0), (li 60)]), (2, .cells [(li 2), (li 5), (li 0), (li 90), (li 0), (li 90)]), (1000, .cells [(.slice 1001 0 1 1), (.slice 1003 0 2 2), (.slice 1002 0 1 1)]), (1001, .cells [(li 480), (li 1200)]), (1002, .cells [(li 420), (li 1320)]), (1003, .cells [(li 480), (li 720), (li 780), (li 1140)]), (1004, .cells cl0), (1005, .cells [(li 1), (li 590), (li 600), (li 2), (li 650), (li 650)]), (1006, .cells [(li 0), (li 700), (li 700), (li 2), (li 800), (li 800)]), (1007, .cells [(li 0), (li 690), (li 690), (li 1), (li 705), (li 710)]), (1008, .cells [(li 0), (li 500), (li 500), (li 1), (li 560), (li 565), (li 2), (li 640), (li 640)])], (.tup [(li 6), (li 0)]), [], []⟩
theorem e134_run : e134.run tb1 100 = true := by kernel_rfl
noncomputable def e139 : Ent := ⟨9, [(.agg [(.slice 1000 0 3 3), (.slice 1004 0 4 4), (li 10), (li 0), (li 480), (li 2), .nilslice])], 1009, [(0, .cells [(li 0), (li 2879), (li 0), (li 2), (li 0), (li 6)]), (1, .cells [(li 1), (li 6), (li 0), (li 6), (li 0), (li 60)]), (2, .cells [(li 2), (li 5), (li 0), (li 90), (li 0), (li 90)]), (1000, .cells [(.slice 1001 0 1 1), (.slice 1003 0 2 2), (.slice 1002 0 1 1)]), (1001, .cells [(li 480), (li 1200)]), (1002, .cells [(li 420), (li 1320)]), (1003, .cells [(li 480), (li 720), (li 780), (li 1140)]), (1004, .cells cl0), (1005, .cells [(li 1), (li 590), (li 600), (li 2), (li 650), (li 650)]), (1006, .cells [(li 0), (li 700), (li 700), (li 2), (li 800), (li 800)]), (1007, .cells [(li 0), (li 690), (li 690), (li 1), (li 705), (li 710)]), (1008, .cells [(li 0), (li 500), (li 500), (li 1), (li 560), (li 565), (li 2), (li 640), (li 640)])], (.tup [.nilslice, (li 0)]), [], []⟩
theorem e139_run : e139.run tb1 100 = true := by kernel_rfl
noncomputable def e148 : Ent := ⟨19, [], 1000, [(0, .cells [(li 0), (li 2879), (li 0), (li 2), (li 0), (li 6)]), (1, .cells [(li 1), (li 6), (li 0), (li 6), (li 0), (li 60)]), (2, .cells [(li 2), (li 5), (li 0), (li 90), (li 0), (li 90)])], (.bool (.lit true)), [], []⟩
theorem e148_run : e148.run tb1 100 = true := by kernel_rfl
end Go.Sx
/-! CALLS, MADE: what is called, what it reads, what it hands back. -/
namespace Go.Sx
open Go.RowKit Go.Proofs
set_option maxRecDepth 100000
theorem bk1 (k : Nat) : RunL tb1 100 k [e1, e51, e61, e71, e81, e101, e111, e112, e113, e114, e115, e116, e117] := ⟨(lAll_cons (p := Ent.run tb1 100) e1_run (lAll_cons (p := Ent.run tb1 100) e51_run (lAll_cons (p := Ent.run tb1 100) e61_run (lAll_cons (p := Ent.run tb1 100) e71_run (lAll_cons (p := Ent.run tb1 100) e81_run (lAll_cons (p := Ent.run tb1 100) e101_run (lAll_cons (p := Ent.run tb1 100) e111_run (lAll_cons (p := Ent.run tb1 100) e112_run (lAll_cons (p := Ent.run tb1 100) e113_run (lAll_cons (p := Ent.run tb1 100) e114_run (lAll_cons (p := Ent.run tb1 100) e115_run (lAll_cons (p := Ent.run tb1 100) e116_run (lAll_cons (p := Ent.run tb1 100) e117_run rfl)))))))))))))⟩
theorem bk2 (k : Nat) : RunL tb1 100 k [e2, e12, e118, e119] := ⟨(lAll_cons (p := Ent.run tb1 100) e2_run (lAll_cons (p := Ent.run tb1 100) e12_run (lAll_cons (p := Ent.run tb1 100) e118_run (lAll_cons (p := Ent.run tb1 100) e119_run rfl))))⟩
theorem bk3 (k : Nat) : RunL tb1 100 k [e3, e120] := ⟨(lAll_cons (p := Ent.run tb1 100) e3_run (lAll_cons (p := Ent.run tb1 100) e120_run rfl))⟩
theorem bk5 (k : Nat) : RunL tb1 100 k [e5] := ⟨(lAll_cons (p := Ent.run tb1 100) e5_run rfl)⟩
theorem bk6 (k : Nat) : RunL tb1 100 k [e6] := ⟨(lAll_cons (p := Ent.run tb1 100) e6_run rfl)⟩
theorem bk7 (k : Nat) : RunL tb1 100 k [e7] := ⟨(lAll_cons (p := Ent.run tb1 100) e7_run rfl)⟩
theorem bk8 (k : Nat) : RunL tb1 100 k [e8] := ⟨(lAll_cons (p := Ent.run tb1 100) e8_run rfl)⟩
theorem bk11 (k : Nat) : RunL tb1 100 k [e11] := ⟨(lAll_cons (p := Ent.run tb1 100) e11_run rfl)⟩
theorem bk13 (k : Nat) : RunL tb1 100 k [e13, e28] := ⟨(lAll_cons (p := Ent.run tb1 100) e13_run (lAll_cons (p := Ent.run tb1 100) e28_run rfl))⟩
theorem bk15 (k : Nat) : RunL tb1 100 k [e15] := ⟨(lAll_cons (p := Ent.run tb1 100) e15_run rfl)⟩
theorem bk16 (k : Nat) : RunL tb1 100 k [e16, e21] := ⟨(lAll_cons (p := Ent.run tb1 100) e16_run (lAll_cons (p := Ent.run tb1 100) e21_run rfl))⟩
theorem bk17 (k : Nat) : RunL tb1 100 k [e17] := ⟨(lAll_cons (p := Ent.run tb1 100) e17_run rfl)⟩
theorem bk18 (k : Nat) : RunL tb1 100 k [e18] := ⟨(lAll_cons (p := Ent.run tb1 100) e18_run rfl)⟩
theorem bk22 (k : Nat) : RunL tb1 100 k [e22, e53, e63, e73, e83, e103] := ⟨(lAll_cons (p := Ent.run tb1 100) e22_run (lAll_cons (p := Ent.run tb1 100) e53_run (lAll_cons (p := Ent.run tb1 100) e63_run (lAll_cons (p := Ent.run tb1 100) e73_run (lAll_cons (p := Ent.run tb1 100) e83_run (lAll_cons (p := Ent.run tb1 100) e103_run rfl))))))⟩
theorem bk23 (k : Nat) : RunL tb1 100 k [e23] := ⟨(lAll_cons (p := Ent.run tb1 100) e23_run rfl)⟩
theorem bk25 (k : Nat) : RunL tb1 100 k [e25, e57, e67, e77, e87, e107] := ⟨(lAll_cons (p := Ent.run tb1 100) e25_run (lAll_cons (p := Ent.run tb1 100) e57_run (lAll_cons (p := Ent.run tb1 100) e67_run (lAll_cons (p := Ent.run tb1 100) e77_run (lAll_cons (p := Ent.run tb1 100) e87_run (lAll_cons (p := Ent.run tb1 100) e107_run rfl))))))⟩
theorem bk26 (k : Nat) : RunL tb1 100 k [e26] := ⟨(lAll_cons (p := Ent.run tb1 100) e26_run rfl)⟩
theorem bk27 (k : Nat) : RunL tb1 100 k [e27] := ⟨(lAll_cons (p := Ent.run tb1 100) e27_run rfl)⟩
theorem bk31 (k : Nat) : RunL tb1 100 k [e31] := ⟨(lAll_cons (p := Ent.run tb1 100) e31_run rfl)⟩
theorem bk32 (k : Nat) : RunL tb1 100 k [e32, e55, e65, e75, e85, e105] := ⟨(lAll_cons (p := Ent.run tb1 100) e32_run (lAll_cons (p := Ent.run tb1 100) e55_run (lAll_cons (p := Ent.run tb1 100) e65_run (lAll_cons (p := Ent.run tb1 100) e75_run (lAll_cons (p := Ent.run tb1 100) e85_run (lAll_cons (p := Ent.run tb1 100) e105_run rfl))))))⟩
theorem bk33 (k : Nat) : RunL tb1 100 k [e33] := ⟨(lAll_cons (p := Ent.run tb1 100) e33_run rfl)⟩
theorem bk35 (k : Nat) : RunL tb1 100 k [e35] := ⟨(lAll_cons (p := Ent.run tb1 100) e35_run rfl)⟩
theorem bk36 (k : Nat) : RunL tb1 100 k [e36] := ⟨(lAll_cons (p := Ent.run tb1 100) e36_run rfl)⟩
theorem bk37 (k : Nat) : RunL tb1 100 k [e37] := ⟨(lAll_cons (p := Ent.run tb1 100) e37_run rfl)⟩
theorem bk38 (k : Nat) : RunL tb1 100 k [e38] := ⟨(lAll_cons (p := Ent.run tb1 100) e38_run rfl)⟩
theorem bk41 (k : Nat) : RunL tb1 100 k [e41] := ⟨(lAll_cons (p := Ent.run tb1 100) e41_run rfl)⟩
theorem bk42 (k : Nat) : RunL tb1 100 k [e42] := ⟨(lAll_cons (p := Ent.run tb1 100) e42_run rfl)⟩
theorem bk43 (k : Nat) : RunL tb1 100 k [e43] := ⟨(lAll_cons (p := Ent.run tb1 100) e43_run rfl)⟩
theorem bk45 (k : Nat) : RunL tb1 100 k [e45, e126] := ⟨(lAll_cons (p := Ent.run tb1 100) e45_run (lAll_cons (p := Ent.run tb1 100) e126_run rfl))⟩
theorem bk46 (k : Nat) : RunL tb1 100 k [e46] := ⟨(lAll_cons (p := Ent.run tb1 100) e46_run rfl)⟩
theorem bk47 (k : Nat) : RunL tb1 100 k [e47, e58, e68, e78, e88, e108] := ⟨(lAll_cons (p := Ent.run tb1 100) e47_run (lAll_cons (p := Ent.run tb1 100) e58_run (lAll_cons (p := Ent.run tb1 100) e68_run (lAll_cons (p := Ent.run tb1 100) e78_run (lAll_cons (p := Ent.run tb1 100) e88_run (lAll_cons (p := Ent.run tb1 100) e108_run rfl))))))⟩
theorem bk48 (k : Nat) : RunL tb1 100 k [e48] := ⟨(lAll_cons (p := Ent.run tb1 100) e48_run rfl)⟩
theorem bk52 (k : Nat) : RunL tb1 100 k [e52, e62, e72, e82, e102] := ⟨(lAll_cons (p := Ent.run tb1 100) e52_run (lAll_cons (p := Ent.run tb1 100) e62_run (lAll_cons (p := Ent.run tb1 100) e72_run (lAll_cons (p := Ent.run tb1 100) e82_run (lAll_cons (p := Ent.run tb1 100) e102_run rfl)))))⟩
theorem bk56 (k : Nat) : RunL tb1 100 k [e56, e66, e76, e86, e106] := ⟨(lAll_cons (p := Ent.run tb1 100) e56_run (lAll_cons (p := Ent.run tb1 100) e66_run (lAll_cons (p := Ent.run tb1 100) e76_run (lAll_cons (p := Ent.run tb1 100) e86_run (lAll_cons (p := Ent.run tb1 100) e106_run rfl)))))⟩
theorem bk91 (k : Nat) : RunL tb1 100 k [e91, e122] := ⟨(lAll_cons (p := Ent.run tb1 100) e91_run (lAll_cons (p := Ent.run tb1 100) e122_run rfl))⟩
theorem bk92 (k : Nat) : RunL tb1 100 k [e92] := ⟨(lAll_cons (p := Ent.run tb1 100) e92_run rfl)⟩
theorem bk93 (k : Nat) : RunL tb1 100 k [e93] := ⟨(lAll_cons (p := Ent.run tb1 100) e93_run rfl)⟩
theorem bk95 (k : Nat) : RunL tb1 100 k [e95] := ⟨(lAll_cons (p := Ent.run tb1 100) e95_run rfl)⟩
theorem bk96 (k : Nat) : RunL tb1 100 k [e96] := ⟨(lAll_cons (p := Ent.run tb1 100) e96_run rfl)⟩
theorem bk97 (k : Nat) : RunL tb1 100 k [e97] := ⟨(lAll_cons (p := Ent.run tb1 100) e97_run rfl)⟩
theorem bk98 (k : Nat) : RunL tb1 100 k [e98] := ⟨(lAll_cons (p := Ent.run tb1 100) e98_run rfl)⟩
theorem bk124 (k : Nat) : RunL tb1 100 k [e124] := ⟨(lAll_cons (p := Ent.run tb1 100) e124_run rfl)⟩
theorem bk134 (k : Nat) : RunL tb1 100 k [e134] := ⟨(lAll_cons (p := Ent.run tb1 100) e134_run rfl)⟩
theorem bk139 (k : Nat) : RunL tb1 100 k [e139] := ⟨(lAll_cons (p := Ent.run tb1 100) e139_run rfl)⟩
theorem bk148 (k : Nat) : RunL tb1 100 k [e148] := ⟨(lAll_cons (p := Ent.run tb1 100) e148_run rfl)⟩
noncomputable def ents2 : PT (List Ent) := (.node none (.node none (.node none (.node none (.node none .nil (.node (some [e13, e28]) .nil .nil)) (.node (some [e37]) (.node none (.node (some [e1, e51, e61, e71, e81, e101, e111, e112, e113, e114, e115, e116, e117]) .nil .nil) .nil) (.node (some [e16, e21]) .nil .nil))) (.node none (.node (some [e148]) (.node none (.node (some [e43]) .nil .nil) .nil) .nil) (.node (some [e92]) .nil (.node none (.node (some [e134]) .nil .nil) (.node (some [e32, e55, e65, e75, e85, e105]) .nil .nil))))) (.node (some [e23]) (.node none (.node none (.node none .nil (.node (some [e11]) .nil .nil)) .nil) (.node none (.node none (.node (some [e3, e120]) .nil .nil) .nil) (.node none (.node (some [e95]) .nil .nil) .nil))) (.node none (.node (some [e52, e62, e72, e82, e102]) (.node (some [e48]) (.node (some [e36]) .nil .nil) .nil) (.node none .nil (.node (some [e41]) .nil .nil))) (.node none (.node none (.node (some [e91, e122]) .nil .nil) .nil) .nil)))) (.node (some [e6]) (.node (some [e97]) (.node none (.node none (.node (some [e38]) (.node (some [e35]) .nil .nil) .nil) .nil) (.node none (.node none (.node (some [e2, e12, e118, e119]) .nil .nil) .nil) (.node none (.node (some [e96]) .nil .nil) (.node (some [e47, e58, e68, e78, e88, e108]) .nil .nil)))) (.node (some [e5]) (.node (some [e31]) (.node (some [e93]) .nil (.node (some [e17]) .nil .nil)) (.node none (.node (some [e26]) .nil .nil) (.node (some [e45, e126]) .nil .nil))) (.node none (.node none (.node (some [e7]) .nil .nil) .nil) (.node none (.node (some [e42]) .nil .nil) .nil)))) (.node none (.node none (.node (some [e18]) (.node none (.node (some [e139]) .nil .nil) (.node (some [e33]) .nil .nil)) (.node (some [e15]) .nil .nil)) (.node none (.node none (.node (some [e46]) .nil .nil) .nil) (.node (some [e27]) .nil (.node (some [e56, e66, e76, e86, e106]) .nil .nil)))) (.node none (.node none (.node (some [e124]) .nil .nil) (.node none (.node (some [e98]) .nil .nil) .nil)) (.node (some [e22, e53, e63, e73, e83, e103]) (.node none .nil (.node (some [e8]) .nil .nil)) (.node none .nil (.node (some [e25, e57, e67, e77, e87, e107]) .nil .nil)))))))
theorem ents2_run : ents2.Every (RunL tb1 100) := ⟨ev0, ⟨ev0, ⟨ev0, ⟨ev0, ⟨ev0, trivial, ⟨ev1 (bk13 _), trivial, trivial⟩⟩, ⟨ev1 (bk37 _), ⟨ev0, ⟨ev1 (bk1 _), trivial, trivial⟩, trivial⟩, ⟨ev1 (bk16 _), trivial, trivial⟩⟩⟩, ⟨ev0, ⟨ev1 (bk148 _), ⟨ev0, ⟨ev1 (bk43 _), trivial, trivial⟩, trivial⟩, trivial⟩, ⟨ev1 (bk92 _), trivial, ⟨ev0, ⟨ev1 (bk134 _), trivial, trivial⟩, ⟨ev1 (bk32 _), trivial, trivial⟩⟩⟩⟩⟩, ⟨ev1 (bk23 _), ⟨ev0, ⟨ev0, ⟨ev0, trivial, ⟨ev1 (bk11 _), trivial, trivial⟩⟩, trivial⟩, ⟨ev0, ⟨ev0, ⟨ev1 (bk3 _), trivial, trivial⟩, trivial⟩, ⟨ev0, ⟨ev1 (bk95 _), trivial, trivial⟩, trivial⟩⟩⟩, ⟨ev0, ⟨ev1 (bk52 _), ⟨ev1 (bk48 _), ⟨ev1 (bk36 _), trivial, trivial⟩, trivial⟩, ⟨ev0, trivial, ⟨ev1 (bk41 _), trivial, trivial⟩⟩⟩, ⟨ev0, ⟨ev0, ⟨ev1 (bk91 _), trivial, trivial⟩, trivial⟩, trivial⟩⟩⟩⟩, ⟨ev1 (bk6 _), ⟨ev1 (bk97 _), ⟨ev0, ⟨ev0, ⟨ev1 (bk38 _), ⟨ev1 (bk35 _), trivial, trivial⟩, trivial⟩, trivial⟩, ⟨ev0, ⟨ev0, ⟨ev1 (bk2 _), trivial, trivial⟩, trivial⟩, ⟨ev0, ⟨ev1 (bk96 _), trivial, trivial⟩, ⟨ev1 (bk47 _), trivial, trivial⟩⟩⟩⟩, ⟨ev1 (bk5 _), ⟨ev1 (bk31 _), ⟨ev1 (bk93 _), trivial, ⟨ev1 (bk17 _), trivial, trivial⟩⟩, ⟨ev0, ⟨ev1 (bk26 _), trivial, trivial⟩, ⟨ev1 (bk45 _), trivial, trivial⟩⟩⟩, ⟨ev0, ⟨ev0, ⟨ev1 (bk7 _), trivial, trivial⟩, trivial⟩, ⟨ev0, ⟨ev1 (bk42 _), trivial, trivial⟩, trivial⟩⟩⟩⟩, ⟨ev0, ⟨ev0, ⟨ev1 (bk18 _), ⟨ev0, ⟨ev1 (bk139 _), trivial, trivial⟩, ⟨ev1 (bk33 _), trivial, trivial⟩⟩, ⟨ev1 (bk15 _), trivial, trivial⟩⟩, ⟨ev0, ⟨ev0, ⟨ev1 (bk46 _), trivial, trivial⟩, trivial⟩, ⟨ev1 (bk27 _), trivial, ⟨ev1 (bk56 _), trivial, trivial⟩⟩⟩⟩, ⟨ev0, ⟨ev0, ⟨ev1 (bk124 _), trivial, trivial⟩, ⟨ev0, ⟨ev1 (bk98 _), trivial, trivial⟩, trivial⟩⟩, ⟨ev1 (bk22 _), ⟨ev0, trivial, ⟨ev1 (bk8 _), trivial, trivial⟩⟩, ⟨ev0, trivial, ⟨ev1 (bk25 _), trivial, trivial⟩⟩⟩⟩⟩⟩⟩
noncomputable def orc2 (f : FuncId) (args : List AV) (h : Heap) : Option (T (AV × Heap)) :=
  match entPT 128 ents2 f args h with
  | some t => some t
  | none => orc1 f args h
theorem orc2_ok : ∀ f args h t, orc2 f args h = some t → CallOk pT f args h t := by
  intro f args h t e
  unfold orc2 at e
  split at e
  · rename_i u hu
    cases e
    exact entPT_ok tabs1 ents2_run hu
  · exact orc1_ok f args h t e
noncomputable def tb2 : Tabs := ⟨Sx.Tryd.ft.get, lFind Sx.Tryd.rt, 2000, orc2⟩
theorem tabs2 : TabOk pT Sx.Tryd.tt.get tb2 := Tryd.tab orc2 orc2_ok 2000
end Go.Sx
