/- CALLS, MADE: what is called, what it reads, what it hands back. -/
import Derived.Test.YtpejfdjeejdocaaDoorEntL2x0
/-! CALLS, MADE: what is called, what it reads, what it hands back. -/
namespace Go.Sx
open Go.RowKit Go.Proofs
set_option maxRecDepth 100000
theorem bk1 (k : Nat) : RunL tb1 100 k [e1, e95] := ⟨(lAll_cons (p := Ent.run tb1 100) e1_run (lAll_cons (p := Ent.run tb1 100) e95_run rfl))⟩
theorem bk2 (k : Nat) : RunL tb1 100 k [e2] := ⟨(lAll_cons (p := Ent.run tb1 100) e2_run rfl)⟩
theorem bk3 (k : Nat) : RunL tb1 100 k [e3, e14, e19, e24, e39, e59, e64] := ⟨(lAll_cons (p := Ent.run tb1 100) e3_run (lAll_cons (p := Ent.run tb1 100) e14_run (lAll_cons (p := Ent.run tb1 100) e19_run (lAll_cons (p := Ent.run tb1 100) e24_run (lAll_cons (p := Ent.run tb1 100) e39_run (lAll_cons (p := Ent.run tb1 100) e59_run (lAll_cons (p := Ent.run tb1 100) e64_run rfl)))))))⟩
theorem bk4 (k : Nat) : RunL tb1 100 k [e4] := ⟨(lAll_cons (p := Ent.run tb1 100) e4_run rfl)⟩
theorem bk6 (k : Nat) : RunL tb1 100 k [e6, e54] := ⟨(lAll_cons (p := Ent.run tb1 100) e6_run (lAll_cons (p := Ent.run tb1 100) e54_run rfl))⟩
theorem bk7 (k : Nat) : RunL tb1 100 k [e7] := ⟨(lAll_cons (p := Ent.run tb1 100) e7_run rfl)⟩
theorem bk8 (k : Nat) : RunL tb1 100 k [e8, e42] := ⟨(lAll_cons (p := Ent.run tb1 100) e8_run (lAll_cons (p := Ent.run tb1 100) e42_run rfl))⟩
theorem bk9 (k : Nat) : RunL tb1 100 k [e9] := ⟨(lAll_cons (p := Ent.run tb1 100) e9_run rfl)⟩
theorem bk11 (k : Nat) : RunL tb1 100 k [e11, e16, e21, e36, e56, e61] := ⟨(lAll_cons (p := Ent.run tb1 100) e11_run (lAll_cons (p := Ent.run tb1 100) e16_run (lAll_cons (p := Ent.run tb1 100) e21_run (lAll_cons (p := Ent.run tb1 100) e36_run (lAll_cons (p := Ent.run tb1 100) e56_run (lAll_cons (p := Ent.run tb1 100) e61_run rfl))))))⟩
theorem bk12 (k : Nat) : RunL tb1 100 k [e12, e17, e22, e37, e43, e57, e62] := ⟨(lAll_cons (p := Ent.run tb1 100) e12_run (lAll_cons (p := Ent.run tb1 100) e17_run (lAll_cons (p := Ent.run tb1 100) e22_run (lAll_cons (p := Ent.run tb1 100) e37_run (lAll_cons (p := Ent.run tb1 100) e43_run (lAll_cons (p := Ent.run tb1 100) e57_run (lAll_cons (p := Ent.run tb1 100) e62_run rfl)))))))⟩
theorem bk13 (k : Nat) : RunL tb1 100 k [e13, e18, e23, e38, e58, e63, e68, e72, e93] := ⟨(lAll_cons (p := Ent.run tb1 100) e13_run (lAll_cons (p := Ent.run tb1 100) e18_run (lAll_cons (p := Ent.run tb1 100) e23_run (lAll_cons (p := Ent.run tb1 100) e38_run (lAll_cons (p := Ent.run tb1 100) e58_run (lAll_cons (p := Ent.run tb1 100) e63_run (lAll_cons (p := Ent.run tb1 100) e68_run (lAll_cons (p := Ent.run tb1 100) e72_run (lAll_cons (p := Ent.run tb1 100) e93_run rfl)))))))))⟩
theorem bk26 (k : Nat) : RunL tb1 100 k [e26] := ⟨(lAll_cons (p := Ent.run tb1 100) e26_run rfl)⟩
theorem bk27 (k : Nat) : RunL tb1 100 k [e27] := ⟨(lAll_cons (p := Ent.run tb1 100) e27_run rfl)⟩
theorem bk28 (k : Nat) : RunL tb1 100 k [e28, e32] := ⟨(lAll_cons (p := Ent.run tb1 100) e28_run (lAll_cons (p := Ent.run tb1 100) e32_run rfl))⟩
theorem bk29 (k : Nat) : RunL tb1 100 k [e29, e53] := ⟨(lAll_cons (p := Ent.run tb1 100) e29_run (lAll_cons (p := Ent.run tb1 100) e53_run rfl))⟩
theorem bk31 (k : Nat) : RunL tb1 100 k [e31] := ⟨(lAll_cons (p := Ent.run tb1 100) e31_run rfl)⟩
theorem bk33 (k : Nat) : RunL tb1 100 k [e33] := ⟨(lAll_cons (p := Ent.run tb1 100) e33_run rfl)⟩
theorem bk34 (k : Nat) : RunL tb1 100 k [e34] := ⟨(lAll_cons (p := Ent.run tb1 100) e34_run rfl)⟩
theorem bk41 (k : Nat) : RunL tb1 100 k [e41] := ⟨(lAll_cons (p := Ent.run tb1 100) e41_run rfl)⟩
theorem bk44 (k : Nat) : RunL tb1 100 k [e44] := ⟨(lAll_cons (p := Ent.run tb1 100) e44_run rfl)⟩
theorem bk46 (k : Nat) : RunL tb1 100 k [e46] := ⟨(lAll_cons (p := Ent.run tb1 100) e46_run rfl)⟩
theorem bk47 (k : Nat) : RunL tb1 100 k [e47, e98, e99] := ⟨(lAll_cons (p := Ent.run tb1 100) e47_run (lAll_cons (p := Ent.run tb1 100) e98_run (lAll_cons (p := Ent.run tb1 100) e99_run rfl)))⟩
theorem bk48 (k : Nat) : RunL tb1 100 k [e48] := ⟨(lAll_cons (p := Ent.run tb1 100) e48_run rfl)⟩
theorem bk49 (k : Nat) : RunL tb1 100 k [e49] := ⟨(lAll_cons (p := Ent.run tb1 100) e49_run rfl)⟩
theorem bk51 (k : Nat) : RunL tb1 100 k [e51] := ⟨(lAll_cons (p := Ent.run tb1 100) e51_run rfl)⟩
theorem bk52 (k : Nat) : RunL tb1 100 k [e52] := ⟨(lAll_cons (p := Ent.run tb1 100) e52_run rfl)⟩
theorem bk66 (k : Nat) : RunL tb1 100 k [e66, e70] := ⟨(lAll_cons (p := Ent.run tb1 100) e66_run (lAll_cons (p := Ent.run tb1 100) e70_run rfl))⟩
theorem bk67 (k : Nat) : RunL tb1 100 k [e67, e71] := ⟨(lAll_cons (p := Ent.run tb1 100) e67_run (lAll_cons (p := Ent.run tb1 100) e71_run rfl))⟩
theorem bk69 (k : Nat) : RunL tb1 100 k [e69, e73] := ⟨(lAll_cons (p := Ent.run tb1 100) e69_run (lAll_cons (p := Ent.run tb1 100) e73_run rfl))⟩
theorem bk74 (k : Nat) : RunL tb1 100 k [e74, e78] := ⟨(lAll_cons (p := Ent.run tb1 100) e74_run (lAll_cons (p := Ent.run tb1 100) e78_run rfl))⟩
theorem bk75 (k : Nat) : RunL tb1 100 k [e75, e79] := ⟨(lAll_cons (p := Ent.run tb1 100) e75_run (lAll_cons (p := Ent.run tb1 100) e79_run rfl))⟩
theorem bk76 (k : Nat) : RunL tb1 100 k [e76, e80, e91] := ⟨(lAll_cons (p := Ent.run tb1 100) e76_run (lAll_cons (p := Ent.run tb1 100) e80_run (lAll_cons (p := Ent.run tb1 100) e91_run rfl)))⟩
theorem bk77 (k : Nat) : RunL tb1 100 k [e77, e81] := ⟨(lAll_cons (p := Ent.run tb1 100) e77_run (lAll_cons (p := Ent.run tb1 100) e81_run rfl))⟩
theorem bk82 (k : Nat) : RunL tb1 100 k [e82] := ⟨(lAll_cons (p := Ent.run tb1 100) e82_run rfl)⟩
theorem bk83 (k : Nat) : RunL tb1 100 k [e83] := ⟨(lAll_cons (p := Ent.run tb1 100) e83_run rfl)⟩
theorem bk84 (k : Nat) : RunL tb1 100 k [e84] := ⟨(lAll_cons (p := Ent.run tb1 100) e84_run rfl)⟩
theorem bk85 (k : Nat) : RunL tb1 100 k [e85] := ⟨(lAll_cons (p := Ent.run tb1 100) e85_run rfl)⟩
theorem bk86 (k : Nat) : RunL tb1 100 k [e86] := ⟨(lAll_cons (p := Ent.run tb1 100) e86_run rfl)⟩
theorem bk87 (k : Nat) : RunL tb1 100 k [e87] := ⟨(lAll_cons (p := Ent.run tb1 100) e87_run rfl)⟩
theorem bk89 (k : Nat) : RunL tb1 100 k [e89] := ⟨(lAll_cons (p := Ent.run tb1 100) e89_run rfl)⟩
theorem bk90 (k : Nat) : RunL tb1 100 k [e90] := ⟨(lAll_cons (p := Ent.run tb1 100) e90_run rfl)⟩
theorem bk92 (k : Nat) : RunL tb1 100 k [e92] := ⟨(lAll_cons (p := Ent.run tb1 100) e92_run rfl)⟩
theorem bk94 (k : Nat) : RunL tb1 100 k [e94] := ⟨(lAll_cons (p := Ent.run tb1 100) e94_run rfl)⟩
theorem bk96 (k : Nat) : RunL tb1 100 k [e96, e100] := ⟨(lAll_cons (p := Ent.run tb1 100) e96_run (lAll_cons (p := Ent.run tb1 100) e100_run rfl))⟩
theorem bk101 (k : Nat) : RunL tb1 100 k [e101] := ⟨(lAll_cons (p := Ent.run tb1 100) e101_run rfl)⟩
theorem bk102 (k : Nat) : RunL tb1 100 k [e102] := ⟨(lAll_cons (p := Ent.run tb1 100) e102_run rfl)⟩
noncomputable def ents2 : PT (List Ent) := (.node none (.node (some [e48]) (.node (some [e27]) (.node (some [e13, e18, e23, e38, e58, e63, e68, e72, e93]) (.node (some [e84]) .nil .nil) (.node none .nil (.node none .nil (.node (some [e11, e16, e21, e36, e56, e61]) .nil .nil)))) (.node none (.node (some [e52]) (.node (some [e77, e81]) .nil .nil) (.node (some [e3, e14, e19, e24, e39, e59, e64]) .nil (.node (some [e75, e79]) .nil .nil))) (.node (some [e28, e32]) (.node none .nil (.node (some [e86]) .nil .nil)) (.node (some [e26]) .nil .nil)))) (.node (some [e92]) (.node (some [e34]) (.node none (.node (some [e49]) .nil .nil) .nil) (.node none (.node none (.node (some [e46]) .nil .nil) .nil) .nil)) (.node none (.node none (.node none (.node (some [e82]) .nil .nil) .nil) (.node (some [e2]) .nil (.node (some [e96, e100]) .nil .nil))) (.node none .nil (.node (some [e66, e70]) .nil .nil))))) (.node none (.node (some [e69, e73]) (.node (some [e76, e80, e91]) (.node none (.node none (.node (some [e47, e98, e99]) .nil .nil) (.node (some [e94]) .nil .nil)) (.node (some [e29, e53]) .nil (.node (some [e1, e95]) .nil .nil))) (.node none .nil (.node none (.node (some [e33]) .nil .nil) .nil))) (.node none (.node none (.node (some [e31]) .nil .nil) (.node none .nil (.node (some [e9]) .nil .nil))) (.node (some [e51]) (.node (some [e90]) .nil (.node (some [e4]) .nil .nil)) (.node none .nil (.node (some [e85]) .nil .nil))))) (.node none (.node (some [e101]) (.node none (.node (some [e41]) .nil .nil) (.node none .nil (.node (some [e67, e71]) .nil .nil))) (.node none (.node (some [e87]) .nil (.node (some [e8, e42]) .nil .nil)) (.node none .nil (.node (some [e83]) .nil .nil)))) (.node none (.node (some [e89]) (.node none (.node (some [e44]) .nil .nil) (.node (some [e102]) .nil .nil)) (.node none .nil (.node (some [e7]) .nil .nil))) (.node none (.node (some [e6, e54]) .nil (.node (some [e12, e17, e22, e37, e43, e57, e62]) .nil .nil)) (.node (some [e74, e78]) .nil .nil))))))
theorem ents2_run : ents2.Every (RunL tb1 100) := ⟨ev0, ⟨ev1 (bk48 _), ⟨ev1 (bk27 _), ⟨ev1 (bk13 _), ⟨ev1 (bk84 _), trivial, trivial⟩, ⟨ev0, trivial, ⟨ev0, trivial, ⟨ev1 (bk11 _), trivial, trivial⟩⟩⟩⟩, ⟨ev0, ⟨ev1 (bk52 _), ⟨ev1 (bk77 _), trivial, trivial⟩, ⟨ev1 (bk3 _), trivial, ⟨ev1 (bk75 _), trivial, trivial⟩⟩⟩, ⟨ev1 (bk28 _), ⟨ev0, trivial, ⟨ev1 (bk86 _), trivial, trivial⟩⟩, ⟨ev1 (bk26 _), trivial, trivial⟩⟩⟩⟩, ⟨ev1 (bk92 _), ⟨ev1 (bk34 _), ⟨ev0, ⟨ev1 (bk49 _), trivial, trivial⟩, trivial⟩, ⟨ev0, ⟨ev0, ⟨ev1 (bk46 _), trivial, trivial⟩, trivial⟩, trivial⟩⟩, ⟨ev0, ⟨ev0, ⟨ev0, ⟨ev1 (bk82 _), trivial, trivial⟩, trivial⟩, ⟨ev1 (bk2 _), trivial, ⟨ev1 (bk96 _), trivial, trivial⟩⟩⟩, ⟨ev0, trivial, ⟨ev1 (bk66 _), trivial, trivial⟩⟩⟩⟩⟩, ⟨ev0, ⟨ev1 (bk69 _), ⟨ev1 (bk76 _), ⟨ev0, ⟨ev0, ⟨ev1 (bk47 _), trivial, trivial⟩, ⟨ev1 (bk94 _), trivial, trivial⟩⟩, ⟨ev1 (bk29 _), trivial, ⟨ev1 (bk1 _), trivial, trivial⟩⟩⟩, ⟨ev0, trivial, ⟨ev0, ⟨ev1 (bk33 _), trivial, trivial⟩, trivial⟩⟩⟩, ⟨ev0, ⟨ev0, ⟨ev1 (bk31 _), trivial, trivial⟩, ⟨ev0, trivial, ⟨ev1 (bk9 _), trivial, trivial⟩⟩⟩, ⟨ev1 (bk51 _), ⟨ev1 (bk90 _), trivial, ⟨ev1 (bk4 _), trivial, trivial⟩⟩, ⟨ev0, trivial, ⟨ev1 (bk85 _), trivial, trivial⟩⟩⟩⟩⟩, ⟨ev0, ⟨ev1 (bk101 _), ⟨ev0, ⟨ev1 (bk41 _), trivial, trivial⟩, ⟨ev0, trivial, ⟨ev1 (bk67 _), trivial, trivial⟩⟩⟩, ⟨ev0, ⟨ev1 (bk87 _), trivial, ⟨ev1 (bk8 _), trivial, trivial⟩⟩, ⟨ev0, trivial, ⟨ev1 (bk83 _), trivial, trivial⟩⟩⟩⟩, ⟨ev0, ⟨ev1 (bk89 _), ⟨ev0, ⟨ev1 (bk44 _), trivial, trivial⟩, ⟨ev1 (bk102 _), trivial, trivial⟩⟩, ⟨ev0, trivial, ⟨ev1 (bk7 _), trivial, trivial⟩⟩⟩, ⟨ev0, ⟨ev1 (bk6 _), trivial, ⟨ev1 (bk12 _), trivial, trivial⟩⟩, ⟨ev1 (bk74 _), trivial, trivial⟩⟩⟩⟩⟩⟩
noncomputable def orc2 (f : FuncId) (args : List AV) (h : Heap) : Option (T (AV × Heap)) :=
  match entPT 128 ents2 f args h with
  | some t => some t
  | none => orc1 f args h
theorem orc2_ok : ∀ f args h t, orc2 f args h = some t → CallOk pT f args h t := by
  intro f args h t e
  unfold orc2 at e
  split at e
  · rename_i u hu
    cases e
    exact entPT_ok tabs1 ents2_run hu
  · exact orc1_ok f args h t e
noncomputable def tb2 : Tabs := ⟨Sx.Tryd.ft.get, lFind Sx.Tryd.rt, 2000, orc2⟩
theorem tabs2 : TabOk pT Sx.Tryd.tt.get tb2 := Tryd.tab orc2 orc2_ok 2000
end Go.Sx
