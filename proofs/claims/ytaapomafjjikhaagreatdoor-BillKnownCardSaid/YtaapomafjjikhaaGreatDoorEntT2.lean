/- CALLS, MADE: what is called, what it reads, what it hands back. -/
import Derived.Test.YtaapomafjjikhaaGreatDoorEntL2x1
/-! CALLS, MADE: what is called, what it reads, what it hands back. -/
namespace Go.Sx
open Go.RowKit Go.Proofs
set_option maxRecDepth 100000
theorem bk1 (k : Nat) : RunL tb1 100 k [e1] := ⟨(lAll_cons (p := Ent.run tb1 100) e1_run rfl)⟩
theorem bk2 (k : Nat) : RunL tb1 100 k [e2, e17] := ⟨(lAll_cons (p := Ent.run tb1 100) e2_run (lAll_cons (p := Ent.run tb1 100) e17_run rfl))⟩
theorem bk3 (k : Nat) : RunL tb1 100 k [e3, e10, e12] := ⟨(lAll_cons (p := Ent.run tb1 100) e3_run (lAll_cons (p := Ent.run tb1 100) e10_run (lAll_cons (p := Ent.run tb1 100) e12_run rfl)))⟩
theorem bk4 (k : Nat) : RunL tb1 100 k [e4] := ⟨(lAll_cons (p := Ent.run tb1 100) e4_run rfl)⟩
theorem bk5 (k : Nat) : RunL tb1 100 k [e5] := ⟨(lAll_cons (p := Ent.run tb1 100) e5_run rfl)⟩
theorem bk6 (k : Nat) : RunL tb1 100 k [e6] := ⟨(lAll_cons (p := Ent.run tb1 100) e6_run rfl)⟩
theorem bk8 (k : Nat) : RunL tb1 100 k [e8] := ⟨(lAll_cons (p := Ent.run tb1 100) e8_run rfl)⟩
theorem bk9 (k : Nat) : RunL tb1 100 k [e9] := ⟨(lAll_cons (p := Ent.run tb1 100) e9_run rfl)⟩
theorem bk11 (k : Nat) : RunL tb1 100 k [e11] := ⟨(lAll_cons (p := Ent.run tb1 100) e11_run rfl)⟩
theorem bk13 (k : Nat) : RunL tb1 100 k [e13] := ⟨(lAll_cons (p := Ent.run tb1 100) e13_run rfl)⟩
theorem bk15 (k : Nat) : RunL tb1 100 k [e15] := ⟨(lAll_cons (p := Ent.run tb1 100) e15_run rfl)⟩
theorem bk16 (k : Nat) : RunL tb1 100 k [e16] := ⟨(lAll_cons (p := Ent.run tb1 100) e16_run rfl)⟩
theorem bk18 (k : Nat) : RunL tb1 100 k [e18, e44, e51, e58] := ⟨(lAll_cons (p := Ent.run tb1 100) e18_run (lAll_cons (p := Ent.run tb1 100) e44_run (lAll_cons (p := Ent.run tb1 100) e51_run (lAll_cons (p := Ent.run tb1 100) e58_run rfl))))⟩
theorem bk19 (k : Nat) : RunL tb1 100 k [e19] := ⟨(lAll_cons (p := Ent.run tb1 100) e19_run rfl)⟩
theorem bk20 (k : Nat) : RunL tb1 100 k [e20, e83] := ⟨(lAll_cons (p := Ent.run tb1 100) e20_run (lAll_cons (p := Ent.run tb1 100) e83_run rfl))⟩
theorem bk22 (k : Nat) : RunL tb1 100 k [e22, e33, e81] := ⟨(lAll_cons (p := Ent.run tb1 100) e22_run (lAll_cons (p := Ent.run tb1 100) e33_run (lAll_cons (p := Ent.run tb1 100) e81_run rfl)))⟩
theorem bk23 (k : Nat) : RunL tb1 100 k [e23] := ⟨(lAll_cons (p := Ent.run tb1 100) e23_run rfl)⟩
theorem bk24 (k : Nat) : RunL tb1 100 k [e24, e26, e40] := ⟨(lAll_cons (p := Ent.run tb1 100) e24_run (lAll_cons (p := Ent.run tb1 100) e26_run (lAll_cons (p := Ent.run tb1 100) e40_run rfl)))⟩
theorem bk25 (k : Nat) : RunL tb1 100 k [e25] := ⟨(lAll_cons (p := Ent.run tb1 100) e25_run rfl)⟩
theorem bk27 (k : Nat) : RunL tb1 100 k [e27] := ⟨(lAll_cons (p := Ent.run tb1 100) e27_run rfl)⟩
theorem bk29 (k : Nat) : RunL tb1 100 k [e29] := ⟨(lAll_cons (p := Ent.run tb1 100) e29_run rfl)⟩
theorem bk30 (k : Nat) : RunL tb1 100 k [e30] := ⟨(lAll_cons (p := Ent.run tb1 100) e30_run rfl)⟩
theorem bk31 (k : Nat) : RunL tb1 100 k [e31] := ⟨(lAll_cons (p := Ent.run tb1 100) e31_run rfl)⟩
theorem bk32 (k : Nat) : RunL tb1 100 k [e32] := ⟨(lAll_cons (p := Ent.run tb1 100) e32_run rfl)⟩
theorem bk34 (k : Nat) : RunL tb1 100 k [e34] := ⟨(lAll_cons (p := Ent.run tb1 100) e34_run rfl)⟩
theorem bk36 (k : Nat) : RunL tb1 100 k [e36] := ⟨(lAll_cons (p := Ent.run tb1 100) e36_run rfl)⟩
theorem bk37 (k : Nat) : RunL tb1 100 k [e37, e85] := ⟨(lAll_cons (p := Ent.run tb1 100) e37_run (lAll_cons (p := Ent.run tb1 100) e85_run rfl))⟩
theorem bk38 (k : Nat) : RunL tb1 100 k [e38] := ⟨(lAll_cons (p := Ent.run tb1 100) e38_run rfl)⟩
theorem bk39 (k : Nat) : RunL tb1 100 k [e39] := ⟨(lAll_cons (p := Ent.run tb1 100) e39_run rfl)⟩
theorem bk41 (k : Nat) : RunL tb1 100 k [e41] := ⟨(lAll_cons (p := Ent.run tb1 100) e41_run rfl)⟩
theorem bk43 (k : Nat) : RunL tb1 100 k [e43, e50, e57] := ⟨(lAll_cons (p := Ent.run tb1 100) e43_run (lAll_cons (p := Ent.run tb1 100) e50_run (lAll_cons (p := Ent.run tb1 100) e57_run rfl)))⟩
theorem bk45 (k : Nat) : RunL tb1 100 k [e45, e52, e59] := ⟨(lAll_cons (p := Ent.run tb1 100) e45_run (lAll_cons (p := Ent.run tb1 100) e52_run (lAll_cons (p := Ent.run tb1 100) e59_run rfl)))⟩
theorem bk46 (k : Nat) : RunL tb1 100 k [e46, e53, e60, e86] := ⟨(lAll_cons (p := Ent.run tb1 100) e46_run (lAll_cons (p := Ent.run tb1 100) e53_run (lAll_cons (p := Ent.run tb1 100) e60_run (lAll_cons (p := Ent.run tb1 100) e86_run rfl))))⟩
theorem bk47 (k : Nat) : RunL tb1 100 k [e47, e54, e61] := ⟨(lAll_cons (p := Ent.run tb1 100) e47_run (lAll_cons (p := Ent.run tb1 100) e54_run (lAll_cons (p := Ent.run tb1 100) e61_run rfl)))⟩
theorem bk48 (k : Nat) : RunL tb1 100 k [e48, e55, e62] := ⟨(lAll_cons (p := Ent.run tb1 100) e48_run (lAll_cons (p := Ent.run tb1 100) e55_run (lAll_cons (p := Ent.run tb1 100) e62_run rfl)))⟩
theorem bk65 (k : Nat) : RunL tb1 100 k [e65, e73, e89, e118, e121] := ⟨(lAll_cons (p := Ent.run tb1 100) e65_run (lAll_cons (p := Ent.run tb1 100) e73_run (lAll_cons (p := Ent.run tb1 100) e89_run (lAll_cons (p := Ent.run tb1 100) e118_run (lAll_cons (p := Ent.run tb1 100) e121_run rfl)))))⟩
theorem bk82 (k : Nat) : RunL tb1 100 k [e82] := ⟨(lAll_cons (p := Ent.run tb1 100) e82_run rfl)⟩
theorem bk84 (k : Nat) : RunL tb1 100 k [e84] := ⟨(lAll_cons (p := Ent.run tb1 100) e84_run rfl)⟩
theorem bk123 (k : Nat) : RunL tb1 100 k [e123] := ⟨(lAll_cons (p := Ent.run tb1 100) e123_run rfl)⟩
theorem bk125 (k : Nat) : RunL tb1 100 k [e125] := ⟨(lAll_cons (p := Ent.run tb1 100) e125_run rfl)⟩
noncomputable def ents2 : PT (List Ent) := (.node none (.node none (.node none (.node none (.node none .nil (.node none (.node (some [e18, e44, e51, e58]) .nil .nil) (.node (some [e30]) .nil .nil))) (.node none (.node (some [e19]) .nil (.node (some [e4]) .nil .nil)) .nil)) (.node none (.node (some [e32]) (.node (some [e23]) .nil (.node (some [e24, e26, e40]) .nil .nil)) (.node none .nil (.node (some [e11]) .nil .nil))) (.node none (.node (some [e1]) .nil .nil) .nil))) (.node (some [e25]) (.node (some [e9]) (.node none (.node (some [e36]) (.node (some [e2, e17]) .nil .nil) .nil) (.node (some [e82]) .nil .nil)) (.node none (.node (some [e125]) (.node (some [e3, e10, e12]) .nil .nil) .nil) .nil)) (.node none (.node none (.node (some [e48, e55, e62]) .nil (.node (some [e15]) .nil .nil)) (.node none (.node (some [e39]) .nil .nil) (.node (some [e6]) .nil .nil))) (.node none (.node (some [e65, e73, e89, e118, e121]) .nil .nil) (.node none .nil (.node (some [e38]) .nil .nil)))))) (.node (some [e45, e52, e59]) (.node none (.node (some [e22, e33, e81]) (.node none (.node (some [e41]) .nil .nil) .nil) (.node none (.node none (.node (some [e27]) .nil .nil) (.node (some [e47, e54, e61]) .nil .nil)) .nil)) (.node none (.node none (.node none .nil (.node (some [e20, e83]) .nil .nil)) (.node none (.node (some [e123]) .nil .nil) (.node (some [e34]) .nil .nil))) (.node (some [e84]) .nil .nil))) (.node none (.node none (.node none (.node (some [e31]) .nil .nil) .nil) (.node none (.node (some [e5]) (.node (some [e37, e85]) .nil .nil) .nil) .nil)) (.node (some [e16]) (.node none (.node (some [e43, e50, e57]) (.node (some [e29]) .nil .nil) .nil) (.node (some [e46, e53, e60, e86]) .nil .nil)) (.node none (.node (some [e13]) .nil (.node (some [e8]) .nil .nil)) .nil)))))
theorem ents2_run : ents2.Every (RunL tb1 100) := ⟨ev0, ⟨ev0, ⟨ev0, ⟨ev0, ⟨ev0, trivial, ⟨ev0, ⟨ev1 (bk18 _), trivial, trivial⟩, ⟨ev1 (bk30 _), trivial, trivial⟩⟩⟩, ⟨ev0, ⟨ev1 (bk19 _), trivial, ⟨ev1 (bk4 _), trivial, trivial⟩⟩, trivial⟩⟩, ⟨ev0, ⟨ev1 (bk32 _), ⟨ev1 (bk23 _), trivial, ⟨ev1 (bk24 _), trivial, trivial⟩⟩, ⟨ev0, trivial, ⟨ev1 (bk11 _), trivial, trivial⟩⟩⟩, ⟨ev0, ⟨ev1 (bk1 _), trivial, trivial⟩, trivial⟩⟩⟩, ⟨ev1 (bk25 _), ⟨ev1 (bk9 _), ⟨ev0, ⟨ev1 (bk36 _), ⟨ev1 (bk2 _), trivial, trivial⟩, trivial⟩, ⟨ev1 (bk82 _), trivial, trivial⟩⟩, ⟨ev0, ⟨ev1 (bk125 _), ⟨ev1 (bk3 _), trivial, trivial⟩, trivial⟩, trivial⟩⟩, ⟨ev0, ⟨ev0, ⟨ev1 (bk48 _), trivial, ⟨ev1 (bk15 _), trivial, trivial⟩⟩, ⟨ev0, ⟨ev1 (bk39 _), trivial, trivial⟩, ⟨ev1 (bk6 _), trivial, trivial⟩⟩⟩, ⟨ev0, ⟨ev1 (bk65 _), trivial, trivial⟩, ⟨ev0, trivial, ⟨ev1 (bk38 _), trivial, trivial⟩⟩⟩⟩⟩⟩, ⟨ev1 (bk45 _), ⟨ev0, ⟨ev1 (bk22 _), ⟨ev0, ⟨ev1 (bk41 _), trivial, trivial⟩, trivial⟩, ⟨ev0, ⟨ev0, ⟨ev1 (bk27 _), trivial, trivial⟩, ⟨ev1 (bk47 _), trivial, trivial⟩⟩, trivial⟩⟩, ⟨ev0, ⟨ev0, ⟨ev0, trivial, ⟨ev1 (bk20 _), trivial, trivial⟩⟩, ⟨ev0, ⟨ev1 (bk123 _), trivial, trivial⟩, ⟨ev1 (bk34 _), trivial, trivial⟩⟩⟩, ⟨ev1 (bk84 _), trivial, trivial⟩⟩⟩, ⟨ev0, ⟨ev0, ⟨ev0, ⟨ev1 (bk31 _), trivial, trivial⟩, trivial⟩, ⟨ev0, ⟨ev1 (bk5 _), ⟨ev1 (bk37 _), trivial, trivial⟩, trivial⟩, trivial⟩⟩, ⟨ev1 (bk16 _), ⟨ev0, ⟨ev1 (bk43 _), ⟨ev1 (bk29 _), trivial, trivial⟩, trivial⟩, ⟨ev1 (bk46 _), trivial, trivial⟩⟩, ⟨ev0, ⟨ev1 (bk13 _), trivial, ⟨ev1 (bk8 _), trivial, trivial⟩⟩, trivial⟩⟩⟩⟩⟩
noncomputable def orc2 (f : FuncId) (args : List AV) (h : Heap) : Option (T (AV × Heap)) :=
  match entPT 128 ents2 f args h with
  | some t => some t
  | none => orc1 f args h
theorem orc2_ok : ∀ f args h t, orc2 f args h = some t → CallOk pT f args h t := by
  intro f args h t e
  unfold orc2 at e
  split at e
  · rename_i u hu
    cases e
    exact entPT_ok tabs1 ents2_run hu
  · exact orc1_ok f args h t e
noncomputable def tb2 : Tabs := ⟨Sx.Tryz.ft.get, lFind Sx.Tryz.rt, 2000, orc2⟩
theorem tabs2 : TabOk pT Sx.Tryz.tt.get tb2 := Tryz.tab orc2 orc2_ok 2000
end Go.Sx
