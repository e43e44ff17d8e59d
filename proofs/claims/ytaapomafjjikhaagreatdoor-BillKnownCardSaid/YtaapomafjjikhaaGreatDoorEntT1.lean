/- CALLS, MADE: what is called, what it reads, what it hands back. -/
import Derived.Test.YtaapomafjjikhaaGreatDoorEntL1x3
/-! CALLS, MADE: what is called, what it reads, what it hands back. -/
namespace Go.Sx
open Go.RowKit Go.Proofs
set_option maxRecDepth 100000
theorem bk0 (k : Nat) : RunL tb0 100 k [e0, e80] := ⟨(lAll_cons (p := Ent.run tb0 100) e0_run (lAll_cons (p := Ent.run tb0 100) e80_run rfl))⟩
theorem bk7 (k : Nat) : RunL tb0 100 k [e7] := ⟨(lAll_cons (p := Ent.run tb0 100) e7_run rfl)⟩
theorem bk14 (k : Nat) : RunL tb0 100 k [e14] := ⟨(lAll_cons (p := Ent.run tb0 100) e14_run rfl)⟩
theorem bk21 (k : Nat) : RunL tb0 100 k [e21, e42, e49, e56] := ⟨(lAll_cons (p := Ent.run tb0 100) e21_run (lAll_cons (p := Ent.run tb0 100) e42_run (lAll_cons (p := Ent.run tb0 100) e49_run (lAll_cons (p := Ent.run tb0 100) e56_run rfl))))⟩
theorem bk28 (k : Nat) : RunL tb0 100 k [e28] := ⟨(lAll_cons (p := Ent.run tb0 100) e28_run rfl)⟩
theorem bk35 (k : Nat) : RunL tb0 100 k [e35] := ⟨(lAll_cons (p := Ent.run tb0 100) e35_run rfl)⟩
theorem bk63 (k : Nat) : RunL tb0 100 k [e63] := ⟨(lAll_cons (p := Ent.run tb0 100) e63_run rfl)⟩
theorem bk64 (k : Nat) : RunL tb0 100 k [e64, e116] := ⟨(lAll_cons (p := Ent.run tb0 100) e64_run (lAll_cons (p := Ent.run tb0 100) e116_run rfl))⟩
theorem bk72 (k : Nat) : RunL tb0 100 k [e72, e87, e128] := ⟨(lAll_cons (p := Ent.run tb0 100) e72_run (lAll_cons (p := Ent.run tb0 100) e87_run (lAll_cons (p := Ent.run tb0 100) e128_run rfl)))⟩
theorem bk88 (k : Nat) : RunL tb0 100 k [e88] := ⟨(lAll_cons (p := Ent.run tb0 100) e88_run rfl)⟩
theorem bk130 (k : Nat) : RunL tb0 100 k [e130] := ⟨(lAll_cons (p := Ent.run tb0 100) e130_run rfl)⟩
theorem bk132 (k : Nat) : RunL tb0 100 k [e132] := ⟨(lAll_cons (p := Ent.run tb0 100) e132_run rfl)⟩
theorem bk134 (k : Nat) : RunL tb0 100 k [e134] := ⟨(lAll_cons (p := Ent.run tb0 100) e134_run rfl)⟩
theorem bk140 (k : Nat) : RunL tb0 100 k [e140] := ⟨(lAll_cons (p := Ent.run tb0 100) e140_run rfl)⟩
theorem bk142 (k : Nat) : RunL tb0 100 k [e142] := ⟨(lAll_cons (p := Ent.run tb0 100) e142_run rfl)⟩
noncomputable def ents1 : PT (List Ent) := (.node none (.node none (.node (some [e132]) .nil (.node (some [e134]) .nil (.node (some [e7]) .nil .nil))) (.node none .nil (.node (some [e21, e42, e49, e56]) .nil (.node (some [e64, e116]) .nil .nil)))) (.node none (.node (some [e88]) (.node none (.node (some [e0, e80]) .nil .nil) .nil) (.node (some [e35]) (.node (some [e142]) .nil .nil) .nil)) (.node (some [e14]) (.node (some [e28]) (.node (some [e140]) .nil .nil) (.node (some [e63]) .nil .nil)) (.node (some [e130]) .nil (.node (some [e72, e87, e128]) .nil .nil)))))
theorem ents1_run : ents1.Every (RunL tb0 100) := ⟨ev0, ⟨ev0, ⟨ev1 (bk132 _), trivial, ⟨ev1 (bk134 _), trivial, ⟨ev1 (bk7 _), trivial, trivial⟩⟩⟩, ⟨ev0, trivial, ⟨ev1 (bk21 _), trivial, ⟨ev1 (bk64 _), trivial, trivial⟩⟩⟩⟩, ⟨ev0, ⟨ev1 (bk88 _), ⟨ev0, ⟨ev1 (bk0 _), trivial, trivial⟩, trivial⟩, ⟨ev1 (bk35 _), ⟨ev1 (bk142 _), trivial, trivial⟩, trivial⟩⟩, ⟨ev1 (bk14 _), ⟨ev1 (bk28 _), ⟨ev1 (bk140 _), trivial, trivial⟩, ⟨ev1 (bk63 _), trivial, trivial⟩⟩, ⟨ev1 (bk130 _), trivial, ⟨ev1 (bk72 _), trivial, trivial⟩⟩⟩⟩⟩
noncomputable def orc1 (f : FuncId) (args : List AV) (h : Heap) : Option (T (AV × Heap)) := entPT 32 ents1 f args h
theorem orc1_ok : ∀ f args h t, orc1 f args h = some t → CallOk pT f args h t := fun _ _ _ _ e => entPT_ok tabs0 ents1_run e
noncomputable def tb1 : Tabs := ⟨Sx.Tryz.ft.get, lFind Sx.Tryz.rt, 2000, orc1⟩
theorem tabs1 : TabOk pT Sx.Tryz.tt.get tb1 := Tryz.tab orc1 orc1_ok 2000
end Go.Sx
