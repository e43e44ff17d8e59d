/- EntT1 -/
import Derived.Test.YtpdednocbpoikaaDoorEntL1x0
namespace Go.Sx
open Go.RowKit Go.Proofs
set_option maxRecDepth 100000
theorem bk0 (k : Nat) : RunL tb0 100 k [e0] := ⟨(lAll_cons (p := Ent.run tb0 100) e0_run rfl)⟩
theorem bk2 (k : Nat) : RunL tb0 100 k [e2, e5] := ⟨(lAll_cons (p := Ent.run tb0 100) e2_run (lAll_cons (p := Ent.run tb0 100) e5_run rfl))⟩
theorem bk3 (k : Nat) : RunL tb0 100 k [e3] := ⟨(lAll_cons (p := Ent.run tb0 100) e3_run rfl)⟩
theorem bk4 (k : Nat) : RunL tb0 100 k [e4, e7] := ⟨(lAll_cons (p := Ent.run tb0 100) e4_run (lAll_cons (p := Ent.run tb0 100) e7_run rfl))⟩
theorem bk6 (k : Nat) : RunL tb0 100 k [e6] := ⟨(lAll_cons (p := Ent.run tb0 100) e6_run rfl)⟩
noncomputable def ents1 : PT (List Ent) := (.node none (.node (some [e0]) (.node none (.node (some [e3]) .nil .nil) .nil) (.node (some [e4, e7]) .nil .nil)) (.node none (.node (some [e6]) .nil .nil) (.node (some [e2, e5]) .nil .nil)))
theorem ents1_run : ents1.Every (RunL tb0 100) := ⟨ev0, ⟨ev1 (bk0 _), ⟨ev0, ⟨ev1 (bk3 _), trivial, trivial⟩, trivial⟩, ⟨ev1 (bk4 _), trivial, trivial⟩⟩, ⟨ev0, ⟨ev1 (bk6 _), trivial, trivial⟩, ⟨ev1 (bk2 _), trivial, trivial⟩⟩⟩
noncomputable def orc1 (f : FuncId) (args : List AV) (h : Heap) : Option (T (AV × Heap)) := entPT 8 ents1 f args h
theorem orc1_ok : ∀ f args h t, orc1 f args h = some t → CallOk pT f args h t := fun _ _ _ _ e => entPT_ok tabs0 ents1_run e
noncomputable def tb1 : Tabs := ⟨Sx.Tryd.ft.get, lFind Sx.Tryd.rt, 2000, orc1⟩
theorem tabs1 : TabOk pT Sx.Tryd.tt.get tb1 := Tryd.tab orc1 orc1_ok 2000
end Go.Sx
