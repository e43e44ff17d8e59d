/- CALLS, MADE: what is called, what it reads, what it hands back. -/
import Derived.Test.YtdnlbidfflpbiaaDoorEntL1x0
/-! CALLS, MADE: what is called, what it reads, what it hands back. -/
namespace Go.Sx
open Go.RowKit Go.Proofs
set_option maxRecDepth 100000
theorem bk0 (k : Nat) : RunL tb0 100 k [e0, e103] := ⟨(lAll_cons (p := Ent.run tb0 100) e0_run (lAll_cons (p := Ent.run tb0 100) e103_run rfl))⟩
theorem bk9 (k : Nat) : RunL tb0 100 k [e9] := ⟨(lAll_cons (p := Ent.run tb0 100) e9_run rfl)⟩
theorem bk18 (k : Nat) : RunL tb0 100 k [e18, e27, e100] := ⟨(lAll_cons (p := Ent.run tb0 100) e18_run (lAll_cons (p := Ent.run tb0 100) e27_run (lAll_cons (p := Ent.run tb0 100) e100_run rfl)))⟩
theorem bk99 (k : Nat) : RunL tb0 100 k [e99, e102] := ⟨(lAll_cons (p := Ent.run tb0 100) e99_run (lAll_cons (p := Ent.run tb0 100) e102_run rfl))⟩
theorem bk101 (k : Nat) : RunL tb0 100 k [e101, e104] := ⟨(lAll_cons (p := Ent.run tb0 100) e101_run (lAll_cons (p := Ent.run tb0 100) e104_run rfl))⟩
theorem bk114 (k : Nat) : RunL tb0 100 k [e114] := ⟨(lAll_cons (p := Ent.run tb0 100) e114_run rfl)⟩
theorem bk115 (k : Nat) : RunL tb0 100 k [e115] := ⟨(lAll_cons (p := Ent.run tb0 100) e115_run rfl)⟩
theorem bk116 (k : Nat) : RunL tb0 100 k [e116] := ⟨(lAll_cons (p := Ent.run tb0 100) e116_run rfl)⟩
noncomputable def ents1 : PT (List Ent) := (.node none (.node none (.node none (.node (some [e116]) .nil .nil) (.node (some [e101, e104]) .nil .nil)) (.node none (.node (some [e114]) .nil .nil) (.node (some [e18, e27, e100]) .nil .nil))) (.node none (.node none .nil (.node (some [e99, e102]) .nil .nil)) (.node (some [e115]) (.node (some [e0, e103]) .nil .nil) (.node (some [e9]) .nil .nil))))
theorem ents1_run : ents1.Every (RunL tb0 100) := ⟨ev0, ⟨ev0, ⟨ev0, ⟨ev1 (bk116 _), trivial, trivial⟩, ⟨ev1 (bk101 _), trivial, trivial⟩⟩, ⟨ev0, ⟨ev1 (bk114 _), trivial, trivial⟩, ⟨ev1 (bk18 _), trivial, trivial⟩⟩⟩, ⟨ev0, ⟨ev0, trivial, ⟨ev1 (bk99 _), trivial, trivial⟩⟩, ⟨ev1 (bk115 _), ⟨ev1 (bk0 _), trivial, trivial⟩, ⟨ev1 (bk9 _), trivial, trivial⟩⟩⟩⟩
noncomputable def orc1 (f : FuncId) (args : List AV) (h : Heap) : Option (T (AV × Heap)) := entPT 16 ents1 f args h
theorem orc1_ok : ∀ f args h t, orc1 f args h = some t → CallOk pT f args h t := fun _ _ _ _ e => entPT_ok tabs0 ents1_run e
noncomputable def tb1 : Tabs := ⟨Sx.Tryd.ft.get, lFind Sx.Tryd.rt, 2000, orc1⟩
theorem tabs1 : TabOk pT Sx.Tryd.tt.get tb1 := Tryd.tab orc1 orc1_ok 2000
end Go.Sx
