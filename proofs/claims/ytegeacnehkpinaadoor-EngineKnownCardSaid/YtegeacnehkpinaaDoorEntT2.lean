/- CALLS, MADE: what is called, what it reads, what it hands back. -/
import Derived.Test.YtegeacnehkpinaaDoorEntL2x0
/-! CALLS, MADE: what is called, what it reads, what it hands back. -/
namespace Go.Sx
open Go.RowKit Go.Proofs
set_option maxRecDepth 100000
theorem bk108 (k : Nat) : RunL tb1 100 k [e108] := ⟨(lAll_cons (p := Ent.run tb1 100) e108_run rfl)⟩
theorem bk115 (k : Nat) : RunL tb1 100 k [e115] := ⟨(lAll_cons (p := Ent.run tb1 100) e115_run rfl)⟩
theorem bk121 (k : Nat) : RunL tb1 100 k [e121] := ⟨(lAll_cons (p := Ent.run tb1 100) e121_run rfl)⟩
theorem bk128 (k : Nat) : RunL tb1 100 k [e128] := ⟨(lAll_cons (p := Ent.run tb1 100) e128_run rfl)⟩
theorem bk135 (k : Nat) : RunL tb1 100 k [e135, e156] := ⟨(lAll_cons (p := Ent.run tb1 100) e135_run (lAll_cons (p := Ent.run tb1 100) e156_run rfl))⟩
theorem bk142 (k : Nat) : RunL tb1 100 k [e142] := ⟨(lAll_cons (p := Ent.run tb1 100) e142_run rfl)⟩
theorem bk149 (k : Nat) : RunL tb1 100 k [e149, e154] := ⟨(lAll_cons (p := Ent.run tb1 100) e149_run (lAll_cons (p := Ent.run tb1 100) e154_run rfl))⟩
theorem bk163 (k : Nat) : RunL tb1 100 k [e163] := ⟨(lAll_cons (p := Ent.run tb1 100) e163_run rfl)⟩
theorem bk169 (k : Nat) : RunL tb1 100 k [e169] := ⟨(lAll_cons (p := Ent.run tb1 100) e169_run rfl)⟩
noncomputable def ents2 : PT (List Ent) := (.node none (.node (some [e128]) (.node none (.node (some [e142]) .nil .nil) (.node (some [e115]) .nil .nil)) (.node none (.node (some [e149, e154]) .nil .nil) (.node (some [e121]) .nil .nil))) (.node (some [e169]) (.node (some [e108]) (.node (some [e163]) .nil .nil) .nil) (.node (some [e135, e156]) .nil .nil)))
theorem ents2_run : ents2.Every (RunL tb1 100) := ⟨ev0, ⟨ev1 (bk128 _), ⟨ev0, ⟨ev1 (bk142 _), trivial, trivial⟩, ⟨ev1 (bk115 _), trivial, trivial⟩⟩, ⟨ev0, ⟨ev1 (bk149 _), trivial, trivial⟩, ⟨ev1 (bk121 _), trivial, trivial⟩⟩⟩, ⟨ev1 (bk169 _), ⟨ev1 (bk108 _), ⟨ev1 (bk163 _), trivial, trivial⟩, trivial⟩, ⟨ev1 (bk135 _), trivial, trivial⟩⟩⟩
noncomputable def orc2 (f : FuncId) (args : List AV) (h : Heap) : Option (T (AV × Heap)) :=
  match entPT 16 ents2 f args h with
  | some t => some t
  | none => orc1 f args h
theorem orc2_ok : ∀ f args h t, orc2 f args h = some t → CallOk pT f args h t := by
  intro f args h t e
  unfold orc2 at e
  split at e
  · rename_i u hu
    cases e
    exact entPT_ok tabs1 ents2_run hu
  · exact orc1_ok f args h t e
noncomputable def tb2 : Tabs := ⟨Sx.Tryd.ft.get, lFind Sx.Tryd.rt, 2000, orc2⟩
theorem tabs2 : TabOk pT Sx.Tryd.tt.get tb2 := Tryd.tab orc2 orc2_ok 2000
end Go.Sx
