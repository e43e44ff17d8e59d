/- CALLS, MADE: what is called, what it reads, what it hands back. -/
import Derived.Test.YtdnlbidfflpbiaaDoorEntL3x0
/-! CALLS, MADE: what is called, what it reads, what it hands back. -/
namespace Go.Sx
open Go.RowKit Go.Proofs
set_option maxRecDepth 100000
theorem bk126 (k : Nat) : RunL tb2 100 k [e126] := ⟨(lAll_cons (p := Ent.run tb2 100) e126_run rfl)⟩
noncomputable def ents3 : PT (List Ent) := (.node (some [e126]) .nil .nil)
theorem ents3_run : ents3.Every (RunL tb2 100) := ⟨ev1 (bk126 _), trivial, trivial⟩
noncomputable def orc3 (f : FuncId) (args : List AV) (h : Heap) : Option (T (AV × Heap)) :=
  match entPT 1 ents3 f args h with
  | some t => some t
  | none => orc2 f args h
theorem orc3_ok : ∀ f args h t, orc3 f args h = some t → CallOk pT f args h t := by
  intro f args h t e
  unfold orc3 at e
  split at e
  · rename_i u hu
    cases e
    exact entPT_ok tabs2 ents3_run hu
  · exact orc2_ok f args h t e
noncomputable def tb3 : Tabs := ⟨Sx.Tryd.ft.get, lFind Sx.Tryd.rt, 2000, orc3⟩
theorem tabs3 : TabOk pT Sx.Tryd.tt.get tb3 := Tryd.tab orc3 orc3_ok 2000
end Go.Sx
