/- CALLS, MADE: what is called, what it reads, what it hands back. -/
import Derived.Test.YtlpencfoibbdeaaDoorEntL3x0
/-! CALLS, MADE: what is called, what it reads, what it hands back. -/
namespace Go.Sx
open Go.RowKit Go.Proofs
set_option maxRecDepth 100000
noncomputable def ents3 : List Ent := [e143]
theorem ents3_run : lAll (Ent.run tb2 100) ents3 = true := lAll_cons e143_run rfl
noncomputable def orc3 (f : FuncId) (args : List AV) (h : Heap) : Option (T (AV × Heap)) :=
  match entOrc f args h ents3 with
  | some t => some t
  | none => orc2 f args h
theorem orc3_ok : ∀ f args h t, orc3 f args h = some t → CallOk pT f args h t := by
  intro f args h t e
  unfold orc3 at e
  split at e
  · rename_i u hu
    cases e
    exact entOrc_ok tabs2 ents3_run hu
  · exact orc2_ok f args h t e
noncomputable def tb3 : Tabs := ⟨Sx.Tryd.ft.get, lFind Sx.Tryd.rt, 2000, orc3⟩
theorem tabs3 : TabOk pT Sx.Tryd.tt.get tb3 := Tryd.tab orc3 orc3_ok 2000
end Go.Sx
