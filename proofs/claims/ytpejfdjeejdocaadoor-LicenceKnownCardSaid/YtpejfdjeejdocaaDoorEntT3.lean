/- CALLS, MADE: what is called, what it reads, what it hands back. -/
import Derived.Test.YtpejfdjeejdocaaDoorEntT2
/-! CALLS, MADE: what is called, what it reads, what it hands back. -/
namespace Go.Sx
open Go.RowKit Go.Proofs
set_option maxRecDepth 100000
noncomputable def e103 : Ent := ⟨23, [], 1000, [(0, .cells [(li 1), (li 4), (li 0), (li 20), (li 0), (li 4), (li 0), (li 65535), (li 0), (li 1439), (li 0), (li 4)]), (1, .cells [(li 1), (li 30), (li 0), (li 1000), (li 0), (li 30)])], (.bool (.lit true)), [], []⟩
theorem e103_run : e103.run tb2 100 = true := by kernel_rfl
end Go.Sx
/-! CALLS, MADE: what is called, what it reads, what it hands back. -/
namespace Go.Sx
open Go.RowKit Go.Proofs
set_option maxRecDepth 100000
theorem bk103 (k : Nat) : RunL tb2 100 k [e103] := ⟨(lAll_cons (p := Ent.run tb2 100) e103_run rfl)⟩
noncomputable def ents3 : PT (List Ent) := (.node (some [e103]) .nil .nil)
theorem ents3_run : ents3.Every (RunL tb2 100) := ⟨ev1 (bk103 _), trivial, trivial⟩
noncomputable def orc3 (f : FuncId) (args : List AV) (h : Heap) : Option (T (AV × Heap)) :=
  match entPT 1 ents3 f args h with
  | some t => some t
  | none => orc2 f args h
theorem orc3_ok : ∀ f args h t, orc3 f args h = some t → CallOk pT f args h t := by
  intro f args h t e
  unfold orc3 at e
  split at e
  · rename_i u hu
    cases e
    exact entPT_ok tabs2 ents3_run hu
  · exact orc2_ok f args h t e
noncomputable def tb3 : Tabs := ⟨Sx.Tryd.ft.get, lFind Sx.Tryd.rt, 2000, orc3⟩
theorem tabs3 : TabOk pT Sx.Tryd.tt.get tb3 := Tryd.tab orc3 orc3_ok 2000
end Go.Sx
