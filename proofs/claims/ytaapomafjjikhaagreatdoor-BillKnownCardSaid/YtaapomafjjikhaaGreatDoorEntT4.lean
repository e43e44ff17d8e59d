/- CALLS, MADE: what is called, what it reads, what it hands back. -/
import Derived.Test.YtaapomafjjikhaaGreatDoorEntL4x0
/-! CALLS, MADE: what is called, what it reads, what it hands back. -/
namespace Go.Sx
open Go.RowKit Go.Proofs
set_option maxRecDepth 100000
theorem bk144 (k : Nat) : RunL tb3 100 k [e144] := ⟨(lAll_cons (p := Ent.run tb3 100) e144_run rfl)⟩
noncomputable def ents4 : PT (List Ent) := (.node (some [e144]) .nil .nil)
theorem ents4_run : ents4.Every (RunL tb3 100) := ⟨ev1 (bk144 _), trivial, trivial⟩
noncomputable def orc4 (f : FuncId) (args : List AV) (h : Heap) : Option (T (AV × Heap)) :=
  match entPT 1 ents4 f args h with
  | some t => some t
  | none => orc3 f args h
theorem orc4_ok : ∀ f args h t, orc4 f args h = some t → CallOk pT f args h t := by
  intro f args h t e
  unfold orc4 at e
  split at e
  · rename_i u hu
    cases e
    exact entPT_ok tabs3 ents4_run hu
  · exact orc3_ok f args h t e
noncomputable def tb4 : Tabs := ⟨Sx.Tryz.ft.get, lFind Sx.Tryz.rt, 2000, orc4⟩
theorem tabs4 : TabOk pT Sx.Tryz.tt.get tb4 := Tryz.tab orc4 orc4_ok 2000
end Go.Sx
