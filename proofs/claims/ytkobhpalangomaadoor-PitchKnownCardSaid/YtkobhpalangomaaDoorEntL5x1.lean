/- CALLS, MADE: what is called, what it reads, what it hands back. -/
import Derived.Test.YtkobhpalangomaaDoorEntL4x0
import Derived.Test.YtkobhpalangomaaDoorEntL4x1
/-! CALLS, MADE: what is called, what it reads, what it hands back. -/
namespace Go.Sx
open Go.RowKit Go.Proofs
set_option maxRecDepth 100000
theorem bk225 (k : Nat) : RunL tb3 100 k [e225] := ⟨(lAll_cons (p := Ent.run tb3 100) e225_run rfl)⟩
theorem bk244 (k : Nat) : RunL tb3 100 k [e244, e314] := ⟨(lAll_cons (p := Ent.run tb3 100) e244_run (lAll_cons (p := Ent.run tb3 100) e314_run rfl))⟩
theorem bk440 (k : Nat) : RunL tb3 100 k [e440] := ⟨(lAll_cons (p := Ent.run tb3 100) e440_run rfl)⟩
theorem bk449 (k : Nat) : RunL tb3 100 k [e449] := ⟨(lAll_cons (p := Ent.run tb3 100) e449_run rfl)⟩
noncomputable def ents4 : PT (List Ent) := (.node (some [e440]) (.node (some [e244, e314]) .nil (.node (some [e225]) .nil .nil)) (.node (some [e449]) .nil .nil))
theorem ents4_run : ents4.Every (RunL tb3 100) := ⟨ev1 (bk440 _), ⟨ev1 (bk244 _), trivial, ⟨ev1 (bk225 _), trivial, trivial⟩⟩, ⟨ev1 (bk449 _), trivial, trivial⟩⟩
noncomputable def orc4 (f : FuncId) (args : List AV) (h : Heap) : Option (T (AV × Heap)) :=
  match entPT 8 ents4 f args h with
  | some t => some t
  | none => orc3 f args h
theorem orc4_ok : ∀ f args h t, orc4 f args h = some t → CallOk pT f args h t := by
  intro f args h t e
  unfold orc4 at e
  split at e
  · rename_i u hu
    cases e
    exact entPT_ok tabs3 ents4_run hu
  · exact orc3_ok f args h t e
noncomputable def tb4 : Tabs := ⟨Sx.Tryd.ft.get, lFind Sx.Tryd.rt, 2000, orc4⟩
theorem tabs4 : TabOk pT Sx.Tryd.tt.get tb4 := Tryd.tab orc4 orc4_ok 2000
end Go.Sx
/-! CALLS, MADE: what is called, what it reads, what it hands back. -/
namespace Go.Sx
open Go.RowKit Go.Proofs
set_option maxRecDepth 100000
noncomputable def e448 : Ent := ⟨11, [(.agg [(li 6), (li 4), (.slice 1004 0 4 4), (.slice 1005 0 3 3), (.slice 1000 0 3 3), (li 50)])], 1006, [(0, .cells [(li 1), (li 6), (li 1), (li 5), (li 1), (li 4), (li 0), (li 1000)]), (1, .cells [(li 1), (li 6), (li 1), (li 5), (li 0), (li 3)]), (1000, .cells [(.slice 1001 0 3 3), (.slice 1002 0 3 3), (.slice 1003 0 3 3)]), (1001, .cells [(li 0), (li 0), (li 2)]), (1002, .cells [(li 0), (li 0), (li 0)]), (1003, .cells [(li 2), (li 0), (li 0)]), (1004, .cells [(li 0), (li 32), (li 0), (li 0)]), (1005, .cells cl47)], (.tup [(li 250), (li 0)]), [], []⟩
theorem e448_run : e448.run tb4 100 = true := by kernel_rfl
end Go.Sx
