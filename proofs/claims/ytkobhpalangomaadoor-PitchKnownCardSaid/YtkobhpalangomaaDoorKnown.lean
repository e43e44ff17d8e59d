/- THE CLOSED CALL. -/
import Derived.Test.YtkobhpalangomaaDoorEntL5x0
import Derived.Test.YtkobhpalangomaaDoorEntL5x1
/-! CALLS, MADE: what is called, what it reads, what it hands back. -/
namespace Go.Sx
open Go.RowKit Go.Proofs
set_option maxRecDepth 100000
theorem bk245 (k : Nat) : RunL tb4 100 k [e245] := ⟨(lAll_cons (p := Ent.run tb4 100) e245_run rfl)⟩
theorem bk315 (k : Nat) : RunL tb4 100 k [e315] := ⟨(lAll_cons (p := Ent.run tb4 100) e315_run rfl)⟩
theorem bk448 (k : Nat) : RunL tb4 100 k [e448] := ⟨(lAll_cons (p := Ent.run tb4 100) e448_run rfl)⟩
noncomputable def ents5 : PT (List Ent) := (.node (some [e315]) (.node (some [e448]) .nil .nil) (.node (some [e245]) .nil .nil))
theorem ents5_run : ents5.Every (RunL tb4 100) := ⟨ev1 (bk315 _), ⟨ev1 (bk448 _), trivial, trivial⟩, ⟨ev1 (bk245 _), trivial, trivial⟩⟩
noncomputable def orc5 (f : FuncId) (args : List AV) (h : Heap) : Option (T (AV × Heap)) :=
  match entPT 4 ents5 f args h with
  | some t => some t
  | none => orc4 f args h
theorem orc5_ok : ∀ f args h t, orc5 f args h = some t → CallOk pT f args h t := by
  intro f args h t e
  unfold orc5 at e
  split at e
  · rename_i u hu
    cases e
    exact entPT_ok tabs4 ents5_run hu
  · exact orc4_ok f args h t e
noncomputable def tb5 : Tabs := ⟨Sx.Tryd.ft.get, lFind Sx.Tryd.rt, 2000, orc5⟩
theorem tabs5 : TabOk pT Sx.Tryd.tt.get tb5 := Tryd.tab orc5 orc5_ok 2000
end Go.Sx
/-! CALLS, MADE: what is called, what it reads, what it hands back. -/
namespace Go.Sx
open Go.RowKit Go.Proofs
set_option maxRecDepth 100000
noncomputable def e450 : Ent := ⟨20, [], 1000, [(0, .cells [(li 1), (li 6), (li 1), (li 5), (li 1), (li 4), (li 0), (li 1000)]), (1, .cells [(li 1), (li 6), (li 1), (li 5), (li 0), (li 3)])], (.bool (.lit true)), [], []⟩
theorem e450_run : e450.run tb5 100 = true := by kernel_rfl
end Go.Sx
/-! CALLS, MADE: what is called, what it reads, what it hands back. -/
namespace Go.Sx
open Go.RowKit Go.Proofs
set_option maxRecDepth 100000
theorem bk450 (k : Nat) : RunL tb5 100 k [e450] := ⟨(lAll_cons (p := Ent.run tb5 100) e450_run rfl)⟩
noncomputable def ents6 : PT (List Ent) := (.node (some [e450]) .nil .nil)
theorem ents6_run : ents6.Every (RunL tb5 100) := ⟨ev1 (bk450 _), trivial, trivial⟩
noncomputable def orc6 (f : FuncId) (args : List AV) (h : Heap) : Option (T (AV × Heap)) :=
  match entPT 1 ents6 f args h with
  | some t => some t
  | none => orc5 f args h
theorem orc6_ok : ∀ f args h t, orc6 f args h = some t → CallOk pT f args h t := by
  intro f args h t e
  unfold orc6 at e
  split at e
  · rename_i u hu
    cases e
    exact entPT_ok tabs5 ents6_run hu
  · exact orc5_ok f args h t e
noncomputable def tb6 : Tabs := ⟨Sx.Tryd.ft.get, lFind Sx.Tryd.rt, 2000, orc6⟩
theorem tabs6 : TabOk pT Sx.Tryd.tt.get tb6 := Tryd.tab orc6 orc6_ok 2000
end Go.Sx
/-! THE CLOSED CALL. -/
namespace Go.Sx
open Go.RowKit Go.Proofs
set_option maxRecDepth 100000
theorem known_run : isTrue1 (evalN tb6 100 false 3 [] (globHeap gl)) = true := by kernel_rfl

/-- IN WHATEVER WORLD the package variables lie as said. -/
theorem known_ok {ρ : Rho} {w : World} (hg : ∀ g ∈ gl, GlobIn w ρ g) : Calls Tryd.prog 3 #[] w fun e w' => e = .returned (.bool true) ∧ Below w.heap.size w w' :=
  closed_true1 tabs6 known_run hg
end Go.Sx
