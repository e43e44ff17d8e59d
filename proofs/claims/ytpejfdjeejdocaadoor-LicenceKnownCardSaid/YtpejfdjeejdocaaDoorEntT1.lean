/- CALLS, MADE: what is called, what it reads, what it hands back. -/
import Derived.Test.YtpejfdjeejdocaaDoorEntL1x0
/-! CALLS, MADE: what is called, what it reads, what it hands back. -/
namespace Go.Sx
open Go.RowKit Go.Proofs
set_option maxRecDepth 100000
theorem bk0 (k : Nat) : RunL tb0 100 k [e0, e5, e50, e88] := ⟨(lAll_cons (p := Ent.run tb0 100) e0_run (lAll_cons (p := Ent.run tb0 100) e5_run (lAll_cons (p := Ent.run tb0 100) e50_run (lAll_cons (p := Ent.run tb0 100) e88_run rfl))))⟩
theorem bk10 (k : Nat) : RunL tb0 100 k [e10, e15, e20, e35, e55, e60, e65, e97] := ⟨(lAll_cons (p := Ent.run tb0 100) e10_run (lAll_cons (p := Ent.run tb0 100) e15_run (lAll_cons (p := Ent.run tb0 100) e20_run (lAll_cons (p := Ent.run tb0 100) e35_run (lAll_cons (p := Ent.run tb0 100) e55_run (lAll_cons (p := Ent.run tb0 100) e60_run (lAll_cons (p := Ent.run tb0 100) e65_run (lAll_cons (p := Ent.run tb0 100) e97_run rfl))))))))⟩
theorem bk25 (k : Nat) : RunL tb0 100 k [e25, e30] := ⟨(lAll_cons (p := Ent.run tb0 100) e25_run (lAll_cons (p := Ent.run tb0 100) e30_run rfl))⟩
theorem bk40 (k : Nat) : RunL tb0 100 k [e40] := ⟨(lAll_cons (p := Ent.run tb0 100) e40_run rfl)⟩
theorem bk45 (k : Nat) : RunL tb0 100 k [e45] := ⟨(lAll_cons (p := Ent.run tb0 100) e45_run rfl)⟩
noncomputable def ents1 : PT (List Ent) := (.node none (.node none (.node none .nil (.node (some [e10, e15, e20, e35, e55, e60, e65, e97]) .nil .nil)) (.node (some [e45]) .nil (.node (some [e40]) .nil .nil))) (.node none (.node (some [e25, e30]) .nil (.node (some [e0, e5, e50, e88]) .nil .nil)) .nil))
theorem ents1_run : ents1.Every (RunL tb0 100) := ⟨ev0, ⟨ev0, ⟨ev0, trivial, ⟨ev1 (bk10 _), trivial, trivial⟩⟩, ⟨ev1 (bk45 _), trivial, ⟨ev1 (bk40 _), trivial, trivial⟩⟩⟩, ⟨ev0, ⟨ev1 (bk25 _), trivial, ⟨ev1 (bk0 _), trivial, trivial⟩⟩, trivial⟩⟩
noncomputable def orc1 (f : FuncId) (args : List AV) (h : Heap) : Option (T (AV × Heap)) := entPT 16 ents1 f args h
theorem orc1_ok : ∀ f args h t, orc1 f args h = some t → CallOk pT f args h t := fun _ _ _ _ e => entPT_ok tabs0 ents1_run e
noncomputable def tb1 : Tabs := ⟨Sx.Tryd.ft.get, lFind Sx.Tryd.rt, 2000, orc1⟩
theorem tabs1 : TabOk pT Sx.Tryd.tt.get tb1 := Tryd.tab orc1 orc1_ok 2000
end Go.Sx
