/- CALLS, MADE: what is called, what it reads, what it hands back. -/
import Derived.Test.YtlpencfoibbdeaaDoorEntL1x0
/-! CALLS, MADE: what is called, what it reads, what it hands back. -/
namespace Go.Sx
open Go.RowKit Go.Proofs
set_option maxRecDepth 100000
noncomputable def ents1 : List Ent := [e0, e1, e2, e10, e18, e24, e25, e26, e36, e46, e56, e66, e76]
theorem ents1_run : lAll (Ent.run tb0 100) ents1 = true := lAll_cons e0_run (lAll_cons e1_run (lAll_cons e2_run (lAll_cons e10_run (lAll_cons e18_run (lAll_cons e24_run (lAll_cons e25_run (lAll_cons e26_run (lAll_cons e36_run (lAll_cons e46_run (lAll_cons e56_run (lAll_cons e66_run (lAll_cons e76_run rfl))))))))))))
noncomputable def orc1 (f : FuncId) (args : List AV) (h : Heap) : Option (T (AV × Heap)) := entOrc f args h ents1
theorem orc1_ok : ∀ f args h t, orc1 f args h = some t → CallOk pT f args h t := fun _ _ _ _ e => entOrc_ok tabs0 ents1_run e
noncomputable def tb1 : Tabs := ⟨Sx.Tryd.ft.get, lFind Sx.Tryd.rt, 2000, orc1⟩
theorem tabs1 : TabOk pT Sx.Tryd.tt.get tb1 := Tryd.tab orc1 orc1_ok 2000
end Go.Sx
