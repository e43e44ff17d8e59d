/- CALLS, MADE: what is called, what it reads, what it hands back. -/
import Derived.Test.YtgohpnfoogdlaaaDoorTmC
import Derived.Test.YtgohpnfoogdlaaaDoorSxOpen
/-! CALLS, MADE: what is called, what it reads, what it hands back. -/
namespace Go.Sx
open Go.RowKit Go.Proofs
set_option maxRecDepth 100000
noncomputable def gl : List (Nat × List AV) := [(0, [li 1, li 20, li 0, li 50]), (1, [li 0, li 99, li 0, li 99, li 1, li 1200])]
noncomputable def cl0 : List AV := [(li 10), (li 12), (li 20), (li 20), (li 900), (li 900), (li 1), (li 1), (li 9), (li 11), (li 950), (li 1000), (li 20), (li 22), (li 20), (li 30), (li 800), (li 820), (li 20), (li 31), (li 20), (li 40), (li 700), (li 700)]
noncomputable def cl1 : List AV := [(li 10), (li 12), (li 20), (li 20), (li 900), (li 900), (li 1), (li 1), (li 5), (li 6), (li 950), (li 1000), (li 20), (li 22), (li 20), (li 30), (li 800), (li 820), (li 20), (li 31), (li 20), (li 40), (li 700), (li 700)]
end Go.Sx
/-! CALLS, MADE: what is called, what it reads, what it hands back. -/
namespace Go.Sx
open Go.RowKit Go.Proofs
set_option maxRecDepth 100000
noncomputable def e0 : Ent := ⟨13, [(.agg [(.slice 1000 0 4 4), (li 6), (li 8), (li 1), (li 3), (li 2000)])], 1001, [(0, .cells [(li 1), (li 20), (li 0), (li 50)]), (1, .cells [(li 0), (li 99), (li 0), (li 99), (li 1), (li 1200)]), (1000, .cells cl0)], (.tup [(.agg [(.slice 1000 0 4 4), (li 6), (li 8), (li 1), (li 3), (li 2000), (.map 1055)]), (li 0)]), [(1055, .map [] 0)], []⟩
theorem e0_run : e0.run tb0 100 = true := by kernel_rfl
noncomputable def e1 : Ent := ⟨60, [(.agg [(.slice 1001 0 4 4), (li 6), (li 8), (li 1), (li 3), (li 2000), (.map 1000)]), .nilslice], 1002, [], (.agg [(.bool (.lit true)), (.bool (.lit true)), (.bool (.lit true)), (.bool (.lit true)), (.bool (.lit false)), (.bool (.lit false))]), [], []⟩
theorem e1_run : e1.run tb0 100 = true := by kernel_rfl
noncomputable def e3 : Ent := ⟨13, [(.agg [(.slice 1000 0 4 4), (li 6), (li 8), (li 1), (li 3), (li 2000)])], 1001, [(0, .cells [(li 1), (li 20), (li 0), (li 50)]), (1, .cells [(li 0), (li 99), (li 0), (li 99), (li 1), (li 1200)]), (1000, .cells cl1)], (.tup [(.agg [(.slice 1000 0 4 4), (li 6), (li 8), (li 1), (li 3), (li 2000), (.map 1055)]), (li 0)]), [(1055, .map [] 0)], []⟩
theorem e3_run : e3.run tb0 100 = true := by kernel_rfl
noncomputable def e4 : Ent := ⟨60, [(.agg [(.slice 1002 0 4 4), (li 6), (li 8), (li 1), (li 3), (li 2000), (.map 1000)]), (.slice 1001 0 0 0)], 1003, [], (.agg [(.bool (.lit true)), (.bool (.lit true)), (.bool (.lit true)), (.bool (.lit true)), (.bool (.lit false)), (.bool (.lit false))]), [], []⟩
theorem e4_run : e4.run tb0 100 = true := by kernel_rfl
noncomputable def e5 : Ent := ⟨60, [(.agg [(.slice 1001 0 4 4), (li 6), (li 8), (li 1), (li 3), (li 2000), (.map 1002)]), (.slice 1000 0 1 1)], 1003, [(1000, .cells [(li 0)])], (.agg [(.bool (.lit false)), (.bool (.lit true)), (.bool (.lit true)), (.bool (.lit true)), (.bool (.lit false)), (.bool (.lit false))]), [], []⟩
theorem e5_run : e5.run tb0 100 = true := by kernel_rfl
noncomputable def e6 : Ent := ⟨60, [(.agg [(.slice 1001 0 4 4), (li 6), (li 8), (li 1), (li 3), (li 2000), (.map 1002)]), (.slice 1000 0 1 1)], 1003, [(1000, .cells [(li 1)])], (.agg [(.bool (.lit true)), (.bool (.lit false)), (.bool (.lit true)), (.bool (.lit true)), (.bool (.lit false)), (.bool (.lit false))]), [], []⟩
theorem e6_run : e6.run tb0 100 = true := by kernel_rfl
noncomputable def e8 : Ent := ⟨52, [(.agg [(.slice 1001 0 4 4), (li 6), (li 8), (li 1), (li 3), (li 2000), (.map 1000)]), (li 2), (li 700), (.agg [(.func (.func 64) [] []), (.func (.func 65) [] [])])], 1002, [(1001, .cells cl0)], (li 33), [], []⟩
theorem e8_run : e8.run tb0 100 = true := by kernel_rfl
noncomputable def e9 : Ent := ⟨52, [(.agg [(.slice 1001 0 4 4), (li 6), (li 8), (li 1), (li 3), (li 2000), (.map 1000)]), (li 2), (li 700), (.agg [(.func (.func 65) [] []), (.func (.func 64) [] [])])], 1002, [(1001, .cells cl0)], (li 120), [], []⟩
theorem e9_run : e9.run tb0 100 = true := by kernel_rfl
end Go.Sx
/-! CALLS, MADE: what is called, what it reads, what it hands back. -/
namespace Go.Sx
open Go.RowKit Go.Proofs
set_option maxRecDepth 100000
theorem bk0 (k : Nat) : RunL tb0 100 k [e0, e3, e8, e9] := ⟨(lAll_cons (p := Ent.run tb0 100) e0_run (lAll_cons (p := Ent.run tb0 100) e3_run (lAll_cons (p := Ent.run tb0 100) e8_run (lAll_cons (p := Ent.run tb0 100) e9_run rfl))))⟩
theorem bk1 (k : Nat) : RunL tb0 100 k [e1] := ⟨(lAll_cons (p := Ent.run tb0 100) e1_run rfl)⟩
theorem bk4 (k : Nat) : RunL tb0 100 k [e4] := ⟨(lAll_cons (p := Ent.run tb0 100) e4_run rfl)⟩
theorem bk5 (k : Nat) : RunL tb0 100 k [e5, e6] := ⟨(lAll_cons (p := Ent.run tb0 100) e5_run (lAll_cons (p := Ent.run tb0 100) e6_run rfl))⟩
noncomputable def ents1 : PT (List Ent) := (.node none (.node (some [e4]) .nil .nil) (.node (some [e5, e6]) (.node (some [e0, e3, e8, e9]) .nil .nil) (.node (some [e1]) .nil .nil)))
theorem ents1_run : ents1.Every (RunL tb0 100) := ⟨ev0, ⟨ev1 (bk4 _), trivial, trivial⟩, ⟨ev1 (bk5 _), ⟨ev1 (bk0 _), trivial, trivial⟩, ⟨ev1 (bk1 _), trivial, trivial⟩⟩⟩
noncomputable def orc1 (f : FuncId) (args : List AV) (h : Heap) : Option (T (AV × Heap)) := entPT 8 ents1 f args h
theorem orc1_ok : ∀ f args h t, orc1 f args h = some t → CallOk pT f args h t := fun _ _ _ _ e => entPT_ok tabs0 ents1_run e
noncomputable def tb1 : Tabs := ⟨Sx.Tryd.ft.get, lFind Sx.Tryd.rt, 2000, orc1⟩
theorem tabs1 : TabOk pT Sx.Tryd.tt.get tb1 := Tryd.tab orc1 orc1_ok 2000
end Go.Sx
/-! CALLS, MADE: what is called, what it reads, what it hands back. -/
namespace Go.Sx
open Go.RowKit Go.Proofs
set_option maxRecDepth 100000
noncomputable def e2 : Ent := ⟨48, [(.agg [(.slice 1001 0 4 4), (li 6), (li 8), (li 1), (li 3), (li 2000), (.map 1000)]), (li 3)], 1002, [(1000, .ownMap [] 0), (1001, .cells cl0)], (.agg [(.bool (.lit false)), (.bool (.lit false)), (.bool (.lit true)), (.bool (.lit true)), (.bool (.lit false)), (.bool (.lit false))]), [], [(1000, .map [((.agg [(li 0), (li 0), (li 100)]), (.agg [(li 20), (li 21)]), 0), ((.agg [(li 1), (li 20), (li 21)]), (.agg [(li 0), (li 0)]), 1), ((.agg [(li 2), (li 20), (li 21)]), (.agg [(li 20), (li 31)]), 2), ((.agg [(li 1), (li 20), (li 31)]), (.agg [(li 0), (li 0)]), 3), ((.agg [(li 3), (li 20), (li 31)]), (.agg [(li 20), (li 41)]), 4), ((.agg [(li 1), (li 20), (li 41)]), (.agg [(li 0), (li 0)]), 5), ((.agg [(li 3), (li 20), (li 21)]), (.agg [(li 20), (li 41)]), 6), ((.agg [(li 2), (li 20), (li 41)]), (.agg [(li 20), (li 31)]), 7), ((.agg [(li 1), (li 0), (li 100)]), (.agg [(li 9), (li 12)]), 8), ((.agg [(li 0), (li 9), (li 12)]), (.agg [(li 20), (li 21)]), 9), ((.agg [(li 2), (li 9), (li 12)]), (.agg [(li 0), (li 0)]), 10), ((.agg [(li 3), (li 9), (li 12)]), (.agg [(li 0), (li 0)]), 11), ((.agg [(li 2), (li 0), (li 100)]), (.agg [(li 20), (li 31)]), 12), ((.agg [(li 0), (li 20), (li 31)]), (.agg [(li 0), (li 0)]), 13), ((.agg [(li 0), (li 20), (li 41)]), (.agg [(li 0), (li 0)]), 14), ((.agg [(li 3), (li 0), (li 100)]), (.agg [(li 20), (li 41)]), 15)] 16)]⟩
theorem e2_run : e2.run tb1 100 = true := by kernel_rfl
noncomputable def e7 : Ent := ⟨50, [(.agg [(.slice 1001 0 4 4), (li 6), (li 8), (li 1), (li 3), (li 2000), (.map 1000)])], 1002, [(1000, .ownMap [] 0), (1001, .cells cl1)], (.sliceX 1349 1 0 1), [(1349, .cells [(li 1)] 3 true)], [(1000, .map [((.agg [(li 0), (li 0), (li 100)]), (.agg [(li 20), (li 21)]), 0), ((.agg [(li 1), (li 20), (li 21)]), (.agg [(li 0), (li 0)]), 1), ((.agg [(li 2), (li 20), (li 21)]), (.agg [(li 20), (li 31)]), 2), ((.agg [(li 1), (li 20), (li 31)]), (.agg [(li 0), (li 0)]), 3), ((.agg [(li 3), (li 20), (li 31)]), (.agg [(li 20), (li 41)]), 4), ((.agg [(li 1), (li 20), (li 41)]), (.agg [(li 0), (li 0)]), 5), ((.agg [(li 3), (li 20), (li 21)]), (.agg [(li 20), (li 41)]), 6), ((.agg [(li 2), (li 20), (li 41)]), (.agg [(li 20), (li 31)]), 7), ((.agg [(li 1), (li 0), (li 100)]), (.agg [(li 5), (li 7)]), 8), ((.agg [(li 0), (li 5), (li 7)]), (.agg [(li 0), (li 0)]), 9), ((.agg [(li 2), (li 5), (li 7)]), (.agg [(li 0), (li 0)]), 10), ((.agg [(li 3), (li 5), (li 7)]), (.agg [(li 0), (li 0)]), 11), ((.agg [(li 2), (li 0), (li 100)]), (.agg [(li 20), (li 31)]), 12), ((.agg [(li 0), (li 20), (li 31)]), (.agg [(li 0), (li 0)]), 13), ((.agg [(li 0), (li 20), (li 41)]), (.agg [(li 0), (li 0)]), 14), ((.agg [(li 3), (li 0), (li 100)]), (.agg [(li 20), (li 41)]), 15)] 16)]⟩
theorem e7_run : e7.run tb1 100 = true := by kernel_rfl
end Go.Sx
/-! CALLS, MADE: what is called, what it reads, what it hands back. -/
namespace Go.Sx
open Go.RowKit Go.Proofs
set_option maxRecDepth 100000
theorem bk2 (k : Nat) : RunL tb1 100 k [e2, e7] := ⟨(lAll_cons (p := Ent.run tb1 100) e2_run (lAll_cons (p := Ent.run tb1 100) e7_run rfl))⟩
noncomputable def ents2 : PT (List Ent) := (.node (some [e2, e7]) .nil .nil)
theorem ents2_run : ents2.Every (RunL tb1 100) := ⟨ev1 (bk2 _), trivial, trivial⟩
noncomputable def orc2 (f : FuncId) (args : List AV) (h : Heap) : Option (T (AV × Heap)) :=
  match entPT 2 ents2 f args h with
  | some t => some t
  | none => orc1 f args h
theorem orc2_ok : ∀ f args h t, orc2 f args h = some t → CallOk pT f args h t := by
  intro f args h t e
  unfold orc2 at e
  split at e
  · rename_i u hu
    cases e
    exact entPT_ok tabs1 ents2_run hu
  · exact orc1_ok f args h t e
noncomputable def tb2 : Tabs := ⟨Sx.Tryd.ft.get, lFind Sx.Tryd.rt, 2000, orc2⟩
theorem tabs2 : TabOk pT Sx.Tryd.tt.get tb2 := Tryd.tab orc2 orc2_ok 2000
end Go.Sx
