/- THE CLOSED CALL THAT EVERY LAW OF THE LAYER ENDS WITH. -/
import Derived.Test.YtpejfdjeejdocaaDoorLicA
import Derived.Test.YtpejfdjeejdocaaDoorSxEnt
import Derived.Test.YtpejfdjeejdocaaDoorSxCSpecK
/-! CALLS, MADE: what is called, what it reads, what it hands back. -/
namespace Go.Sx
open Go.RowKit Go.Proofs
noncomputable def gl : List (Nat × List AV) := glV
end Go.Sx
/-! CALLS, MADE: what is called, what it reads, what it hands back. -/
namespace Go.Sx
open Go.RowKit Go.Proofs
set_option maxRecDepth 100000
noncomputable def e0 : Ent := ⟨53, [(.agg [(.slice 1002 0 2 2), (li 1), (.slice 1000 0 1 1), (li 8), (li 1350), (.slice 1001 0 1 1)])], 1003, [(0, .cells [(li 1), (li 4), (li 0), (li 20), (li 0), (li 4), (li 0), (li 65535), (li 0), (li 1439), (li 0), (li 4)]), (1, .cells [(li 1), (li 30), (li 0), (li 1000), (li 0), (li 30)]), (1000, .cells [(li 105), (li 106)]), (1001, .cells [(li 1), (li 100)]), (1002, .cells [(li 1), (li 5), (li 2), (li 7), (li 20), (li 10)])], (.tup [(.agg [(.slice 1002 0 2 2), (li 1), (.slice 1000 0 1 1), (li 8), (li 1350), (.slice 1001 0 1 1)]), (li 0)]), [], []⟩
theorem e0_run : e0.run tb0 100 = true := by kernel_rfl
noncomputable def e2 : Ent := ⟨53, [(.agg [(.slice 1002 0 2 2), (li 1), (.slice 1000 0 1 1), (li 8), (li 1350), (.slice 1001 0 1 1)])], 1003, [(0, .cells [(li 1), (li 4), (li 0), (li 20), (li 0), (li 4), (li 0), (li 65535), (li 0), (li 1439), (li 0), (li 4)]), (1, .cells [(li 1), (li 30), (li 0), (li 1000), (li 0), (li 30)]), (1000, .cells [(li 105), (li 106)]), (1001, .cells [(li 1), (li 100)]), (1002, .cells [(li 1), (li 8), (li 2), (li 7), (li 20), (li 10)])], (.tup [(.agg [(.slice 1002 0 2 2), (li 1), (.slice 1000 0 1 1), (li 8), (li 1350), (.slice 1001 0 1 1)]), (li 0)]), [], []⟩
theorem e2_run : e2.run tb0 100 = true := by kernel_rfl
end Go.Sx
/-! CALLS, MADE: what is called, what it reads, what it hands back. -/
namespace Go.Sx
open Go.RowKit Go.Proofs
set_option maxRecDepth 100000
theorem bk0 (k : Nat) : RunL tb0 100 k [e0, e2] := ⟨(lAll_cons (p := Ent.run tb0 100) e0_run (lAll_cons (p := Ent.run tb0 100) e2_run rfl))⟩
noncomputable def ents1 : PT (List Ent) := (.node none (.node (some [e0, e2]) .nil .nil) .nil)
theorem ents1_run : ents1.Every (RunL tb0 100) := ⟨ev0, ⟨ev1 (bk0 _), trivial, trivial⟩, trivial⟩
noncomputable def orc1 (f : FuncId) (args : List AV) (h : Heap) : Option (T (AV × Heap)) := entPT 2 ents1 f args h
theorem orc1_ok : ∀ f args h t, orc1 f args h = some t → CallOk pT f args h t := fun _ _ _ _ e => entPT_ok tabs0 ents1_run e
noncomputable def tb1 : Tabs := ⟨Sx.Tryd.ft.get, lFind Sx.Tryd.rt, 2000, orc1⟩
theorem tabs1 : TabOk pT Sx.Tryd.tt.get tb1 := Tryd.tab orc1 orc1_ok 2000
end Go.Sx
/-! CALLS, MADE: what is called, what it reads, what it hands back. -/
namespace Go.Sx
open Go.RowKit Go.Proofs
set_option maxRecDepth 100000
noncomputable def e1 : Ent := ⟨30, [(.agg [(.slice 1003 0 2 2), (li 1), (.slice 1000 0 1 1), (li 8), (li 1350), (.slice 1001 0 1 1)]), (li 95), (.slice 1002 0 4 4)], 1004, [(0, .cells [(li 1), (li 4), (li 0), (li 20), (li 0), (li 4), (li 0), (li 65535), (li 0), (li 1439), (li 0), (li 4)]), (1, .cells [(li 1), (li 30), (li 0), (li 1000), (li 0), (li 30)]), (1000, .cells [(li 105), (li 106)]), (1001, .cells [(li 1), (li 100)]), (1002, .cells [(li 101), (li 108), (li 110), (li 112)]), (1003, .cells [(li 1), (li 5), (li 2), (li 7), (li 20), (li 10)])], (.tup [(.sliceX 1355 2 0 3), (li 0)]), [(1355, .cells [(li 0), (li 108), (li 0), (li 110), (li 0), (li 112)] 55 true)], []⟩
theorem e1_run : e1.run tb1 100 = true := by kernel_rfl
noncomputable def e3 : Ent := ⟨29, [(.agg [(.slice 1003 0 2 2), (li 1), (.slice 1000 0 1 1), (li 8), (li 1350), (.slice 1001 0 1 1)]), (li 95), (.slice 1002 0 4 4)], 1004, [(0, .cells [(li 1), (li 4), (li 0), (li 20), (li 0), (li 4), (li 0), (li 65535), (li 0), (li 1439), (li 0), (li 4)]), (1, .cells [(li 1), (li 30), (li 0), (li 1000), (li 0), (li 30)]), (1000, .cells [(li 105), (li 106)]), (1001, .cells [(li 1), (li 100)]), (1002, .cells [(li 101), (li 108), (li 110), (li 112)]), (1003, .cells [(li 1), (li 8), (li 2), (li 7), (li 20), (li 10)])], (.tup [(li 20), (li 0)]), [], []⟩
theorem e3_run : e3.run tb1 100 = true := by kernel_rfl
noncomputable def e4 : Ent := ⟨31, [(.agg [(.slice 1003 0 2 2), (li 1), (.slice 1000 0 1 1), (li 8), (li 1350), (.slice 1001 0 1 1)]), (.slice 1002 0 4 4)], 1004, [(0, .cells [(li 1), (li 4), (li 0), (li 20), (li 0), (li 4), (li 0), (li 65535), (li 0), (li 1439), (li 0), (li 4)]), (1, .cells [(li 1), (li 30), (li 0), (li 1000), (li 0), (li 30)]), (1000, .cells [(li 105), (li 106)]), (1001, .cells [(li 1), (li 100)]), (1002, .cells [(li 101), (li 108), (li 110), (li 112)]), (1003, .cells [(li 1), (li 5), (li 2), (li 7), (li 20), (li 10)])], (.tup [(li 106), (li 0)]), [], []⟩
theorem e4_run : e4.run tb1 100 = true := by kernel_rfl
noncomputable def e5 : Ent := ⟨33, [(.agg [(.slice 1003 0 2 2), (li 1), (.slice 1000 0 1 1), (li 8), (li 1350), (.slice 1001 0 1 1)]), (li 95), (.slice 1002 0 4 4), (li 10)], 1004, [(0, .cells [(li 1), (li 4), (li 0), (li 20), (li 0), (li 4), (li 0), (li 65535), (li 0), (li 1439), (li 0), (li 4)]), (1, .cells [(li 1), (li 30), (li 0), (li 1000), (li 0), (li 30)]), (1000, .cells [(li 105), (li 106)]), (1001, .cells [(li 1), (li 100)]), (1002, .cells [(li 101), (li 108), (li 110), (li 112)]), (1003, .cells [(li 1), (li 5), (li 2), (li 7), (li 20), (li 10)])], (.tup [(.sliceX 2253 1 0 3), (li 0)]), [(2253, .cells [(li 101), (li 108), (li 110)] 3 true)], []⟩
theorem e5_run : e5.run tb1 100 = true := by kernel_rfl
end Go.Sx
/-! CALLS, MADE: what is called, what it reads, what it hands back. -/
namespace Go.Sx
open Go.RowKit Go.Proofs
set_option maxRecDepth 100000
theorem bk1 (k : Nat) : RunL tb1 100 k [e1] := ⟨(lAll_cons (p := Ent.run tb1 100) e1_run rfl)⟩
theorem bk3 (k : Nat) : RunL tb1 100 k [e3] := ⟨(lAll_cons (p := Ent.run tb1 100) e3_run rfl)⟩
theorem bk4 (k : Nat) : RunL tb1 100 k [e4, e5] := ⟨(lAll_cons (p := Ent.run tb1 100) e4_run (lAll_cons (p := Ent.run tb1 100) e5_run rfl))⟩
noncomputable def ents2 : PT (List Ent) := (.node (some [e1]) (.node (some [e3]) .nil .nil) (.node (some [e4, e5]) .nil .nil))
theorem ents2_run : ents2.Every (RunL tb1 100) := ⟨ev1 (bk1 _), ⟨ev1 (bk3 _), trivial, trivial⟩, ⟨ev1 (bk4 _), trivial, trivial⟩⟩
noncomputable def orc2 (f : FuncId) (args : List AV) (h : Heap) : Option (T (AV × Heap)) :=
  match entPT 4 ents2 f args h with
  | some t => some t
  | none => orc1 f args h
theorem orc2_ok : ∀ f args h t, orc2 f args h = some t → CallOk pT f args h t := by
  intro f args h t e
  unfold orc2 at e
  split at e
  · rename_i u hu
    cases e
    exact entPT_ok tabs1 ents2_run hu
  · exact orc1_ok f args h t e
noncomputable def tb2 : Tabs := ⟨Sx.Tryd.ft.get, lFind Sx.Tryd.rt, 2000, orc2⟩
theorem tabs2 : TabOk pT Sx.Tryd.tt.get tb2 := Tryd.tab orc2 orc2_ok 2000
end Go.Sx
/-! THE CLOSED CALL THAT EVERY LAW OF THE LAYER ENDS WITH. -/
namespace Go.Sx
open Go.RowKit Go.Proofs
set_option maxRecDepth 100000
theorem stamped_run : isTrue1 (evalN tb2 100 false 23 [] (globHeap glV)) = true := by kernel_rfl
theorem glV_lit : lAll (fun g : Nat × List AV => and (Nat.ble (g.1 + 1) 1000) (lAll litVal g.2)) glV = true := by kernel_rfl
theorem stamped_orc {args : List AV} {h : Heap} {t : T (AV × Heap)} (e : closedOrc glV args h = some t) : CallOk pT 23 args h t := closedOrc_ok tabs2 stamped_run glV_lit e
end Go.Sx
