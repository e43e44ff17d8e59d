/- THE CLOSED CALL THAT EVERY LAW OF THE LAYER ENDS WITH. -/
import Derived.Test.YtanhchkdglglhaaDoorSpSxChoose
import Derived.Test.YtanhchkdglglhaaDoorSpSxEnt
import Derived.Test.YtanhchkdglglhaaDoorSpSxStart
import Derived.Test.YtanhchkdglglhaaDoorSpRtA
import Derived.Test.YtanhchkdglglhaaDoorSpSxFold
import Derived.Test.YtanhchkdglglhaaDoorSpSxCSpecK
/-! CALLS, MADE: what is called, what it reads, what it hands back. -/
namespace Go.Sx
open Go.RowKit Go.Proofs
set_option maxRecDepth 100000
noncomputable def gl : List (Nat × List AV) := [(0, [li 1, li 20, li 0, li 50]), (1, [li 0, li 99, li 0, li 99, li 1, li 1200])]
noncomputable def cl0 : List (AV × AV × Nat) := [((.agg [(li 0), (li 0), (li 100)]), (.agg [(li 20), (li 21)]), 0), ((.agg [(li 1), (li 20), (li 21)]), (.agg [(li 0), (li 0)]), 1), ((.agg [(li 2), (li 20), (li 21)]), (.agg [(li 20), (li 31)]), 2), ((.agg [(li 1), (li 20), (li 31)]), (.agg [(li 0), (li 0)]), 3), ((.agg [(li 3), (li 20), (li 31)]), (.agg [(li 20), (li 41)]), 4), ((.agg [(li 1), (li 20), (li 41)]), (.agg [(li 0), (li 0)]), 5), ((.agg [(li 3), (li 20), (li 21)]), (.agg [(li 20), (li 41)]), 6), ((.agg [(li 2), (li 20), (li 41)]), (.agg [(li 20), (li 31)]), 7), ((.agg [(li 1), (li 0), (li 100)]), (.agg [(li 5), (li 7)]), 8), ((.agg [(li 0), (li 5), (li 7)]), (.agg [(li 0), (li 0)]), 9), ((.agg [(li 2), (li 5), (li 7)]), (.agg [(li 0), (li 0)]), 10), ((.agg [(li 3), (li 5), (li 7)]), (.agg [(li 0), (li 0)]), 11), ((.agg [(li 2), (li 0), (li 100)]), (.agg [(li 20), (li 31)]), 12), ((.agg [(li 0), (li 20), (li 31)]), (.agg [(li 0), (li 0)]), 13), ((.agg [(li 0), (li 20), (li 41)]), (.agg [(li 0), (li 0)]), 14), ((.agg [(li 3), (li 0), (li 100)]), (.agg [(li 20), (li 41)]), 15)]
noncomputable def cl1 : List AV := [(li 10), (li 12), (li 20), (li 20), (li 900), (li 900), (li 1), (li 1), (li 9), (li 11), (li 950), (li 1000), (li 20), (li 22), (li 20), (li 30), (li 800), (li 820), (li 20), (li 31), (li 20), (li 40), (li 700), (li 700)]
noncomputable def cl2 : List AV := [(li 10), (li 12), (li 20), (li 20), (li 900), (li 900), (li 1), (li 1), (li 5), (li 6), (li 950), (li 1000), (li 20), (li 22), (li 20), (li 30), (li 800), (li 820), (li 20), (li 31), (li 20), (li 40), (li 700), (li 700)]
end Go.Sx
/-! CALLS, MADE: what is called, what it reads, what it hands back. -/
namespace Go.Sx
open Go.RowKit Go.Proofs
set_option maxRecDepth 100000
noncomputable def e0 : Ent := ⟨62, [(.agg [(.slice 1000 0 4 4), (li 6), (li 8), (li 1), (li 3), (li 2000)])], 1001, [(0, .cells [(li 1), (li 20), (li 0), (li 50)]), (1, .cells [(li 0), (li 99), (li 0), (li 99), (li 1), (li 1200)]), (1000, .cells cl1)], (.tup [(.agg [(.slice 1000 0 4 4), (li 6), (li 8), (li 1), (li 3), (li 2000), (.map 1055)]), (li 0)]), [(1055, .map [] 0)], []⟩
theorem e0_run : e0.run tb0 100 = true := by kernel_rfl
noncomputable def e1 : Ent := ⟨62, [(.agg [(.slice 1000 0 4 4), (li 6), (li 8), (li 1), (li 3), (li 2000)])], 1001, [(0, .cells [(li 1), (li 20), (li 0), (li 50)]), (1, .cells [(li 0), (li 99), (li 0), (li 99), (li 1), (li 1200)]), (1000, .cells cl2)], (.tup [(.agg [(.slice 1000 0 4 4), (li 6), (li 8), (li 1), (li 3), (li 2000), (.map 1055)]), (li 0)]), [(1055, .map [] 0)], []⟩
theorem e1_run : e1.run tb0 100 = true := by kernel_rfl
noncomputable def e2 : Ent := ⟨101, [(.agg [(.slice 1001 0 4 4), (li 6), (li 8), (li 1), (li 3), (li 2000), (.map 1000)]), (.agg [(.bool (.lit true)), (.bool (.lit true)), (.bool (.lit true)), (.bool (.lit true)), (.bool (.lit false)), (.bool (.lit false))])], 1002, [(1000, .ownMap [] 0), (1001, .cells cl2)], (.bool (.lit false)), [], [(1000, .map cl0 16)]⟩
theorem e2_run : e2.run tb0 100 = true := by kernel_rfl
noncomputable def e3 : Ent := ⟨101, [(.agg [(.slice 1000 0 4 4), (li 6), (li 8), (li 1), (li 3), (li 2000), (.map 1001)]), (.agg [(.bool (.lit true)), (.bool (.lit true)), (.bool (.lit true)), (.bool (.lit true)), (.bool (.lit false)), (.bool (.lit false))])], 1002, [(1001, .map cl0 16)], (.bool (.lit false)), [], []⟩
theorem e3_run : e3.run tb0 100 = true := by kernel_rfl
noncomputable def e4 : Ent := ⟨101, [(.agg [(.slice 1000 0 4 4), (li 6), (li 8), (li 1), (li 3), (li 2000), (.map 1001)]), (.agg [(.bool (.lit false)), (.bool (.lit true)), (.bool (.lit true)), (.bool (.lit true)), (.bool (.lit false)), (.bool (.lit false))])], 1002, [(1001, .map cl0 16)], (.bool (.lit false)), [], []⟩
theorem e4_run : e4.run tb0 100 = true := by kernel_rfl
noncomputable def e5 : Ent := ⟨101, [(.agg [(.slice 1000 0 4 4), (li 6), (li 8), (li 1), (li 3), (li 2000), (.map 1001)]), (.agg [(.bool (.lit true)), (.bool (.lit false)), (.bool (.lit true)), (.bool (.lit true)), (.bool (.lit false)), (.bool (.lit false))])], 1002, [(1001, .map cl0 16)], (.bool (.lit true)), [], []⟩
theorem e5_run : e5.run tb0 100 = true := by kernel_rfl
noncomputable def e6 : Ent := ⟨83, [(.agg [(.slice 1001 0 4 4), (li 6), (li 8), (li 1), (li 3), (li 2000), (.map 1000)]), (li 2), (li 700), (.agg [(.func (.func 105) [] []), (.func (.func 106) [] [])])], 1002, [(1001, .cells cl1)], (li 33), [], []⟩
theorem e6_run : e6.run tb0 100 = true := by kernel_rfl
noncomputable def e7 : Ent := ⟨83, [(.agg [(.slice 1001 0 4 4), (li 6), (li 8), (li 1), (li 3), (li 2000), (.map 1000)]), (li 2), (li 700), (.agg [(.func (.func 106) [] []), (.func (.func 105) [] [])])], 1002, [(1001, .cells cl1)], (li 120), [], []⟩
theorem e7_run : e7.run tb0 100 = true := by kernel_rfl
end Go.Sx
/-! CALLS, MADE: what is called, what it reads, what it hands back. -/
namespace Go.Sx
open Go.RowKit Go.Proofs
set_option maxRecDepth 100000
theorem bk0 (k : Nat) : RunL tb0 100 k [e0, e1, e2, e3, e4, e5] := ⟨(lAll_cons (p := Ent.run tb0 100) e0_run (lAll_cons (p := Ent.run tb0 100) e1_run (lAll_cons (p := Ent.run tb0 100) e2_run (lAll_cons (p := Ent.run tb0 100) e3_run (lAll_cons (p := Ent.run tb0 100) e4_run (lAll_cons (p := Ent.run tb0 100) e5_run rfl))))))⟩
theorem bk6 (k : Nat) : RunL tb0 100 k [e6, e7] := ⟨(lAll_cons (p := Ent.run tb0 100) e6_run (lAll_cons (p := Ent.run tb0 100) e7_run rfl))⟩
noncomputable def ents1 : PT (List Ent) := (.node (some [e0, e1, e2, e3, e4, e5]) .nil (.node none (.node (some [e6, e7]) .nil .nil) .nil))
theorem ents1_run : ents1.Every (RunL tb0 100) := ⟨ev1 (bk0 _), trivial, ⟨ev0, ⟨ev1 (bk6 _), trivial, trivial⟩, trivial⟩⟩
noncomputable def orc1 (f : FuncId) (args : List AV) (h : Heap) : Option (T (AV × Heap)) := entPT 8 ents1 f args h
theorem orc1_ok : ∀ f args h t, orc1 f args h = some t → CallOk pT f args h t := fun _ _ _ _ e => entPT_ok tabs0 ents1_run e
noncomputable def tb1 : Tabs := ⟨Sx.Tryd.ft.get, lFind Sx.Tryd.rt, 2000, orc1⟩
theorem tabs1 : TabOk pT Sx.Tryd.tt.get tb1 := Tryd.tab orc1 orc1_ok 2000
end Go.Sx
/-! THE CLOSED CALL THAT EVERY LAW OF THE LAYER ENDS WITH. -/
namespace Go.Sx
open Go.RowKit Go.Proofs
set_option maxRecDepth 100000
noncomputable def reelsS : List AV := [li 10, li 12, li 20, li 20, li 900, li 900, li 1, li 1, li 9, li 11, li 950, li 1000, li 20, li 22, li 20, li 30, li 800, li 820, li 20, li 31, li 20, li 40, li 700, li 700]
noncomputable def wornX (n : Int) : IE := .mx (.lit 0) (.bin .sub .i64 (.lit 700) (.bin .mul .i64 (.var 90) (.lit n)))
/-- how many feet the example's last reel has after some showings -/
noncomputable def wornS : CSpec := ⟨80, [.agg [.slice 1001 0 4 4, li 6, li 8, li 1, li 3, li 2000, .map 1002], li 3, vi 90], [(1001, reelsS)], 2000, [], .ret (.agg [.int .i64 (wornX 3), .int .i64 (wornX 1)])⟩
theorem wornS_chk : wornS.chk (evalN tb0 20 false 80 wornS.args (viewHeap 2000 wornS.view)) = true := by kernel_rfl
noncomputable def orcE (f : FuncId) (args : List AV) (h : Heap) : Option (T (AV × Heap)) :=
  cond (Nat.beq f 80) (match wornS.orc args h with
    | some t => some (foldT t)
    | none => orc1 f args h) (orc1 f args h)
theorem orcE_ok : ∀ f args h t, orcE f args h = some t → CallOk pT f args h t := by
  intro f args h t e
  unfold orcE at e
  cases hf : Nat.beq f 80 with
  | false => rw [hf] at e; exact orc1_ok f args h t e
  | true =>
    rw [hf, cond_true] at e
    have := beq_t.1 hf; subst this
    split at e
    · rename_i u hu; cases e
      exact CallOk.fold (CSpec.ok (c := wornS) (eval_ok tabs0 20 80 wornS.args _) wornS_chk (Nat.le_of_ble_eq_true rfl) hu)
    · exact orc1_ok 80 args h t e
noncomputable def tbE : Tabs := ⟨Sx.Tryd.ft.get, lFind Sx.Tryd.rt, 2000, orcE⟩
theorem tabsE : TabOk pT Sx.Tryd.tt.get tbE := Tryd.tab orcE orcE_ok 2000
theorem turned_run : isTrue1 (evalN tbE 100 false 25 [] (globHeap glV)) = true := by kernel_rfl
theorem glV_lit' : lAll (fun g : Nat × List AV => and (Nat.ble (g.1 + 1) 1000) (lAll litVal g.2)) glV = true := by kernel_rfl
theorem turned_orc {args : List AV} {h : Heap} {t : T (AV × Heap)} (e : closedOrc glV args h = some t) : CallOk pT 25 args h t := closedOrc_ok tabsE turned_run glV_lit' e
end Go.Sx
