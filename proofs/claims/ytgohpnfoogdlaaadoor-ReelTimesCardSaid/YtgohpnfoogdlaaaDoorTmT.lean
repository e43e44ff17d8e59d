/- THE CLOSED CALL THAT EVERY LAW OF THE LAYER ENDS WITH. -/
import Derived.Test.YtgohpnfoogdlaaaDoorEntT2
import Derived.Test.YtgohpnfoogdlaaaDoorSxFold
/-! THE CLOSED CALL THAT EVERY LAW OF THE LAYER ENDS WITH. -/
namespace Go.Sx
open Go.RowKit Go.Proofs
set_option maxRecDepth 100000
noncomputable def reelsS : List AV := [li 10, li 12, li 20, li 20, li 900, li 900, li 1, li 1, li 9, li 11, li 950, li 1000, li 20, li 22, li 20, li 30, li 800, li 820, li 20, li 31, li 20, li 40, li 700, li 700]
noncomputable def wornX (n : Int) : IE := .mx (.lit 0) (.bin .sub .i64 (.lit 700) (.bin .mul .i64 (.var 90) (.lit n)))
/-- how many feet the example's last reel has after some showings -/
noncomputable def wornS : CSpec := ⟨44, [.agg [.slice 1001 0 4 4, li 6, li 8, li 1, li 3, li 2000, .map 1002], li 3, vi 90], [(1001, reelsS)], 2000, [], .ret (.agg [.int .i64 (wornX 3), .int .i64 (wornX 1)])⟩
theorem wornS_chk : wornS.chk (evalN tb0 20 false 44 wornS.args (viewHeap 2000 wornS.view)) = true := by kernel_rfl
noncomputable def orcE (f : FuncId) (args : List AV) (h : Heap) : Option (T (AV × Heap)) :=
  cond (Nat.beq f 44) (match wornS.orc args h with
    | some t => some (foldT t)
    | none => orc2 f args h) (orc2 f args h)
theorem orcE_ok : ∀ f args h t, orcE f args h = some t → CallOk pT f args h t := by
  intro f args h t e
  unfold orcE at e
  cases hf : Nat.beq f 44 with
  | false => rw [hf] at e; exact orc2_ok f args h t e
  | true =>
    rw [hf, cond_true] at e
    have := beq_t.1 hf; subst this
    split at e
    · rename_i u hu; cases e
      exact CallOk.fold (CSpec.ok (c := wornS) (eval_ok tabs0 20 44 wornS.args _) wornS_chk (Nat.le_of_ble_eq_true rfl) hu)
    · exact orc2_ok 44 args h t e
noncomputable def tbE : Tabs := ⟨Sx.Tryd.ft.get, lFind Sx.Tryd.rt, 2000, orcE⟩
theorem tabsE : TabOk pT Sx.Tryd.tt.get tbE := Tryd.tab orcE orcE_ok 2000
theorem turned_run : isTrue1 (evalN tbE 100 false 12 [] (globHeap glV)) = true := by kernel_rfl
theorem glV_lit' : lAll (fun g : Nat × List AV => and (Nat.ble (g.1 + 1) 1000) (lAll litVal g.2)) glV = true := by kernel_rfl
theorem turned_orc {args : List AV} {h : Heap} {t : T (AV × Heap)} (e : closedOrc glV args h = some t) : CallOk pT 12 args h t := closedOrc_ok tabsE turned_run glV_lit' e
end Go.Sx
