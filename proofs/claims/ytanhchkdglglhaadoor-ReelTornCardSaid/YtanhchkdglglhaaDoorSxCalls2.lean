/- THE CALLS that a film is asked by, as they are said: the program's. -/
import Derived.Test.YtanhchkdglglhaaDoorSxCalls
/-! THE CALLS that a film is asked by, as they are said: the program's. -/
namespace Go.Sx
open Go.RowKit Go.Proofs
set_option maxRecDepth 100000
theorem lk21_sub : ∀ q ∈ lk21, q ∈ allLk ∧ (q.1, q.2.1, 1) ∈ allLk ∧ q.2.2 = 0 := by
  intro q hq
  simp only [lk21, List.mem_cons, List.not_mem_nil, or_false] at hq
  simp only [allLk, List.mem_cons, List.not_mem_nil, or_false]
  rcases hq with rfl | rfl | rfl | rfl | rfl | rfl | rfl | rfl | rfl | rfl | rfl | rfl | rfl | rfl | rfl | rfl | rfl | rfl | rfl | rfl | rfl <;> simp

noncomputable def orcLK (L k : Nat) (f : FuncId) (args : List AV) (h : Heap) : Option (T (AV × Heap)) :=
  cond (Nat.beq f 83) (match (servesC L k 0).orc args h with
    | some t => some t
    | none => (servesC L k 1).orc args h) (cond (Nat.beq f 84) ((seenC L k).orc args h) none)
theorem orcLK_ok {q : Nat × Nat × Nat} (hq : q ∈ lk21) : ∀ f args h t, orcLK q.1 q.2.1 f args h = some t → CallOk pT f args h t := by
  intro f args h t e
  obtain ⟨h0, h1, h2⟩ := lk21_sub q hq
  unfold orcLK at e
  cases hf : Nat.beq f 83 with
  | true =>
    rw [hf, cond_true] at e
    have := beq_t.1 hf; subst this
    split at e
    · rename_i u hu; cases e; exact serves_orc h0 (by rw [h2]; exact hu)
    · exact serves_orc h1 e
  | false =>
    rw [hf, cond_false] at e
    cases hf2 : Nat.beq f 84 with
    | true => rw [hf2, cond_true] at e; have := beq_t.1 hf2; subst this; exact seen_orc h0 e
    | false => rw [hf2] at e; cases e
noncomputable def tbLK (L k : Nat) : Tabs := ⟨Sx.Tryd.ft.get, lFind Sx.Tryd.rt, 2000, orcLK L k⟩
theorem tabsLK {q : Nat × Nat × Nat} (hq : q ∈ lk21) : TabOk pT Sx.Tryd.tt.get (tbLK q.1 q.2.1) := Tryd.tab (orcLK q.1 q.2.1) (orcLK_ok hq) 2000

noncomputable def filmV (L : Nat) : AV := .agg [.sliceX 1001 6 0 L, vi 0, vi 1, vi 2, vi 3, vi 4]
noncomputable def glV : List (Nat × List AV) := [(0, [li 1, li 20, li 0, li 50]), (1, [li 0, li 99, li 0, li 99, li 1, li 1200])]
noncomputable def viewV (L : Nat) : List (Nat × List AV) := (1001, cellsUp (6 * L) 10) :: glV
noncomputable def wornIn : BE := .and (.cmp .leq (.lit 0) (.var 89)) (.cmp .leq (.var 89) (.lit 999))
noncomputable def wornAt (k m : Nat) : AV := .int .i64 (.mx (.lit 0) (.bin .sub .i64 (.var (hadV k m)) (.bin .mul .i64 (.var 89) (.var (tornV m)))))
/-- the calls of a valid film, of one of its reels -/
noncomputable def callV (f L k : Nat) (n : AV) (u : T AV) : CSpec := ⟨f, [filmV L, li k, n], viewV L, 2000, csL L ++ rdom k, u⟩
noncomputable def wornU (k : Nat) : T AV := .br wornIn (.ret (.tup [.agg [wornAt k 0, wornAt k 1], li 0])) (.ret (.tup [.agg [li 0, li 0], li 11]))
noncomputable def showsU (k : Nat) : T AV := .br showsIn (.br (.cmp .gtr (.var 90) (.var (hadV k 1))) (.ret (.tup [li 0, li 0, li 4]))
    (.br (lessC k 0) (.br (lessC k 1) (.ret (showsOut k true true)) (.ret (showsOut k true false))) (.br (lessC k 1) (.ret (showsOut k false true)) (.ret (showsOut k false false)))))
  (.ret (.tup [li 0, li 0, li 11]))
noncomputable def seenU (k : Nat) : T AV := .br seenIn (.br (seenB k) (.ret (.tup [.agg [.int .i64 (seenI 2 k), .int .i64 (seenI 3 k)], li 0])) (.ret (.tup [.agg [li 0, li 0], li 4]))) (.ret (.tup [.agg [li 0, li 0], li 11]))
noncomputable def specs (L k : Nat) : List CSpec := [callV 30 L k (vi 89) (wornU k), callV 31 L k (vi 89) (wornU k), callV 32 L k (vi 90) (showsU k), callV 34 L k (vi 90) (seenU k)]
noncomputable def specsCk (q : Nat × Nat × Nat) : Bool := lAll (fun c : CSpec => c.chk (evalN (tbLK q.1 q.2.1) 60 false c.f c.args (viewHeap c.nv c.view))) (specs q.1 q.2.1)
theorem specs_ck1 : lAll specsCk lk1 = true := by kernel_rfl
theorem specs_ck2 : lAll specsCk lk2 = true := by kernel_rfl
theorem specs_ck3 : lAll specsCk lk3 = true := by kernel_rfl
theorem specs_ck4 : lAll specsCk lk4 = true := by kernel_rfl
theorem specs_ck5 : lAll specsCk lk5 = true := by kernel_rfl
theorem specs_ck6 : lAll specsCk lk6 = true := by kernel_rfl
theorem specs_cks : ∀ q ∈ lk21, specsCk q = true := lk21_of specs_ck1 specs_ck2 specs_ck3 specs_ck4 specs_ck5 specs_ck6
theorem specs_orc {q : Nat × Nat × Nat} (hq : q ∈ lk21) {c : CSpec} (hc : c ∈ specs q.1 q.2.1) {args : List AV} {h : Heap} {t : T (AV × Heap)} (ho : c.orc args h = some t) : CallOk pT c.f args h t := by
  have h1 : specsCk q = true := specs_cks q hq
  have h2 := lAll_mem h1 c hc
  have hn : c.nv = 2000 := by
    simp only [specs, List.mem_cons, List.not_mem_nil, or_false] at hc
    rcases hc with rfl | rfl | rfl | rfl <;> rfl
  exact CSpec.ok (eval_ok (tabsLK hq) 60 c.f c.args _) h2 (by rw [hn]; exact Nat.le_of_ble_eq_true rfl) ho
end Go.Sx
