/- THE EVALUATOR IS SOUND. -/
import Derived.Test.YtjbagflebkiplaaDoorSxCall
/-! THE EVALUATOR IS SOUND. -/
namespace Go.Sx
open Go.RowKit

theorem cFunc_some {ty : Nat → Option TI} {keep : List Nat} {fid : FuncId} {fn : Func} {cf : CF} (h : cFunc ty keep fid fn = some cf) :
    ∃ c f rs, fn.body = some c ∧ cCode ty fn.ntmps keep fid c = some f ∧ cRes ty fn.results.toList = some rs ∧ ((List.range (fn.params.size + fn.nfree)).all fun i => memN keep (some i)) = true ∧ cf = ⟨fn.params.size + fn.nfree, f, rs⟩ := by
  unfold cFunc at h
  split at h
  · cases h
  · rename_i c hc
    split at h
    · rename_i f rs hf hrs
      cases hk : ((List.range (fn.params.size + fn.nfree)).all fun i => memN keep (some i)) with
      | false => rw [hk] at h; cases h
      | true => rw [hk] at h; cases h; exact ⟨c, f, rs, hc, hf, hrs, rfl, rfl⟩
    · cases h

/-- what a call leads to -/
def CallOk (p : Par) (f : FuncId) (args : List AV) (h : Heap) (t : T (AV × Heap)) : Prop :=
  ∀ vs E w0 w Q K, t.Holds E.ρ Q → HeapOk p E h w0 w → concL E args = some vs → Post p E w0 Q K →
    (callFunc f vs.toArray).run p.P w = .ok (.enter f vs.toArray) w ∧ Calls p.P f vs.toArray w fun e w' => ∃ v, e = .returned v ∧ K v w'

structure TabOk (p : Par) (ty : Nat → Option TI) (tb : Tabs) : Prop where
  types : TyOk p.P ty
  mixed : p.P.follows .mixedOrders = true
  fn : ∀ f cf, tb.F f = some cf → ∃ fn keep, p.P.funcs[f]? = some fn ∧ cFunc ty keep f fn = some cf ∧ (fn.name == "runtime.NumGoroutine") = false ∧ ∀ c, fn.body = some c → Rng p fn.ntmps keep f c
  rc : ∀ code n keep a b, p.RC code n keep a b → ∃ fid ca cb, tb.R code = some (ca, cb) ∧ cCode ty n keep fid a = some ca ∧ cCode ty n keep fid b = some cb ∧ Rng p n keep fid a ∧ Rng p n keep fid b
  orc : ∀ f args h t, tb.orc f args h = some t → CallOk p f args h t

theorem run_callFunc {P : Program} {f : FuncId} {fn : Func} {c : Code} (hf : P.funcs[f]? = some fn) (hb : fn.body = some c) (hn : (fn.name == "runtime.NumGoroutine") = false) (args : Array Value) (w : World) :
    (callFunc f args).run P w = .ok (.enter f args) w := by
  unfold callFunc
  simp only [Sem.run_bind, program, Sem.run, Result.andThen_ok, hf, hn, hb, Bool.false_eq_true, if_false, Option.isNone_some]
  rfl

theorem callBody_ok {p : Par} {ty : Nat → Option TI} {tb : Tabs} (B : TabOk p ty tb) {cx : Cx} (CX : CxOk p cx) (f : FuncId) (args : List AV) (h : Heap) : CallOk p f args h (callBody tb cx f args h) := by
  intro vs E w0 w Q K k HH ha P
  unfold callBody at k
  cases hF : tb.F f with
  | none => rw [hF] at k; exact k.elim
  | some cf =>
    rw [hF] at k
    simp only at k
    obtain ⟨fn, keep, hfn, hcf, hname, hrng⟩ := B.fn f cf hF
    obtain ⟨c, g, rs, hb, hg, hrs, hkeep, rfl⟩ := cFunc_some hcf
    refine ⟨run_callFunc hfn hb hname _ w, ?_⟩
    cases hl : Nat.ble (lLen args) (fn.params.size + fn.nfree) with
    | false => simp only [hl, cond_false] at k; exact k.elim
    | true =>
      simp only [hl, cond_true] at k
      rw [T.holds_bind] at k
      have hlen : args.length ≤ fn.params.size + fn.nfree := by have := ble_t.1 hl; rwa [lLen_eq] at this
      refine callsIn_wide.1 (callsIn_of_wp_marks (F := Fence.wide) (n := 0) hfn hb trivial ?_)
      refine cCode_ok B.types B.mixed c g hg (hrng c hb) cx CX ⟨f, none⟩ none E w0 w ⟨⟨[], tmOf args 0 .nil⟩, [], h⟩ _ _ _ trivial ⟨args_ok ha hkeep hlen, trivial, HH⟩ k ?_
      intro x s' E' w' a' q hle S'
      have fin : (finish ⟨fn.params.size + fn.nfree, g, rs⟩ (x, s')).Holds E'.ρ Q := by rw [hle.ρ]; exact q
      have go : ((undefer s'.df s'.h).bind fun h2 => match resultsA s'.tm h2 rs with
          | some vs => T.ret (one vs, h2)
          | none => .fail 64).Holds E'.ρ Q → LeavesInM Fence.wide 0 p.P fn a'.tmps (fun e w' => ∃ v, e = .returned v ∧ K v w') a'.defers .returning w' := fun kk => by
        rw [T.holds_bind] at kk
        refine undefer_ok s'.df a'.defers s'.h w' S'.df S'.hp kk ?_
        intro h2 w2 q2 HH2
        cases hres : resultsA s'.tm h2 rs with
        | none => rw [hres] at q2; exact q2.elim
        | some vs' =>
          rw [hres] at q2
          obtain ⟨v, hv1, hv2⟩ := run_results B.types S'.tm HH2 hrs hres
          exact ⟨v, hv2, v, rfl, P _ _ E' w2 v q2 hle HH2 hv1⟩
      cases x with
      | norm => exact go fin
      | ret => exact go fin
      | exit id => exact fin.elim

/-! ## Rounds -/
theorem setParams_ok {n : Nat} {keep : List Nat} {E : Env} : ∀ (ps : List Nat) (args : List AV) (vs : List Value) (tm tm' : PT AV) (arr : Array Value), setParams ps args tm = some tm' → concL E args = some vs → n ≤ arr.size → psOk n keep ps = true → TreeOk keep E tm arr →
    vs.length = ps.length ∧ TreeOk keep E tm' ((ps.zip vs).foldl (fun t q => t.setIfInBounds q.1 q.2) arr) ∧ ((ps.zip vs).foldl (fun t q => t.setIfInBounds q.1 q.2) arr).size = arr.size
  | [], [], vs, tm, tm', arr, h, ha, hn, hp, H => by
    simp only [setParams, Option.some.injEq] at h; subst h
    simp only [concL, Option.some.injEq] at ha; subst ha
    exact ⟨rfl, H, rfl⟩
  | [], _ :: _, vs, tm, tm', arr, h, ha, hn, hp, H => by simp [setParams] at h
  | _ :: _, [], vs, tm, tm', arr, h, ha, hn, hp, H => by simp [setParams] at h
  | t :: ps, a :: args, vs, tm, tm', arr, h, ha, hn, hp, H => by
    simp only [setParams] at h
    obtain ⟨v, r, hv, hr, rfl⟩ := concL_cons.1 ha
    simp only [psOk, List.all_cons, Bool.and_eq_true] at hp
    have hlt := ble_t.1 hp.1.2
    have H' : TreeOk keep E (PT.set tm t a) (arr.setIfInBounds t v) := by
      refine ⟨fun i b e => ?_⟩
      rw [PT.get_set] at e
      by_cases c : i = t
      · subst c; rw [if_pos rfl] at e; cases e
        exact ⟨hp.1.1, v, hv, by rw [Array.getElem?_setIfInBounds]; simp; omega⟩
      · rw [if_neg c] at e
        obtain ⟨h1, u, h2, h3⟩ := H.at_ i b e
        exact ⟨h1, u, h2, by rw [Array.getElem?_setIfInBounds_ne (Ne.symm c)]; exact h3⟩
    obtain ⟨h1, h2, h3⟩ := setParams_ok ps args r _ tm' (arr.setIfInBounds t v) h hr (by simpa using hn) (by simpa [psOk] using hp.2) H'
    exact ⟨by simp [h1], h2, by rw [List.zip_cons_cons, List.foldl_cons, h3]; simp⟩

theorem goesOn_eq (x : Ex) : goesOn x = (jumpOf x).isNone := by cases x <;> rfl
theorem endState_eq (x : Ex) : endState x = if (jumpOf x).isNone then .ready else .done := by cases x <;> rfl

theorem yieldBody_ok {p : Par} {ty : Nat → Option TI} {tb : Tabs} (B : TabOk p ty tb) {cx : Cx} (CX : CxOk p cx) (l : Nat) (args : List AV) (h : Heap) :
    ∀ vs E w0 w Q K q, (yieldBody tb cx l args h).Holds E.ρ Q → HeapOk p E h w0 w → concL E args = some vs → E.σ l = some q → Post p E w0 Q K → Does p.P ((Instr.yield q.1 vs.toArray).run p.P w) K := by
  intro vs E w0 w Q K q k HH ha hq P
  unfold yieldBody at k
  split at k
  · rename_i st0 pd0 fnn tm params code d0 hg
    split at k
    · rename_i tm' c htm hR
      obtain ⟨cc, d', n, keep, r, g1, g2, g3, g4, g5, g6, g7, g8, ⟨g9, g9'⟩, g10, ht⟩ := HH.loopTurn hg
      rw [hq] at g1; cases g1
      obtain ⟨fid, ca, cb, hR', hca, hcb, ra, rb⟩ := B.rc code n keep _ _ g9
      rw [hR] at hR'; cases hR'
      obtain ⟨s1, s2, s3⟩ := setParams_ok (n := n) params args vs tm tm' r.tmps htm ha g6 g9' g7
      have hzip : ((r.params.zip vs.toArray).foldl (fun tmps (x : Nat × Value) => tmps.setIfInBounds x.1 x.2) r.tmps) = ((params.zip vs).foldl (fun t q => t.setIfInBounds q.1 q.2) r.tmps) := by
        rw [← g8, ← Array.foldl_toList]
        simp
      have hsz : vs.toArray.size = r.params.size := by
        rw [← g8] at s1; simpa using s1
      rw [run_yield g3 hsz]
      rw [T.holds_bind] at k
      show RoundIn Fence.wide 0 p.P cc r.fn ((r.params.zip vs.toArray).foldl (fun tmps (x : Nat × Value) => tmps.setIfInBounds x.1 x.2) r.tmps) r.assign r.body w _
      rw [hzip]
      refine roundIn_of_wpIn (F := Fence.wide) trivial ?_
      have S0 : StOk p n keep E w0 ⟨⟨[], tm'⟩, [], h⟩ { tmps := (params.zip vs).foldl (fun t q => t.setIfInBounds q.1 q.2) r.tmps, defers := [] } w :=
        ⟨⟨by rw [s3]; exact g6, fun i a e => (by cases e), s2⟩, trivial, HH⟩
      refine cCode_ok B.types B.mixed r.assign ca hca ra cx CX ⟨fnn, some l⟩ (some cc) E w0 w _ _ _ _ hq S0 k ?_
      intro x s1 E1 w1 a1 q1 hle1 S1
      cases x with
      | exit id => exact q1.elim
      | ret => exact q1.elim
      | norm =>
        have q1' : (midRound cx ⟨fnn, some l⟩ l cb (.norm, s1)).Holds E1.ρ Q := by rw [hle1.ρ]; exact q1
        unfold midRound at q1'
        simp only at q1'
        split at q1'
        · rename_i st1 p1 f1 t1 ps1 c1 d1 hg1
          split at q1'
          · obtain ⟨cc1, d1', n1, keep1, r1, e1, e2, e3, e4, e5, e6, e7, e8, e9, e10, ht1⟩ := S1.hp.loopTurn hg1
            have hq1 := hle1.σ _ _ hq
            rw [hq1] at e1; cases e1
            have HB := ht1 .busy p1
            rw [show ({ r1 with state := LoopState.busy, pending := jumpOf p1 } : Loop) = { r1 with state := .busy } from by rw [← e5]] at HB
            refine ⟨_, run_beginRound e3 e4, ?_⟩
            rw [T.holds_bind] at q1'
            refine cCode_ok B.types B.mixed r.body cb hcb rb cx CX ⟨fnn, some l⟩ (some cc) E1 w0 _ ⟨s1.tm, s1.df, s1.h.put l (.loop .busy p1 f1 t1 ps1 c1 d1)⟩ _ _ _ hq1 ⟨S1.tm, S1.df, HB⟩ q1' ?_
            intro x s2 E2 w2 a2 q2 hle2 S2
            have q2' : (endRound l (x, s2)).Holds E2.ρ Q := by rw [hle2.ρ]; exact q2
            unfold endRound at q2'
            simp only at q2'
            split at q2'
            · split at q2'
              · rename_i st2 p2 f2 t2 ps2 c2 d2 hg2
                obtain ⟨cc2, d2', n2, keep2, r2, o1, o2, o3, o4, o5, o6, o7, o8, o9, o10, ht2⟩ := S2.hp.loopTurn hg2
                have hq2 := hle2.σ _ _ hq1
                rw [hq2] at o1; cases o1
                have HE := ht2 (endState x) x
                have hre := run_endRound (P := p.P) (jumpOf x) o3
                rw [← endState_eq] at hre
                have done : ∃ v w', (Instr.endRound cc (jumpOf x)).run p.P w2 = .ok v w' ∧ ∃ u, Ending.returned v = .returned u ∧ K u w' := by
                  refine ⟨_, _, hre, _, rfl, ?_⟩
                  refine P _ _ E2 _ (.bool (jumpOf x).isNone) q2' (hle1.trans hle2) HE ?_
                  rw [goesOn_eq]; rfl
                cases x <;> exact done
              · exact q2'.elim
            · exact q2'.elim
          · exact q1'.elim
        · exact q1'.elim
    · exact k.elim
  · exact k.elim

/-- THE EVALUATOR. -/
theorem evalN_ok {p : Par} {ty : Nat → Option TI} {tb : Tabs} (B : TabOk p ty tb) : ∀ d, CxOk p ⟨evalN tb d false, evalN tb d true, tb.loops⟩
  | 0 => ⟨fun f args h vs E w0 w Q K k => k.elim, fun f args h vs E w0 w Q K q k => k.elim⟩
  | d + 1 => by
    have ih := evalN_ok B d
    refine ⟨fun f args h vs E w0 w Q K k => ?_, fun l args h vs E w0 w Q K q k => ?_⟩
    · have k' : (match tb.orc f args h with
        | some t => t
        | none => callBody tb ⟨evalN tb d false, evalN tb d true, tb.loops⟩ f args h).Holds E.ρ Q := k
      cases ho : tb.orc f args h with
      | some t =>
        rw [ho] at k'
        exact B.orc f args h t ho vs E w0 w Q K k'
      | none =>
        rw [ho] at k'
        exact callBody_ok B ih f args h vs E w0 w Q K k'
    · have k' : (yieldBody tb ⟨evalN tb d false, evalN tb d true, tb.loops⟩ l args h).Holds E.ρ Q := k
      exact yieldBody_ok B ih l args h vs E w0 w Q K q k'

theorem eval_ok {p : Par} {ty : Nat → Option TI} {tb : Tabs} (B : TabOk p ty tb) (d : Nat) (f : FuncId) (args : List AV) (h : Heap) : CallOk p f args h (evalN tb d false f args h) :=
  fun vs E w0 w Q K k HH ha P => (evalN_ok B d).call f args h vs E w0 w Q K k HH ha P

end Go.Sx
