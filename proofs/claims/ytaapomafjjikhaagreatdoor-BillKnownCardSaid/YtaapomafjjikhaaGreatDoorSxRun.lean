/- THE EVALUATOR IS SOUND. -/
import Derived.Test.YtaapomafjjikhaaGreatDoorSxCode
import Derived.Test.YtaapomafjjikhaaGreatDoorSxDraw5
/-! CALLS AND ROUNDS. -/
namespace Go.Sx
open Go.RowKit

/-! ## Code, whole -/
def Rng (p : Par) (n : Nat) (keep : List Nat) (fid : FuncId) : Code → Prop
  | .seq a b => Rng p n keep fid a ∧ Rng p n keep fid b
  | .cond _ a b => Rng p n keep fid a ∧ Rng p n keep fid b
  | .block _ a => Rng p n keep fid a
  | .loop a => Rng p n keep fid a
  | .scope a => Rng p n keep fid a
  | .rangeFunc _ ps a b => ∀ id, rangeId fid ps.toList = some id → p.RC id n keep a b
  | _ => True

theorem cCode_ok {p : Par} {ty : Nat → Option TI} (TT : TyOk p.P ty) (hm : p.P.follows .mixedOrders = true) {n : Nat} {keep : List Nat} {fid : FuncId} :
    ∀ (c : Code) (f : C), cCode ty n keep fid c = some f → Rng p n keep fid c → COk p n keep f c := by
  intro c
  induction c with
  | skip => intro f h _; simp only [cCode, Option.some.injEq] at h; subst h; exact skip_ok
  | label l => intro f h _; simp only [cCode, Option.some.injEq] at h; subst h; exact label_ok
  | region id ops draw =>
    intro f h _
    simp only [cCode] at h
    cases draw with
    | true => exact draw_ok TT hm h
    | false =>
      simp only [cond_false, Option.map_eq_some_iff] at h
      obtain ⟨cs, hcs, rfl⟩ := h
      exact cOps_ok TT hcs
  | seq a b iha ihb =>
    intro f h R
    simp only [cCode] at h
    split at h
    · rename_i x y hx hy; cases h; exact seq_ok (iha x hx R.1) (ihb y hy R.2)
    · cases h
  | cond c a b iha ihb =>
    intro f h R
    simp only [cCode] at h
    split at h
    · rename_i y x z hy hx hz; cases h; exact cond_ok hy (iha x hx R.1) (ihb z hz R.2)
    · cases h
  | block id a ih =>
    intro f h R
    simp only [cCode, Option.map_eq_some_iff] at h
    obtain ⟨x, hx, rfl⟩ := h
    exact block_ok (ih x hx R)
  | loop a ih =>
    intro f h R
    simp only [cCode, Option.map_eq_some_iff] at h
    obtain ⟨x, hx, rfl⟩ := h
    exact loop_ok (ih x hx R)
  | scope a ih => exact fun f h R => scope_ok (ih f h R)
  | rangeFunc g ps a b _ _ =>
    intro f h R
    simp only [cCode] at h
    split at h
    · rename_i y id hy hid
      cases hps : (ps.toList.all fun q => and (memN keep (some q)) (okDst n (some q))) with
      | false => rw [hps] at h; cases h
      | true => rw [hps] at h; cases h; exact range_ok hy ⟨R id hid, hps⟩
    · cases h
  | exit id => intro f h _; simp only [cCode, Option.some.injEq] at h; subst h; exact exit_ok
  | ret => intro f h _; simp only [cCode, Option.some.injEq] at h; subst h; exact ret_ok
  | _ => intro f h _; simp only [cCode] at h; cases h

/-! ## Arguments -/
theorem tmOf_cons (a : AV) (l : List AV) (n : Nat) (t : PT AV) : tmOf (a :: l) n t = tmOf l (n + 1) (PT.set t n a) := rfl
theorem tmOf_get : ∀ (l : List AV) (n : Nat) (t : PT AV) (i : Nat), (tmOf l n t).get i = if n ≤ i ∧ i < n + l.length then l[i - n]? else t.get i
  | [], n, t, i => by
    show t.get i = _
    rw [if_neg (by rintro ⟨h1, h2⟩; simp only [List.length_nil] at h2; omega)]
  | a :: l, n, t, i => by
    rw [tmOf_cons, tmOf_get l (n + 1) _ i, PT.get_set]
    by_cases h1 : n + 1 ≤ i ∧ i < n + 1 + l.length
    · rw [if_pos h1, if_pos (by simp; omega)]
      rw [show i - n = (i - (n + 1)) + 1 by omega, List.getElem?_cons_succ]
    · rw [if_neg h1]
      by_cases h2 : i = n
      · subst h2; rw [if_pos rfl, if_pos (by simp)]; simp
      · rw [if_neg h2, if_neg (by simp at *; omega)]

theorem args_ok {n m : Nat} {keep : List Nat} {E : Env} {args : List AV} {vs : List Value} (h : concL E args = some vs) (hk : ((List.range m).all fun i => memN keep (some i)) = true) (hl : args.length ≤ m) :
    TmOk n keep E ⟨[], tmOf args 0 .nil⟩ (vs.toArray ++ Array.replicate (n - vs.toArray.size) undef) := by
  have hlen := concL_len h
  refine ⟨by simp; omega, fun i a e => (by cases e), ⟨fun i a e => ?_⟩⟩
  rw [tmOf_get] at e
  split at e
  · rename_i hi
    rw [Nat.sub_zero] at e
    obtain ⟨v, hv, hi2⟩ := concL_get h e
    refine ⟨?_, v, hv, ?_⟩
    · rw [List.all_eq_true] at hk
      exact hk i (by simp; omega)
    · have := (List.getElem?_eq_some_iff.1 hi2).1
      rw [Array.getElem?_append_left (by simpa using this)]
      simpa using hi2
  · rw [PT.get_nil] at e; cases e

/-! ## Results -/
theorem cRes_cons_tmp {ty : Nat → Option TI} {t : Nat} {l : List ResultVar} : cRes ty (.tmp t :: l) = (cRes ty l).map (.t t :: ·) := rfl

def resSem (arr : Array Value) : ResultVar → Sem Value
  | .tmp t => pure (arr.getD t undef)
  | .cell a t => do loadVar t (← asAddr (arr.getD a undef))

theorem loadV_run {p : Par} {ty : Nat → Option TI} (T : TyOk p.P ty) {t : Nat} {i : TI} (ht : ty t = some i) (hagg : i.isAgg = false) {E : Env} {h : Heap} {w0 : Base} {w : World} (HH : HeapOk p E h w0 w)
    {b i' size off : Nat} {e : IE} {r : AV} (hr : aload h (.ptrV b i' size off e) = some r) {u : Value} (hn : conc E (.ptrV b i' size off e) = some u) : ∃ u', conc E r = some u' ∧ (Instr.loadAt t u).run p.P w = .ok u' w := by
  simp only [aload] at hr
  split at hr
  · rename_i i2 ks hcs
    cases hb : (Nat.beq i' i2 && Nat.beq size (lLen ks)) with
    | false => rw [hb] at hr; cases hr
    | true =>
      rw [hb] at hr
      simp only [cond] at hr
      simp only [Bool.and_eq_true] at hb
      obtain ⟨hb1, hb2⟩ := hb
      cases Nat.eq_of_beq_eq_true hb1
      have hsz := Nat.eq_of_beq_eq_true hb2
      rw [lLen_eq] at hsz; subst hsz
      rw [listGet_eq] at hr
      cases hk : ks[off]? with
      | none => rw [hk] at hr; cases hr
      | some k' =>
        rw [hk] at hr; cases hr
        obtain ⟨q', hq', hp, hl, hv'⟩ := ptrV_conc hn
        have hnn : e.den E.ρ = ((e.den E.ρ).toNat : Int) := (Int.toNat_of_nonneg hp).symm
        rw [hv']
        exact ⟨_, cellU_conc hnn k', run_loadPlain T ht hagg (HH.ucell hcs (hnn ▸ hl) hk hq')⟩
  · cases hr
theorem loadNV_run {p : Par} {ty : Nat → Option TI} (T : TyOk p.P ty) {t : Nat} {i : TI} (ht : ty t = some i) (hagg : i.isAgg = true) {E : Env} {h : Heap} {w0 : Base} {w : World} (HH : HeapOk p E h w0 w)
    {b i' size off : Nat} {e : IE} {r : AV} (hr : aloadN i.size h (.ptrV b i' size off e) = some r) {u : Value} (hn : conc E (.ptrV b i' size off e) = some u) : ∃ u', conc E r = some u' ∧ (Instr.loadAt t u).run p.P w = .ok u' w := by
  simp only [aloadN] at hr
  split at hr
  · rename_i i2 ks hcs
    cases hb : (Nat.beq i' i2 && Nat.beq size (lLen ks)) with
    | false => rw [hb] at hr; cases hr
    | true =>
      rw [hb] at hr
      simp only [cond] at hr
      simp only [Bool.and_eq_true] at hb
      obtain ⟨hb1, hb2⟩ := hb
      cases Nat.eq_of_beq_eq_true hb1
      have hsz := Nat.eq_of_beq_eq_true hb2
      rw [lLen_eq] at hsz; subst hsz
      cases hk : listSub ks off i.size with
      | none => rw [hk] at hr; cases hr
      | some l =>
        rw [hk] at hr; cases hr
        obtain ⟨q', hq', hp, hl, hv'⟩ := ptrV_conc hn
        have hnn : e.den E.ρ = ((e.den E.ρ).toNat : Int) := (Int.toNat_of_nonneg hp).symm
        obtain ⟨hle, rfl⟩ := listSub_eq hk
        obtain ⟨vs, hvs, hlen, hcell⟩ := cellsU_conc (E := E) (i := i') hnn ((ks.drop off).take i.size) off
        rw [hv']
        have hlen' : vs.length = i.size := by rw [hlen]; simp; omega
        refine ⟨.agg vs.toArray, by simp [conc, hvs], run_loadWhole T ht hagg hlen' (fun j v hj => ?_)⟩
        have hjl : j < i.size := hlen' ▸ (List.getElem?_eq_some_iff.1 hj).1
        have hks : ((ks.drop off).take i.size)[j]? = some (ks[off + j]'(by omega)) := by
          rw [List.getElem?_take, if_pos hjl, List.getElem?_drop]; exact List.getElem?_eq_getElem (by omega)
        have := hcell j _ hks
        rw [hj] at this; cases this
        rw [show q'.2 + (e.den E.ρ).toNat * ks.length + off + j = q'.2 + (e.den E.ρ).toNat * ks.length + (off + j) by omega]
        exact HH.ucell hcs (hnn ▸ hl) (by rw [List.getElem?_eq_getElem (by omega)]) hq'
  · cases hr

theorem result_ok {p : Par} {ty : Nat → Option TI} (TT : TyOk p.P ty) {n : Nat} {keep : List Nat} {E : Env} {w0 : Base} {w : World} {tm : Tm} {h : Heap} {arr : Array Value} (HT : TmOk n keep E tm arr) (HH : HeapOk p E h w0 w) :
    ∀ (l : List ResultVar) (rs : List RV) (vs : List AV), cRes ty l = some rs → resultsA tm h rs = some vs → ∃ us, concL E vs = some us ∧
      (l.mapM (resSem arr)).run p.P w = .ok us w
  | [], rs, vs, hr, hv => by
    simp only [cRes, Option.some.injEq] at hr; subst hr
    simp only [resultsA, Option.some.injEq] at hv; subst hv
    exact ⟨[], rfl, rfl⟩
  | r :: l, rs, vs, hr, hv => by
    have head : ∃ rv rs', rs = rv :: rs' ∧ cRes ty l = some rs' ∧ ∀ v, resultA tm h rv = some v → ∃ u, conc E v = some u ∧ (resSem arr r).run p.P w = .ok u w := by
      cases r with
      | tmp t =>
        simp only [cRes, Option.map_eq_some_iff] at hr
        obtain ⟨rs', h1, rfl⟩ := hr
        refine ⟨_, rs', rfl, h1, fun v hv => ?_⟩
        obtain ⟨u, g1, g2⟩ := HT.look (show tm.look t = some v from hv)
        refine ⟨u, g1, ?_⟩
        simp only [resSem, Array.getD_eq_getD_getElem?, g2]
        rfl
      | cell a t =>
        simp only [cRes] at hr
        split at hr
        · rename_i i rs' hi h1
          cases hr
          refine ⟨_, rs', rfl, h1, fun v hv => ?_⟩
          simp only [resultA] at hv
          cases hl : tm.look a with
          | none => rw [hl] at hv; cases hv
          | some pa =>
            rw [hl] at hv
            simp only at hv
            obtain ⟨u, g1, g2⟩ := HT.look hl
            have key : ∀ (b off : Nat) (_ : pa = .ptr b off), ∃ u', conc E v = some u' ∧ (Instr.loadAt t (arr.getD a undef)).run p.P w = .ok u' w := by
              rintro b off rfl
              obtain ⟨q, hq, rfl⟩ := ptr_conc g1
              rw [Array.getD_eq_getD_getElem?, g2, Option.getD_some]
              cases hagg : i.isAgg with
              | true =>
                rw [hagg, cond_true] at hv
                simp only [aloadN] at hv
                cases hcs : h.cells b with
                | none => rw [hcs] at hv; cases hv
                | some cs =>
                  rw [hcs] at hv
                  simp only [Option.map_eq_some_iff] at hv
                  obtain ⟨l', hl', rfl⟩ := hv
                  obtain ⟨vs', hvs, hlen, hcell⟩ := HH.cellsRange hcs hl' hq
                  exact ⟨_, by simp [conc, hvs], run_loadWhole TT hi hagg hlen hcell⟩
              | false =>
                rw [hagg, cond_false] at hv
                simp only [aload] at hv
                cases hcs : h.cells b with
                | none => rw [hcs] at hv; cases hv
                | some cs =>
                  rw [hcs] at hv
                  simp only [listGet_eq] at hv
                  obtain ⟨v', hv', hcell⟩ := HH.cell hcs hv hq
                  exact ⟨v', hv', run_loadPlain TT hi hagg hcell⟩
            cases pa with
            | ptr b off =>
              obtain ⟨u', k1, k2⟩ := key b off rfl
              refine ⟨u', k1, ?_⟩
              obtain ⟨q, hq, rfl⟩ := ptr_conc g1
              have e : arr.getD a undef = .pointer (some ⟨q.1, q.2 + off, none⟩) := by rw [Array.getD_eq_getD_getElem?, g2]; rfl
              rw [e] at k2
              show (do loadVar t (← asAddr (arr.getD a undef)) : Sem Value).run p.P w = _
              rw [e]
              exact k2
            | ptrV b i' size off e =>
              have key : ∃ u', conc E v = some u' ∧ (Instr.loadAt t u).run p.P w = .ok u' w := by
                cases hagg : i.isAgg with
                | true => rw [hagg, cond_true] at hv; exact loadNV_run TT hi hagg HH hv g1
                | false => rw [hagg, cond_false] at hv; exact loadV_run TT hi hagg HH hv g1
              obtain ⟨u', k1, k2⟩ := key
              refine ⟨u', k1, ?_⟩
              obtain ⟨q', hq', hp, hl, hv'⟩ := ptrV_conc g1
              have e : arr.getD a undef = u := by rw [Array.getD_eq_getD_getElem?, g2]; rfl
              show (do loadVar t (← asAddr (arr.getD a undef)) : Sem Value).run p.P w = _
              rw [e]
              subst hv'
              exact k2
            | _ => cases hagg : i.isAgg <;> rw [hagg] at hv <;> simp [aload, aloadN] at hv
        · cases hr
    obtain ⟨rv, rs', rfl, hrs', hrv⟩ := head
    simp only [resultsA] at hv
    cases hv1 : resultA tm h rv with
    | none => rw [hv1] at hv; cases hv
    | some v =>
      cases hv2 : resultsA tm h rs' with
      | none => rw [hv1, hv2] at hv; cases hv
      | some vs' =>
        rw [hv1, hv2] at hv; cases hv
        obtain ⟨u, k1, k2⟩ := hrv v hv1
        obtain ⟨us, k3, k4⟩ := result_ok TT HT HH l rs' vs' hrs' hv2
        refine ⟨u :: us, concL_cons.2 ⟨u, us, k1, k3, rfl⟩, ?_⟩
        rw [List.mapM_cons, run_bind_ok k2, run_bind_ok k4]
        rfl

theorem run_results {p : Par} {ty : Nat → Option TI} (TT : TyOk p.P ty) {n : Nat} {keep : List Nat} {E : Env} {w0 : Base} {w : World} {tm : Tm} {h : Heap} {arr : Array Value} (HT : TmOk n keep E tm arr) (HH : HeapOk p E h w0 w)
    {fn : Func} {rs : List RV} {vs : List AV} (hr : cRes ty fn.results.toList = some rs) (hv : resultsA tm h rs = some vs) : ∃ v, conc E (one vs) = some v ∧ (results fn arr).run p.P w = .ok v w := by
  obtain ⟨us, h1, h2⟩ := result_ok TT HT HH _ rs vs hr hv
  have hlen := concL_len h1
  have hres : results fn arr = (do let us ← fn.results.mapM (resSem arr); pure (if h : us.size = 1 then us[0] else .tuple us)) := by
    unfold results
    congr 1
  have hm : (fn.results.mapM (resSem arr)).run p.P w = .ok us.toArray w := by
    rw [Array.mapM_eq_mapM_toList]
    show ((fn.results.toList.mapM (resSem arr)) >>= fun us => pure us.toArray).run p.P w = _
    rw [run_bind_ok h2]
    rfl
  rw [hres, run_bind_ok hm]
  match vs, us, hlen, h1 with
  | [v], [u], _, h1 =>
    obtain ⟨u', r, hu, hr', e⟩ := concL_cons.1 h1
    cases e
    exact ⟨u, hu, rfl⟩
  | [], us, hlen, h1 =>
    simp only [concL, Option.some.injEq] at h1
    subst h1
    exact ⟨_, rfl, rfl⟩
  | v :: v' :: vs, us, hlen, h1 =>
    refine ⟨.tuple us.toArray, by simp [one, conc, h1], ?_⟩
    have : ¬ us.toArray.size = 1 := by simp at hlen ⊢; omega
    simp only [dif_neg this]
    rfl

/-! ## The marks -/
theorem undefer_ok {p : Par} {fn : Func} {tmps : Array Value} {E : Env} {w0 : Base} {R : Ending → World → Prop} {Q : Heap → Prop} :
    ∀ (df : List Nat) (ds : List Deferred) (h : Heap) (w : World), DfOk E df ds → HeapOk p E h w0 w → (undefer df h).Holds E.ρ Q →
      (∀ h' w', Q h' → HeapOk p E h' w0 w' → ∃ v, (results fn tmps).run p.P w' = .ok v w' ∧ R (.returned v) w') → LeavesInM Fence.wide 0 p.P fn tmps R ds .returning w
  | [], [], h, w, _, HH, k, P => P h w k HH
  | [], _ :: _, h, w, D, _, _, _ => D.elim
  | _ :: _, [], h, w, D, _, _, _ => D.elim
  | b :: df, d :: ds, h, w, ⟨⟨c, hc, hd⟩, D⟩, HH, k, P => by
    unfold undefer at k
    split at k
    · rename_i hg
      obtain ⟨c', hc', hh⟩ := HH.obj b _ hg
      rw [hc] at hc'; cases hc'
      have hlt := HH.lt b _ c 0 hg hc
      refine ⟨by simp, .inl ⟨c, _, hd, run_takeDeferred (by simpa using hh), ?_⟩⟩
      refine undefer_ok df ds (h.put b (.defd false)) _ D ?_ k P
      exact HH.turn hg rfl hc rfl ⟨c, hc, by rw [World.putObj_heap_same hlt]; rfl⟩ (fun i hi => World.putObj_heap_other hi) rfl rfl rfl (by simp)
    · exact k.elim

end Go.Sx
/-! THE EVALUATOR IS SOUND. -/
namespace Go.Sx
open Go.RowKit

theorem cFunc_some {ty : Nat → Option TI} {keep : List Nat} {fid : FuncId} {fn : Func} {cf : CF} (h : cFunc ty keep fid fn = some cf) :
    ∃ c f rs, fn.body = some c ∧ cCode ty fn.ntmps keep fid c = some f ∧ cRes ty fn.results.toList = some rs ∧ ((List.range (fn.params.size + fn.nfree)).all fun i => memN keep (some i)) = true ∧ cf = ⟨fn.params.size + fn.nfree, f, rs⟩ := by
  unfold cFunc at h
  split at h
  · cases h
  · rename_i c hc
    split at h
    · rename_i f rs hf hrs
      cases hk : ((List.range (fn.params.size + fn.nfree)).all fun i => memN keep (some i)) with
      | false => rw [hk] at h; cases h
      | true => rw [hk] at h; cases h; exact ⟨c, f, rs, hc, hf, hrs, rfl, rfl⟩
    · cases h

/-- what a call leads to -/
def CallOk (p : Par) (f : FuncId) (args : List AV) (h : Heap) (t : T (AV × Heap)) : Prop :=
  ∀ vs E w0 w Q K, t.Holds E.ρ Q → HeapOk p E h w0 w → concL E args = some vs → Post p E w0 Q K →
    (callFunc f vs.toArray).run p.P w = .ok (.enter f vs.toArray) w ∧ Calls p.P f vs.toArray w fun e w' => ∃ v, e = .returned v ∧ K v w'

structure TabOk (p : Par) (ty : Nat → Option TI) (tb : Tabs) : Prop where
  types : TyOk p.P ty
  mixed : p.P.follows .mixedOrders = true
  fn : ∀ f cf, tb.F f = some cf → ∃ fn keep, p.P.funcs[f]? = some fn ∧ cFunc ty keep f fn = some cf ∧ (fn.name == "runtime.NumGoroutine") = false ∧ ∀ c, fn.body = some c → Rng p fn.ntmps keep f c
  rc : ∀ code n keep a b, p.RC code n keep a b → ∃ fid ca cb, tb.R code = some (ca, cb) ∧ cCode ty n keep fid a = some ca ∧ cCode ty n keep fid b = some cb ∧ Rng p n keep fid a ∧ Rng p n keep fid b
  orc : ∀ f args h t, tb.orc f args h = some t → CallOk p f args h t

theorem run_callFunc {P : Program} {f : FuncId} {fn : Func} {c : Code} (hf : P.funcs[f]? = some fn) (hb : fn.body = some c) (hn : (fn.name == "runtime.NumGoroutine") = false) (args : Array Value) (w : World) :
    (callFunc f args).run P w = .ok (.enter f args) w := by
  unfold callFunc
  simp only [Sem.run_bind, program, Sem.run, Result.andThen_ok, hf, hn, hb, Bool.false_eq_true, if_false, Option.isNone_some]
  rfl

theorem callBody_ok {p : Par} {ty : Nat → Option TI} {tb : Tabs} (B : TabOk p ty tb) {cx : Cx} (CX : CxOk p cx) (f : FuncId) (args : List AV) (h : Heap) : CallOk p f args h (callBody tb cx f args h) := by
  intro vs E w0 w Q K k HH ha P
  unfold callBody at k
  cases hF : tb.F f with
  | none => rw [hF] at k; exact k.elim
  | some cf =>
    rw [hF] at k
    simp only at k
    obtain ⟨fn, keep, hfn, hcf, hname, hrng⟩ := B.fn f cf hF
    obtain ⟨c, g, rs, hb, hg, hrs, hkeep, rfl⟩ := cFunc_some hcf
    refine ⟨run_callFunc hfn hb hname _ w, ?_⟩
    cases hl : Nat.ble (lLen args) (fn.params.size + fn.nfree) with
    | false => simp only [hl, cond_false] at k; exact k.elim
    | true =>
      simp only [hl, cond_true] at k
      rw [T.holds_bind] at k
      have hlen : args.length ≤ fn.params.size + fn.nfree := by have := ble_t.1 hl; rwa [lLen_eq] at this
      refine callsIn_wide.1 (callsIn_of_wp_marks (F := Fence.wide) (n := 0) hfn hb trivial ?_)
      refine cCode_ok B.types B.mixed c g hg (hrng c hb) cx CX ⟨f, none⟩ none E w0 w ⟨⟨[], tmOf args 0 .nil⟩, [], h⟩ _ _ _ trivial ⟨args_ok ha hkeep hlen, trivial, HH⟩ k ?_
      intro x s' E' w' a' q hle S'
      have fin : (finish ⟨fn.params.size + fn.nfree, g, rs⟩ (x, s')).Holds E'.ρ Q := by rw [hle.ρ]; exact q
      have go : ((undefer s'.df s'.h).bind fun h2 => match resultsA s'.tm h2 rs with
          | some vs => T.ret (one vs, h2)
          | none => .fail 64).Holds E'.ρ Q → LeavesInM Fence.wide 0 p.P fn a'.tmps (fun e w' => ∃ v, e = .returned v ∧ K v w') a'.defers .returning w' := fun kk => by
        rw [T.holds_bind] at kk
        refine undefer_ok s'.df a'.defers s'.h w' S'.df S'.hp kk ?_
        intro h2 w2 q2 HH2
        cases hres : resultsA s'.tm h2 rs with
        | none => rw [hres] at q2; exact q2.elim
        | some vs' =>
          rw [hres] at q2
          obtain ⟨v, hv1, hv2⟩ := run_results B.types S'.tm HH2 hrs hres
          exact ⟨v, hv2, v, rfl, P _ _ E' w2 v q2 hle HH2 hv1⟩
      cases x with
      | norm => exact go fin
      | ret => exact go fin
      | exit id => exact fin.elim

/-! ## Rounds -/
theorem setParams_ok {n : Nat} {keep : List Nat} {E : Env} : ∀ (ps : List Nat) (args : List AV) (vs : List Value) (tm tm' : PT AV) (arr : Array Value), setParams ps args tm = some tm' → concL E args = some vs → n ≤ arr.size → psOk n keep ps = true → TreeOk keep E tm arr →
    vs.length = ps.length ∧ TreeOk keep E tm' ((ps.zip vs).foldl (fun t q => t.setIfInBounds q.1 q.2) arr) ∧ ((ps.zip vs).foldl (fun t q => t.setIfInBounds q.1 q.2) arr).size = arr.size
  | [], [], vs, tm, tm', arr, h, ha, hn, hp, H => by
    simp only [setParams, Option.some.injEq] at h; subst h
    simp only [concL, Option.some.injEq] at ha; subst ha
    exact ⟨rfl, H, rfl⟩
  | [], _ :: _, vs, tm, tm', arr, h, ha, hn, hp, H => by simp [setParams] at h
  | _ :: _, [], vs, tm, tm', arr, h, ha, hn, hp, H => by simp [setParams] at h
  | t :: ps, a :: args, vs, tm, tm', arr, h, ha, hn, hp, H => by
    simp only [setParams] at h
    obtain ⟨v, r, hv, hr, rfl⟩ := concL_cons.1 ha
    simp only [psOk, List.all_cons, Bool.and_eq_true] at hp
    have hlt := ble_t.1 hp.1.2
    have H' : TreeOk keep E (PT.set tm t a) (arr.setIfInBounds t v) := by
      refine ⟨fun i b e => ?_⟩
      rw [PT.get_set] at e
      by_cases c : i = t
      · subst c; rw [if_pos rfl] at e; cases e
        exact ⟨hp.1.1, v, hv, by rw [Array.getElem?_setIfInBounds]; simp; omega⟩
      · rw [if_neg c] at e
        obtain ⟨h1, u, h2, h3⟩ := H.at_ i b e
        exact ⟨h1, u, h2, by rw [Array.getElem?_setIfInBounds_ne (Ne.symm c)]; exact h3⟩
    obtain ⟨h1, h2, h3⟩ := setParams_ok ps args r _ tm' (arr.setIfInBounds t v) h hr (by simpa using hn) (by simpa [psOk] using hp.2) H'
    exact ⟨by simp [h1], h2, by rw [List.zip_cons_cons, List.foldl_cons, h3]; simp⟩

theorem goesOn_eq (x : Ex) : goesOn x = (jumpOf x).isNone := by cases x <;> rfl
theorem endState_eq (x : Ex) : endState x = if (jumpOf x).isNone then .ready else .done := by cases x <;> rfl

theorem yieldBody_ok {p : Par} {ty : Nat → Option TI} {tb : Tabs} (B : TabOk p ty tb) {cx : Cx} (CX : CxOk p cx) (l : Nat) (args : List AV) (h : Heap) :
    ∀ vs E w0 w Q K q, (yieldBody tb cx l args h).Holds E.ρ Q → HeapOk p E h w0 w → concL E args = some vs → E.σ l = some q → Post p E w0 Q K → Does p.P ((Instr.yield q.1 vs.toArray).run p.P w) K := by
  intro vs E w0 w Q K q k HH ha hq P
  unfold yieldBody at k
  split at k
  · rename_i st0 pd0 fnn tm params code d0 hg
    split at k
    · rename_i tm' c htm hR
      obtain ⟨cc, d', n, keep, r, g1, g2, g3, g4, g5, g6, g7, g8, ⟨g9, g9'⟩, g10, ht⟩ := HH.loopTurn hg
      rw [hq] at g1; cases g1
      obtain ⟨fid, ca, cb, hR', hca, hcb, ra, rb⟩ := B.rc code n keep _ _ g9
      rw [hR] at hR'; cases hR'
      obtain ⟨s1, s2, s3⟩ := setParams_ok (n := n) params args vs tm tm' r.tmps htm ha g6 g9' g7
      have hzip : ((r.params.zip vs.toArray).foldl (fun tmps (x : Nat × Value) => tmps.setIfInBounds x.1 x.2) r.tmps) = ((params.zip vs).foldl (fun t q => t.setIfInBounds q.1 q.2) r.tmps) := by
        rw [← g8, ← Array.foldl_toList]
        simp
      have hsz : vs.toArray.size = r.params.size := by
        rw [← g8] at s1; simpa using s1
      rw [run_yield g3 hsz]
      rw [T.holds_bind] at k
      show RoundIn Fence.wide 0 p.P cc r.fn ((r.params.zip vs.toArray).foldl (fun tmps (x : Nat × Value) => tmps.setIfInBounds x.1 x.2) r.tmps) r.assign r.body w _
      rw [hzip]
      refine roundIn_of_wpIn (F := Fence.wide) trivial ?_
      have S0 : StOk p n keep E w0 ⟨⟨[], tm'⟩, [], h⟩ { tmps := (params.zip vs).foldl (fun t q => t.setIfInBounds q.1 q.2) r.tmps, defers := [] } w :=
        ⟨⟨by rw [s3]; exact g6, fun i a e => (by cases e), s2⟩, trivial, HH⟩
      refine cCode_ok B.types B.mixed r.assign ca hca ra cx CX ⟨fnn, some l⟩ (some cc) E w0 w _ _ _ _ hq S0 k ?_
      intro x s1 E1 w1 a1 q1 hle1 S1
      cases x with
      | exit id => exact q1.elim
      | ret => exact q1.elim
      | norm =>
        have q1' : (midRound cx ⟨fnn, some l⟩ l cb (.norm, s1)).Holds E1.ρ Q := by rw [hle1.ρ]; exact q1
        unfold midRound at q1'
        simp only at q1'
        split at q1'
        · rename_i st1 p1 f1 t1 ps1 c1 d1 hg1
          split at q1'
          · obtain ⟨cc1, d1', n1, keep1, r1, e1, e2, e3, e4, e5, e6, e7, e8, e9, e10, ht1⟩ := S1.hp.loopTurn hg1
            have hq1 := hle1.σ _ _ hq
            rw [hq1] at e1; cases e1
            have HB := ht1 .busy p1
            rw [show ({ r1 with state := LoopState.busy, pending := jumpOf p1 } : Loop) = { r1 with state := .busy } from by rw [← e5]] at HB
            refine ⟨_, run_beginRound e3 e4, ?_⟩
            rw [T.holds_bind] at q1'
            refine cCode_ok B.types B.mixed r.body cb hcb rb cx CX ⟨fnn, some l⟩ (some cc) E1 w0 _ ⟨s1.tm, s1.df, s1.h.put l (.loop .busy p1 f1 t1 ps1 c1 d1)⟩ _ _ _ hq1 ⟨S1.tm, S1.df, HB⟩ q1' ?_
            intro x s2 E2 w2 a2 q2 hle2 S2
            have q2' : (endRound l (x, s2)).Holds E2.ρ Q := by rw [hle2.ρ]; exact q2
            unfold endRound at q2'
            simp only at q2'
            split at q2'
            · split at q2'
              · rename_i st2 p2 f2 t2 ps2 c2 d2 hg2
                obtain ⟨cc2, d2', n2, keep2, r2, o1, o2, o3, o4, o5, o6, o7, o8, o9, o10, ht2⟩ := S2.hp.loopTurn hg2
                have hq2 := hle2.σ _ _ hq1
                rw [hq2] at o1; cases o1
                have HE := ht2 (endState x) x
                have hre := run_endRound (P := p.P) (jumpOf x) o3
                rw [← endState_eq] at hre
                have done : ∃ v w', (Instr.endRound cc (jumpOf x)).run p.P w2 = .ok v w' ∧ ∃ u, Ending.returned v = .returned u ∧ K u w' := by
                  refine ⟨_, _, hre, _, rfl, ?_⟩
                  refine P _ _ E2 _ (.bool (jumpOf x).isNone) q2' (hle1.trans hle2) HE ?_
                  rw [goesOn_eq]; rfl
                cases x <;> exact done
              · exact q2'.elim
            · exact q2'.elim
          · exact q1'.elim
        · exact q1'.elim
    · exact k.elim
  · exact k.elim

/-- THE EVALUATOR. -/
theorem evalN_ok {p : Par} {ty : Nat → Option TI} {tb : Tabs} (B : TabOk p ty tb) : ∀ d, CxOk p ⟨evalN tb d false, evalN tb d true, tb.loops⟩
  | 0 => ⟨fun f args h vs E w0 w Q K k => k.elim, fun f args h vs E w0 w Q K q k => k.elim⟩
  | d + 1 => by
    have ih := evalN_ok B d
    refine ⟨fun f args h vs E w0 w Q K k => ?_, fun l args h vs E w0 w Q K q k => ?_⟩
    · have k' : (match tb.orc f args h with
        | some t => t
        | none => callBody tb ⟨evalN tb d false, evalN tb d true, tb.loops⟩ f args h).Holds E.ρ Q := k
      cases ho : tb.orc f args h with
      | some t =>
        rw [ho] at k'
        exact B.orc f args h t ho vs E w0 w Q K k'
      | none =>
        rw [ho] at k'
        exact callBody_ok B ih f args h vs E w0 w Q K k'
    · have k' : (yieldBody tb ⟨evalN tb d false, evalN tb d true, tb.loops⟩ l args h).Holds E.ρ Q := k
      exact yieldBody_ok B ih l args h vs E w0 w Q K q k'

theorem eval_ok {p : Par} {ty : Nat → Option TI} {tb : Tabs} (B : TabOk p ty tb) (d : Nat) (f : FuncId) (args : List AV) (h : Heap) : CallOk p f args h (evalN tb d false f args h) :=
  fun vs E w0 w Q K k HH ha P => (evalN_ok B d).call f args h vs E w0 w Q K k HH ha P

end Go.Sx
