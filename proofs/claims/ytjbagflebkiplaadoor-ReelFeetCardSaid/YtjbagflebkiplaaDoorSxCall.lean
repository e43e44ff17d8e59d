/- CALLS AND ROUNDS. -/
import Derived.Test.YtjbagflebkiplaaDoorSxCode
import Derived.Test.YtjbagflebkiplaaDoorSxDraw5
/-! CALLS AND ROUNDS. -/
namespace Go.Sx
open Go.RowKit

/-! ## Code, whole -/
def Rng (p : Par) (n : Nat) (keep : List Nat) (fid : FuncId) : Code → Prop
  | .seq a b => Rng p n keep fid a ∧ Rng p n keep fid b
  | .cond _ a b => Rng p n keep fid a ∧ Rng p n keep fid b
  | .block _ a => Rng p n keep fid a
  | .loop a => Rng p n keep fid a
  | .scope a => Rng p n keep fid a
  | .rangeFunc _ ps a b => ∀ id, rangeId fid ps.toList = some id → p.RC id n keep a b
  | _ => True

theorem cCode_ok {p : Par} {ty : Nat → Option TI} (TT : TyOk p.P ty) (hm : p.P.follows .mixedOrders = true) {n : Nat} {keep : List Nat} {fid : FuncId} :
    ∀ (c : Code) (f : C), cCode ty n keep fid c = some f → Rng p n keep fid c → COk p n keep f c := by
  intro c
  induction c with
  | skip => intro f h _; simp only [cCode, Option.some.injEq] at h; subst h; exact skip_ok
  | label l => intro f h _; simp only [cCode, Option.some.injEq] at h; subst h; exact label_ok
  | region id ops draw =>
    intro f h _
    simp only [cCode] at h
    cases draw with
    | true => exact draw_ok TT hm h
    | false =>
      simp only [cond_false, Option.map_eq_some_iff] at h
      obtain ⟨cs, hcs, rfl⟩ := h
      exact cOps_ok TT hcs
  | seq a b iha ihb =>
    intro f h R
    simp only [cCode] at h
    split at h
    · rename_i x y hx hy; cases h; exact seq_ok (iha x hx R.1) (ihb y hy R.2)
    · cases h
  | cond c a b iha ihb =>
    intro f h R
    simp only [cCode] at h
    split at h
    · rename_i y x z hy hx hz; cases h; exact cond_ok hy (iha x hx R.1) (ihb z hz R.2)
    · cases h
  | block id a ih =>
    intro f h R
    simp only [cCode, Option.map_eq_some_iff] at h
    obtain ⟨x, hx, rfl⟩ := h
    exact block_ok (ih x hx R)
  | loop a ih =>
    intro f h R
    simp only [cCode, Option.map_eq_some_iff] at h
    obtain ⟨x, hx, rfl⟩ := h
    exact loop_ok (ih x hx R)
  | scope a ih => exact fun f h R => scope_ok (ih f h R)
  | rangeFunc g ps a b _ _ =>
    intro f h R
    simp only [cCode] at h
    split at h
    · rename_i y id hy hid
      cases hps : (ps.toList.all fun q => and (memN keep (some q)) (okDst n (some q))) with
      | false => rw [hps] at h; cases h
      | true => rw [hps] at h; cases h; exact range_ok hy ⟨R id hid, hps⟩
    · cases h
  | exit id => intro f h _; simp only [cCode, Option.some.injEq] at h; subst h; exact exit_ok
  | ret => intro f h _; simp only [cCode, Option.some.injEq] at h; subst h; exact ret_ok
  | _ => intro f h _; simp only [cCode] at h; cases h

/-! ## Arguments -/
theorem tmOf_cons (a : AV) (l : List AV) (n : Nat) (t : PT AV) : tmOf (a :: l) n t = tmOf l (n + 1) (PT.set t n a) := rfl
theorem tmOf_get : ∀ (l : List AV) (n : Nat) (t : PT AV) (i : Nat), (tmOf l n t).get i = if n ≤ i ∧ i < n + l.length then l[i - n]? else t.get i
  | [], n, t, i => by
    show t.get i = _
    rw [if_neg (by rintro ⟨h1, h2⟩; simp only [List.length_nil] at h2; omega)]
  | a :: l, n, t, i => by
    rw [tmOf_cons, tmOf_get l (n + 1) _ i, PT.get_set]
    by_cases h1 : n + 1 ≤ i ∧ i < n + 1 + l.length
    · rw [if_pos h1, if_pos (by simp; omega)]
      rw [show i - n = (i - (n + 1)) + 1 by omega, List.getElem?_cons_succ]
    · rw [if_neg h1]
      by_cases h2 : i = n
      · subst h2; rw [if_pos rfl, if_pos (by simp)]; simp
      · rw [if_neg h2, if_neg (by simp at *; omega)]

theorem args_ok {n m : Nat} {keep : List Nat} {E : Env} {args : List AV} {vs : List Value} (h : concL E args = some vs) (hk : ((List.range m).all fun i => memN keep (some i)) = true) (hl : args.length ≤ m) :
    TmOk n keep E ⟨[], tmOf args 0 .nil⟩ (vs.toArray ++ Array.replicate (n - vs.toArray.size) undef) := by
  have hlen := concL_len h
  refine ⟨by simp; omega, fun i a e => (by cases e), ⟨fun i a e => ?_⟩⟩
  rw [tmOf_get] at e
  split at e
  · rename_i hi
    rw [Nat.sub_zero] at e
    obtain ⟨v, hv, hi2⟩ := concL_get h e
    refine ⟨?_, v, hv, ?_⟩
    · rw [List.all_eq_true] at hk
      exact hk i (by simp; omega)
    · have := (List.getElem?_eq_some_iff.1 hi2).1
      rw [Array.getElem?_append_left (by simpa using this)]
      simpa using hi2
  · rw [PT.get_nil] at e; cases e

/-! ## Results -/
theorem cRes_cons_tmp {ty : Nat → Option TI} {t : Nat} {l : List ResultVar} : cRes ty (.tmp t :: l) = (cRes ty l).map (.t t :: ·) := rfl

def resSem (arr : Array Value) : ResultVar → Sem Value
  | .tmp t => pure (arr.getD t undef)
  | .cell a t => do loadVar t (← asAddr (arr.getD a undef))

theorem result_ok {p : Par} {ty : Nat → Option TI} (TT : TyOk p.P ty) {n : Nat} {keep : List Nat} {E : Env} {w0 : Base} {w : World} {tm : Tm} {h : Heap} {arr : Array Value} (HT : TmOk n keep E tm arr) (HH : HeapOk p E h w0 w) :
    ∀ (l : List ResultVar) (rs : List RV) (vs : List AV), cRes ty l = some rs → resultsA tm h rs = some vs → ∃ us, concL E vs = some us ∧
      (l.mapM (resSem arr)).run p.P w = .ok us w
  | [], rs, vs, hr, hv => by
    simp only [cRes, Option.some.injEq] at hr; subst hr
    simp only [resultsA, Option.some.injEq] at hv; subst hv
    exact ⟨[], rfl, rfl⟩
  | r :: l, rs, vs, hr, hv => by
    have head : ∃ rv rs', rs = rv :: rs' ∧ cRes ty l = some rs' ∧ ∀ v, resultA tm h rv = some v → ∃ u, conc E v = some u ∧ (resSem arr r).run p.P w = .ok u w := by
      cases r with
      | tmp t =>
        simp only [cRes, Option.map_eq_some_iff] at hr
        obtain ⟨rs', h1, rfl⟩ := hr
        refine ⟨_, rs', rfl, h1, fun v hv => ?_⟩
        obtain ⟨u, g1, g2⟩ := HT.look (show tm.look t = some v from hv)
        refine ⟨u, g1, ?_⟩
        simp only [resSem, Array.getD_eq_getD_getElem?, g2]
        rfl
      | cell a t =>
        simp only [cRes] at hr
        split at hr
        · rename_i i rs' hi h1
          cases hr
          refine ⟨_, rs', rfl, h1, fun v hv => ?_⟩
          simp only [resultA] at hv
          cases hl : tm.look a with
          | none => rw [hl] at hv; cases hv
          | some pa =>
            rw [hl] at hv
            simp only at hv
            obtain ⟨u, g1, g2⟩ := HT.look hl
            have key : ∀ (b off : Nat) (_ : pa = .ptr b off), ∃ u', conc E v = some u' ∧ (Instr.loadAt t (arr.getD a undef)).run p.P w = .ok u' w := by
              rintro b off rfl
              obtain ⟨q, hq, rfl⟩ := ptr_conc g1
              rw [Array.getD_eq_getD_getElem?, g2, Option.getD_some]
              cases hagg : i.isAgg with
              | true =>
                rw [hagg, cond_true] at hv
                simp only [aloadN] at hv
                cases hcs : h.cells b with
                | none => rw [hcs] at hv; cases hv
                | some cs =>
                  rw [hcs] at hv
                  simp only [Option.map_eq_some_iff] at hv
                  obtain ⟨l', hl', rfl⟩ := hv
                  obtain ⟨vs', hvs, hlen, hcell⟩ := HH.cellsRange hcs hl' hq
                  exact ⟨_, by simp [conc, hvs], run_loadWhole TT hi hagg hlen hcell⟩
              | false =>
                rw [hagg, cond_false] at hv
                simp only [aload] at hv
                cases hcs : h.cells b with
                | none => rw [hcs] at hv; cases hv
                | some cs =>
                  rw [hcs] at hv
                  simp only [listGet_eq] at hv
                  obtain ⟨v', hv', hcell⟩ := HH.cell hcs hv hq
                  exact ⟨v', hv', run_loadPlain TT hi hagg hcell⟩
            cases pa with
            | ptr b off =>
              obtain ⟨u', k1, k2⟩ := key b off rfl
              refine ⟨u', k1, ?_⟩
              obtain ⟨q, hq, rfl⟩ := ptr_conc g1
              have e : arr.getD a undef = .pointer (some ⟨q.1, q.2 + off, none⟩) := by rw [Array.getD_eq_getD_getElem?, g2]; rfl
              rw [e] at k2
              show (do loadVar t (← asAddr (arr.getD a undef)) : Sem Value).run p.P w = _
              rw [e]
              exact k2
            | _ => cases hagg : i.isAgg <;> rw [hagg] at hv <;> simp [aload, aloadN] at hv
        · cases hr
    obtain ⟨rv, rs', rfl, hrs', hrv⟩ := head
    simp only [resultsA] at hv
    cases hv1 : resultA tm h rv with
    | none => rw [hv1] at hv; cases hv
    | some v =>
      cases hv2 : resultsA tm h rs' with
      | none => rw [hv1, hv2] at hv; cases hv
      | some vs' =>
        rw [hv1, hv2] at hv; cases hv
        obtain ⟨u, k1, k2⟩ := hrv v hv1
        obtain ⟨us, k3, k4⟩ := result_ok TT HT HH l rs' vs' hrs' hv2
        refine ⟨u :: us, concL_cons.2 ⟨u, us, k1, k3, rfl⟩, ?_⟩
        rw [List.mapM_cons, run_bind_ok k2, run_bind_ok k4]
        rfl

theorem run_results {p : Par} {ty : Nat → Option TI} (TT : TyOk p.P ty) {n : Nat} {keep : List Nat} {E : Env} {w0 : Base} {w : World} {tm : Tm} {h : Heap} {arr : Array Value} (HT : TmOk n keep E tm arr) (HH : HeapOk p E h w0 w)
    {fn : Func} {rs : List RV} {vs : List AV} (hr : cRes ty fn.results.toList = some rs) (hv : resultsA tm h rs = some vs) : ∃ v, conc E (one vs) = some v ∧ (results fn arr).run p.P w = .ok v w := by
  obtain ⟨us, h1, h2⟩ := result_ok TT HT HH _ rs vs hr hv
  have hlen := concL_len h1
  have hres : results fn arr = (do let us ← fn.results.mapM (resSem arr); pure (if h : us.size = 1 then us[0] else .tuple us)) := by
    unfold results
    congr 1
  have hm : (fn.results.mapM (resSem arr)).run p.P w = .ok us.toArray w := by
    rw [Array.mapM_eq_mapM_toList]
    show ((fn.results.toList.mapM (resSem arr)) >>= fun us => pure us.toArray).run p.P w = _
    rw [run_bind_ok h2]
    rfl
  rw [hres, run_bind_ok hm]
  match vs, us, hlen, h1 with
  | [v], [u], _, h1 =>
    obtain ⟨u', r, hu, hr', e⟩ := concL_cons.1 h1
    cases e
    exact ⟨u, hu, rfl⟩
  | [], us, hlen, h1 =>
    simp only [concL, Option.some.injEq] at h1
    subst h1
    exact ⟨_, rfl, rfl⟩
  | v :: v' :: vs, us, hlen, h1 =>
    refine ⟨.tuple us.toArray, by simp [one, conc, h1], ?_⟩
    have : ¬ us.toArray.size = 1 := by simp at hlen ⊢; omega
    simp only [dif_neg this]
    rfl

/-! ## The marks -/
theorem undefer_ok {p : Par} {fn : Func} {tmps : Array Value} {E : Env} {w0 : Base} {R : Ending → World → Prop} {Q : Heap → Prop} :
    ∀ (df : List Nat) (ds : List Deferred) (h : Heap) (w : World), DfOk E df ds → HeapOk p E h w0 w → (undefer df h).Holds E.ρ Q →
      (∀ h' w', Q h' → HeapOk p E h' w0 w' → ∃ v, (results fn tmps).run p.P w' = .ok v w' ∧ R (.returned v) w') → LeavesInM Fence.wide 0 p.P fn tmps R ds .returning w
  | [], [], h, w, _, HH, k, P => P h w k HH
  | [], _ :: _, h, w, D, _, _, _ => D.elim
  | _ :: _, [], h, w, D, _, _, _ => D.elim
  | b :: df, d :: ds, h, w, ⟨⟨c, hc, hd⟩, D⟩, HH, k, P => by
    unfold undefer at k
    split at k
    · rename_i hg
      obtain ⟨c', hc', hh⟩ := HH.obj b _ hg
      rw [hc] at hc'; cases hc'
      have hlt := HH.lt b _ c 0 hg hc
      refine ⟨by simp, .inl ⟨c, _, hd, run_takeDeferred (by simpa using hh), ?_⟩⟩
      refine undefer_ok df ds (h.put b (.defd false)) _ D ?_ k P
      exact HH.turn hg rfl hc rfl ⟨c, hc, by rw [World.putObj_heap_same hlt]; rfl⟩ (fun i hi => World.putObj_heap_other hi) rfl rfl rfl (by simp)
    · exact k.elim

end Go.Sx
