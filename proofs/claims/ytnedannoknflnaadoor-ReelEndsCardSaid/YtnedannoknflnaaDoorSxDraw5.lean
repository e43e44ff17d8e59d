/- REGIONS WHOSE ORDER OF EVALUATION IS DRAWN: the law, put together. -/
import Derived.Test.YtnedannoknflnaaDoorSxDraw4
/-! REGIONS WHOSE ORDER OF EVALUATION IS DRAWN: the law, put together. -/
namespace Go.Sx
open Go.RowKit

section
variable {p : Par} {ty : Nat → Option TI} {n : Nat} {keep : List Nat} {ops : Array Oper} {ms : List Nat} {dis : List DI} {HS : List Heap} {tmF tm0 : Tm} {E0 : Env} {w0 : World} {arr0 : Array Value} {ds0 : List Deferred} {cx : Cx}

/-- what the run in the order of the list has shown -/
structure RunOk (ρ : Rho) (cx : Cx) (dis : List DI) (HS : List Heap) (tmF tm0 : Tm) : Prop where
  len : HS.length = 1 + effCount dis
  at_ : ∀ (i : Nat) (d : DI), dis[i]? = some d → ∃ V, AtOk ρ cx dis tm0 tmF HS (some V) i d ∧ (d.eff = false → ∀ j, d.lo ≤ j → j ≤ d.lo + (d.hi - d.lo) → stableAt cx HS V d j = true)

theorem stableAt_some {V : Tm × AV} {d : DI} {j : Nat} (h : stableAt cx HS V d j = true) : ∃ H r, HS[j]? = some H ∧ runC cx V.1 H d.ci = .ret r ∧ ∀ t, d.ci.dst = some t → r.1 = V.2 := by
  unfold stableAt at h
  rw [listGet_eq] at h
  cases hH : HS[j]? with
  | none => rw [hH] at h; cases h
  | some H =>
    rw [hH] at h
    simp only at h
    cases hr : runC cx V.1 H d.ci with
    | br c t f => rw [hr] at h; cases h
    | fail w => rw [hr] at h; cases h
    | ret r =>
      rw [hr] at h
      refine ⟨H, r, rfl, hr, fun t ht => ?_⟩
      rw [ht] at h
      exact eqAV_eq _ _ h

theorem stables_ok {HS : List Heap} : ∀ (l : List DI) (vs : List (Tm × AV)), stables cx HS l vs = true → ∀ (i : Nat) (d : DI) (V : Tm × AV), l[i]? = some d → vs[i]? = some V → d.eff = false → ∀ j, d.lo ≤ j → j ≤ d.lo + (d.hi - d.lo) → stableAt cx HS V d j = true
  | [], vs, _, i, d, V, h, _, _, _, _, _ => by simp at h
  | o :: l, [], h, i, d, V, _, _, _, _, _, _ => by simp [stables] at h
  | o :: l, v :: vs, h, i, d, V, h1, h2, he, j, g1, g2 => by
    simp only [stables] at h
    cases hs : stable cx HS v o with
    | false => rw [hs] at h; cases h
    | true =>
      rw [hs, cond_true] at h
      cases i with
      | zero =>
        simp at h1 h2; subst h1; subst h2
        unfold stable at hs
        rw [he, cond_false] at hs
        exact upto_ok _ _ hs j g1 g2
      | succ i => simp at h1 h2; exact stables_ok l vs h i d V h1 h2 he j g1 g2

theorem num_at (L : PlanOk ty n keep ops ms dis) {r : Nat} (h : r < effCount dis) : ∃ (j : Nat) (e : DI), dis[j]? = some e ∧ e.eff = true ∧ e.lo = r := numbered_get dis 0 L.num r (by omega) (by omega)

/-- AN OPERATION THAT IS TAKEN NEXT. -/
theorem draw_step (TT : TyOk p.P ty) (L : PlanOk ty n keep ops ms dis) (R : RunOk E0.ρ cx dis HS tmF tm0) (CX : CxOk p cx) (HT0 : TmOk n keep E0 tm0 arr0) {rd : Option Nat} {Q' : Exit → Act → World → Prop}
    {E : Env} {w : World} {listed : Array Bool} {a : Act} {k : Nat} (I : DInv p dis ms ops.size HS tmF E0 E w0 w arr0 ds0 listed a k) {i : Nat} (hi : i ∈ Region.ready .any ops listed) {next : Act → World → Prop}
    (hnext : ∀ a' w' E' k', DInv p dis ms ops.size HS tmF E0 E' w0 w' arr0 ds0 (listed.setIfInBounds i true) a' k' → next a' w') : wpOpIn (fence rd) 0 p.P ops Q' i next a w := by
  rw [mem_ready] at hi
  obtain ⟨hun, o, ho, hedges⟩ := hi
  obtain ⟨hlt, hun⟩ := getD_true hun
  rw [I.sz] at hlt
  have hanc : ∀ j, Nat.testBit (natGet ms i) j = true → listed.getD j false = true := fun j hb => by
    obtain ⟨e, he, hbe, h1⟩ := L.bit i o j ho hb
    have hl := hedges e he hbe
    rcases h1 with rfl | h1
    · exact hl
    · exact I.cl e.on hl j h1
  obtain ⟨d, hd, hc, heff⟩ := L.here i o ho
  obtain ⟨H, hH, HH⟩ := I.hp
  have hkm : k ≤ effCount dis := by
    have := (List.getElem?_eq_some_iff.1 hH).1
    rw [R.len] at this; omega
  have hsz : n ≤ a.tmps.size := by rw [I.asz]; exact HT0.size
  obtain ⟨V, ⟨tmi, H', rr, vv, hrun0, hsame0, hst0, hlater, hval0, hearlier, hV⟩, hstab⟩ := R.at_ i d hd
  have hV' : V = (restr tmi d.reads, rr.1) := by cases hV; rfl
  subst hV'
  have HTr : TmOk n keep E (restr tmi d.reads) a.tmps := restr_ok hsz fun t ht v hv => by
    have from0 : (∀ (j : Nat) (d' : DI), dis[j]? = some d' → d'.ci.dst = some t → i ≤ j ∧ listed.getD j false = false) → good E a.tmps t v := fun hno => by
      rw [hearlier t fun j d' hj hd' hdt => by have := (hno j d' hd' hdt).1; omega] at hv
      obtain ⟨u, g1, g2⟩ := (HT0.look hv).mono I.le
      exact ⟨u, g1, by rw [I.old t fun j d' hd' hdt => (hno j d' hd' hdt).2]; exact g2⟩
    by_cases hw : ∃ (j : Nat) (d' : DI), dis[j]? = some d' ∧ d'.ci.dst = some t
    · obtain ⟨j, d', hj, hdt⟩ := hw
      have uniq : ∀ (j' : Nat) (e : DI), dis[j']? = some e → e.ci.dst = some t → j' = j := fun j' e he hte => by
        rcases Nat.lt_trichotomy j' j with h | h | h
        · exact absurd hdt (L.once j' j e d' t h he hj hte)
        · exact h
        · exact absurd hte (L.once j j' d' e t h hj he hdt)
      rcases L.reads hd hj ht hdt with hb | hb
      · have hji := L.lt i o j ho hb
        rw [← hlater t fun j' e hge he hte => by have := uniq j' e he hte; omega] at hv
        exact I.val j d' t v hj (hanc j hb) hdt hv
      · obtain ⟨oj, hoj, _⟩ := L.back j d' hj
        have hij := L.lt j oj i hoj hb
        refine from0 fun j' e he hte => ?_
        rw [uniq j' e he hte]
        refine ⟨by omega, ?_⟩
        cases hl : listed.getD j false with
        | false => rfl
        | true => rw [I.cl j hl i hb] at hun; cases hun
    · exact from0 fun j d' hj hdt => absurd ⟨j, d', hj, hdt⟩ hw
  have key : ∃ r, (runC cx (restr tmi d.reads) H d.ci).Holds E0.ρ (fun x => x = r) ∧ (∀ t, d.ci.dst = some t → tmF.look t = some vv ∧ Same E0.ρ vv r.1) ∧ (d.eff = false → r.2 = H) ∧ (d.eff = true → d.lo = k ∧ HS[k + 1]? = some r.2) := by
    cases he : d.eff with
    | false =>
      have hst := hstab he
      have hlo : d.lo ≤ k := by
        rcases Nat.lt_or_ge k d.lo with h | h
        · exfalso
          obtain ⟨H1, r', h1, _⟩ := stableAt_some (hst d.lo (Nat.le_refl _) (by omega))
          have := (List.getElem?_eq_some_iff.1 h1).1
          rw [R.len] at this
          obtain ⟨j, e, g1, g2, g3⟩ := num_at L (r := k) (by omega)
          have hl := hanc j (L.lo hd g1 g2 he (by omega))
          have := (I.eff j e g1 g2).1 hl
          omega
        · exact h
      have hhi : k ≤ d.hi := by
        rcases Nat.lt_or_ge d.hi k with h | h
        · exfalso
          obtain ⟨j, e, g1, g2, g3⟩ := num_at L (r := d.hi) (by omega)
          have hl := (I.eff j e g1 g2).2 (by omega)
          have := I.cl j hl i (L.hi hd g1 g2 he (by omega))
          rw [hun] at this; cases this
        · exact h
      obtain ⟨H1, r, h1, h2, h3⟩ := stableAt_some (hst k hlo (by omega))
      rw [hH] at h1; cases h1
      have h2' : (runC cx (restr tmi d.reads) H d.ci).Holds E0.ρ (fun x => x = r) := by rw [h2]; rfl
      exact ⟨r, h2', fun t ht => ⟨hval0 t ht, by rw [h3 t ht]; exact hsame0⟩, fun _ => L.quiet d (List.mem_of_getElem? hd) he _ _ _ _ _ h2', fun h => by cases h⟩
    | true =>
      have hlo : d.lo = k := by
        rcases Nat.lt_trichotomy d.lo k with h | h | h
        · have := (I.eff i d hd he).2 h
          rw [hun] at this; cases this
        · exact h
        · exfalso
          have := numbered_lt dis 0 L.num i d hd he
          obtain ⟨j, e, g1, g2, g3⟩ := num_at L (r := k) (by omega)
          have hl := hanc j (L.effs g1 hd g2 he (by omega))
          have := (I.eff j e g1 g2).1 hl
          omega
      obtain ⟨h5, h6⟩ := hst0 he
      rw [hlo] at h5 h6
      rw [hH] at h5; cases h5
      exact ⟨rr, hrun0, fun t ht => ⟨hval0 t ht, hsame0⟩, (fun h => by cases h), fun _ => ⟨hlo, h6⟩⟩
  obtain ⟨r, hrun, hlook, hq, hef⟩ := key
  obtain ⟨f, g, hf, hg, hdok, hce⟩ := cOper_some hc
  have hdst : d.ci.dst = o.dst := by rw [hce]
  unfold wpOpIn
  rw [ho]
  refine oper_ok TT hc CX HTr HH (Q := fun r' => r' = r) (by rw [I.le.ρ]; exact hrun) ?_
  intro v0 h' E' w' cv hqq hle' HH' hcv0
  have e1 : r.1 = v0 := by rw [← hqq]
  have e2 : r.2 = h' := by rw [← hqq]
  rw [e1] at hlook
  rw [e2] at hq hef
  obtain ⟨v, hcv, hlk⟩ : ∃ v, conc E' v = some cv ∧ ∀ t, d.ci.dst = some t → tmF.look t = some v := by
    cases hdd : d.ci.dst with
    | none => exact ⟨v0, hcv0, fun t ht => by cases ht⟩
    | some t =>
      obtain ⟨g1, g2⟩ := hlook t hdd
      exact ⟨vv, by rw [g2 E' (hle'.ρ.trans I.le.ρ)]; exact hcv0, fun t' ht' => by cases ht'; exact g1⟩
  have hdl : ∀ t, d.ci.dst = some t → tmF.look t = some v ∧ t < arr0.size := fun t ht => by
    refine ⟨hlk t ht, ?_⟩
    rw [hdst] at ht
    rw [ht] at hdok
    have := ble_t.1 hdok
    have := HT0.size
    omega
  rw [← hdst]
  cases he : d.eff with
  | false =>
    have := hq he
    subst this
    exact hnext _ _ E' k (I.next L.once hd hlt hun hanc hle' hH HH' (fun _ _ _ _ _ => Iff.rfl) (fun h => by rw [he] at h; cases h) hcv hdl)
  | true =>
    obtain ⟨hlo, h6⟩ := hef he
    refine hnext _ _ E' (k + 1) (I.next L.once hd hlt hun hanc hle' h6 HH' (fun j e hj hee hne => ?_) (fun _ => by omega) hcv hdl)
    have : e.lo ≠ k := fun h => hne (numbered_inj dis 0 L.num j i e d hj hd hee he (by omega))
    omega

theorem all_listed (L : PlanOk ty n keep ops ms dis) {listed : Array Bool} (hsz : listed.size = ops.size) (hr : Region.ready .any ops listed = []) : ∀ j, j < ops.size → listed.getD j false = true := by
  intro j
  induction j using Nat.strongRecOn with
  | _ j ih =>
    intro hj
    cases hb : listed.getD j false with
    | true => rfl
    | false =>
      exfalso
      have ho : ops[j]? = some ops[j]! := by simp [hj]
      have : j ∈ Region.ready .any ops listed := by
        rw [mem_ready]
        refine ⟨getD_false (by omega) hb, _, ho, fun e he hbe => ?_⟩
        have := L.edge j _ ho e he hbe
        exact ih e.on this (by omega)
      rw [hr] at this
      cases this

theorem draw_any (TT : TyOk p.P ty) (L : PlanOk ty n keep ops ms dis) (R : RunOk E0.ρ cx dis HS tmF tm0) (CX : CxOk p cx) (HT0 : TmOk n keep E0 tm0 arr0) {rd : Option Nat} {Q' : Exit → Act → World → Prop}
    (hfin : ∀ listed a w E k, DInv p dis ms ops.size HS tmF E0 E w0 w arr0 ds0 listed a k → (∀ j, j < ops.size → listed.getD j false = true) → Q' .normal a w) :
    ∀ (fuel : Nat) (listed : Array Bool) (a : Act) (w : World) (E : Env) (k : Nat), DInv p dis ms ops.size HS tmF E0 E w0 w arr0 ds0 listed a k → listed.toList.countP (fun b => !b) ≤ fuel → wpAnyIn (fence rd) 0 p.P .any ops Q' fuel listed a w
  | 0, listed, a, w, E, k, I, hc => by
    have hall : ∀ j, j < ops.size → listed.getD j false = true := fun j hj => by
      have h0 : listed.toList.countP (fun b => !b) = 0 := by omega
      rw [List.countP_eq_zero] at h0
      have hj' : j < listed.size := by rw [I.sz]; exact hj
      have := h0 listed[j] (by simp)
      simp only [Array.getD_eq_getD_getElem?]
      simp [hj'] at *
      exact this
    refine ⟨?_, hfin listed a w E k I hall⟩
    rw [List.eq_nil_iff_forall_not_mem]
    intro i hi
    rw [mem_ready] at hi
    obtain ⟨h1, h2⟩ := getD_true hi.1
    rw [hall i (by rw [← I.sz]; exact h1)] at h2
    cases h2
  | fuel + 1, listed, a, w, E, k, I, hc => by
    refine ⟨fun hr => hfin listed a w E k I (all_listed L I.sz hr), fun i hi => ?_⟩
    refine draw_step TT L R CX HT0 I hi fun a' w' E' k' I' => ?_
    refine draw_any TT L R CX HT0 hfin fuel _ a' w' E' k' I' ?_
    rw [mem_ready] at hi
    obtain ⟨h1, h2⟩ := getD_true hi.1
    rw [Array.toList_setIfInBounds, List.countP_set (by simpa using h1)]
    have h3 : listed.toList[i]'(by simpa using h1) = false := by
      simp only [Array.getD_eq_getD_getElem?] at h2
      simp [h1] at h2 ⊢; exact h2
    rw [h3]
    have hpos : 0 < listed.toList.countP (fun b => !b) := by
      rw [List.countP_pos_iff]
      exact ⟨false, by rw [← h3]; exact List.getElem_mem _, rfl⟩
    simp only [Bool.not_false, Bool.not_true, if_true, Bool.false_eq_true, if_false]
    omega
end

/-- A REGION WHOSE ORDER IS DRAWN. -/
theorem draw_ok {p : Par} {ty : Nat → Option TI} (TT : TyOk p.P ty) (hm : p.P.follows .mixedOrders = true) {n : Nat} {keep : List Nat} {id : Nat} {ops : Array Oper} {f : C} (hc : cDraw ty n keep ops.toList = some f) :
    COk p n keep f (.region id ops true) := by
  unfold cDraw at hc
  split at hc
  · rename_i cs hcs
    unfold cPlan at hc
    cases hok : drawOk ops.toList (masks [] ops.toList) (planOf (effsOf ops.toList ops.toList.length) (masks [] ops.toList) 0 ops.toList cs) with
    | false => rw [hok] at hc; cases hc
    | true =>
      rw [hok, cond_true, Option.map_some, Option.some.injEq] at hc
      subst hc
      have L := planOk_of hcs hok
      generalize planOf (effsOf ops.toList ops.toList.length) (masks [] ops.toList) 0 ops.toList cs = dis at L
      intro cx CX wh rd E0 w0 w s a Q Q' hrd S k P
      have k' : ((runD cx dis s.tm s.h [] []).bind fun r => cond (stables cx (lRev r.2.1) dis (lRev r.2.2)) (endD s.df r) (.fail 92)).Holds E0.ρ Q := k
      rw [T.holds_bind] at k'
      obtain ⟨⟨tmF, hsF, vsF⟩, hrun, k'⟩ := runD_runs _ _ _ _ _ k'
      · cases hst : stables cx (lRev hsF) dis (lRev vsF) with
        | false => simp only [hst, cond_false] at k'; exact k'.elim
        | true =>
          simp only [hst, cond_true] at k'
          rw [lRev_eq, lRev_eq] at hst
          obtain ⟨hA, hB, hC, hV, hD⟩ := runD_ok dis s.tm s.h [] [] tmF hsF vsF hrun L.num L.quiet L.once
          have R : RunOk E0.ρ cx dis hsF.reverse tmF s.tm := by
            refine ⟨by simp [hB], fun i d hd => ?_⟩
            have hat := hD i d hd
            have hat0 := hat
            obtain ⟨tmi, _, _, _, _, _, _, _, _, _, hVi⟩ := hat0
            rw [hVi] at hat
            refine ⟨_, hat, fun he => stables_ok dis vsF.reverse hst i d _ hd (by simpa using hVi) he⟩
          cases hhs : hsF with
          | nil => rw [hhs] at hB; simp at hB; omega
          | cons hl tl =>
            have q : Q (.norm, ⟨tmF.shut, s.df, hl⟩) := by rw [hhs] at k'; exact k'
            have hlast : hsF.reverse[effCount dis]? = some hl := by
              rw [hhs]
              have : tl.length = effCount dis := by rw [hhs] at hB; simp at hB; omega
              rw [List.reverse_cons, ← this, List.getElem?_append_right (by simp)]
              simp
            refine wpIn_region_any hm ?_
            have keepd : ∀ d ∈ dis, d.ci.keep = memN keep d.ci.dst := fun d hd => by
              obtain ⟨i, hi⟩ := List.getElem?_of_mem hd
              obtain ⟨o, _, hc, _⟩ := L.back i d hi
              obtain ⟨f, g, _, _, _, hce⟩ := cOper_some hc
              rw [hce]
            refine draw_any (p := p) (E0 := E0) (w0 := w0) (arr0 := a.tmps) (ds0 := a.defers) TT L R CX S.tm (fun listed a' w' E k I hall => ?_) ops.size _ a _ E0 0 ?_ ?_
            · obtain ⟨H, hH, HH⟩ := I.hp
              have hk : k = effCount dis := by
                have h1 := (List.getElem?_eq_some_iff.1 hH).1
                rw [R.len] at h1
                rcases Nat.lt_or_ge k (effCount dis) with h | h
                · exfalso
                  obtain ⟨j, e, g1, g2, g3⟩ := num_at L h
                  obtain ⟨o, ho, _⟩ := L.back j e g1
                  have := (I.eff j e g1 g2).1 (hall j (Array.getElem?_eq_some_iff.1 ho).1)
                  omega
                · omega
              rw [hk, hlast] at hH
              cases hH
              have X : TmX n keep E s.tm a'.tmps (fun t => ∃ d ∈ dis, d.ci.dst = some t) := by
                have tr : ∀ i b, good E0 a.tmps i b → (¬ ∃ d ∈ dis, d.ci.dst = some i) → good E a'.tmps i b := fun i b g hno => by
                  obtain ⟨u, g1, g2⟩ := g.mono I.le
                  exact ⟨u, g1, by rw [I.old i fun j d h1 h2 => absurd ⟨d, List.mem_of_getElem? h1, h2⟩ hno]; exact g2⟩
                exact ⟨by rw [I.asz]; exact S.tm.size, fun i b e hno => tr i b (S.tm.loc i b e) hno, fun i b e => ⟨(S.tm.tree.at_ i b e).1, fun hno => tr i b (S.tm.tree.at_ i b e).2 hno⟩⟩
              have HT := runD_tm (E := E) (arr := a'.tmps) (n := n) (keep := keep) dis s.tm s.h [] [] tmF hsF vsF hrun L.num L.quiet L.once keepd (fun d hd t v h1 h2 => by
                obtain ⟨i, hi⟩ := List.getElem?_of_mem hd
                obtain ⟨o, ho, _⟩ := L.back i d hi
                exact I.val i d t v hi (hall i (Array.getElem?_eq_some_iff.1 ho).1) h1 h2) X
              exact P .norm _ E w' a' q I.le ⟨HT.shut, by rw [I.adf]; exact DfOk.mono I.le _ _ S.df, HH⟩
            · have hf : ∀ i, (Array.replicate ops.size false).getD i false = false := fun i => by
                simp only [Array.getD_eq_getD_getElem?, Array.getElem?_replicate]
                split <;> rfl
              refine ⟨Env.le.refl E0, ⟨s.h, hA 0 s.h rfl, S.hp.world ⟨rfl, rfl, rfl, Nat.le_refl _, fun _ _ => rfl⟩⟩, by simp, fun i h => ?_, fun i d h1 h2 => ?_, fun i d t v h1 h2 => ?_, fun _ _ => rfl, rfl, rfl⟩
              · rw [hf] at h; cases h
              · rw [hf]; simp
              · rw [hf] at h2; cases h2
            · have := List.countP_le_length (p := fun b => !b) (l := (Array.replicate ops.size false).toList)
              simpa using this
  · cases hc

end Go.Sx
