/- REGIONS WHOSE ORDER OF EVALUATION IS DRAWN: the law, put together. -/
import Derived.Test.YtaapomafjjikhaaGreatDoorSxDraw4
/-! REGIONS WHOSE ORDER OF EVALUATION IS DRAWN: the law, put together. -/
namespace Go.Sx
open Go.RowKit

section
variable {p : Par} {ty : Nat → Option TI} {n : Nat} {keep : List Nat} {ops : Array Oper} {fls ms : List Nat} {dis : List DI} {base : Nat} {pdF : List (Nat × List AV)} {HS : List Heap} {tmF tm0 : Tm} {E0 : Env} {w0 : Base} {arr0 : Array Value} {ds0 : List Deferred} {cx : Cx}

/-- what the run in the order of the list has shown -/
structure RunOk (ρ : Rho) (cx : Cx) (base : Nat) (pdF : List (Nat × List AV)) (dis : List DI) (HS : List Heap) (tmF tm0 : Tm) : Prop where
  len : HS.length = 1 + effCount dis
  at_ : ∀ (i : Nat) (d : DI), dis[i]? = some d → ∃ V, AtOk ρ cx base dis tm0 tmF HS V pdF i d ∧ (d.fl = none → d.eff = false → ∀ V', V = some V' → ∀ j, d.lo ≤ j → j ≤ d.lo + (d.hi - d.lo) → (stableAtT cx HS V' d j).Holds ρ (fun b => b = true))

theorem stableAt_some {ρ : Rho} {V : Tm × AV} {d : DI} {j : Nat} (h : (stableAtT cx HS V d j).Holds ρ (fun b => b = true)) : ∃ H r, HS[j]? = some H ∧ (runC cx V.1 H d.ci).Holds ρ (fun x => x = r) ∧ ∀ t, d.ci.dst = some t → r.1 = V.2 := by
  unfold stableAtT at h
  rw [listGet_eq] at h
  cases hH : HS[j]? with
  | none => rw [hH] at h; cases h
  | some H =>
    rw [hH] at h
    simp only at h
    rw [T.holds_bind] at h
    obtain ⟨r, hr, h⟩ := T.holds_at _ h
    refine ⟨H, r, rfl, hr, fun t ht => ?_⟩
    rw [ht] at h
    exact eqAV_eq _ _ h

theorem stables_ok {ρ : Rho} {HS : List Heap} : ∀ (l : List DI) (vs : List (Tm × AV)), (stablesT cx HS l vs).Holds ρ (fun b => b = true) → ∀ (i : Nat) (d : DI) (V : Tm × AV), l[i]? = some d → vs[i]? = some V → d.fl = none → d.eff = false → ∀ j, d.lo ≤ j → j ≤ d.lo + (d.hi - d.lo) → (stableAtT cx HS V d j).Holds ρ (fun b => b = true)
  | [], vs, _, i, d, V, h, _, _, _, _, _, _ => by simp at h
  | o :: l, [], h, i, d, V, _, _, _, _, _, _, _ => by
    simp only [stablesT] at h
    cases h
  | o :: l, v :: vs, h, i, d, V, h1, h2, hf, he, j, g1, g2 => by
    simp only [stablesT] at h
    rw [T.holds_bind] at h
    obtain ⟨b, hs, h⟩ := T.holds_at _ h
    cases b with
    | false => cases h
    | true =>
      rw [cond_true] at h
      cases i with
      | zero =>
        simp at h1 h2; subst h1; subst h2
        unfold stableT at hs
        rw [he, hf] at hs
        exact uptoT_ok _ _ hs j g1 g2
      | succ i => simp at h1 h2; exact stables_ok l vs h i d V h1 h2 hf he j g1 g2

theorem num_at (L : PlanOk ty n keep ops fls ms dis) {r : Nat} (h : r < effCount dis) : ∃ (j : Nat) (e : DI), dis[j]? = some e ∧ e.eff = true ∧ e.lo = r := numbered_get dis 0 L.num r (by omega) (by omega)

/-- AN OPERATION THAT IS TAKEN NEXT. -/
theorem draw_step (TT : TyOk p.P ty) (L : PlanOk ty n keep ops fls ms dis) (R : RunOk E0.ρ cx base pdF dis HS tmF tm0) (CX : CxOk p cx) (HT0 : TmOk n keep E0 tm0 arr0) (hbase : E0.n ≤ base) {rd : Option Nat} {Q' : Exit → Act → World → Prop}
    {E : Env} {w : World} {listed : Array Bool} {a : Act} {k : Nat} (I : DInv p dis ms ops.size base pdF HS tmF E0 E w0 w arr0 ds0 listed a k) {i : Nat} (hi : i ∈ Region.ready .any ops listed) {next : Act → World → Prop}
    (hnext : ∀ a' w' E' k', DInv p dis ms ops.size base pdF HS tmF E0 E' w0 w' arr0 ds0 (listed.setIfInBounds i true) a' k' → next a' w') : wpOpIn (fence rd) 0 p.P ops Q' i next a w := by
  rw [mem_ready] at hi
  obtain ⟨hun, o, ho, hedges⟩ := hi
  obtain ⟨hlt, hun⟩ := getD_true hun
  rw [I.sz] at hlt
  have hanc : ∀ j, Nat.testBit (natGet ms i) j = true → listed.getD j false = true := fun j hb => by
    obtain ⟨e, he, hbe, h1⟩ := L.bit i o j ho hb
    have hl := hedges e he hbe
    rcases h1 with rfl | h1
    · exact hl
    · exact I.cl e.on hl j h1
  obtain ⟨d, hd, hc, hplan⟩ := L.here i o ho
  obtain ⟨H, hH, HH⟩ := I.hp
  have hkm : k ≤ effCount dis := by
    have := (List.getElem?_eq_some_iff.1 hH).1
    rw [R.len] at this; omega
  have hsz : n ≤ a.tmps.size := by rw [I.asz]; exact HT0.size
  obtain ⟨V, ⟨tmi, vv, hlater, hval0, hearlier, hrun0⟩, hstab⟩ := R.at_ i d hd
  have HTr : TmOk n keep E (restr tmi d.reads) a.tmps := restr_ok hsz fun t ht v hv => by
    have from0 : (∀ (j : Nat) (d' : DI), dis[j]? = some d' → d'.ci.dst = some t → i ≤ j ∧ listed.getD j false = false) → good E a.tmps t v := fun hno => by
      rw [hearlier t fun j d' hj hd' hdt => by have := (hno j d' hd' hdt).1; omega] at hv
      obtain ⟨u, g1, g2⟩ := (HT0.look hv).mono I.le.tole0
      exact ⟨u, g1, by rw [I.old t fun j d' hd' hdt => (hno j d' hd' hdt).2]; exact g2⟩
    by_cases hw : ∃ (j : Nat) (d' : DI), dis[j]? = some d' ∧ d'.ci.dst = some t
    · obtain ⟨j, d', hj, hdt⟩ := hw
      have uniq : ∀ (j' : Nat) (e : DI), dis[j']? = some e → e.ci.dst = some t → j' = j := fun j' e he hte => by
        rcases Nat.lt_trichotomy j' j with h | h | h
        · exact absurd hdt (L.once j' j e d' t h he hj hte)
        · exact h
        · exact absurd hte (L.once j j' d' e t h hj he hdt)
      rcases L.reads hd hj ht hdt with hb | hb
      · have hji := L.lt i o j ho hb
        rw [← hlater t fun j' e hge he hte => by have := uniq j' e he hte; omega] at hv
        exact I.val j d' t v hj (hanc j hb) hdt hv
      · obtain ⟨oj, hoj, _⟩ := L.back j d' hj
        have hij := L.lt j oj i hoj hb
        refine from0 fun j' e he hte => ?_
        rw [uniq j' e he hte]
        refine ⟨by omega, ?_⟩
        cases hl : listed.getD j false with
        | false => rfl
        | true => rw [I.cl j hl i hb] at hun; cases hun
    · exact from0 fun j d' hj hdt => absurd ⟨j, d', hj, hdt⟩ hw
  obtain ⟨f, g, hf, hg, hdok, hce⟩ := cOper_some hc
  have hdst : d.ci.dst = o.dst := by rw [hce]
  have hsize : ∀ t, d.ci.dst = some t → t < arr0.size := fun t ht => by
    rw [hdst] at ht
    rw [ht] at hdok
    have := ble_t.1 hdok
    have := HT0.size
    omega
  have listedAt : ∀ j, (listed.setIfInBounds i true).getD j false = if i = j then true else listed.getD j false := fun j => by
    rw [getD_set]
    by_cases c : i = j
    · subst c; rw [if_pos ⟨rfl, by rw [I.sz]; exact hlt⟩, if_pos rfl]
    · rw [if_neg (fun h => c h.1), if_neg c]
  rcases hrun0 with ⟨hfl, HL, HL1, rr, pd, hconv, hpd, hrun0, hsame0, hst0, hV⟩ | ⟨fl, pe, hfl, hrunF, hvv, hpe⟩
  · -- an operation in its order, or one without an effect
    have key : ∃ H2 r, HeapOk p E H2 w0 w ∧ (runC cx (restr tmi d.reads) H2 d.ci).Holds E0.ρ (fun x => x = r) ∧ (∀ t, d.ci.dst = some t → tmF.look t = some vv ∧ Same E0.ρ vv r.1) ∧ (d.eff = false → r.2 = H) ∧ (d.eff = true → d.lo = k ∧ HS[k + 1]? = some r.2) := by
      cases he : d.eff with
      | false =>
        have hst := hstab hfl he _ hV
        have hlo : d.lo ≤ k := by
          rcases Nat.lt_or_ge k d.lo with h | h
          · exfalso
            obtain ⟨H1, r', h1, _⟩ := stableAt_some (hst d.lo (Nat.le_refl _) (by omega))
            have := (List.getElem?_eq_some_iff.1 h1).1
            rw [R.len] at this
            obtain ⟨j, e, g1, g2, g3⟩ := num_at L (r := k) (by omega)
            have hl := hanc j (L.lo hd g1 g2 he (by omega))
            have := (I.eff j e g1 g2).1 hl
            omega
          · exact h
        have hhi : k ≤ d.hi := by
          rcases Nat.lt_or_ge d.hi k with h | h
          · exfalso
            obtain ⟨j, e, g1, g2, g3⟩ := num_at L (r := d.hi) (by omega)
            have hl := (I.eff j e g1 g2).2 (by omega)
            have := I.cl j hl i (L.hi hd g1 g2 he (by omega))
            rw [hun] at this; cases this
          · exact h
        obtain ⟨H1, r, h1, h2, h3⟩ := stableAt_some (hst k hlo (by omega))
        rw [hH] at h1; cases h1
        have h2' : (runC cx (restr tmi d.reads) H d.ci).Holds E0.ρ (fun x => x = r) := h2
        exact ⟨H, r, HH, h2', fun t ht => ⟨hval0 t ht, by rw [h3 t ht]; exact hsame0⟩, fun _ => (L.quiet d (List.mem_of_getElem? hd) hfl he).2 _ _ _ _ _ h2', fun h => by cases h⟩
      | true =>
        have hlo : d.lo = k := by
          rcases Nat.lt_trichotomy d.lo k with h | h | h
          · have := (I.eff i d hd he).2 h
            rw [hun] at this; cases this
          · exact h
          · exfalso
            have := numbered_lt dis 0 L.num i d hd he
            obtain ⟨j, e, g1, g2, g3⟩ := num_at L (r := k) (by omega)
            have hl := hanc j (L.effs g1 hd g2 he (by omega))
            have := (I.eff j e g1 g2).1 hl
            omega
        obtain ⟨h5, h6⟩ := hst0 he
        rw [hlo] at h5 h6
        rw [hH] at h5; cases h5
        have HH1 : HeapOk p E HL1 w0 w := by
          refine convR_ok d.due H HL1 (fun j hj cs hcs => ?_) HH hconv
          obtain ⟨i', d', fl', b1, b2, b3, b4⟩ := L.due hd hfl hj
          have := (I.flt i' d' fl' b2 b3).2.1 (hanc i' b1) cs (by rw [b4]; exact hpd j cs hcs)
          rw [b4] at this
          exact this
        exact ⟨HL1, rr, HH1, hrun0, fun t ht => ⟨hval0 t ht, hsame0⟩, (fun h => by cases h), fun _ => ⟨hlo, h6⟩⟩
    obtain ⟨H2, r, HH2, hrun, hlook, hq, hef⟩ := key
    unfold wpOpIn
    rw [ho]
    refine oper_ok TT hc CX HTr HH2 (Q := fun r' => r' = r) (by rw [I.le.ρ]; exact hrun) ?_
    intro v0 h' E' w' cv hqq hle' HH' hcv0
    have e1 : r.1 = v0 := by rw [← hqq]
    have e2 : r.2 = h' := by rw [← hqq]
    rw [e1] at hlook
    rw [e2] at hq hef
    obtain ⟨v, hcv, hlk⟩ : ∃ v, conc E' v = some cv ∧ ∀ t, d.ci.dst = some t → tmF.look t = some v := by
      cases hdd : d.ci.dst with
      | none => exact ⟨v0, hcv0, fun t ht => by cases ht⟩
      | some t =>
        obtain ⟨g1, g2⟩ := hlook t hdd
        exact ⟨vv, by rw [g2 E' (hle'.ρ.trans I.le.ρ)]; exact hcv0, fun t' ht' => by cases ht'; exact g1⟩
    have hdl : ∀ t, d.ci.dst = some t → tmF.look t = some v ∧ t < arr0.size := fun t ht => ⟨hlk t ht, hsize t ht⟩
    have hflt : FltOk dis base pdF E' (listed.setIfInBounds i true) := fun i' d' fl' h1 h2 => by
      obtain ⟨b1, b2, b3⟩ := I.flt i' d' fl' h1 h2
      have hne : i ≠ i' := by
        rintro rfl
        rw [hd] at h1; cases h1
        rw [hfl] at h2; cases h2
      refine ⟨Nat.lt_of_lt_of_le b1 hle'.n, fun hl cs hcs => ?_, fun hl => ?_⟩
      · rw [listedAt, if_neg hne] at hl
        obtain ⟨c, us, g1, g2, g3⟩ := b2 hl cs hcs
        exact ⟨c, us, hle'.σ _ _ g1, concL_mono hle'.tole0 _ _ g2, by rw [hle'.rc _ _ g1]; exact g3⟩
      · rw [listedAt, if_neg hne] at hl
        exact hle'.none _ b1 (b3 hl)
    rw [← hdst]
    cases he : d.eff with
    | false =>
      have := hq he
      subst this
      exact hnext _ _ E' k (I.next L.once hd hlt hanc (I.le.trans hle') hle'.tole0 hflt hH HH' (fun _ _ _ _ _ => Iff.rfl) (fun h => by rw [he] at h; cases h) (fun _ _ => hcv) hdl)
    | true =>
      obtain ⟨hlo, h6⟩ := hef he
      refine hnext _ _ E' (k + 1) (I.next L.once hd hlt hanc (I.le.trans hle') hle'.tole0 hflt h6 HH' (fun j e hj hee hne => ?_) (fun _ => by omega) (fun _ _ => hcv) hdl)
      have : e.lo ≠ k := fun h => hne (numbered_inj dis 0 L.num j i e d hj hd hee he (by omega))
      omega
  · -- an allocation that no order binds
    have heff : d.eff = false := L.floatD d (List.mem_of_getElem? hd) (by rw [hfl]; simp)
    obtain ⟨hord, hmem⟩ := L.ord hd hfl
    obtain ⟨fq, hcf, hflq⟩ : ∃ q, cFl ty o.op = some q ∧ d.fl = some (q.1, q.2, posOf fls i) := by
      rcases hplan with ⟨h1, _⟩ | ⟨q, h1, h2, _⟩
      · rw [hfl] at h1; cases h1
      · exact ⟨q, h1, h2⟩
    have hfl' : fl = (fq.1, fq.2, posOf fls i) := by rw [hfl] at hflq; exact Option.some.inj hflq
    have hnone : E.σ (base + fl.2.2) = none := (I.flt i d fl hd hfl).2.2 hun
    have hothers : ∀ (i' : Nat) (d' : DI) (f' : FIns × FK × Nat), dis[i']? = some d' → d'.fl = some f' → i ≠ i' → base + f'.2.2 ≠ base + fl.2.2 := fun i' d' f' h1 h2 hne e => by
      obtain ⟨a1, a2⟩ := L.ord h1 h2
      exact hne (posOf_inj fls i i' hmem a2 (by rw [← hord, ← a1]; omega))
    unfold wpOpIn
    rw [ho]
    -- is it wanted?
    have hgo : o.guard = none ∧ d.ci.guard = none ∨ ∃ j want dd, o.guard = some (j, want) ∧ d.ci.guard = some (dd, want) ∧ (ops[j]?).bind (·.dst) = some dd := by
      have hgd : d.ci.guard = g := by rw [hce]
      cases hg0 : o.guard with
      | none => rw [hg0] at hg; cases hg; exact .inl ⟨rfl, hgd⟩
      | some q =>
        obtain ⟨j, want⟩ := q
        rw [hg0] at hg
        simp only [cGuard] at hg
        cases hb : (ops.toList[j]?).bind (·.dst) with
        | none => rw [hb] at hg; cases hg
        | some dd =>
          rw [hb] at hg
          cases hg
          exact .inr ⟨j, want, dd, rfl, hgd, by simpa using hb⟩
    have skip : Region.wanted o (yielded ops a.tmps) = false → pe = none → (if Region.wanted o (yielded ops a.tmps) then o.wpIn (fence rd) 0 p.P a w next Q' else (∀ f, o.about p.P w a.eval = some f → (fence rd).fn f) ∧ next (a.put o.dst undef) w) := fun hw hpe0 => by
      rw [hw, if_neg (by simp)]
      refine ⟨fence_all rd _, ?_⟩
      rw [hpe0] at hvv hpe
      have hdl : ∀ t, d.ci.dst = some t → tmF.look t = some undefA ∧ t < arr0.size := fun t ht => ⟨by rw [hval0 t ht, hvv]; rfl, hsize t ht⟩
      have hflt : FltOk dis base pdF E (listed.setIfInBounds i true) := fun i' d' fl' h1 h2 => by
        obtain ⟨b1, b2, b3⟩ := I.flt i' d' fl' h1 h2
        by_cases hne : i = i'
        · subst hne
          rw [hd] at h1; cases h1
          rw [hfl] at h2; cases h2
          exact ⟨b1, (fun _ cs hcs => by rw [hpe] at hcs; cases hcs), fun _ => hnone⟩
        · exact ⟨b1, fun hl => b2 (by rw [listedAt, if_neg hne] at hl; exact hl), fun hl => b3 (by rw [listedAt, if_neg hne] at hl; exact hl)⟩
      rw [← hdst]
      exact hnext _ _ E k (I.next L.once hd hlt hanc I.le (Env.le0.refl E) hflt hH HH (fun _ _ _ _ _ => Iff.rfl) (fun h => by rw [heff] at h; cases h) (fun _ _ => rfl) hdl)
    have lay : Region.wanted o (yielded ops a.tmps) = true → ∀ cs, pe = some cs → fl.1 (restr tmi d.reads) = some cs → (if Region.wanted o (yielded ops a.tmps) then o.wpIn (fence rd) 0 p.P a w next Q' else (∀ f, o.about p.P w a.eval = some f → (fence rd).fn f) ∧ next (a.put o.dst undef) w) := fun hw cs hpe0 hcs => by
      rw [hw, if_pos rfl]
      refine ⟨fence_all rd _, ?_⟩
      rw [Oper.semAt_eq _ _ _ (not_defer hf)]
      rw [hpe0] at hvv hpe
      have hcf' : cFl ty o.op = some (fq.1, fq.2) := hcf
      obtain ⟨us, el, hus, hdoes⟩ := cFl_ok TT hcf' HTr HH (cs := cs) (by rw [hfl'] at hcs; exact hcs)
      refine Does.upon (hdoes _ ?_)
      have hb : base + fl.2.2 < H.next := Nat.lt_of_lt_of_le (I.flt i d fl hd hfl).1 HH.nx
      have hobj : ∀ o', H.get (base + fl.2.2) = some o' → o' = .resv ∨ o' = .dead := fun o' ho' => by
        have hob := HH.obj _ o' ho'
        cases o' with
        | resv => exact .inl rfl
        | cells => obtain ⟨c, b, vs, cl, el, fz, g1, _⟩ := hob; rw [hnone] at g1; cases g1
        | map => obtain ⟨c, ms, g1, _⟩ := hob; rw [hnone] at g1; cases g1
        | rmap => obtain ⟨c, ms, g1, _⟩ := hob; rw [hnone] at g1; cases g1
        | ucells => obtain ⟨c, base, cells, el, fz, g1, _⟩ := hob; rw [hnone] at g1; cases g1
        | loop => obtain ⟨c, d', n', kp, r, g1, _⟩ := hob; rw [hnone] at g1; cases g1
        | defd => obtain ⟨c, g1, _⟩ := hob; rw [hnone] at g1; cases g1
        | dead => exact .inr rfl
      have HHL := HH.lay hnone hb hobj us.toArray el
      have hle0 : E.le0 (E.lay (base + fl.2.2) w.heap.size us.toArray) := Env.lay_le0 hnone
      have hE0 : E0.le (E.lay (base + fl.2.2) w.heap.size us.toArray) := by
        refine ⟨I.le.tole0.trans hle0, I.le.n, fun b hb0 hn => ?_⟩
        have hne : b ≠ base + fl.2.2 := by
          omega
        rw [(Env.lay_ne E _ _ hne).1]
        exact I.le.none b hb0 hn
      have hcv : conc (E.lay (base + fl.2.2) w.heap.size us.toArray) (flV base fl (some cs)) = some (fq.2.vals w.heap.size) := by
        simp only [flV]
        rw [hfl']
        have := FK.val_conc (k := fq.2) (E := E.lay (base + fl.2.2) w.heap.size us.toArray) (Env.lay_σ E (base + fl.2.2) w.heap.size us.toArray)
        rw [hfl'] at this
        exact this
      have hdl : ∀ t, d.ci.dst = some t → tmF.look t = some (flV base fl (some cs)) ∧ t < arr0.size := fun t ht => ⟨by rw [hval0 t ht, hvv], hsize t ht⟩
      have hflt : FltOk dis base pdF (E.lay (base + fl.2.2) w.heap.size us.toArray) (listed.setIfInBounds i true) := fun i' d' fl' h1 h2 => by
        obtain ⟨b1, b2, b3⟩ := I.flt i' d' fl' h1 h2
        by_cases hne : i = i'
        · subst hne
          rw [hd] at h1; cases h1
          rw [hfl] at h2; cases h2
          refine ⟨b1, fun _ cs' hcs' => ?_, fun hl => by rw [listedAt, if_pos rfl] at hl; cases hl⟩
          rw [hpe] at hcs'; cases hcs'
          exact ⟨w.heap.size, us, Env.lay_σ _ _ _ _, concL_mono hle0 _ _ hus, Env.lay_rc _ _ _ _⟩
        · have hnb := hothers i' d' fl' h1 h2 hne
          refine ⟨b1, fun hl cs' hcs' => ?_, fun hl => ?_⟩
          · obtain ⟨c, vs, g1, g2, g3⟩ := b2 (by rw [listedAt, if_neg hne] at hl; exact hl) cs' hcs'
            exact ⟨c, vs, by rw [(Env.lay_ne E _ _ hnb).1]; exact g1, concL_mono hle0 _ _ g2, by rw [(Env.lay_ne E _ _ hnb).2]; exact g3⟩
          · rw [(Env.lay_ne E _ _ hnb).1]
            exact b3 (by rw [listedAt, if_neg hne] at hl; exact hl)
      rw [← hdst]
      exact hnext _ _ _ k (I.next L.once hd hlt hanc hE0 hle0 hflt hH HHL (fun _ _ _ _ _ => Iff.rfl) (fun h => by rw [heff] at h; cases h) (fun _ _ => hcv) hdl)
    rcases hgo with ⟨g1, g2⟩ | ⟨j, want, dd, g1, g2, g3⟩
    · have hw : Region.wanted o (yielded ops a.tmps) = true := by unfold Region.wanted; rw [g1]
      rw [g2] at hrunF
      unfold runFl at hrunF
      simp only at hrunF
      split at hrunF
      · rename_i cs hcs
        cases hrunF
        exact lay hw cs rfl hcs
      · cases hrunF
    · rw [g2] at hrunF
      unfold runFl at hrunF
      simp only at hrunF
      split at hrunF
      · rename_i c hcb
        have hw : Region.wanted o (yielded ops a.tmps) = c.den E.ρ := by
          unfold Region.wanted
          rw [g1]
          exact guardOf_some HTr (by simpa using g3) hcb
        split at hrunF
        · rename_i b
          cases b with
          | true =>
            simp only [cond_true] at hrunF
            split at hrunF
            · rename_i cs hcs
              cases hrunF
              exact lay (by rw [hw]; rfl) cs rfl hcs
            · cases hrunF
          | false =>
            simp only [cond_false] at hrunF
            cases hrunF
            exact skip (by rw [hw]; rfl) rfl
        · cases hrunF
      · cases hrunF

theorem all_listed (L : PlanOk ty n keep ops fls ms dis) {listed : Array Bool} (hsz : listed.size = ops.size) (hr : Region.ready .any ops listed = []) : ∀ j, j < ops.size → listed.getD j false = true := by
  intro j
  induction j using Nat.strongRecOn with
  | _ j ih =>
    intro hj
    cases hb : listed.getD j false with
    | true => rfl
    | false =>
      exfalso
      have ho : ops[j]? = some ops[j]! := by simp [hj]
      have : j ∈ Region.ready .any ops listed := by
        rw [mem_ready]
        refine ⟨getD_false (by omega) hb, _, ho, fun e he hbe => ?_⟩
        have := L.edge j _ ho e he hbe
        exact ih e.on this (by omega)
      rw [hr] at this
      cases this

theorem draw_any (TT : TyOk p.P ty) (L : PlanOk ty n keep ops fls ms dis) (R : RunOk E0.ρ cx base pdF dis HS tmF tm0) (CX : CxOk p cx) (HT0 : TmOk n keep E0 tm0 arr0) (hbase : E0.n ≤ base) {rd : Option Nat} {Q' : Exit → Act → World → Prop}
    (hfin : ∀ listed a w E k, DInv p dis ms ops.size base pdF HS tmF E0 E w0 w arr0 ds0 listed a k → (∀ j, j < ops.size → listed.getD j false = true) → Q' .normal a w) :
    ∀ (fuel : Nat) (listed : Array Bool) (a : Act) (w : World) (E : Env) (k : Nat), DInv p dis ms ops.size base pdF HS tmF E0 E w0 w arr0 ds0 listed a k → listed.toList.countP (fun b => !b) ≤ fuel → wpAnyIn (fence rd) 0 p.P .any ops Q' fuel listed a w
  | 0, listed, a, w, E, k, I, hc => by
    have hall : ∀ j, j < ops.size → listed.getD j false = true := fun j hj => by
      have h0 : listed.toList.countP (fun b => !b) = 0 := by omega
      rw [List.countP_eq_zero] at h0
      have hj' : j < listed.size := by rw [I.sz]; exact hj
      have := h0 listed[j] (by simp)
      simp only [Array.getD_eq_getD_getElem?]
      simp [hj'] at *
      exact this
    refine ⟨?_, hfin listed a w E k I hall⟩
    rw [List.eq_nil_iff_forall_not_mem]
    intro i hi
    rw [mem_ready] at hi
    obtain ⟨h1, h2⟩ := getD_true hi.1
    rw [hall i (by rw [← I.sz]; exact h1)] at h2
    cases h2
  | fuel + 1, listed, a, w, E, k, I, hc => by
    refine ⟨fun hr => hfin listed a w E k I (all_listed L I.sz hr), fun i hi => ?_⟩
    refine draw_step TT L R CX HT0 hbase I hi fun a' w' E' k' I' => ?_
    refine draw_any TT L R CX HT0 hbase hfin fuel _ a' w' E' k' I' ?_
    rw [mem_ready] at hi
    obtain ⟨h1, h2⟩ := getD_true hi.1
    rw [Array.toList_setIfInBounds, List.countP_set (by simpa using h1)]
    have h3 : listed.toList[i]'(by simpa using h1) = false := by
      simp only [Array.getD_eq_getD_getElem?] at h2
      simp [h1] at h2 ⊢; exact h2
    rw [h3]
    have hpos : 0 < listed.toList.countP (fun b => !b) := by
      rw [List.countP_pos_iff]
      exact ⟨false, by rw [← h3]; exact List.getElem_mem _, rfl⟩
    simp only [Bool.not_false, Bool.not_true, if_true, Bool.false_eq_true, if_false]
    omega
end

theorem upN_mem : ∀ (m k j : Nat), k ≤ j → j < k + m → j ∈ upN m k
  | 0, k, j, h1, h2 => by omega
  | m + 1, k, j, h1, h2 => by
    by_cases c : j = k
    · subst c; exact List.mem_cons_self
    · exact List.mem_cons_of_mem _ (upN_mem m (k + 1) j (by omega) (by omega))

theorem posOf_lt : ∀ (l : List Nat) (i : Nat), memB l i = true → posOf l i < l.length
  | [], i, h => by simp [memB] at h
  | a :: l, i, h => by
    simp only [posOf]
    by_cases c : a = i
    · rw [beq_t.2 c, cond_true]; simp
    · rw [beq_f.2 c, cond_false]
      have hi : memB l i = true := by
        simp only [memB, List.any_cons, Bool.or_eq_true] at h
        rcases h with h | h
        · exact absurd (beq_t.1 h).symm c
        · exact h
      have := posOf_lt l i hi
      simp only [List.length_cons]; omega

/-- A REGION WHOSE ORDER IS DRAWN. -/
theorem draw_ok {p : Par} {ty : Nat → Option TI} (TT : TyOk p.P ty) (hm : p.P.follows .mixedOrders = true) {n : Nat} {keep : List Nat} {id : Nat} {ops : Array Oper} {f : C} (hc : cDraw ty n keep ops.toList = some f) :
    COk p n keep f (.region id ops true) := by
  unfold cDraw at hc
  split at hc
  · rename_i cs hcs
    generalize floatsOf ops.toList (masks [] ops.toList) (effsOf ops.toList ops.toList.length) = fls at hc
    generalize effsOf ops.toList ops.toList.length = effs at hc
    unfold cPlanWith at hc
    split at hc
    · rename_i dis hpl
      cases hok : drawOk ops.toList (masks [] ops.toList) dis with
      | false => rw [hok] at hc; cases hc
      | true =>
        rw [hok, cond_true, Option.some.injEq] at hc
        subst hc
        have L := planOk_of hcs hpl hok
        intro cx CX wh rd E0 w0 w s a Q Q' hrd S k P
        have k' : ((runD cx s.h.next dis s.tm (resvN fls.length s.h) [] [] []).bind fun r => (stablesT cx (lRev r.2.1) dis (lRev r.2.2.1)).bind fun b => cond b (endD s.h.next fls.length s.df r) (.fail 92)).Holds E0.ρ Q := k
        rw [T.holds_bind] at k'
        obtain ⟨⟨tmF, hsF, vsF, pdF⟩, hrun, k'⟩ := runD_runs _ _ _ _ _ _ k'
        simp only at k'
        rw [T.holds_bind] at k'
        obtain ⟨b, hst, k'⟩ := T.holds_at _ k'
        cases b with
        | false => simp only [cond_false] at k'; exact k'.elim
        | true =>
          simp only [cond_true] at k'
          rw [lRev_eq, lRev_eq] at hst
          obtain ⟨hA, hB, hC, hV, hP, hD⟩ := runD_ok dis s.tm _ [] [] [] tmF hsF vsF pdF hrun L.num L.quiet L.floatD L.once L.onceF (fun _ _ _ _ => rfl)
          have R : RunOk E0.ρ cx s.h.next pdF dis hsF.reverse tmF s.tm := by
            refine ⟨by simp [hB], fun i d hd => ⟨_, hD i d hd, fun hfl he V' hV' => ?_⟩⟩
            exact stables_ok dis vsF.reverse hst i d V' hd (by simpa using hV') hfl he
          cases hsF with
          | nil => exact k'.elim
          | cons hl tl =>
            have k2 : (match conv s.h.next pdF (upN fls.length 0) hl with
              | some h2 => T.ret (Ex.norm, (⟨tmF.shut, s.df, h2⟩ : St))
              | none => .fail 95).Holds E0.ρ Q := k'
            split at k2
            · rename_i h2 hconv
              have q : Q (.norm, ⟨tmF.shut, s.df, h2⟩) := k2
              have hlast : (hl :: tl).reverse[effCount dis]? = some hl := by
                have : tl.length = effCount dis := by simp at hB; omega
                rw [List.reverse_cons, ← this, List.getElem?_append_right (by simp)]
                simp
              refine wpIn_region_any hm ?_
              have keepd : ∀ d ∈ dis, d.ci.keep = memN keep d.ci.dst := fun d hd => by
                obtain ⟨i, hi⟩ := List.getElem?_of_mem hd
                obtain ⟨o, _, hc, _⟩ := L.back i d hi
                obtain ⟨f, g, _, _, _, hce⟩ := cOper_some hc
                rw [hce]
              refine draw_any (p := p) (E0 := E0) (w0 := w0) (arr0 := a.tmps) (ds0 := a.defers) TT L R CX S.tm S.hp.nx (fun listed a' w' E k I hall => ?_) ops.size _ a _ (E0.atN (s.h.next + fls.length)) 0 ?_ ?_
              · obtain ⟨H, hH, HH⟩ := I.hp
                have hk : k = effCount dis := by
                  have h1 := (List.getElem?_eq_some_iff.1 hH).1
                  rw [R.len] at h1
                  rcases Nat.lt_or_ge k (effCount dis) with h | h
                  · exfalso
                    obtain ⟨j, e, g1, g2, g3⟩ := num_at L h
                    obtain ⟨o, ho, _⟩ := L.back j e g1
                    have := (I.eff j e g1 g2).1 (hall j (Array.getElem?_eq_some_iff.1 ho).1)
                    omega
                  · omega
                rw [hk, hlast] at hH
                cases hH
                have HH2 : HeapOk p E h2 w0 w' := by
                  refine convR_ok _ hl h2 (fun j _ cs hcs => ?_) HH hconv
                  rcases runD_pend dis s.tm _ [] [] [] _ hrun j cs hcs with h | ⟨d, hd, f, hf, hj⟩
                  · cases h
                  · obtain ⟨i, hi⟩ := List.getElem?_of_mem hd
                    obtain ⟨o, ho, _⟩ := L.back i d hi
                    have := (I.flt i d f hi hf).2.1 (hall i (Array.getElem?_eq_some_iff.1 ho).1) cs (by rw [hj]; exact hcs)
                    rw [hj] at this
                    exact this
                have X : TmX n keep E s.tm a'.tmps (fun t => ∃ d ∈ dis, d.ci.dst = some t) := by
                  have tr : ∀ i b, good E0 a.tmps i b → (¬ ∃ d ∈ dis, d.ci.dst = some i) → good E a'.tmps i b := fun i b g hno => by
                    obtain ⟨u, g1, g2⟩ := g.mono I.le.tole0
                    exact ⟨u, g1, by rw [I.old i fun j d h1 h2 => absurd ⟨d, List.mem_of_getElem? h1, h2⟩ hno]; exact g2⟩
                  exact ⟨by rw [I.asz]; exact S.tm.size, fun i b e hno => tr i b (S.tm.loc i b e) hno, fun i b e => ⟨(S.tm.tree.at_ i b e).1, fun hno => tr i b (S.tm.tree.at_ i b e).2 hno⟩⟩
                have HT := runD_tm (E := E) (arr := a'.tmps) (n := n) (keep := keep) dis s.tm _ [] [] [] _ hrun L.once keepd (fun d hd t v h1 h2 => by
                  obtain ⟨i, hi⟩ := List.getElem?_of_mem hd
                  obtain ⟨o, ho, _⟩ := L.back i d hi
                  exact I.val i d t v hi (hall i (Array.getElem?_eq_some_iff.1 ho).1) h1 h2) X
                exact P .norm _ E w' a' q I.le ⟨HT.shut, by rw [I.adf]; exact DfOk.mono I.le.tole0 _ _ S.df, HH2⟩
              · have hf : ∀ i, (Array.replicate ops.size false).getD i false = false := fun i => by
                  simp only [Array.getD_eq_getD_getElem?, Array.getElem?_replicate]
                  split <;> rfl
                have HR := S.hp.resvN fls.length
                refine ⟨Env.atN_le E0 (by have := S.hp.nx; omega), ⟨_, hA 0 _ rfl, HR.world ⟨rfl, rfl, rfl, Nat.le_refl _, fun _ _ => rfl⟩⟩, by simp, fun i h => ?_, fun i d h1 h2 => ?_, fun i d t v h1 h2 => ?_, fun _ _ => rfl, rfl, rfl, fun i d fl h1 h2 => ⟨?_, fun h => ?_, fun _ => ?_⟩⟩
                · rw [hf] at h; cases h
                · rw [hf]; simp
                · rw [hf] at h2; cases h2
                · obtain ⟨a1, a2⟩ := L.ord h1 h2
                  have := posOf_lt fls i a2
                  show s.h.next + fl.2.2 < s.h.next + fls.length
                  omega
                · rw [hf] at h; cases h
                · exact S.hp.fresh _ (Nat.le_add_right _ _)
              · have := List.countP_le_length (p := fun b => !b) (l := (Array.replicate ops.size false).toList)
                simpa using this
            · exact k2.elim
    · cases hc
  · cases hc

end Go.Sx
