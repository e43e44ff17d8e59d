/- REGIONS WHOSE ORDER OF EVALUATION IS DRAWN: the law. -/
import Derived.Test.YtaapomafjjikhaaGreatDoorSxFloat
/-! REGIONS WHOSE ORDER OF EVALUATION IS DRAWN: every order. -/
namespace Go.Sx
open Go.RowKit

theorem lRev_eq {α : Type} (l : List α) : lRev l = l.reverse := by
  have : ∀ (l m : List α), (@List.rec α (fun _ => List α → List α) (fun m => m) (fun a _ ih m => ih (a :: m)) l : List α → List α) m = l.reverse ++ m := by
    intro l
    induction l with
    | nil => intro m; rfl
    | cons a l ih => intro m; show (@List.rec α (fun _ => List α → List α) (fun m => m) (fun a _ ih m => ih (a :: m)) l : List α → List α) (a :: m) = _; rw [ih]; simp
  unfold lRev
  rw [this l []]; simp

theorem T.holds_at {α : Type} {ρ : Rho} {P : α → Prop} : ∀ t : T α, t.Holds ρ P → ∃ b, t.Holds ρ (fun x => x = b) ∧ P b
  | .ret a, h => ⟨a, rfl, h⟩
  | .fail w, h => absurd h id
  | .br c x y, h => by
    simp only [T.Holds] at h ⊢
    split at h
    · rename_i hc; obtain ⟨b, h1, h2⟩ := T.holds_at x h; exact ⟨b, by rw [if_pos hc]; exact h1, h2⟩
    · rename_i hc; obtain ⟨b, h1, h2⟩ := T.holds_at y h; exact ⟨b, by rw [if_neg hc]; exact h1, h2⟩
theorem uptoT_ok {f : Nat → T Bool} {ρ : Rho} : ∀ (n k : Nat), (uptoT f n k).Holds ρ (fun b => b = true) → ∀ j, k ≤ j → j ≤ k + n → (f j).Holds ρ fun b => b = true
  | 0, k, h, j, h1, h2 => by
    have : j = k := by omega
    subst this; exact h
  | n + 1, k, h, j, h1, h2 => by
    have h' : ((f k).bind fun b => cond b (uptoT f n (k + 1)) (.ret false)).Holds ρ (fun b => b = true) := h
    rw [T.holds_bind] at h'
    obtain ⟨b, hb, h'⟩ := T.holds_at _ h'
    cases b with
    | false => cases h'
    | true =>
      by_cases e : j = k
      · rw [e]; exact hb
      · exact uptoT_ok n (k + 1) h' j (by omega) (by omega)

theorem getD_set {l : Array Bool} {i j : Nat} : (l.setIfInBounds i true).getD j false = if i = j ∧ j < l.size then true else l.getD j false := by
  simp only [Array.getD_eq_getD_getElem?, Array.getElem?_setIfInBounds]
  by_cases h : i = j
  · subst h
    by_cases h2 : i < l.size
    · simp [h2]
    · simp [h2]
  · simp [h]

theorem getD_true {l : Array Bool} {j : Nat} (h : l.getD j true = false) : j < l.size ∧ l.getD j false = false := by
  simp only [Array.getD_eq_getD_getElem?] at *
  by_cases hj : j < l.size
  · simp [hj] at *; exact h
  · simp [hj] at h
theorem getD_false {l : Array Bool} {j : Nat} (hj : j < l.size) (h : l.getD j false = false) : l.getD j true = false := by
  simp only [Array.getD_eq_getD_getElem?] at *
  simp [hj] at *; exact h

/-- what is known of the allocations that no order binds -/
def FltOk (dis : List DI) (base : Nat) (pdF : List (Nat × List AV)) (E : Env) (listed : Array Bool) : Prop :=
  ∀ (i : Nat) (d : DI) (fl : FIns × FK × Nat), dis[i]? = some d → d.fl = some fl → base + fl.2.2 < E.n ∧
    (listed.getD i false = true → ∀ cs, lFind pdF fl.2.2 = some cs → ∃ c vs, E.σ (base + fl.2.2) = some (c, 0) ∧ concL E cs = some vs ∧ E.rc (base + fl.2.2) = vs.toArray) ∧
    (listed.getD i false = false → E.σ (base + fl.2.2) = none)

structure DInv (p : Par) (dis : List DI) (ms : List Nat) (N : Nat) (base : Nat) (pdF : List (Nat × List AV)) (HS : List Heap) (tmF : Tm) (E0 E : Env) (w0 : Base) (w : World) (arr0 : Array Value) (ds0 : List Deferred) (listed : Array Bool) (a : Act) (k : Nat) : Prop where
  le : E0.le E
  hp : ∃ h, HS[k]? = some h ∧ HeapOk p E h w0 w
  sz : listed.size = N
  cl : ∀ i, listed.getD i false = true → ∀ j, Nat.testBit (natGet ms i) j = true → listed.getD j false = true
  eff : ∀ (i : Nat) (d : DI), dis[i]? = some d → d.eff = true → (listed.getD i false = true ↔ d.lo < k)
  val : ∀ (i : Nat) (d : DI) (t : Nat) (v : AV), dis[i]? = some d → listed.getD i false = true → d.ci.dst = some t → tmF.look t = some v → good E a.tmps t v
  old : ∀ t, (∀ (j : Nat) (d : DI), dis[j]? = some d → d.ci.dst = some t → listed.getD j false = false) → a.tmps[t]? = arr0[t]?
  asz : a.tmps.size = arr0.size
  adf : a.defers = ds0
  flt : FltOk dis base pdF E listed

theorem DInv.next {p : Par} {dis : List DI} {ms : List Nat} {N base : Nat} {pdF : List (Nat × List AV)} {HS : List Heap} {tmF : Tm} {E0 E E' : Env} {w0 : Base} {w w' : World} {arr0 : Array Value} {ds0 : List Deferred} {listed : Array Bool} {a : Act} {k k' : Nat}
    (I : DInv p dis ms N base pdF HS tmF E0 E w0 w arr0 ds0 listed a k) (ho : Once dis) {i : Nat} {d : DI} (hd : dis[i]? = some d) (hi : i < N)
    (hanc : ∀ j, Nat.testBit (natGet ms i) j = true → listed.getD j false = true) (hE0 : E0.le E') (hle : E.le0 E') (hfl : FltOk dis base pdF E' (listed.setIfInBounds i true)) {h' : Heap} (hH : HS[k']? = some h') (HH : HeapOk p E' h' w0 w')
    (hnum : ∀ (j : Nat) (e : DI), dis[j]? = some e → e.eff = true → j ≠ i → (e.lo < k' ↔ e.lo < k)) (hme : d.eff = true → d.lo < k') {v : AV} {cv : Value} (hv : ∀ t, d.ci.dst = some t → conc E' v = some cv)
    (hdst : ∀ t, d.ci.dst = some t → tmF.look t = some v ∧ t < arr0.size) : DInv p dis ms N base pdF HS tmF E0 E' w0 w' arr0 ds0 (listed.setIfInBounds i true) (a.put d.ci.dst cv) k' := by
  refine ⟨hE0, ⟨h', hH, HH⟩, by simp [I.sz], fun i' h j hb => ?_, fun i' d' hd' he' => ?_, fun i' d' t v' hd' hl' ht' hv' => ?_, fun t ht => ?_, ?_, ?_, hfl⟩
  · rw [getD_set] at h ⊢
    have key : listed.getD j false = true := by
      by_cases c : i = i' ∧ i' < listed.size
      · obtain ⟨rfl, _⟩ := c; exact hanc j hb
      · rw [if_neg c] at h; exact I.cl i' h j hb
    split
    · rfl
    · exact key
  · rw [getD_set]
    by_cases c : i = i'
    · subst c
      rw [hd] at hd'; cases hd'
      rw [if_pos ⟨rfl, by rw [I.sz]; exact hi⟩]
      exact ⟨fun _ => hme he', fun _ => rfl⟩
    · rw [if_neg (fun h => c h.1), hnum i' d' hd' he' (Ne.symm c)]
      exact I.eff i' d' hd' he'
  · by_cases c : i = i'
    · subst c
      rw [hd] at hd'; cases hd'
      obtain ⟨h1, h2⟩ := hdst t ht'
      rw [h1] at hv'; cases hv'
      refine ⟨cv, hv t ht', ?_⟩
      rw [ht']
      simp only [Act.put]
      rw [Array.getElem?_setIfInBounds]
      simp [I.asz, h2]
    · rw [getD_set, if_neg (fun h => c h.1)] at hl'
      obtain ⟨u, g1, g2⟩ := (I.val i' d' t v' hd' hl' ht' hv').mono hle
      refine ⟨u, g1, ?_⟩
      cases hdd : d.ci.dst with
      | none => exact g2
      | some t' =>
        have hne : t' ≠ t := by
          rintro rfl
          rcases Nat.lt_or_ge i i' with hlt | hge
          · exact ho i i' d d' t' hlt hd hd' hdd ht'
          · exact ho i' i d' d t' (by omega) hd' hd ht' hdd
        simp only [Act.put]
        rw [Array.getElem?_setIfInBounds_ne hne]; exact g2
  · have hno : ∀ (j : Nat) (e : DI), dis[j]? = some e → e.ci.dst = some t → i ≠ j ∧ listed.getD j false = false := fun j e hj he => by
      have h1 := ht j e hj he
      rw [getD_set] at h1
      by_cases c : i = j ∧ j < listed.size
      · rw [if_pos c] at h1; cases h1
      · rw [if_neg c] at h1
        refine ⟨fun h => c ⟨h, ?_⟩, h1⟩
        rw [I.sz, ← h]; exact hi
    rw [← I.old t fun j e hj he => (hno j e hj he).2]
    cases hdd : d.ci.dst with
    | none => rfl
    | some t' =>
      have hne : t' ≠ t := by
        rintro rfl
        exact (hno i d hd hdd).1 rfl
      simp only [Act.put]
      rw [Array.getElem?_setIfInBounds_ne hne]
  · rw [← I.asz]
    cases hdd : d.ci.dst with
    | none => rfl
    | some t' => simp [Act.put]
  · rw [← I.adf]
    cases hdd : d.ci.dst <;> rfl

end Go.Sx
/-! REGIONS WHOSE ORDER OF EVALUATION IS DRAWN: the law. -/
namespace Go.Sx
open Go.RowKit

theorem numbered_inj : ∀ (l : List DI) (k : Nat), numbered k l = true → ∀ (i j : Nat) (d e : DI), l[i]? = some d → l[j]? = some e → d.eff = true → e.eff = true → d.lo = e.lo → i = j
  | [], k, _, i, j, d, e, h, _, _, _, _ => by simp at h
  | o :: l, k, hn, i, j, d, e, h1, h2, e1, e2, hl => by
    have hn0 := hn
    simp only [numbered] at hn
    cases he : o.eff with
    | false =>
      rw [he, cond_false] at hn
      cases i with
      | zero => simp at h1; subst h1; rw [he] at e1; cases e1
      | succ i => cases j with
        | zero => simp at h2; subst h2; rw [he] at e2; cases e2
        | succ j => simp at h1 h2; rw [numbered_inj l k hn i j d e h1 h2 e1 e2 hl]
    | true =>
      rw [he, cond_true] at hn
      simp only [Bool.and_eq_true] at hn
      have hk := beq_t.1 hn.1
      cases i with
      | zero => cases j with
        | zero => rfl
        | succ j => simp at h1 h2; subst h1; have := numbered_lt l (k + 1) hn.2 j e h2 e2; omega
      | succ i => cases j with
        | zero => simp at h1 h2; subst h2; have := numbered_lt l (k + 1) hn.2 i d h1 e1; omega
        | succ j => simp at h1 h2; rw [numbered_inj l (k + 1) hn.2 i j d e h1 h2 e1 e2 hl]

structure PlanOk (ty : Nat → Option TI) (n : Nat) (keep : List Nat) (ops : Array Oper) (fls ms : List Nat) (dis : List DI) : Prop where
  here : ∀ (i : Nat) (o : Oper), ops[i]? = some o → ∃ d, dis[i]? = some d ∧ cOper ty n keep ops.toList o = some d.ci ∧ PlanIs ty fls ms i o d
  back : ∀ (i : Nat) (d : DI), dis[i]? = some d → ∃ o, ops[i]? = some o ∧ cOper ty n keep ops.toList o = some d.ci ∧ PlanIs ty fls ms i o d
  pair : ∀ (i j : Nat) (a b : DI), dis[i]? = some a → dis[j]? = some b → pairOk ms i j a b = true
  edge : ∀ (i : Nat) (o : Oper), ops[i]? = some o → ∀ e ∈ o.after, Region.binds .any e = true → e.on < i
  num : numbered 0 dis = true
  bit : ∀ (i : Nat) (o : Oper) (j : Nat), ops[i]? = some o → Nat.testBit (natGet ms i) j = true → ∃ e ∈ o.after, Region.binds .any e = true ∧ (e.on = j ∨ Nat.testBit (natGet ms e.on) j = true)

theorem planOk_of {ty : Nat → Option TI} {n : Nat} {keep : List Nat} {ops : Array Oper} {cs : List CI} (hcs : cOpers ty n keep ops.toList ops.toList = some cs) {effs fls : List Nat} {dis : List DI} (hpl : planOf ty effs fls (masks [] ops.toList) 0 ops.toList cs = some dis)
    (hok : drawOk ops.toList (masks [] ops.toList) dis = true) : PlanOk ty n keep ops fls (masks [] ops.toList) dis := by
  obtain ⟨hl, hget⟩ := cOpers_get _ _ hcs
  obtain ⟨hpl, hpg⟩ := planOf_get effs fls (masks [] ops.toList) ops.toList cs 0 dis hl hpl
  simp only [drawOk, Bool.and_eq_true] at hok
  have here : ∀ (i : Nat) (o : Oper), ops[i]? = some o → ∃ d, dis[i]? = some d ∧ cOper ty n keep ops.toList o = some d.ci ∧ PlanIs ty fls (masks [] ops.toList) i o d := fun i o h => by
    have h' : ops.toList[i]? = some o := by simpa using h
    obtain ⟨c, hc1, hc2⟩ := hget i o h'
    obtain ⟨d, hd1, hd2⟩ := hpg i o c h' hc1
    obtain ⟨p1, _, p2⟩ := planAt_is hd2
    rw [Nat.zero_add] at p2
    exact ⟨d, hd1, by rw [p1]; exact hc2, p2⟩
  refine ⟨here, fun i d h => ?_, fun i j a b h1 h2 => ?_, fun i o h e he hbe => ?_, hok.2, fun i o j h hb => ?_⟩
  · have hi : i < ops.toList.length := by rw [← hpl]; exact (List.getElem?_eq_some_iff.1 h).1
    have ho : ops[i]? = some ops[i]! := by
      have : i < ops.size := by simpa using hi
      simp [this]
    obtain ⟨d', h1, h2⟩ := here i _ ho
    rw [h] at h1; cases h1
    exact ⟨_, ho, h2⟩
  · have := rowsOk_get _ 0 hok.1.1 i a j b h1 h2
    simpa using this
  · have := edgesOk_get _ 0 hok.1.2 i o (by simpa using h) e he hbe
    omega
  · have := masks_bit ops.toList [] i o j (by simpa using h) (by simpa using hb)
    exact this

theorem posOf_inj : ∀ (l : List Nat) (i j : Nat), memB l i = true → memB l j = true → posOf l i = posOf l j → i = j
  | [], i, j, h, _, _ => by simp [memB] at h
  | a :: l, i, j, hi, hj, e => by
    simp only [posOf] at e
    by_cases c1 : a = i
    · by_cases c2 : a = j
      · omega
      · rw [beq_t.2 c1, beq_f.2 c2, cond_true, cond_false] at e; omega
    · by_cases c2 : a = j
      · rw [beq_f.2 c1, beq_t.2 c2, cond_true, cond_false] at e; omega
      · rw [beq_f.2 c1, beq_f.2 c2, cond_false, cond_false] at e
        have hi' : memB l i = true := by
          simp only [memB, List.any_cons, Bool.or_eq_true] at hi
          rcases hi with h | h
          · exact absurd (beq_t.1 h).symm c1
          · exact h
        have hj' : memB l j = true := by
          simp only [memB, List.any_cons, Bool.or_eq_true] at hj
          rcases hj with h | h
          · exact absurd (beq_t.1 h).symm c2
          · exact h
        exact posOf_inj l i j hi' hj' (Nat.succ.inj e)

theorem dueOf_mem {ms : List Nat} {i : Nat} {all : List Nat} : ∀ (l : List Nat) (j : Nat), j ∈ dueOf ms i all l → ∃ f ∈ l, Nat.testBit (natGet ms i) f = true ∧ j = posOf all f
  | [], j, h => by cases h
  | f :: l, j, h => by
    simp only [dueOf] at h
    cases hb : Nat.testBit (natGet ms i) f with
    | false =>
      rw [hb, cond_false] at h
      obtain ⟨f', h1, h2⟩ := dueOf_mem l j h
      exact ⟨f', List.mem_cons_of_mem _ h1, h2⟩
    | true =>
      rw [hb, cond_true] at h
      rcases List.mem_cons.1 h with rfl | h
      · exact ⟨f, List.mem_cons_self, hb, rfl⟩
      · obtain ⟨f', h1, h2⟩ := dueOf_mem l j h
        exact ⟨f', List.mem_cons_of_mem _ h1, h2⟩

theorem memB_of {l : List Nat} {f : Nat} (h : f ∈ l) : memB l f = true := by
  rw [memB, List.any_eq_true]; exact ⟨f, h, beq_t.2 rfl⟩

section
variable {ty : Nat → Option TI} {n : Nat} {keep : List Nat} {ops : Array Oper} {fls ms : List Nat} {dis : List DI}

theorem PlanOk.lt (L : PlanOk ty n keep ops fls ms dis) (i : Nat) : ∀ (o : Oper) (j : Nat), ops[i]? = some o → Nat.testBit (natGet ms i) j = true → j < i := by
  induction i using Nat.strongRecOn with
  | _ i ih =>
    intro o j h hb
    obtain ⟨e, he, hbe, h1⟩ := L.bit i o j h hb
    have hlt := L.edge i o h e he hbe
    rcases h1 with rfl | h1
    · exact hlt
    · have hsz : i < ops.size := (Array.getElem?_eq_some_iff.1 h).1
      have ho : ops[e.on]? = some ops[e.on]! := by
        have : e.on < ops.size := by omega
        simp [this]
      have := ih e.on hlt _ j ho h1
      omega

theorem PlanOk.once (L : PlanOk ty n keep ops fls ms dis) : Once dis := by
  intro i j d d' t hij h1 h2 h3 h4
  have := L.pair i j d d' h1 h2
  simp only [pairOk, Bool.and_eq_true, h3, h4] at this
  have := this.1.2
  simp only [Bool.or_eq_true, Bool.not_eq_true'] at this
  rcases this with h | h
  · rw [beq_t.2 rfl] at h; cases h
  · have := beq_t.1 h; omega

theorem PlanOk.quiet (L : PlanOk ty n keep ops fls ms dis) : ∀ d ∈ dis, QuietD d := by
  intro d hd hfl he
  obtain ⟨i, hi⟩ := List.getElem?_of_mem hd
  obtain ⟨o, ho, hc, hp⟩ := L.back i d hi
  rcases hp with ⟨_, h2, _, h4, _⟩ | ⟨q, _, h2, _⟩
  · exact ⟨h4 he, fun cx tm h ρ r e => quiet_runC hc (by rw [← h2]; exact he) e⟩
  · rw [h2] at hfl; cases hfl

theorem PlanOk.floatD (L : PlanOk ty n keep ops fls ms dis) : ∀ d ∈ dis, FloatD d := by
  intro d hd hfl
  obtain ⟨i, hi⟩ := List.getElem?_of_mem hd
  obtain ⟨o, ho, hc, hp⟩ := L.back i d hi
  rcases hp with ⟨h1, _⟩ | ⟨q, _, _, h3, _⟩
  · exact absurd h1 hfl
  · exact h3

theorem PlanOk.ord (L : PlanOk ty n keep ops fls ms dis) {i : Nat} {d : DI} {f : FIns × FK × Nat} (hi : dis[i]? = some d) (hf : d.fl = some f) : f.2.2 = posOf fls i ∧ memB fls i = true := by
  obtain ⟨o, ho, hc, hp⟩ := L.back i d hi
  rcases hp with ⟨h1, _⟩ | ⟨q, _, h2, _, h4⟩
  · rw [hf] at h1; cases h1
  · rw [hf] at h2; cases h2; exact ⟨rfl, h4⟩

theorem PlanOk.onceF (L : PlanOk ty n keep ops fls ms dis) : OnceF dis := by
  intro i j d d' f f' hij h1 h2 hf hf' e
  obtain ⟨a1, a2⟩ := L.ord h1 hf
  obtain ⟨b1, b2⟩ := L.ord h2 hf'
  have := posOf_inj fls i j a2 b2 (by rw [← a1, ← b1]; exact e)
  omega

/-- what an effect comes behind has been laid -/
theorem PlanOk.due (L : PlanOk ty n keep ops fls ms dis) {i : Nat} {d : DI} (hi : dis[i]? = some d) (hfl : d.fl = none) {j : Nat} (hj : j ∈ d.due) : ∃ (i' : Nat) (d' : DI) (f : FIns × FK × Nat), Nat.testBit (natGet ms i) i' = true ∧ dis[i']? = some d' ∧ d'.fl = some f ∧ f.2.2 = j := by
  obtain ⟨o, ho, hc, hp⟩ := L.back i d hi
  rcases hp with ⟨_, h2, _, h4, h5⟩ | ⟨q, _, h2, _⟩
  · cases he : d.eff with
    | false => rw [h4 he] at hj; cases hj
    | true =>
      rw [h5 he] at hj
      obtain ⟨f, hf1, hf2, rfl⟩ := dueOf_mem fls j hj
      have hlt : f < i := L.lt i o f ho hf2
      have hsz : i < ops.size := (Array.getElem?_eq_some_iff.1 ho).1
      have hof : ops[f]? = some ops[f]! := by
        have : f < ops.size := by omega
        simp [this]
      obtain ⟨d', hd', _, hp'⟩ := L.here f _ hof
      rcases hp' with ⟨_, _, h3, _⟩ | ⟨q, _, h2, _⟩
      · rw [memB_of hf1] at h3; cases h3
      · exact ⟨f, d', _, hf2, hd', h2, rfl⟩
  · rw [hfl] at h2; cases h2

theorem PlanOk.reads (L : PlanOk ty n keep ops fls ms dis) {i j : Nat} {d d' : DI} (h1 : dis[i]? = some d) (h2 : dis[j]? = some d') {t : Nat} (ht : t ∈ d.reads) (hd : d'.ci.dst = some t) : Nat.testBit (natGet ms i) j = true ∨ Nat.testBit (natGet ms j) i = true := by
  have := L.pair i j d d' h1 h2
  simp only [pairOk, Bool.and_eq_true, hd] at this
  have := this.1.1
  simp only [Bool.or_eq_true, Bool.not_eq_true'] at this
  rcases this with h | h
  · rw [List.any_eq_false] at h
    exact absurd (beq_t.2 rfl) (h t ht)
  · exact h

theorem PlanOk.effs (L : PlanOk ty n keep ops fls ms dis) {i j : Nat} {d e : DI} (h1 : dis[j]? = some e) (h2 : dis[i]? = some d) (he : e.eff = true) (hd : d.eff = true) (hl : e.lo < d.lo) : Nat.testBit (natGet ms i) j = true := by
  have := L.pair j i e d h1 h2
  simp only [pairOk, Bool.and_eq_true, hd, he, cond_true] at this
  have := this.2
  simp only [Bool.or_eq_true] at this
  rcases this with h | h
  · have := ble_t.1 h; omega
  · exact h

theorem PlanOk.lo (L : PlanOk ty n keep ops fls ms dis) {i j : Nat} {d e : DI} (h1 : dis[i]? = some d) (h2 : dis[j]? = some e) (he : e.eff = true) (hd : d.eff = false) (hl : e.lo < d.lo) : Nat.testBit (natGet ms i) j = true := by
  have := L.pair i j d e h1 h2
  simp only [pairOk, Bool.and_eq_true, hd, he, cond_true, cond_false] at this
  have := this.2.1
  simp only [Bool.or_eq_true] at this
  rcases this with h | h
  · have := ble_t.1 h; omega
  · exact h
theorem PlanOk.hi (L : PlanOk ty n keep ops fls ms dis) {i j : Nat} {d e : DI} (h1 : dis[i]? = some d) (h2 : dis[j]? = some e) (he : e.eff = true) (hd : d.eff = false) (hl : d.hi ≤ e.lo) : Nat.testBit (natGet ms j) i = true := by
  have := L.pair i j d e h1 h2
  simp only [pairOk, Bool.and_eq_true, hd, he, cond_true, cond_false] at this
  have := this.2.2
  simp only [Bool.or_eq_true] at this
  rcases this with h | h
  · have := ble_t.1 h; omega
  · exact h
end

end Go.Sx
