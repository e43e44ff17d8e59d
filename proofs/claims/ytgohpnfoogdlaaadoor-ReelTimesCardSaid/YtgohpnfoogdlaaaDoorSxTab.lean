/- TABLES: how a program's own facts make the evaluator's premises. -/
import Derived.Test.YtgohpnfoogdlaaaDoorSxFloat
import Derived.RangeFuncRecord
import Derived.Scope
import Derived.RangeFuncNested
import Derived.KernelRfl
/-! REGIONS WHOSE ORDER OF EVALUATION IS DRAWN: every order. -/
namespace Go.Sx
open Go.RowKit

theorem lRev_eq {α : Type} (l : List α) : lRev l = l.reverse := by
  have : ∀ (l m : List α), (@List.rec α (fun _ => List α → List α) (fun m => m) (fun a _ ih m => ih (a :: m)) l : List α → List α) m = l.reverse ++ m := by
    intro l
    induction l with
    | nil => intro m; rfl
    | cons a l ih => intro m; show (@List.rec α (fun _ => List α → List α) (fun m => m) (fun a _ ih m => ih (a :: m)) l : List α → List α) (a :: m) = _; rw [ih]; simp
  unfold lRev
  rw [this l []]; simp

theorem T.holds_at {α : Type} {ρ : Rho} {P : α → Prop} : ∀ t : T α, t.Holds ρ P → ∃ b, t.Holds ρ (fun x => x = b) ∧ P b
  | .ret a, h => ⟨a, rfl, h⟩
  | .fail w, h => absurd h id
  | .br c x y, h => by
    simp only [T.Holds] at h ⊢
    split at h
    · rename_i hc; obtain ⟨b, h1, h2⟩ := T.holds_at x h; exact ⟨b, by rw [if_pos hc]; exact h1, h2⟩
    · rename_i hc; obtain ⟨b, h1, h2⟩ := T.holds_at y h; exact ⟨b, by rw [if_neg hc]; exact h1, h2⟩
theorem uptoT_ok {f : Nat → T Bool} {ρ : Rho} : ∀ (n k : Nat), (uptoT f n k).Holds ρ (fun b => b = true) → ∀ j, k ≤ j → j ≤ k + n → (f j).Holds ρ fun b => b = true
  | 0, k, h, j, h1, h2 => by
    have : j = k := by omega
    subst this; exact h
  | n + 1, k, h, j, h1, h2 => by
    have h' : ((f k).bind fun b => cond b (uptoT f n (k + 1)) (.ret false)).Holds ρ (fun b => b = true) := h
    rw [T.holds_bind] at h'
    obtain ⟨b, hb, h'⟩ := T.holds_at _ h'
    cases b with
    | false => cases h'
    | true =>
      by_cases e : j = k
      · rw [e]; exact hb
      · exact uptoT_ok n (k + 1) h' j (by omega) (by omega)

theorem getD_set {l : Array Bool} {i j : Nat} : (l.setIfInBounds i true).getD j false = if i = j ∧ j < l.size then true else l.getD j false := by
  simp only [Array.getD_eq_getD_getElem?, Array.getElem?_setIfInBounds]
  by_cases h : i = j
  · subst h
    by_cases h2 : i < l.size
    · simp [h2]
    · simp [h2]
  · simp [h]

theorem getD_true {l : Array Bool} {j : Nat} (h : l.getD j true = false) : j < l.size ∧ l.getD j false = false := by
  simp only [Array.getD_eq_getD_getElem?] at *
  by_cases hj : j < l.size
  · simp [hj] at *; exact h
  · simp [hj] at h
theorem getD_false {l : Array Bool} {j : Nat} (hj : j < l.size) (h : l.getD j false = false) : l.getD j true = false := by
  simp only [Array.getD_eq_getD_getElem?] at *
  simp [hj] at *; exact h

/-- what is known of the allocations that no order binds -/
def FltOk (dis : List DI) (base : Nat) (pdF : List (Nat × List AV)) (E : Env) (listed : Array Bool) : Prop :=
  ∀ (i : Nat) (d : DI) (fl : FIns × FK × Nat), dis[i]? = some d → d.fl = some fl → base + fl.2.2 < E.n ∧
    (listed.getD i false = true → ∀ cs, lFind pdF fl.2.2 = some cs → ∃ c vs, E.σ (base + fl.2.2) = some (c, 0) ∧ concL E cs = some vs ∧ E.rc (base + fl.2.2) = vs.toArray) ∧
    (listed.getD i false = false → E.σ (base + fl.2.2) = none)

structure DInv (p : Par) (dis : List DI) (ms : List Nat) (N : Nat) (base : Nat) (pdF : List (Nat × List AV)) (HS : List Heap) (tmF : Tm) (E0 E : Env) (w0 : Base) (w : World) (arr0 : Array Value) (ds0 : List Deferred) (listed : Array Bool) (a : Act) (k : Nat) : Prop where
  le : E0.le E
  hp : ∃ h, HS[k]? = some h ∧ HeapOk p E h w0 w
  sz : listed.size = N
  cl : ∀ i, listed.getD i false = true → ∀ j, Nat.testBit (natGet ms i) j = true → listed.getD j false = true
  eff : ∀ (i : Nat) (d : DI), dis[i]? = some d → d.eff = true → (listed.getD i false = true ↔ d.lo < k)
  val : ∀ (i : Nat) (d : DI) (t : Nat) (v : AV), dis[i]? = some d → listed.getD i false = true → d.ci.dst = some t → tmF.look t = some v → good E a.tmps t v
  old : ∀ t, (∀ (j : Nat) (d : DI), dis[j]? = some d → d.ci.dst = some t → listed.getD j false = false) → a.tmps[t]? = arr0[t]?
  asz : a.tmps.size = arr0.size
  adf : a.defers = ds0
  flt : FltOk dis base pdF E listed

theorem DInv.next {p : Par} {dis : List DI} {ms : List Nat} {N base : Nat} {pdF : List (Nat × List AV)} {HS : List Heap} {tmF : Tm} {E0 E E' : Env} {w0 : Base} {w w' : World} {arr0 : Array Value} {ds0 : List Deferred} {listed : Array Bool} {a : Act} {k k' : Nat}
    (I : DInv p dis ms N base pdF HS tmF E0 E w0 w arr0 ds0 listed a k) (ho : Once dis) {i : Nat} {d : DI} (hd : dis[i]? = some d) (hi : i < N)
    (hanc : ∀ j, Nat.testBit (natGet ms i) j = true → listed.getD j false = true) (hE0 : E0.le E') (hle : E.le0 E') (hfl : FltOk dis base pdF E' (listed.setIfInBounds i true)) {h' : Heap} (hH : HS[k']? = some h') (HH : HeapOk p E' h' w0 w')
    (hnum : ∀ (j : Nat) (e : DI), dis[j]? = some e → e.eff = true → j ≠ i → (e.lo < k' ↔ e.lo < k)) (hme : d.eff = true → d.lo < k') {v : AV} {cv : Value} (hv : ∀ t, d.ci.dst = some t → conc E' v = some cv)
    (hdst : ∀ t, d.ci.dst = some t → tmF.look t = some v ∧ t < arr0.size) : DInv p dis ms N base pdF HS tmF E0 E' w0 w' arr0 ds0 (listed.setIfInBounds i true) (a.put d.ci.dst cv) k' := by
  refine ⟨hE0, ⟨h', hH, HH⟩, by simp [I.sz], fun i' h j hb => ?_, fun i' d' hd' he' => ?_, fun i' d' t v' hd' hl' ht' hv' => ?_, fun t ht => ?_, ?_, ?_, hfl⟩
  · rw [getD_set] at h ⊢
    have key : listed.getD j false = true := by
      by_cases c : i = i' ∧ i' < listed.size
      · obtain ⟨rfl, _⟩ := c; exact hanc j hb
      · rw [if_neg c] at h; exact I.cl i' h j hb
    split
    · rfl
    · exact key
  · rw [getD_set]
    by_cases c : i = i'
    · subst c
      rw [hd] at hd'; cases hd'
      rw [if_pos ⟨rfl, by rw [I.sz]; exact hi⟩]
      exact ⟨fun _ => hme he', fun _ => rfl⟩
    · rw [if_neg (fun h => c h.1), hnum i' d' hd' he' (Ne.symm c)]
      exact I.eff i' d' hd' he'
  · by_cases c : i = i'
    · subst c
      rw [hd] at hd'; cases hd'
      obtain ⟨h1, h2⟩ := hdst t ht'
      rw [h1] at hv'; cases hv'
      refine ⟨cv, hv t ht', ?_⟩
      rw [ht']
      simp only [Act.put]
      rw [Array.getElem?_setIfInBounds]
      simp [I.asz, h2]
    · rw [getD_set, if_neg (fun h => c h.1)] at hl'
      obtain ⟨u, g1, g2⟩ := (I.val i' d' t v' hd' hl' ht' hv').mono hle
      refine ⟨u, g1, ?_⟩
      cases hdd : d.ci.dst with
      | none => exact g2
      | some t' =>
        have hne : t' ≠ t := by
          rintro rfl
          rcases Nat.lt_or_ge i i' with hlt | hge
          · exact ho i i' d d' t' hlt hd hd' hdd ht'
          · exact ho i' i d' d t' (by omega) hd' hd ht' hdd
        simp only [Act.put]
        rw [Array.getElem?_setIfInBounds_ne hne]; exact g2
  · have hno : ∀ (j : Nat) (e : DI), dis[j]? = some e → e.ci.dst = some t → i ≠ j ∧ listed.getD j false = false := fun j e hj he => by
      have h1 := ht j e hj he
      rw [getD_set] at h1
      by_cases c : i = j ∧ j < listed.size
      · rw [if_pos c] at h1; cases h1
      · rw [if_neg c] at h1
        refine ⟨fun h => c ⟨h, ?_⟩, h1⟩
        rw [I.sz, ← h]; exact hi
    rw [← I.old t fun j e hj he => (hno j e hj he).2]
    cases hdd : d.ci.dst with
    | none => rfl
    | some t' =>
      have hne : t' ≠ t := by
        rintro rfl
        exact (hno i d hd hdd).1 rfl
      simp only [Act.put]
      rw [Array.getElem?_setIfInBounds_ne hne]
  · rw [← I.asz]
    cases hdd : d.ci.dst with
    | none => rfl
    | some t' => simp [Act.put]
  · rw [← I.adf]
    cases hdd : d.ci.dst <;> rfl

end Go.Sx
/-! REGIONS WHOSE ORDER OF EVALUATION IS DRAWN: the law. -/
namespace Go.Sx
open Go.RowKit

theorem numbered_inj : ∀ (l : List DI) (k : Nat), numbered k l = true → ∀ (i j : Nat) (d e : DI), l[i]? = some d → l[j]? = some e → d.eff = true → e.eff = true → d.lo = e.lo → i = j
  | [], k, _, i, j, d, e, h, _, _, _, _ => by simp at h
  | o :: l, k, hn, i, j, d, e, h1, h2, e1, e2, hl => by
    have hn0 := hn
    simp only [numbered] at hn
    cases he : o.eff with
    | false =>
      rw [he, cond_false] at hn
      cases i with
      | zero => simp at h1; subst h1; rw [he] at e1; cases e1
      | succ i => cases j with
        | zero => simp at h2; subst h2; rw [he] at e2; cases e2
        | succ j => simp at h1 h2; rw [numbered_inj l k hn i j d e h1 h2 e1 e2 hl]
    | true =>
      rw [he, cond_true] at hn
      simp only [Bool.and_eq_true] at hn
      have hk := beq_t.1 hn.1
      cases i with
      | zero => cases j with
        | zero => rfl
        | succ j => simp at h1 h2; subst h1; have := numbered_lt l (k + 1) hn.2 j e h2 e2; omega
      | succ i => cases j with
        | zero => simp at h1 h2; subst h2; have := numbered_lt l (k + 1) hn.2 i d h1 e1; omega
        | succ j => simp at h1 h2; rw [numbered_inj l (k + 1) hn.2 i j d e h1 h2 e1 e2 hl]

structure PlanOk (ty : Nat → Option TI) (n : Nat) (keep : List Nat) (ops : Array Oper) (fls ms : List Nat) (dis : List DI) : Prop where
  here : ∀ (i : Nat) (o : Oper), ops[i]? = some o → ∃ d, dis[i]? = some d ∧ cOper ty n keep ops.toList o = some d.ci ∧ PlanIs ty fls ms i o d
  back : ∀ (i : Nat) (d : DI), dis[i]? = some d → ∃ o, ops[i]? = some o ∧ cOper ty n keep ops.toList o = some d.ci ∧ PlanIs ty fls ms i o d
  pair : ∀ (i j : Nat) (a b : DI), dis[i]? = some a → dis[j]? = some b → pairOk ms i j a b = true
  edge : ∀ (i : Nat) (o : Oper), ops[i]? = some o → ∀ e ∈ o.after, Region.binds .any e = true → e.on < i
  num : numbered 0 dis = true
  bit : ∀ (i : Nat) (o : Oper) (j : Nat), ops[i]? = some o → Nat.testBit (natGet ms i) j = true → ∃ e ∈ o.after, Region.binds .any e = true ∧ (e.on = j ∨ Nat.testBit (natGet ms e.on) j = true)

theorem planOk_of {ty : Nat → Option TI} {n : Nat} {keep : List Nat} {ops : Array Oper} {cs : List CI} (hcs : cOpers ty n keep ops.toList ops.toList = some cs) {effs fls : List Nat} {dis : List DI} (hpl : planOf ty effs fls (masks [] ops.toList) 0 ops.toList cs = some dis)
    (hok : drawOk ops.toList (masks [] ops.toList) dis = true) : PlanOk ty n keep ops fls (masks [] ops.toList) dis := by
  obtain ⟨hl, hget⟩ := cOpers_get _ _ hcs
  obtain ⟨hpl, hpg⟩ := planOf_get effs fls (masks [] ops.toList) ops.toList cs 0 dis hl hpl
  simp only [drawOk, Bool.and_eq_true] at hok
  have here : ∀ (i : Nat) (o : Oper), ops[i]? = some o → ∃ d, dis[i]? = some d ∧ cOper ty n keep ops.toList o = some d.ci ∧ PlanIs ty fls (masks [] ops.toList) i o d := fun i o h => by
    have h' : ops.toList[i]? = some o := by simpa using h
    obtain ⟨c, hc1, hc2⟩ := hget i o h'
    obtain ⟨d, hd1, hd2⟩ := hpg i o c h' hc1
    obtain ⟨p1, _, p2⟩ := planAt_is hd2
    rw [Nat.zero_add] at p2
    exact ⟨d, hd1, by rw [p1]; exact hc2, p2⟩
  refine ⟨here, fun i d h => ?_, fun i j a b h1 h2 => ?_, fun i o h e he hbe => ?_, hok.2, fun i o j h hb => ?_⟩
  · have hi : i < ops.toList.length := by rw [← hpl]; exact (List.getElem?_eq_some_iff.1 h).1
    have ho : ops[i]? = some ops[i]! := by
      have : i < ops.size := by simpa using hi
      simp [this]
    obtain ⟨d', h1, h2⟩ := here i _ ho
    rw [h] at h1; cases h1
    exact ⟨_, ho, h2⟩
  · have := rowsOk_get _ 0 hok.1.1 i a j b h1 h2
    simpa using this
  · have := edgesOk_get _ 0 hok.1.2 i o (by simpa using h) e he hbe
    omega
  · have := masks_bit ops.toList [] i o j (by simpa using h) (by simpa using hb)
    exact this

theorem posOf_inj : ∀ (l : List Nat) (i j : Nat), memB l i = true → memB l j = true → posOf l i = posOf l j → i = j
  | [], i, j, h, _, _ => by simp [memB] at h
  | a :: l, i, j, hi, hj, e => by
    simp only [posOf] at e
    by_cases c1 : a = i
    · by_cases c2 : a = j
      · omega
      · rw [beq_t.2 c1, beq_f.2 c2, cond_true, cond_false] at e; omega
    · by_cases c2 : a = j
      · rw [beq_f.2 c1, beq_t.2 c2, cond_true, cond_false] at e; omega
      · rw [beq_f.2 c1, beq_f.2 c2, cond_false, cond_false] at e
        have hi' : memB l i = true := by
          simp only [memB, List.any_cons, Bool.or_eq_true] at hi
          rcases hi with h | h
          · exact absurd (beq_t.1 h).symm c1
          · exact h
        have hj' : memB l j = true := by
          simp only [memB, List.any_cons, Bool.or_eq_true] at hj
          rcases hj with h | h
          · exact absurd (beq_t.1 h).symm c2
          · exact h
        exact posOf_inj l i j hi' hj' (Nat.succ.inj e)

theorem dueOf_mem {ms : List Nat} {i : Nat} {all : List Nat} : ∀ (l : List Nat) (j : Nat), j ∈ dueOf ms i all l → ∃ f ∈ l, Nat.testBit (natGet ms i) f = true ∧ j = posOf all f
  | [], j, h => by cases h
  | f :: l, j, h => by
    simp only [dueOf] at h
    cases hb : Nat.testBit (natGet ms i) f with
    | false =>
      rw [hb, cond_false] at h
      obtain ⟨f', h1, h2⟩ := dueOf_mem l j h
      exact ⟨f', List.mem_cons_of_mem _ h1, h2⟩
    | true =>
      rw [hb, cond_true] at h
      rcases List.mem_cons.1 h with rfl | h
      · exact ⟨f, List.mem_cons_self, hb, rfl⟩
      · obtain ⟨f', h1, h2⟩ := dueOf_mem l j h
        exact ⟨f', List.mem_cons_of_mem _ h1, h2⟩

theorem memB_of {l : List Nat} {f : Nat} (h : f ∈ l) : memB l f = true := by
  rw [memB, List.any_eq_true]; exact ⟨f, h, beq_t.2 rfl⟩

section
variable {ty : Nat → Option TI} {n : Nat} {keep : List Nat} {ops : Array Oper} {fls ms : List Nat} {dis : List DI}

theorem PlanOk.lt (L : PlanOk ty n keep ops fls ms dis) (i : Nat) : ∀ (o : Oper) (j : Nat), ops[i]? = some o → Nat.testBit (natGet ms i) j = true → j < i := by
  induction i using Nat.strongRecOn with
  | _ i ih =>
    intro o j h hb
    obtain ⟨e, he, hbe, h1⟩ := L.bit i o j h hb
    have hlt := L.edge i o h e he hbe
    rcases h1 with rfl | h1
    · exact hlt
    · have hsz : i < ops.size := (Array.getElem?_eq_some_iff.1 h).1
      have ho : ops[e.on]? = some ops[e.on]! := by
        have : e.on < ops.size := by omega
        simp [this]
      have := ih e.on hlt _ j ho h1
      omega

theorem PlanOk.once (L : PlanOk ty n keep ops fls ms dis) : Once dis := by
  intro i j d d' t hij h1 h2 h3 h4
  have := L.pair i j d d' h1 h2
  simp only [pairOk, Bool.and_eq_true, h3, h4] at this
  have := this.1.2
  simp only [Bool.or_eq_true, Bool.not_eq_true'] at this
  rcases this with h | h
  · rw [beq_t.2 rfl] at h; cases h
  · have := beq_t.1 h; omega

theorem PlanOk.quiet (L : PlanOk ty n keep ops fls ms dis) : ∀ d ∈ dis, QuietD d := by
  intro d hd hfl he
  obtain ⟨i, hi⟩ := List.getElem?_of_mem hd
  obtain ⟨o, ho, hc, hp⟩ := L.back i d hi
  rcases hp with ⟨_, h2, _, h4, _⟩ | ⟨q, _, h2, _⟩
  · exact ⟨h4 he, fun cx tm h ρ r e => quiet_runC hc (by rw [← h2]; exact he) e⟩
  · rw [h2] at hfl; cases hfl

theorem PlanOk.floatD (L : PlanOk ty n keep ops fls ms dis) : ∀ d ∈ dis, FloatD d := by
  intro d hd hfl
  obtain ⟨i, hi⟩ := List.getElem?_of_mem hd
  obtain ⟨o, ho, hc, hp⟩ := L.back i d hi
  rcases hp with ⟨h1, _⟩ | ⟨q, _, _, h3, _⟩
  · exact absurd h1 hfl
  · exact h3

theorem PlanOk.ord (L : PlanOk ty n keep ops fls ms dis) {i : Nat} {d : DI} {f : FIns × FK × Nat} (hi : dis[i]? = some d) (hf : d.fl = some f) : f.2.2 = posOf fls i ∧ memB fls i = true := by
  obtain ⟨o, ho, hc, hp⟩ := L.back i d hi
  rcases hp with ⟨h1, _⟩ | ⟨q, _, h2, _, h4⟩
  · rw [hf] at h1; cases h1
  · rw [hf] at h2; cases h2; exact ⟨rfl, h4⟩

theorem PlanOk.onceF (L : PlanOk ty n keep ops fls ms dis) : OnceF dis := by
  intro i j d d' f f' hij h1 h2 hf hf' e
  obtain ⟨a1, a2⟩ := L.ord h1 hf
  obtain ⟨b1, b2⟩ := L.ord h2 hf'
  have := posOf_inj fls i j a2 b2 (by rw [← a1, ← b1]; exact e)
  omega

/-- what an effect comes behind has been laid -/
theorem PlanOk.due (L : PlanOk ty n keep ops fls ms dis) {i : Nat} {d : DI} (hi : dis[i]? = some d) (hfl : d.fl = none) {j : Nat} (hj : j ∈ d.due) : ∃ (i' : Nat) (d' : DI) (f : FIns × FK × Nat), Nat.testBit (natGet ms i) i' = true ∧ dis[i']? = some d' ∧ d'.fl = some f ∧ f.2.2 = j := by
  obtain ⟨o, ho, hc, hp⟩ := L.back i d hi
  rcases hp with ⟨_, h2, _, h4, h5⟩ | ⟨q, _, h2, _⟩
  · cases he : d.eff with
    | false => rw [h4 he] at hj; cases hj
    | true =>
      rw [h5 he] at hj
      obtain ⟨f, hf1, hf2, rfl⟩ := dueOf_mem fls j hj
      have hlt : f < i := L.lt i o f ho hf2
      have hsz : i < ops.size := (Array.getElem?_eq_some_iff.1 ho).1
      have hof : ops[f]? = some ops[f]! := by
        have : f < ops.size := by omega
        simp [this]
      obtain ⟨d', hd', _, hp'⟩ := L.here f _ hof
      rcases hp' with ⟨_, _, h3, _⟩ | ⟨q, _, h2, _⟩
      · rw [memB_of hf1] at h3; cases h3
      · exact ⟨f, d', _, hf2, hd', h2, rfl⟩
  · rw [hfl] at h2; cases h2

theorem PlanOk.reads (L : PlanOk ty n keep ops fls ms dis) {i j : Nat} {d d' : DI} (h1 : dis[i]? = some d) (h2 : dis[j]? = some d') {t : Nat} (ht : t ∈ d.reads) (hd : d'.ci.dst = some t) : Nat.testBit (natGet ms i) j = true ∨ Nat.testBit (natGet ms j) i = true := by
  have := L.pair i j d d' h1 h2
  simp only [pairOk, Bool.and_eq_true, hd] at this
  have := this.1.1
  simp only [Bool.or_eq_true, Bool.not_eq_true'] at this
  rcases this with h | h
  · rw [List.any_eq_false] at h
    exact absurd (beq_t.2 rfl) (h t ht)
  · exact h

theorem PlanOk.effs (L : PlanOk ty n keep ops fls ms dis) {i j : Nat} {d e : DI} (h1 : dis[j]? = some e) (h2 : dis[i]? = some d) (he : e.eff = true) (hd : d.eff = true) (hl : e.lo < d.lo) : Nat.testBit (natGet ms i) j = true := by
  have := L.pair j i e d h1 h2
  simp only [pairOk, Bool.and_eq_true, hd, he, cond_true] at this
  have := this.2
  simp only [Bool.or_eq_true] at this
  rcases this with h | h
  · have := ble_t.1 h; omega
  · exact h

theorem PlanOk.lo (L : PlanOk ty n keep ops fls ms dis) {i j : Nat} {d e : DI} (h1 : dis[i]? = some d) (h2 : dis[j]? = some e) (he : e.eff = true) (hd : d.eff = false) (hl : e.lo < d.lo) : Nat.testBit (natGet ms i) j = true := by
  have := L.pair i j d e h1 h2
  simp only [pairOk, Bool.and_eq_true, hd, he, cond_true, cond_false] at this
  have := this.2.1
  simp only [Bool.or_eq_true] at this
  rcases this with h | h
  · have := ble_t.1 h; omega
  · exact h
theorem PlanOk.hi (L : PlanOk ty n keep ops fls ms dis) {i j : Nat} {d e : DI} (h1 : dis[i]? = some d) (h2 : dis[j]? = some e) (he : e.eff = true) (hd : d.eff = false) (hl : d.hi ≤ e.lo) : Nat.testBit (natGet ms j) i = true := by
  have := L.pair i j d e h1 h2
  simp only [pairOk, Bool.and_eq_true, hd, he, cond_true, cond_false] at this
  have := this.2.2
  simp only [Bool.or_eq_true] at this
  rcases this with h | h
  · have := ble_t.1 h; omega
  · exact h
end

end Go.Sx
/-! REGIONS WHOSE ORDER OF EVALUATION IS DRAWN: the law, put together. -/
namespace Go.Sx
open Go.RowKit

section
variable {p : Par} {ty : Nat → Option TI} {n : Nat} {keep : List Nat} {ops : Array Oper} {fls ms : List Nat} {dis : List DI} {base : Nat} {pdF : List (Nat × List AV)} {HS : List Heap} {tmF tm0 : Tm} {E0 : Env} {w0 : Base} {arr0 : Array Value} {ds0 : List Deferred} {cx : Cx}

/-- what the run in the order of the list has shown -/
structure RunOk (ρ : Rho) (cx : Cx) (base : Nat) (pdF : List (Nat × List AV)) (dis : List DI) (HS : List Heap) (tmF tm0 : Tm) : Prop where
  len : HS.length = 1 + effCount dis
  at_ : ∀ (i : Nat) (d : DI), dis[i]? = some d → ∃ V, AtOk ρ cx base dis tm0 tmF HS V pdF i d ∧ (d.fl = none → d.eff = false → ∀ V', V = some V' → ∀ j, d.lo ≤ j → j ≤ d.lo + (d.hi - d.lo) → (stableAtT cx HS V' d j).Holds ρ (fun b => b = true))

theorem stableAt_some {ρ : Rho} {V : Tm × AV} {d : DI} {j : Nat} (h : (stableAtT cx HS V d j).Holds ρ (fun b => b = true)) : ∃ H r, HS[j]? = some H ∧ (runC cx V.1 H d.ci).Holds ρ (fun x => x = r) ∧ ∀ t, d.ci.dst = some t → r.1 = V.2 := by
  unfold stableAtT at h
  rw [listGet_eq] at h
  cases hH : HS[j]? with
  | none => rw [hH] at h; cases h
  | some H =>
    rw [hH] at h
    simp only at h
    rw [T.holds_bind] at h
    obtain ⟨r, hr, h⟩ := T.holds_at _ h
    refine ⟨H, r, rfl, hr, fun t ht => ?_⟩
    rw [ht] at h
    exact eqAV_eq _ _ h

theorem stables_ok {ρ : Rho} {HS : List Heap} : ∀ (l : List DI) (vs : List (Tm × AV)), (stablesT cx HS l vs).Holds ρ (fun b => b = true) → ∀ (i : Nat) (d : DI) (V : Tm × AV), l[i]? = some d → vs[i]? = some V → d.fl = none → d.eff = false → ∀ j, d.lo ≤ j → j ≤ d.lo + (d.hi - d.lo) → (stableAtT cx HS V d j).Holds ρ (fun b => b = true)
  | [], vs, _, i, d, V, h, _, _, _, _, _, _ => by simp at h
  | o :: l, [], h, i, d, V, _, _, _, _, _, _, _ => by
    simp only [stablesT] at h
    cases h
  | o :: l, v :: vs, h, i, d, V, h1, h2, hf, he, j, g1, g2 => by
    simp only [stablesT] at h
    rw [T.holds_bind] at h
    obtain ⟨b, hs, h⟩ := T.holds_at _ h
    cases b with
    | false => cases h
    | true =>
      rw [cond_true] at h
      cases i with
      | zero =>
        simp at h1 h2; subst h1; subst h2
        unfold stableT at hs
        rw [he, hf] at hs
        exact uptoT_ok _ _ hs j g1 g2
      | succ i => simp at h1 h2; exact stables_ok l vs h i d V h1 h2 hf he j g1 g2

theorem num_at (L : PlanOk ty n keep ops fls ms dis) {r : Nat} (h : r < effCount dis) : ∃ (j : Nat) (e : DI), dis[j]? = some e ∧ e.eff = true ∧ e.lo = r := numbered_get dis 0 L.num r (by omega) (by omega)

/-- AN OPERATION THAT IS TAKEN NEXT. -/
theorem draw_step (TT : TyOk p.P ty) (L : PlanOk ty n keep ops fls ms dis) (R : RunOk E0.ρ cx base pdF dis HS tmF tm0) (CX : CxOk p cx) (HT0 : TmOk n keep E0 tm0 arr0) (hbase : E0.n ≤ base) {rd : Option Nat} {Q' : Exit → Act → World → Prop}
    {E : Env} {w : World} {listed : Array Bool} {a : Act} {k : Nat} (I : DInv p dis ms ops.size base pdF HS tmF E0 E w0 w arr0 ds0 listed a k) {i : Nat} (hi : i ∈ Region.ready .any ops listed) {next : Act → World → Prop}
    (hnext : ∀ a' w' E' k', DInv p dis ms ops.size base pdF HS tmF E0 E' w0 w' arr0 ds0 (listed.setIfInBounds i true) a' k' → next a' w') : wpOpIn (fence rd) 0 p.P ops Q' i next a w := by
  rw [mem_ready] at hi
  obtain ⟨hun, o, ho, hedges⟩ := hi
  obtain ⟨hlt, hun⟩ := getD_true hun
  rw [I.sz] at hlt
  have hanc : ∀ j, Nat.testBit (natGet ms i) j = true → listed.getD j false = true := fun j hb => by
    obtain ⟨e, he, hbe, h1⟩ := L.bit i o j ho hb
    have hl := hedges e he hbe
    rcases h1 with rfl | h1
    · exact hl
    · exact I.cl e.on hl j h1
  obtain ⟨d, hd, hc, hplan⟩ := L.here i o ho
  obtain ⟨H, hH, HH⟩ := I.hp
  have hkm : k ≤ effCount dis := by
    have := (List.getElem?_eq_some_iff.1 hH).1
    rw [R.len] at this; omega
  have hsz : n ≤ a.tmps.size := by rw [I.asz]; exact HT0.size
  obtain ⟨V, ⟨tmi, vv, hlater, hval0, hearlier, hrun0⟩, hstab⟩ := R.at_ i d hd
  have HTr : TmOk n keep E (restr tmi d.reads) a.tmps := restr_ok hsz fun t ht v hv => by
    have from0 : (∀ (j : Nat) (d' : DI), dis[j]? = some d' → d'.ci.dst = some t → i ≤ j ∧ listed.getD j false = false) → good E a.tmps t v := fun hno => by
      rw [hearlier t fun j d' hj hd' hdt => by have := (hno j d' hd' hdt).1; omega] at hv
      obtain ⟨u, g1, g2⟩ := (HT0.look hv).mono I.le.tole0
      exact ⟨u, g1, by rw [I.old t fun j d' hd' hdt => (hno j d' hd' hdt).2]; exact g2⟩
    by_cases hw : ∃ (j : Nat) (d' : DI), dis[j]? = some d' ∧ d'.ci.dst = some t
    · obtain ⟨j, d', hj, hdt⟩ := hw
      have uniq : ∀ (j' : Nat) (e : DI), dis[j']? = some e → e.ci.dst = some t → j' = j := fun j' e he hte => by
        rcases Nat.lt_trichotomy j' j with h | h | h
        · exact absurd hdt (L.once j' j e d' t h he hj hte)
        · exact h
        · exact absurd hte (L.once j j' d' e t h hj he hdt)
      rcases L.reads hd hj ht hdt with hb | hb
      · have hji := L.lt i o j ho hb
        rw [← hlater t fun j' e hge he hte => by have := uniq j' e he hte; omega] at hv
        exact I.val j d' t v hj (hanc j hb) hdt hv
      · obtain ⟨oj, hoj, _⟩ := L.back j d' hj
        have hij := L.lt j oj i hoj hb
        refine from0 fun j' e he hte => ?_
        rw [uniq j' e he hte]
        refine ⟨by omega, ?_⟩
        cases hl : listed.getD j false with
        | false => rfl
        | true => rw [I.cl j hl i hb] at hun; cases hun
    · exact from0 fun j d' hj hdt => absurd ⟨j, d', hj, hdt⟩ hw
  obtain ⟨f, g, hf, hg, hdok, hce⟩ := cOper_some hc
  have hdst : d.ci.dst = o.dst := by rw [hce]
  have hsize : ∀ t, d.ci.dst = some t → t < arr0.size := fun t ht => by
    rw [hdst] at ht
    rw [ht] at hdok
    have := ble_t.1 hdok
    have := HT0.size
    omega
  have listedAt : ∀ j, (listed.setIfInBounds i true).getD j false = if i = j then true else listed.getD j false := fun j => by
    rw [getD_set]
    by_cases c : i = j
    · subst c; rw [if_pos ⟨rfl, by rw [I.sz]; exact hlt⟩, if_pos rfl]
    · rw [if_neg (fun h => c h.1), if_neg c]
  rcases hrun0 with ⟨hfl, HL, HL1, rr, pd, hconv, hpd, hrun0, hsame0, hst0, hV⟩ | ⟨fl, pe, hfl, hrunF, hvv, hpe⟩
  · -- an operation in its order, or one without an effect
    have key : ∃ H2 r, HeapOk p E H2 w0 w ∧ (runC cx (restr tmi d.reads) H2 d.ci).Holds E0.ρ (fun x => x = r) ∧ (∀ t, d.ci.dst = some t → tmF.look t = some vv ∧ Same E0.ρ vv r.1) ∧ (d.eff = false → r.2 = H) ∧ (d.eff = true → d.lo = k ∧ HS[k + 1]? = some r.2) := by
      cases he : d.eff with
      | false =>
        have hst := hstab hfl he _ hV
        have hlo : d.lo ≤ k := by
          rcases Nat.lt_or_ge k d.lo with h | h
          · exfalso
            obtain ⟨H1, r', h1, _⟩ := stableAt_some (hst d.lo (Nat.le_refl _) (by omega))
            have := (List.getElem?_eq_some_iff.1 h1).1
            rw [R.len] at this
            obtain ⟨j, e, g1, g2, g3⟩ := num_at L (r := k) (by omega)
            have hl := hanc j (L.lo hd g1 g2 he (by omega))
            have := (I.eff j e g1 g2).1 hl
            omega
          · exact h
        have hhi : k ≤ d.hi := by
          rcases Nat.lt_or_ge d.hi k with h | h
          · exfalso
            obtain ⟨j, e, g1, g2, g3⟩ := num_at L (r := d.hi) (by omega)
            have hl := (I.eff j e g1 g2).2 (by omega)
            have := I.cl j hl i (L.hi hd g1 g2 he (by omega))
            rw [hun] at this; cases this
          · exact h
        obtain ⟨H1, r, h1, h2, h3⟩ := stableAt_some (hst k hlo (by omega))
        rw [hH] at h1; cases h1
        have h2' : (runC cx (restr tmi d.reads) H d.ci).Holds E0.ρ (fun x => x = r) := h2
        exact ⟨H, r, HH, h2', fun t ht => ⟨hval0 t ht, by rw [h3 t ht]; exact hsame0⟩, fun _ => (L.quiet d (List.mem_of_getElem? hd) hfl he).2 _ _ _ _ _ h2', fun h => by cases h⟩
      | true =>
        have hlo : d.lo = k := by
          rcases Nat.lt_trichotomy d.lo k with h | h | h
          · have := (I.eff i d hd he).2 h
            rw [hun] at this; cases this
          · exact h
          · exfalso
            have := numbered_lt dis 0 L.num i d hd he
            obtain ⟨j, e, g1, g2, g3⟩ := num_at L (r := k) (by omega)
            have hl := hanc j (L.effs g1 hd g2 he (by omega))
            have := (I.eff j e g1 g2).1 hl
            omega
        obtain ⟨h5, h6⟩ := hst0 he
        rw [hlo] at h5 h6
        rw [hH] at h5; cases h5
        have HH1 : HeapOk p E HL1 w0 w := by
          refine convR_ok d.due H HL1 (fun j hj cs hcs => ?_) HH hconv
          obtain ⟨i', d', fl', b1, b2, b3, b4⟩ := L.due hd hfl hj
          have := (I.flt i' d' fl' b2 b3).2.1 (hanc i' b1) cs (by rw [b4]; exact hpd j cs hcs)
          rw [b4] at this
          exact this
        exact ⟨HL1, rr, HH1, hrun0, fun t ht => ⟨hval0 t ht, hsame0⟩, (fun h => by cases h), fun _ => ⟨hlo, h6⟩⟩
    obtain ⟨H2, r, HH2, hrun, hlook, hq, hef⟩ := key
    unfold wpOpIn
    rw [ho]
    refine oper_ok TT hc CX HTr HH2 (Q := fun r' => r' = r) (by rw [I.le.ρ]; exact hrun) ?_
    intro v0 h' E' w' cv hqq hle' HH' hcv0
    have e1 : r.1 = v0 := by rw [← hqq]
    have e2 : r.2 = h' := by rw [← hqq]
    rw [e1] at hlook
    rw [e2] at hq hef
    obtain ⟨v, hcv, hlk⟩ : ∃ v, conc E' v = some cv ∧ ∀ t, d.ci.dst = some t → tmF.look t = some v := by
      cases hdd : d.ci.dst with
      | none => exact ⟨v0, hcv0, fun t ht => by cases ht⟩
      | some t =>
        obtain ⟨g1, g2⟩ := hlook t hdd
        exact ⟨vv, by rw [g2 E' (hle'.ρ.trans I.le.ρ)]; exact hcv0, fun t' ht' => by cases ht'; exact g1⟩
    have hdl : ∀ t, d.ci.dst = some t → tmF.look t = some v ∧ t < arr0.size := fun t ht => ⟨hlk t ht, hsize t ht⟩
    have hflt : FltOk dis base pdF E' (listed.setIfInBounds i true) := fun i' d' fl' h1 h2 => by
      obtain ⟨b1, b2, b3⟩ := I.flt i' d' fl' h1 h2
      have hne : i ≠ i' := by
        rintro rfl
        rw [hd] at h1; cases h1
        rw [hfl] at h2; cases h2
      refine ⟨Nat.lt_of_lt_of_le b1 hle'.n, fun hl cs hcs => ?_, fun hl => ?_⟩
      · rw [listedAt, if_neg hne] at hl
        obtain ⟨c, us, g1, g2, g3⟩ := b2 hl cs hcs
        exact ⟨c, us, hle'.σ _ _ g1, concL_mono hle'.tole0 _ _ g2, by rw [hle'.rc _ _ g1]; exact g3⟩
      · rw [listedAt, if_neg hne] at hl
        exact hle'.none _ b1 (b3 hl)
    rw [← hdst]
    cases he : d.eff with
    | false =>
      have := hq he
      subst this
      exact hnext _ _ E' k (I.next L.once hd hlt hanc (I.le.trans hle') hle'.tole0 hflt hH HH' (fun _ _ _ _ _ => Iff.rfl) (fun h => by rw [he] at h; cases h) (fun _ _ => hcv) hdl)
    | true =>
      obtain ⟨hlo, h6⟩ := hef he
      refine hnext _ _ E' (k + 1) (I.next L.once hd hlt hanc (I.le.trans hle') hle'.tole0 hflt h6 HH' (fun j e hj hee hne => ?_) (fun _ => by omega) (fun _ _ => hcv) hdl)
      have : e.lo ≠ k := fun h => hne (numbered_inj dis 0 L.num j i e d hj hd hee he (by omega))
      omega
  · -- an allocation that no order binds
    have heff : d.eff = false := L.floatD d (List.mem_of_getElem? hd) (by rw [hfl]; simp)
    obtain ⟨hord, hmem⟩ := L.ord hd hfl
    obtain ⟨fq, hcf, hflq⟩ : ∃ q, cFl ty o.op = some q ∧ d.fl = some (q.1, q.2, posOf fls i) := by
      rcases hplan with ⟨h1, _⟩ | ⟨q, h1, h2, _⟩
      · rw [hfl] at h1; cases h1
      · exact ⟨q, h1, h2⟩
    have hfl' : fl = (fq.1, fq.2, posOf fls i) := by rw [hfl] at hflq; exact Option.some.inj hflq
    have hnone : E.σ (base + fl.2.2) = none := (I.flt i d fl hd hfl).2.2 hun
    have hothers : ∀ (i' : Nat) (d' : DI) (f' : FIns × FK × Nat), dis[i']? = some d' → d'.fl = some f' → i ≠ i' → base + f'.2.2 ≠ base + fl.2.2 := fun i' d' f' h1 h2 hne e => by
      obtain ⟨a1, a2⟩ := L.ord h1 h2
      exact hne (posOf_inj fls i i' hmem a2 (by rw [← hord, ← a1]; omega))
    unfold wpOpIn
    rw [ho]
    -- is it wanted?
    have hgo : o.guard = none ∧ d.ci.guard = none ∨ ∃ j want dd, o.guard = some (j, want) ∧ d.ci.guard = some (dd, want) ∧ (ops[j]?).bind (·.dst) = some dd := by
      have hgd : d.ci.guard = g := by rw [hce]
      cases hg0 : o.guard with
      | none => rw [hg0] at hg; cases hg; exact .inl ⟨rfl, hgd⟩
      | some q =>
        obtain ⟨j, want⟩ := q
        rw [hg0] at hg
        simp only [cGuard] at hg
        cases hb : (ops.toList[j]?).bind (·.dst) with
        | none => rw [hb] at hg; cases hg
        | some dd =>
          rw [hb] at hg
          cases hg
          exact .inr ⟨j, want, dd, rfl, hgd, by simpa using hb⟩
    have skip : Region.wanted o (yielded ops a.tmps) = false → pe = none → (if Region.wanted o (yielded ops a.tmps) then o.wpIn (fence rd) 0 p.P a w next Q' else (∀ f, o.about p.P w a.eval = some f → (fence rd).fn f) ∧ next (a.put o.dst undef) w) := fun hw hpe0 => by
      rw [hw, if_neg (by simp)]
      refine ⟨fence_all rd _, ?_⟩
      rw [hpe0] at hvv hpe
      have hdl : ∀ t, d.ci.dst = some t → tmF.look t = some undefA ∧ t < arr0.size := fun t ht => ⟨by rw [hval0 t ht, hvv]; rfl, hsize t ht⟩
      have hflt : FltOk dis base pdF E (listed.setIfInBounds i true) := fun i' d' fl' h1 h2 => by
        obtain ⟨b1, b2, b3⟩ := I.flt i' d' fl' h1 h2
        by_cases hne : i = i'
        · subst hne
          rw [hd] at h1; cases h1
          rw [hfl] at h2; cases h2
          exact ⟨b1, (fun _ cs hcs => by rw [hpe] at hcs; cases hcs), fun _ => hnone⟩
        · exact ⟨b1, fun hl => b2 (by rw [listedAt, if_neg hne] at hl; exact hl), fun hl => b3 (by rw [listedAt, if_neg hne] at hl; exact hl)⟩
      rw [← hdst]
      exact hnext _ _ E k (I.next L.once hd hlt hanc I.le (Env.le0.refl E) hflt hH HH (fun _ _ _ _ _ => Iff.rfl) (fun h => by rw [heff] at h; cases h) (fun _ _ => rfl) hdl)
    have lay : Region.wanted o (yielded ops a.tmps) = true → ∀ cs, pe = some cs → fl.1 (restr tmi d.reads) = some cs → (if Region.wanted o (yielded ops a.tmps) then o.wpIn (fence rd) 0 p.P a w next Q' else (∀ f, o.about p.P w a.eval = some f → (fence rd).fn f) ∧ next (a.put o.dst undef) w) := fun hw cs hpe0 hcs => by
      rw [hw, if_pos rfl]
      refine ⟨fence_all rd _, ?_⟩
      rw [Oper.semAt_eq _ _ _ (not_defer hf)]
      rw [hpe0] at hvv hpe
      have hcf' : cFl ty o.op = some (fq.1, fq.2) := hcf
      obtain ⟨us, el, hus, hdoes⟩ := cFl_ok TT hcf' HTr HH (cs := cs) (by rw [hfl'] at hcs; exact hcs)
      refine Does.upon (hdoes _ ?_)
      have hb : base + fl.2.2 < H.next := Nat.lt_of_lt_of_le (I.flt i d fl hd hfl).1 HH.nx
      have hobj : ∀ o', H.get (base + fl.2.2) = some o' → o' = .resv ∨ o' = .dead := fun o' ho' => by
        have hob := HH.obj _ o' ho'
        cases o' with
        | resv => exact .inl rfl
        | cells => obtain ⟨c, b, vs, cl, el, fz, g1, _⟩ := hob; rw [hnone] at g1; cases g1
        | map => obtain ⟨c, ms, g1, _⟩ := hob; rw [hnone] at g1; cases g1
        | rmap => obtain ⟨c, ms, g1, _⟩ := hob; rw [hnone] at g1; cases g1
        | umap => obtain ⟨c, es, ms, k, g1, _⟩ := hob; rw [hnone] at g1; cases g1
        | ucells => obtain ⟨c, base, cells, el, fz, g1, _⟩ := hob; rw [hnone] at g1; cases g1
        | loop => obtain ⟨c, d', n', kp, r, g1, _⟩ := hob; rw [hnone] at g1; cases g1
        | defd => obtain ⟨c, g1, _⟩ := hob; rw [hnone] at g1; cases g1
        | dead => exact .inr rfl
      have HHL := HH.lay hnone hb hobj us.toArray el
      have hle0 : E.le0 (E.lay (base + fl.2.2) w.heap.size us.toArray) := Env.lay_le0 hnone
      have hE0 : E0.le (E.lay (base + fl.2.2) w.heap.size us.toArray) := by
        refine ⟨I.le.tole0.trans hle0, I.le.n, fun b hb0 hn => ?_⟩
        have hne : b ≠ base + fl.2.2 := by
          omega
        rw [(Env.lay_ne E _ _ hne).1]
        exact I.le.none b hb0 hn
      have hcv : conc (E.lay (base + fl.2.2) w.heap.size us.toArray) (flV base fl (some cs)) = some (fq.2.vals w.heap.size) := by
        simp only [flV]
        rw [hfl']
        have := FK.val_conc (k := fq.2) (E := E.lay (base + fl.2.2) w.heap.size us.toArray) (Env.lay_σ E (base + fl.2.2) w.heap.size us.toArray)
        rw [hfl'] at this
        exact this
      have hdl : ∀ t, d.ci.dst = some t → tmF.look t = some (flV base fl (some cs)) ∧ t < arr0.size := fun t ht => ⟨by rw [hval0 t ht, hvv], hsize t ht⟩
      have hflt : FltOk dis base pdF (E.lay (base + fl.2.2) w.heap.size us.toArray) (listed.setIfInBounds i true) := fun i' d' fl' h1 h2 => by
        obtain ⟨b1, b2, b3⟩ := I.flt i' d' fl' h1 h2
        by_cases hne : i = i'
        · subst hne
          rw [hd] at h1; cases h1
          rw [hfl] at h2; cases h2
          refine ⟨b1, fun _ cs' hcs' => ?_, fun hl => by rw [listedAt, if_pos rfl] at hl; cases hl⟩
          rw [hpe] at hcs'; cases hcs'
          exact ⟨w.heap.size, us, Env.lay_σ _ _ _ _, concL_mono hle0 _ _ hus, Env.lay_rc _ _ _ _⟩
        · have hnb := hothers i' d' fl' h1 h2 hne
          refine ⟨b1, fun hl cs' hcs' => ?_, fun hl => ?_⟩
          · obtain ⟨c, vs, g1, g2, g3⟩ := b2 (by rw [listedAt, if_neg hne] at hl; exact hl) cs' hcs'
            exact ⟨c, vs, by rw [(Env.lay_ne E _ _ hnb).1]; exact g1, concL_mono hle0 _ _ g2, by rw [(Env.lay_ne E _ _ hnb).2]; exact g3⟩
          · rw [(Env.lay_ne E _ _ hnb).1]
            exact b3 (by rw [listedAt, if_neg hne] at hl; exact hl)
      rw [← hdst]
      exact hnext _ _ _ k (I.next L.once hd hlt hanc hE0 hle0 hflt hH HHL (fun _ _ _ _ _ => Iff.rfl) (fun h => by rw [heff] at h; cases h) (fun _ _ => hcv) hdl)
    rcases hgo with ⟨g1, g2⟩ | ⟨j, want, dd, g1, g2, g3⟩
    · have hw : Region.wanted o (yielded ops a.tmps) = true := by unfold Region.wanted; rw [g1]
      rw [g2] at hrunF
      unfold runFl at hrunF
      simp only at hrunF
      split at hrunF
      · rename_i cs hcs
        cases hrunF
        exact lay hw cs rfl hcs
      · cases hrunF
    · rw [g2] at hrunF
      unfold runFl at hrunF
      simp only at hrunF
      split at hrunF
      · rename_i c hcb
        have hw : Region.wanted o (yielded ops a.tmps) = c.den E.ρ := by
          unfold Region.wanted
          rw [g1]
          exact guardOf_some HTr (by simpa using g3) hcb
        split at hrunF
        · rename_i b
          cases b with
          | true =>
            simp only [cond_true] at hrunF
            split at hrunF
            · rename_i cs hcs
              cases hrunF
              exact lay (by rw [hw]; rfl) cs rfl hcs
            · cases hrunF
          | false =>
            simp only [cond_false] at hrunF
            cases hrunF
            exact skip (by rw [hw]; rfl) rfl
        · cases hrunF
      · cases hrunF

theorem all_listed (L : PlanOk ty n keep ops fls ms dis) {listed : Array Bool} (hsz : listed.size = ops.size) (hr : Region.ready .any ops listed = []) : ∀ j, j < ops.size → listed.getD j false = true := by
  intro j
  induction j using Nat.strongRecOn with
  | _ j ih =>
    intro hj
    cases hb : listed.getD j false with
    | true => rfl
    | false =>
      exfalso
      have ho : ops[j]? = some ops[j]! := by simp [hj]
      have : j ∈ Region.ready .any ops listed := by
        rw [mem_ready]
        refine ⟨getD_false (by omega) hb, _, ho, fun e he hbe => ?_⟩
        have := L.edge j _ ho e he hbe
        exact ih e.on this (by omega)
      rw [hr] at this
      cases this

theorem draw_any (TT : TyOk p.P ty) (L : PlanOk ty n keep ops fls ms dis) (R : RunOk E0.ρ cx base pdF dis HS tmF tm0) (CX : CxOk p cx) (HT0 : TmOk n keep E0 tm0 arr0) (hbase : E0.n ≤ base) {rd : Option Nat} {Q' : Exit → Act → World → Prop}
    (hfin : ∀ listed a w E k, DInv p dis ms ops.size base pdF HS tmF E0 E w0 w arr0 ds0 listed a k → (∀ j, j < ops.size → listed.getD j false = true) → Q' .normal a w) :
    ∀ (fuel : Nat) (listed : Array Bool) (a : Act) (w : World) (E : Env) (k : Nat), DInv p dis ms ops.size base pdF HS tmF E0 E w0 w arr0 ds0 listed a k → listed.toList.countP (fun b => !b) ≤ fuel → wpAnyIn (fence rd) 0 p.P .any ops Q' fuel listed a w
  | 0, listed, a, w, E, k, I, hc => by
    have hall : ∀ j, j < ops.size → listed.getD j false = true := fun j hj => by
      have h0 : listed.toList.countP (fun b => !b) = 0 := by omega
      rw [List.countP_eq_zero] at h0
      have hj' : j < listed.size := by rw [I.sz]; exact hj
      have := h0 listed[j] (by simp)
      simp only [Array.getD_eq_getD_getElem?]
      simp [hj'] at *
      exact this
    refine ⟨?_, hfin listed a w E k I hall⟩
    rw [List.eq_nil_iff_forall_not_mem]
    intro i hi
    rw [mem_ready] at hi
    obtain ⟨h1, h2⟩ := getD_true hi.1
    rw [hall i (by rw [← I.sz]; exact h1)] at h2
    cases h2
  | fuel + 1, listed, a, w, E, k, I, hc => by
    refine ⟨fun hr => hfin listed a w E k I (all_listed L I.sz hr), fun i hi => ?_⟩
    refine draw_step TT L R CX HT0 hbase I hi fun a' w' E' k' I' => ?_
    refine draw_any TT L R CX HT0 hbase hfin fuel _ a' w' E' k' I' ?_
    rw [mem_ready] at hi
    obtain ⟨h1, h2⟩ := getD_true hi.1
    rw [Array.toList_setIfInBounds, List.countP_set (by simpa using h1)]
    have h3 : listed.toList[i]'(by simpa using h1) = false := by
      simp only [Array.getD_eq_getD_getElem?] at h2
      simp [h1] at h2 ⊢; exact h2
    rw [h3]
    have hpos : 0 < listed.toList.countP (fun b => !b) := by
      rw [List.countP_pos_iff]
      exact ⟨false, by rw [← h3]; exact List.getElem_mem _, rfl⟩
    simp only [Bool.not_false, Bool.not_true, if_true, Bool.false_eq_true, if_false]
    omega
end

theorem upN_mem : ∀ (m k j : Nat), k ≤ j → j < k + m → j ∈ upN m k
  | 0, k, j, h1, h2 => by omega
  | m + 1, k, j, h1, h2 => by
    by_cases c : j = k
    · subst c; exact List.mem_cons_self
    · exact List.mem_cons_of_mem _ (upN_mem m (k + 1) j (by omega) (by omega))

theorem posOf_lt : ∀ (l : List Nat) (i : Nat), memB l i = true → posOf l i < l.length
  | [], i, h => by simp [memB] at h
  | a :: l, i, h => by
    simp only [posOf]
    by_cases c : a = i
    · rw [beq_t.2 c, cond_true]; simp
    · rw [beq_f.2 c, cond_false]
      have hi : memB l i = true := by
        simp only [memB, List.any_cons, Bool.or_eq_true] at h
        rcases h with h | h
        · exact absurd (beq_t.1 h).symm c
        · exact h
      have := posOf_lt l i hi
      simp only [List.length_cons]; omega

/-- A REGION WHOSE ORDER IS DRAWN. -/
theorem draw_ok {p : Par} {ty : Nat → Option TI} (TT : TyOk p.P ty) (hm : p.P.follows .mixedOrders = true) {n : Nat} {keep : List Nat} {id : Nat} {ops : Array Oper} {f : C} (hc : cDraw ty n keep ops.toList = some f) :
    COk p n keep f (.region id ops true) := by
  unfold cDraw at hc
  split at hc
  · rename_i cs hcs
    generalize floatsOf ops.toList (masks [] ops.toList) (effsOf ops.toList ops.toList.length) = fls at hc
    generalize effsOf ops.toList ops.toList.length = effs at hc
    unfold cPlanWith at hc
    split at hc
    · rename_i dis hpl
      cases hok : drawOk ops.toList (masks [] ops.toList) dis with
      | false => rw [hok] at hc; cases hc
      | true =>
        rw [hok, cond_true, Option.some.injEq] at hc
        subst hc
        have L := planOk_of hcs hpl hok
        intro cx CX wh rd E0 w0 w s a Q Q' hrd S k P
        have k' : ((runD cx s.h.next dis s.tm (resvN fls.length s.h) [] [] []).bind fun r => (stablesT cx (lRev r.2.1) dis (lRev r.2.2.1)).bind fun b => cond b (endD s.h.next fls.length s.df r) (.fail 92)).Holds E0.ρ Q := k
        rw [T.holds_bind] at k'
        obtain ⟨⟨tmF, hsF, vsF, pdF⟩, hrun, k'⟩ := runD_runs _ _ _ _ _ _ k'
        simp only at k'
        rw [T.holds_bind] at k'
        obtain ⟨b, hst, k'⟩ := T.holds_at _ k'
        cases b with
        | false => simp only [cond_false] at k'; exact k'.elim
        | true =>
          simp only [cond_true] at k'
          rw [lRev_eq, lRev_eq] at hst
          obtain ⟨hA, hB, hC, hV, hP, hD⟩ := runD_ok dis s.tm _ [] [] [] tmF hsF vsF pdF hrun L.num L.quiet L.floatD L.once L.onceF (fun _ _ _ _ => rfl)
          have R : RunOk E0.ρ cx s.h.next pdF dis hsF.reverse tmF s.tm := by
            refine ⟨by simp [hB], fun i d hd => ⟨_, hD i d hd, fun hfl he V' hV' => ?_⟩⟩
            exact stables_ok dis vsF.reverse hst i d V' hd (by simpa using hV') hfl he
          cases hsF with
          | nil => exact k'.elim
          | cons hl tl =>
            have k2 : (match conv s.h.next pdF (upN fls.length 0) hl with
              | some h2 => T.ret (Ex.norm, (⟨tmF.shut, s.df, h2⟩ : St))
              | none => .fail 95).Holds E0.ρ Q := k'
            split at k2
            · rename_i h2 hconv
              have q : Q (.norm, ⟨tmF.shut, s.df, h2⟩) := k2
              have hlast : (hl :: tl).reverse[effCount dis]? = some hl := by
                have : tl.length = effCount dis := by simp at hB; omega
                rw [List.reverse_cons, ← this, List.getElem?_append_right (by simp)]
                simp
              refine wpIn_region_any hm ?_
              have keepd : ∀ d ∈ dis, d.ci.keep = memN keep d.ci.dst := fun d hd => by
                obtain ⟨i, hi⟩ := List.getElem?_of_mem hd
                obtain ⟨o, _, hc, _⟩ := L.back i d hi
                obtain ⟨f, g, _, _, _, hce⟩ := cOper_some hc
                rw [hce]
              refine draw_any (p := p) (E0 := E0) (w0 := w0) (arr0 := a.tmps) (ds0 := a.defers) TT L R CX S.tm S.hp.nx (fun listed a' w' E k I hall => ?_) ops.size _ a _ (E0.atN (s.h.next + fls.length)) 0 ?_ ?_
              · obtain ⟨H, hH, HH⟩ := I.hp
                have hk : k = effCount dis := by
                  have h1 := (List.getElem?_eq_some_iff.1 hH).1
                  rw [R.len] at h1
                  rcases Nat.lt_or_ge k (effCount dis) with h | h
                  · exfalso
                    obtain ⟨j, e, g1, g2, g3⟩ := num_at L h
                    obtain ⟨o, ho, _⟩ := L.back j e g1
                    have := (I.eff j e g1 g2).1 (hall j (Array.getElem?_eq_some_iff.1 ho).1)
                    omega
                  · omega
                rw [hk, hlast] at hH
                cases hH
                have HH2 : HeapOk p E h2 w0 w' := by
                  refine convR_ok _ hl h2 (fun j _ cs hcs => ?_) HH hconv
                  rcases runD_pend dis s.tm _ [] [] [] _ hrun j cs hcs with h | ⟨d, hd, f, hf, hj⟩
                  · cases h
                  · obtain ⟨i, hi⟩ := List.getElem?_of_mem hd
                    obtain ⟨o, ho, _⟩ := L.back i d hi
                    have := (I.flt i d f hi hf).2.1 (hall i (Array.getElem?_eq_some_iff.1 ho).1) cs (by rw [hj]; exact hcs)
                    rw [hj] at this
                    exact this
                have X : TmX n keep E s.tm a'.tmps (fun t => ∃ d ∈ dis, d.ci.dst = some t) := by
                  have tr : ∀ i b, good E0 a.tmps i b → (¬ ∃ d ∈ dis, d.ci.dst = some i) → good E a'.tmps i b := fun i b g hno => by
                    obtain ⟨u, g1, g2⟩ := g.mono I.le.tole0
                    exact ⟨u, g1, by rw [I.old i fun j d h1 h2 => absurd ⟨d, List.mem_of_getElem? h1, h2⟩ hno]; exact g2⟩
                  exact ⟨by rw [I.asz]; exact S.tm.size, fun i b e hno => tr i b (S.tm.loc i b e) hno, fun i b e => ⟨(S.tm.tree.at_ i b e).1, fun hno => tr i b (S.tm.tree.at_ i b e).2 hno⟩⟩
                have HT := runD_tm (E := E) (arr := a'.tmps) (n := n) (keep := keep) dis s.tm _ [] [] [] _ hrun L.once keepd (fun d hd t v h1 h2 => by
                  obtain ⟨i, hi⟩ := List.getElem?_of_mem hd
                  obtain ⟨o, ho, _⟩ := L.back i d hi
                  exact I.val i d t v hi (hall i (Array.getElem?_eq_some_iff.1 ho).1) h1 h2) X
                exact P .norm _ E w' a' q I.le ⟨HT.shut, by rw [I.adf]; exact DfOk.mono I.le.tole0 _ _ S.df, HH2⟩
              · have hf : ∀ i, (Array.replicate ops.size false).getD i false = false := fun i => by
                  simp only [Array.getD_eq_getD_getElem?, Array.getElem?_replicate]
                  split <;> rfl
                have HR := S.hp.resvN fls.length
                refine ⟨Env.atN_le E0 (by have := S.hp.nx; omega), ⟨_, hA 0 _ rfl, HR.world ⟨rfl, rfl, rfl, Nat.le_refl _, fun _ _ => rfl⟩⟩, by simp, fun i h => ?_, fun i d h1 h2 => ?_, fun i d t v h1 h2 => ?_, fun _ _ => rfl, rfl, rfl, fun i d fl h1 h2 => ⟨?_, fun h => ?_, fun _ => ?_⟩⟩
                · rw [hf] at h; cases h
                · rw [hf]; simp
                · rw [hf] at h2; cases h2
                · obtain ⟨a1, a2⟩ := L.ord h1 h2
                  have := posOf_lt fls i a2
                  show s.h.next + fl.2.2 < s.h.next + fls.length
                  omega
                · rw [hf] at h; cases h
                · exact S.hp.fresh _ (Nat.le_add_right _ _)
              · have := List.countP_le_length (p := fun b => !b) (l := (Array.replicate ops.size false).toList)
                simpa using this
            · exact k2.elim
    · cases hc
  · cases hc

end Go.Sx
/-! CODE, BUT FOR REGIONS WHOSE ORDER IS DRAWN. -/
namespace Go.Sx
open Go.RowKit

theorem skip_ok {p : Par} {n : Nat} {keep : List Nat} : COk p n keep cSkip .skip := by
  intro cx CX wh rd E w0 w s a Q Q' hrd S k P
  exact wpIn_skip (P .norm s E w a k (Env.le.refl E) S)
theorem label_ok {p : Par} {n : Nat} {keep : List Nat} {l : Nat} : COk p n keep cSkip (.label l) := by
  intro cx CX wh rd E w0 w s a Q Q' hrd S k P
  exact wpIn_label (P .norm s E w a k (Env.le.refl E) S)
theorem exit_ok {p : Par} {n : Nat} {keep : List Nat} {id : Nat} : COk p n keep (cExit id) (.exit id) := by
  intro cx CX wh rd E w0 w s a Q Q' hrd S k P
  exact wpIn_exit (P (.exit id) s E w a k (Env.le.refl E) S)
theorem ret_ok {p : Par} {n : Nat} {keep : List Nat} : COk p n keep cRet .ret := by
  intro cx CX wh rd E w0 w s a Q Q' hrd S k P
  exact wpIn_ret (P .ret s E w a k (Env.le.refl E) S)

theorem CPost.le {p : Par} {n : Nat} {keep : List Nat} {E E1 : Env} {w0 : Base} {Q : Ex × St → Prop} {Q' : Exit → Act → World → Prop} (P : CPost p n keep E w0 Q Q') (le : E.le E1) : CPost p n keep E1 w0 Q Q' :=
  fun x s' E' w' a' q hle S => P x s' E' w' a' q (le.trans hle) S

theorem seq_ok {p : Par} {n : Nat} {keep : List Nat} {f g : C} {c d : Code} (hf : COk p n keep f c) (hg : COk p n keep g d) : COk p n keep (cSeq f g) (.seq c d) := by
  intro cx CX wh rd E w0 w s a Q Q' hrd S k P
  have k' : ((f cx wh s).bind (afterSeq (g cx wh))).Holds E.ρ Q := k
  rw [T.holds_bind] at k'
  refine wpIn_seq (hf cx CX wh rd E w0 w s a _ _ hrd S k' ?_)
  intro x s1 E1 w1 a1 q1 hle S1
  cases x with
  | norm =>
    have q1' : (g cx wh s1).Holds E1.ρ Q := by rw [hle.ρ]; exact q1
    exact hg cx CX wh rd E1 w0 w1 s1 a1 Q Q' (hrd.mono hle) S1 q1' (P.le hle)
  | exit id => exact P (.exit id) s1 E1 w1 a1 q1 hle S1
  | ret => exact P .ret s1 E1 w1 a1 q1 hle S1

theorem cond_ok {p : Par} {n : Nat} {keep : List Nat} {x : Operand} {y : Opd} (hx : cOpd x = some y) {f g : C} {c d : Code} (hf : COk p n keep f c) (hg : COk p n keep g d) : COk p n keep (cCond y f g) (.cond x c d) := by
  intro cx CX wh rd E w0 w s a Q Q' hrd S k P
  have k' : (condA (ev s.tm y) (f cx wh s) (g cx wh s)).Holds E.ρ Q := k
  cases hv : ev s.tm y with
  | bool b =>
    rw [hv] at k'
    have k2 : (T.ite b (f cx wh s) (g cx wh s)).Holds E.ρ Q := k'
    rw [T.holds_ite] at k2
    have he : a.eval x = .bool (b.den E.ρ) := opd_ok S.tm hx (v := .bool (b.den E.ρ)) (by rw [hv]; rfl) S.hp.glob
    refine wpIn_cond he ?_
    cases hb : b.den E.ρ with
    | true => rw [hb] at k2; exact hf cx CX wh rd E w0 w s a Q Q' hrd S k2 P
    | false => rw [hb] at k2; exact hg cx CX wh rd E w0 w s a Q Q' hrd S k2 P
  | _ => rw [hv] at k'; exact k'.elim

theorem block_ok {p : Par} {n : Nat} {keep : List Nat} {id : Nat} {f : C} {c : Code} (hf : COk p n keep f c) : COk p n keep (cBlock id f) (.block id c) := by
  intro cx CX wh rd E w0 w s a Q Q' hrd S k P
  have k' : ((f cx wh s).bind (afterBlock id)).Holds E.ρ Q := k
  rw [T.holds_bind] at k'
  refine wpIn_block (hf cx CX wh rd E w0 w s a _ _ hrd S k' ?_)
  intro x s1 E1 w1 a1 q1 hle S1
  cases x with
  | norm => exact P .norm s1 E1 w1 a1 q1 hle S1
  | exit id' =>
    have q2 : (cond (Nat.beq id' id) (T.ret (Ex.norm, s1)) (T.ret (Ex.exit id', s1))).Holds E.ρ Q := q1
    show (if id' = id then _ else _)
    by_cases hi : id' = id
    · rw [beq_t.2 hi] at q2
      rw [if_pos hi]
      exact P .norm s1 E1 w1 a1 q2 hle S1
    · rw [beq_f.2 hi] at q2
      rw [if_neg hi]
      exact P (.exit id') s1 E1 w1 a1 q2 hle S1
  | ret => exact P .ret s1 E1 w1 a1 q1 hle S1

section
variable {F : Fence} {m : Nat} {P : Program} {Q : Exit → Act → World → Prop} {a : Act} {w : World} {b : Frame} {k : List Item} {cs : List Frame}
theorem stepR_scope {c : Code} : step P (lone (b.atR a (.code (.scope c) :: k)) cs w) = .next (lone (b.atR a (.code c :: .inScope c :: k)) cs w) :=
  step_lone_go (by simp [stepG, stepG.exec, Frame.atR])
theorem stepR_inScope {c : Code} : step P (lone (b.atR a (.inScope c :: k)) cs w) = .next (lone (b.atR a k) cs w) :=
  step_lone_go (by simp [stepG, stepG.exec, Frame.atR])

theorem wpIn_scope {c : Code} (h : c.wpIn F m P (Exit.noGoto Q) a w) : (Code.scope c).wpIn F m P Q a w := by
  intro b k cs hro hb hr
  have h0 : (lone (b.atR a (.code (.scope c) :: k)) cs w).fenced P F := fenced_calm hb hr rfl
  obtain ⟨e, a₁, w₁, hq, harr⟩ := h b (.inScope c :: k) cs hro hb hr
  cases e with
  | normal => exact ⟨.normal, a₁, w₁, hq, .head h0 stepR_scope (StepsIn.trans harr (.one (fenced_calm hb hr rfl) stepR_inScope))⟩
  | exit id =>
    have hx : exitTo id (.inScope c :: k) = exitTo id k := by simp [exitTo]
    exact ⟨.exit id, a₁, w₁, hq, fun k' hk => .head h0 stepR_scope (harr.1 k' (by rw [hx]; exact hk)),
      fun hr' hk => let ⟨k₁, h1, h2⟩ := harr.2 hr' (by rw [hx]; exact hk); ⟨k₁, h1, .head h0 stepR_scope h2⟩⟩
  | goto l => exact hq.elim
  | ret => exact ⟨_, a₁, w₁, hq, .of_steps (.one h0 stepR_scope) harr⟩
  | panic ch => exact ⟨_, a₁, w₁, hq, .of_steps (.one h0 stepR_scope) harr⟩
  | outgrown => exact ⟨_, a₁, w₁, hq, .of_steps (.one h0 stepR_scope) harr⟩
end

theorem scope_ok {p : Par} {n : Nat} {keep : List Nat} {f : C} {c : Code} (hf : COk p n keep f c) : COk p n keep f (.scope c) := by
  intro cx CX wh rd E w0 w s a Q Q' hrd S k P
  refine wpIn_scope (hf cx CX wh rd E w0 w s a Q _ hrd S k ?_)
  intro x s' E' w' a' q hle S'
  have := P x s' E' w' a' q hle S'
  cases x <;> exact this

theorem loopN_succ (body : St → T (Ex × St)) (n : Nat) (s : St) : loopN body (n + 1) s = (body s).bind fun r => match r.1 with
      | .norm => loopN body n r.2
      | x => .ret (x, r.2) := rfl

theorem loop_ok {p : Par} {n : Nat} {keep : List Nat} {f : C} {c : Code} (hf : COk p n keep f c) : COk p n keep (cLoop f) (.loop c) := by
  intro cx CX wh rd E w0 w s a Q Q' hrd S k P
  have k' : (loopN (f cx wh) cx.loops s).Holds E.ρ Q := k
  refine wpIn_loop_rounds cx.loops ?_
  clear k
  generalize cx.loops = m at k'
  induction m generalizing E w s a with
  | zero => exact k'.elim
  | succ m ih =>
    rw [loopN_succ, T.holds_bind] at k'
    rw [roundsIn_succ]
    refine hf cx CX wh rd E w0 w s a _ _ hrd S k' ?_
    intro x s1 E1 w1 a1 q1 hle S1
    cases x with
    | norm =>
      have q2 : (loopN (f cx wh) m s1).Holds E1.ρ Q := by rw [hle.ρ]; exact q1
      exact ih E1 w1 s1 a1 (hrd.mono hle) S1 (P.le hle) q2
    | exit id => exact P (.exit id) s1 E1 w1 a1 q1 hle S1
    | ret => exact P .ret s1 E1 w1 a1 q1 hle S1

/-! ## A range over a function -/
theorem HeapOk.loopTurn {p : Par} {E : Env} {h : Heap} {w0 : Base} {w : World} (H : HeapOk p E h w0 w) {b : Nat} {st : LoopState} {pend : Ex} {fn : FuncId} {tm : PT AV} {ps : List Nat} {code d : Nat} (hg : h.get b = some (.loop st pend fn tm ps code d)) :
    ∃ c d' n keep r, E.σ b = some (c, 0) ∧ E.σ d = some (d', 0) ∧ w.heap[c]? = some (.loop r) ∧ r.state = st ∧ r.pending = jumpOf pend ∧ n ≤ r.tmps.size ∧ TreeOk keep E tm r.tmps ∧ r.params.toList = ps ∧ (p.RC code n keep r.assign r.body ∧ psOk n keep ps = true) ∧ r.defers = d' ∧
      ∀ st' pend', HeapOk p E (h.put b (.loop st' pend' fn tm ps code d)) w0 (w.putObj c (.loop { r with state := st', pending := jumpOf pend' })) := by
  obtain ⟨c, d', n, keep, r, h1, h2, h3, h4, h5, hn, h6, h7, h8, h9⟩ := H.obj b _ hg
  refine ⟨c, d', n, keep, r, h1, h2, h3, h4, h5, hn, h6, h7, h8, h9, fun st' pend' => ?_⟩
  have hlt := H.lt b _ c 0 hg h1
  refine H.turn hg rfl h1 rfl ⟨c, d', n, keep, { r with state := st', pending := jumpOf pend' }, h1, h2, World.putObj_heap_same hlt, rfl, rfl, hn, h6, h7, h8, h9⟩ (fun i hi => World.putObj_heap_other hi) rfl rfl rfl (by simp)

theorem CallsIn.toFence {P : Program} {f : FuncId} {args : Array Value} {w : World} {R : Ending → World → Prop} (rd : Option Nat) (h : Calls P f args w R) : CallsIn (fence rd) 0 P f args w R := by
  cases rd with
  | none => exact callsIn_wide.2 h
  | some l => exact CallsIn.inRound l (callsIn_wide.2 h)

/-- THE STATEMENT, once the record is laid. -/
theorem range_go {p : Par} {n : Nat} {keep : List Nat} {cx : Cx} (CX : CxOk p cx) {g : Operand} {ps : Array Tmp} {assign body : Code} {code : Nat} (hRC : p.RC code n keep assign body ∧ psOk n keep ps.toList = true)
    {wh : Wh} {rd : Option Nat} {E : Env} {w0 : Base} {w : World} {tm : Tm} {df : List Nat} {h : Heap} {a : Act} {Q : Ex × St → Prop} {Q' : Exit → Act → World → Prop} {d d' : Nat} {fv : AV}
    {mark : List Deferred} (hfv : conc E fv = some (a.eval g))
    (HT : TmOk n keep E tm a.tmps) (HD : DfOk E df (mark ++ a.defers)) (HH : HeapOk p E h w0 w) (hd : E.σ d = some (d', 0))
    (k : (rangeGo cx wh fv ps.toList code tm d df h).Holds E.ρ Q) (P : CPost p n keep E w0 Q Q') {w₀ : World}
    (he : ∀ fn, (Instr.enterLoop fn a.tmps ps assign body (fence rd).round).run p.P w₀ = .ok (w.heap.size, mark) (w.alloc (.loop { state := .ready, pending := none, fn, tmps := a.tmps, params := ps, assign, body, defers := d' }))) :
    (Code.rangeFunc g ps assign body).wpIn (fence rd) 0 p.P Q' a w₀ := by
  refine wpIn_rangeFunc fun fn hfn => ?_
  unfold rangeGo at k
  rw [T.holds_bind] at k
  unfold callF at k
  split at k
  · rename_i fnv first captured
    split at k
    · rename_i fid
      obtain ⟨l1, l2, e1, e2, hv⟩ := func_conc' hfv
      let r0 : Loop := { state := .ready, pending := none, fn, tmps := a.tmps, params := ps, assign, body, defers := d' }
      have hf : E.σ h.next = none := HH.fresh _ (Nat.le_refl _)
      have hle := Env.with_le hf HH.nx (w.heap.size, 0) 0
      have HH1 : HeapOk p (E.with h.next (w.heap.size, 0) 0) (h.new (.loop .ready .norm wh.fn tm.tree ps.toList code d)) w0 (w.alloc (.loop r0)) := by
        refine HH.alloc rfl ⟨w.heap.size, d', n, keep, r0, Env.with_at _ _ _ _, hle.σ _ _ hd, by simp, rfl, rfl, HT.size, HT.tree.mono hle, rfl, hRC, rfl⟩
      have hargs : concL (E.with h.next (w.heap.size, 0) 0) (first ++ ([.yieldF h.next] ++ captured)) = some (l1 ++ ([Value.func (.yield w.heap.size) #[] #[]] ++ l2)) := by
        refine concL_app (concL_mono hle _ _ e1) (concL_app ?_ (concL_mono hle _ _ e2))
        exact concL_cons.2 ⟨_, [], by simp [conc, Env.with_at], rfl, rfl⟩
      rw [lApp_eq, lApp_eq] at k
      have key := CX.call fid _ _ _ (E.with h.next (w.heap.size, 0) 0) w0 (w.alloc (.loop r0)) _ (fun v w' => rangePost (fence rd) 0 p.P w.heap.size Q' { a with defers := mark ++ a.defers } (.returned v) w') k HH1 hargs ?_
      · obtain ⟨hc1, hc2⟩ := key
        refine ⟨w.heap.size, mark, w.alloc (.loop r0), { target := .fn (.func fid) l2.toArray, args := l1.toArray ++ #[Value.func (.yield w.heap.size) #[] #[]] }, w.alloc (.loop r0), fid, (l1 ++ ([Value.func (.yield w.heap.size) #[] #[]] ++ l2)).toArray, w.alloc (.loop r0), he fn, ?_, fun f' _ => fence_fn rd f', ?_, fun hdp => (by rw [fence_depth] at hdp; cases hdp), ?_⟩
        · show (Deferred.ofValue (a.eval g) _).run p.P _ = _
          rw [hv]
          have : (rangeCall g w.heap.size).args.map a.eval = #[Value.func (.yield w.heap.size) #[] #[]] := by simp [Act.eval]
          rw [this]
          rfl
        · show (callFunc fid ((l1.toArray ++ #[Value.func (.yield w.heap.size) #[] #[]]) ++ l2.toArray)).run p.P _ = _
          rw [show (l1.toArray ++ #[Value.func (.yield w.heap.size) #[] #[]]) ++ l2.toArray = (l1 ++ ([Value.func (.yield w.heap.size) #[] #[]] ++ l2)).toArray from by apply Array.ext'; simp]
          exact hc1
        · refine CallsIn.mono (CallsIn.toFence rd hc2) ?_
          rintro e w' ⟨v, rfl, hv⟩
          exact hv
      · intro v h' E' w' cv q hle' HH' hcv
        unfold endRange at q
        split at q
        · rename_i st pend f' tm' ps' c' d2 hg
          obtain ⟨c, d3, n', keep', r, g1, g2, g3, g4, g5, g6, g7, g8, g9, g10, ht⟩ := HH'.loopTurn hg
          have hc : c = w.heap.size := by
            have := hle'.σ _ _ (Env.with_at E h.next (w.heap.size, 0) 0)
            rw [this] at g1; cases g1; rfl
          subst hc
          have hst : r.state ≠ .busy := by
            rw [g4]; rintro rfl; exact q.elim
          have q2 : Q (pend, ⟨tm, df, h'.put h.next (.loop .exhausted pend f' tm' ps' c' d2)⟩) := by
            cases st <;> first | exact q.elim | exact q
          have HH2 := ht .exhausted pend
          have hre : (w'.putObj w.heap.size (.loop { r with state := .exhausted, pending := jumpOf pend })) = w'.putObj w.heap.size (.loop { r with state := .exhausted }) := by rw [← g5]
          rw [hre] at HH2
          have hres := P pend _ E' _ { a with defers := mark ++ a.defers } q2 (hle.trans hle') ⟨(HT.mono hle.tole0).mono hle'.tole0, DfOk.mono hle'.tole0 _ _ (DfOk.mono hle.tole0 _ _ HD), HH2⟩
          refine ⟨r.pending, _, run_endLoop g3 hst, ?_⟩
          revert hres
          generalize w'.putObj w.heap.size (.loop { r with state := .exhausted }) = W
          intro hres
          rw [g5]
          cases pend with
          | norm => exact hres
          | exit id => exact wpIn_exit hres
          | ret => exact wpIn_ret hres
        · exact q.elim
    · exact k.elim
  · exact k.elim

theorem range_ok {p : Par} {n : Nat} {keep : List Nat} {g : Operand} {y : Opd} (hy : cOpd g = some y) {ps : Array Tmp} {assign body : Code} {code : Nat} (hRC : p.RC code n keep assign body ∧ psOk n keep ps.toList = true) :
    COk p n keep (cRange y ps.toList code) (.rangeFunc g ps assign body) := by
  intro cx CX wh rd E w0 w s a Q Q' hrd S k P
  have k' : (rangeF cx wh (ev s.tm y) ps.toList code s).Holds E.ρ Q := k
  unfold rangeF at k'
  have fvok : ∀ {E1 : Env} {d : Nat} {df : List Nat} {h : Heap}, (rangeGo cx wh (ev s.tm y) ps.toList code s.tm d df h).Holds E1.ρ Q → conc E (ev s.tm y) = some (a.eval g) := fun {E1 d df h} kk => by
    refine opd_some S.tm hy ?_ S.hp.glob
    cases hb : ev s.tm y with
    | bad => rw [hb] at kk; exact kk.elim
    | _ => rfl
  split at k'
  · rename_i hr
    cases rd with
    | some l => rw [hr] at hrd; exact hrd.elim
    | none =>
      have hv := fvok (E1 := E) k'
      have hf : E.σ s.h.next = none := S.hp.fresh _ (Nat.le_refl _)
      have hle := Env.with_le hf S.hp.nx (w.heap.size, 0) 0
      have HH1 : HeapOk p (E.with s.h.next (w.heap.size, 0) 0) (s.h.new (.defd true)) w0 (w.alloc (.deferred (some []))) :=
        S.hp.alloc rfl ⟨w.heap.size, Env.with_at _ _ _ _, by simp⟩
      have hdf : DfOk (E.with s.h.next (w.heap.size, 0) 0) (s.h.next :: s.df) (({ target := .collected w.heap.size, args := #[] } : Deferred) :: a.defers) := by
        refine And.intro ⟨w.heap.size, Env.with_at _ _ _ _, rfl⟩ (DfOk.mono hle.tole0 _ _ S.df)
      refine range_go CX hRC (E := E.with s.h.next (w.heap.size, 0) 0) (mark := [{ target := .collected w.heap.size, args := #[] }]) (d' := w.heap.size) (conc_mono hle _ _ hv) (S.tm.mono hle) hdf HH1 (Env.with_at _ _ _ _) k' (P.le hle) (rd := none) (fun fn => ?_)
      have := run_enterLoop_outer (P := p.P) (w := w) fn a.tmps ps assign body
      simp only [World.size_alloc]
      exact this
  · rename_i l hr
    split at k'
    · rename_i st pend f' tm' ps' c' d hg
      cases rd with
      | none => rw [hr] at hrd; exact hrd.elim
      | some l' =>
        rw [hr] at hrd
        have hv := fvok (E1 := E) k'
        obtain ⟨c, d3, n', keep', r, g1, g2, g3, g4, g5, g6, g7, g8, g9, g10, ht⟩ := S.hp.loopTurn hg
        have : c = l' := by
          have h1 : E.σ l = some (l', 0) := hrd
          rw [h1] at g1; cases g1; rfl
        subst this
        refine range_go CX hRC (E := E) (mark := []) (d' := d3) hv S.tm S.df S.hp g2 k' P (rd := some c) (fun fn => ?_)
        have := run_enterLoop_inner (P := p.P) g3 fn a.tmps ps assign body
        rw [g10] at this
        exact this
    · exact k'.elim

end Go.Sx
/-! CALLS AND ROUNDS. -/
namespace Go.Sx
open Go.RowKit

/-! ## Code, whole -/
def Rng (p : Par) (n : Nat) (keep : List Nat) (fid : FuncId) : Code → Prop
  | .seq a b => Rng p n keep fid a ∧ Rng p n keep fid b
  | .cond _ a b => Rng p n keep fid a ∧ Rng p n keep fid b
  | .block _ a => Rng p n keep fid a
  | .loop a => Rng p n keep fid a
  | .scope a => Rng p n keep fid a
  | .rangeFunc _ ps a b => ∀ id, rangeId fid ps.toList = some id → p.RC id n keep a b
  | _ => True

theorem cCode_ok {p : Par} {ty : Nat → Option TI} (TT : TyOk p.P ty) (hm : p.P.follows .mixedOrders = true) {n : Nat} {keep : List Nat} {fid : FuncId} :
    ∀ (c : Code) (f : C), cCode ty n keep fid c = some f → Rng p n keep fid c → COk p n keep f c := by
  intro c
  induction c with
  | skip => intro f h _; simp only [cCode, Option.some.injEq] at h; subst h; exact skip_ok
  | label l => intro f h _; simp only [cCode, Option.some.injEq] at h; subst h; exact label_ok
  | region id ops draw =>
    intro f h _
    simp only [cCode] at h
    cases draw with
    | true => exact draw_ok TT hm h
    | false =>
      simp only [cond_false, Option.map_eq_some_iff] at h
      obtain ⟨cs, hcs, rfl⟩ := h
      exact cOps_ok TT hcs
  | seq a b iha ihb =>
    intro f h R
    simp only [cCode] at h
    split at h
    · rename_i x y hx hy; cases h; exact seq_ok (iha x hx R.1) (ihb y hy R.2)
    · cases h
  | cond c a b iha ihb =>
    intro f h R
    simp only [cCode] at h
    split at h
    · rename_i y x z hy hx hz; cases h; exact cond_ok hy (iha x hx R.1) (ihb z hz R.2)
    · cases h
  | block id a ih =>
    intro f h R
    simp only [cCode, Option.map_eq_some_iff] at h
    obtain ⟨x, hx, rfl⟩ := h
    exact block_ok (ih x hx R)
  | loop a ih =>
    intro f h R
    simp only [cCode, Option.map_eq_some_iff] at h
    obtain ⟨x, hx, rfl⟩ := h
    exact loop_ok (ih x hx R)
  | scope a ih => exact fun f h R => scope_ok (ih f h R)
  | rangeFunc g ps a b _ _ =>
    intro f h R
    simp only [cCode] at h
    split at h
    · rename_i y id hy hid
      cases hps : (ps.toList.all fun q => and (memN keep (some q)) (okDst n (some q))) with
      | false => rw [hps] at h; cases h
      | true => rw [hps] at h; cases h; exact range_ok hy ⟨R id hid, hps⟩
    · cases h
  | exit id => intro f h _; simp only [cCode, Option.some.injEq] at h; subst h; exact exit_ok
  | ret => intro f h _; simp only [cCode, Option.some.injEq] at h; subst h; exact ret_ok
  | _ => intro f h _; simp only [cCode] at h; cases h

/-! ## Arguments -/
theorem tmOf_cons (a : AV) (l : List AV) (n : Nat) (t : PT AV) : tmOf (a :: l) n t = tmOf l (n + 1) (PT.set t n a) := rfl
theorem tmOf_get : ∀ (l : List AV) (n : Nat) (t : PT AV) (i : Nat), (tmOf l n t).get i = if n ≤ i ∧ i < n + l.length then l[i - n]? else t.get i
  | [], n, t, i => by
    show t.get i = _
    rw [if_neg (by rintro ⟨h1, h2⟩; simp only [List.length_nil] at h2; omega)]
  | a :: l, n, t, i => by
    rw [tmOf_cons, tmOf_get l (n + 1) _ i, PT.get_set]
    by_cases h1 : n + 1 ≤ i ∧ i < n + 1 + l.length
    · rw [if_pos h1, if_pos (by simp; omega)]
      rw [show i - n = (i - (n + 1)) + 1 by omega, List.getElem?_cons_succ]
    · rw [if_neg h1]
      by_cases h2 : i = n
      · subst h2; rw [if_pos rfl, if_pos (by simp)]; simp
      · rw [if_neg h2, if_neg (by simp at *; omega)]

theorem args_ok {n m : Nat} {keep : List Nat} {E : Env} {args : List AV} {vs : List Value} (h : concL E args = some vs) (hk : ((List.range m).all fun i => memN keep (some i)) = true) (hl : args.length ≤ m) :
    TmOk n keep E ⟨[], tmOf args 0 .nil⟩ (vs.toArray ++ Array.replicate (n - vs.toArray.size) undef) := by
  have hlen := concL_len h
  refine ⟨by simp; omega, fun i a e => (by cases e), ⟨fun i a e => ?_⟩⟩
  rw [tmOf_get] at e
  split at e
  · rename_i hi
    rw [Nat.sub_zero] at e
    obtain ⟨v, hv, hi2⟩ := concL_get h e
    refine ⟨?_, v, hv, ?_⟩
    · rw [List.all_eq_true] at hk
      exact hk i (by simp; omega)
    · have := (List.getElem?_eq_some_iff.1 hi2).1
      rw [Array.getElem?_append_left (by simpa using this)]
      simpa using hi2
  · rw [PT.get_nil] at e; cases e

/-! ## Results -/
theorem cRes_cons_tmp {ty : Nat → Option TI} {t : Nat} {l : List ResultVar} : cRes ty (.tmp t :: l) = (cRes ty l).map (.t t :: ·) := rfl

def resSem (arr : Array Value) : ResultVar → Sem Value
  | .tmp t => pure (arr.getD t undef)
  | .cell a t => do loadVar t (← asAddr (arr.getD a undef))

theorem loadV_run {p : Par} {ty : Nat → Option TI} (T : TyOk p.P ty) {t : Nat} {i : TI} (ht : ty t = some i) (hagg : i.isAgg = false) {E : Env} {h : Heap} {w0 : Base} {w : World} (HH : HeapOk p E h w0 w)
    {b i' size off : Nat} {e : IE} {r : AV} (hr : aload h (.ptrV b i' size off e) = some r) {u : Value} (hn : conc E (.ptrV b i' size off e) = some u) : ∃ u', conc E r = some u' ∧ (Instr.loadAt t u).run p.P w = .ok u' w := by
  simp only [aload] at hr
  split at hr
  · rename_i i2 ks hcs
    cases hb : (Nat.beq i' i2 && Nat.beq size (lLen ks)) with
    | false => rw [hb] at hr; cases hr
    | true =>
      rw [hb] at hr
      simp only [cond] at hr
      simp only [Bool.and_eq_true] at hb
      obtain ⟨hb1, hb2⟩ := hb
      cases Nat.eq_of_beq_eq_true hb1
      have hsz := Nat.eq_of_beq_eq_true hb2
      rw [lLen_eq] at hsz; subst hsz
      rw [listGet_eq] at hr
      cases hk : ks[off]? with
      | none => rw [hk] at hr; cases hr
      | some k' =>
        rw [hk] at hr; cases hr
        obtain ⟨q', hq', hp, hl, hv'⟩ := ptrV_conc hn
        have hnn : e.den E.ρ = ((e.den E.ρ).toNat : Int) := (Int.toNat_of_nonneg hp).symm
        rw [hv']
        exact ⟨_, cellU_conc hnn k', run_loadPlain T ht hagg (HH.ucell hcs (hnn ▸ hl) hk hq')⟩
  · cases hr
theorem loadNV_run {p : Par} {ty : Nat → Option TI} (T : TyOk p.P ty) {t : Nat} {i : TI} (ht : ty t = some i) (hagg : i.isAgg = true) {E : Env} {h : Heap} {w0 : Base} {w : World} (HH : HeapOk p E h w0 w)
    {b i' size off : Nat} {e : IE} {r : AV} (hr : aloadN i.size h (.ptrV b i' size off e) = some r) {u : Value} (hn : conc E (.ptrV b i' size off e) = some u) : ∃ u', conc E r = some u' ∧ (Instr.loadAt t u).run p.P w = .ok u' w := by
  simp only [aloadN] at hr
  split at hr
  · rename_i i2 ks hcs
    cases hb : (Nat.beq i' i2 && Nat.beq size (lLen ks)) with
    | false => rw [hb] at hr; cases hr
    | true =>
      rw [hb] at hr
      simp only [cond] at hr
      simp only [Bool.and_eq_true] at hb
      obtain ⟨hb1, hb2⟩ := hb
      cases Nat.eq_of_beq_eq_true hb1
      have hsz := Nat.eq_of_beq_eq_true hb2
      rw [lLen_eq] at hsz; subst hsz
      cases hk : listSub ks off i.size with
      | none => rw [hk] at hr; cases hr
      | some l =>
        rw [hk] at hr; cases hr
        obtain ⟨q', hq', hp, hl, hv'⟩ := ptrV_conc hn
        have hnn : e.den E.ρ = ((e.den E.ρ).toNat : Int) := (Int.toNat_of_nonneg hp).symm
        obtain ⟨hle, rfl⟩ := listSub_eq hk
        obtain ⟨vs, hvs, hlen, hcell⟩ := cellsU_conc (E := E) (i := i') hnn ((ks.drop off).take i.size) off
        rw [hv']
        have hlen' : vs.length = i.size := by rw [hlen]; simp; omega
        refine ⟨.agg vs.toArray, by simp [conc, hvs], run_loadWhole T ht hagg hlen' (fun j v hj => ?_)⟩
        have hjl : j < i.size := hlen' ▸ (List.getElem?_eq_some_iff.1 hj).1
        have hks : ((ks.drop off).take i.size)[j]? = some (ks[off + j]'(by omega)) := by
          rw [List.getElem?_take, if_pos hjl, List.getElem?_drop]; exact List.getElem?_eq_getElem (by omega)
        have := hcell j _ hks
        rw [hj] at this; cases this
        rw [show q'.2 + (e.den E.ρ).toNat * ks.length + off + j = q'.2 + (e.den E.ρ).toNat * ks.length + (off + j) by omega]
        exact HH.ucell hcs (hnn ▸ hl) (by rw [List.getElem?_eq_getElem (by omega)]) hq'
  · cases hr

theorem result_ok {p : Par} {ty : Nat → Option TI} (TT : TyOk p.P ty) {n : Nat} {keep : List Nat} {E : Env} {w0 : Base} {w : World} {tm : Tm} {h : Heap} {arr : Array Value} (HT : TmOk n keep E tm arr) (HH : HeapOk p E h w0 w) :
    ∀ (l : List ResultVar) (rs : List RV) (vs : List AV), cRes ty l = some rs → resultsA tm h rs = some vs → ∃ us, concL E vs = some us ∧
      (l.mapM (resSem arr)).run p.P w = .ok us w
  | [], rs, vs, hr, hv => by
    simp only [cRes, Option.some.injEq] at hr; subst hr
    simp only [resultsA, Option.some.injEq] at hv; subst hv
    exact ⟨[], rfl, rfl⟩
  | r :: l, rs, vs, hr, hv => by
    have head : ∃ rv rs', rs = rv :: rs' ∧ cRes ty l = some rs' ∧ ∀ v, resultA tm h rv = some v → ∃ u, conc E v = some u ∧ (resSem arr r).run p.P w = .ok u w := by
      cases r with
      | tmp t =>
        simp only [cRes, Option.map_eq_some_iff] at hr
        obtain ⟨rs', h1, rfl⟩ := hr
        refine ⟨_, rs', rfl, h1, fun v hv => ?_⟩
        obtain ⟨u, g1, g2⟩ := HT.look (show tm.look t = some v from hv)
        refine ⟨u, g1, ?_⟩
        simp only [resSem, Array.getD_eq_getD_getElem?, g2]
        rfl
      | cell a t =>
        simp only [cRes] at hr
        split at hr
        · rename_i i rs' hi h1
          cases hr
          refine ⟨_, rs', rfl, h1, fun v hv => ?_⟩
          simp only [resultA] at hv
          cases hl : tm.look a with
          | none => rw [hl] at hv; cases hv
          | some pa =>
            rw [hl] at hv
            simp only at hv
            obtain ⟨u, g1, g2⟩ := HT.look hl
            have key : ∀ (b off : Nat) (_ : pa = .ptr b off), ∃ u', conc E v = some u' ∧ (Instr.loadAt t (arr.getD a undef)).run p.P w = .ok u' w := by
              rintro b off rfl
              obtain ⟨q, hq, rfl⟩ := ptr_conc g1
              rw [Array.getD_eq_getD_getElem?, g2, Option.getD_some]
              cases hagg : i.isAgg with
              | true =>
                rw [hagg, cond_true] at hv
                simp only [aloadN] at hv
                cases hcs : h.cells b with
                | none => rw [hcs] at hv; cases hv
                | some cs =>
                  rw [hcs] at hv
                  simp only [Option.map_eq_some_iff] at hv
                  obtain ⟨l', hl', rfl⟩ := hv
                  obtain ⟨vs', hvs, hlen, hcell⟩ := HH.cellsRange hcs hl' hq
                  exact ⟨_, by simp [conc, hvs], run_loadWhole TT hi hagg hlen hcell⟩
              | false =>
                rw [hagg, cond_false] at hv
                simp only [aload] at hv
                cases hcs : h.cells b with
                | none => rw [hcs] at hv; cases hv
                | some cs =>
                  rw [hcs] at hv
                  simp only [listGet_eq] at hv
                  obtain ⟨v', hv', hcell⟩ := HH.cell hcs hv hq
                  exact ⟨v', hv', run_loadPlain TT hi hagg hcell⟩
            cases pa with
            | ptr b off =>
              obtain ⟨u', k1, k2⟩ := key b off rfl
              refine ⟨u', k1, ?_⟩
              obtain ⟨q, hq, rfl⟩ := ptr_conc g1
              have e : arr.getD a undef = .pointer (some ⟨q.1, q.2 + off, none⟩) := by rw [Array.getD_eq_getD_getElem?, g2]; rfl
              rw [e] at k2
              show (do loadVar t (← asAddr (arr.getD a undef)) : Sem Value).run p.P w = _
              rw [e]
              exact k2
            | ptrV b i' size off e =>
              have key : ∃ u', conc E v = some u' ∧ (Instr.loadAt t u).run p.P w = .ok u' w := by
                cases hagg : i.isAgg with
                | true => rw [hagg, cond_true] at hv; exact loadNV_run TT hi hagg HH hv g1
                | false => rw [hagg, cond_false] at hv; exact loadV_run TT hi hagg HH hv g1
              obtain ⟨u', k1, k2⟩ := key
              refine ⟨u', k1, ?_⟩
              obtain ⟨q', hq', hp, hl, hv'⟩ := ptrV_conc g1
              have e : arr.getD a undef = u := by rw [Array.getD_eq_getD_getElem?, g2]; rfl
              show (do loadVar t (← asAddr (arr.getD a undef)) : Sem Value).run p.P w = _
              rw [e]
              subst hv'
              exact k2
            | _ => cases hagg : i.isAgg <;> rw [hagg] at hv <;> simp [aload, aloadN] at hv
        · cases hr
    obtain ⟨rv, rs', rfl, hrs', hrv⟩ := head
    simp only [resultsA] at hv
    cases hv1 : resultA tm h rv with
    | none => rw [hv1] at hv; cases hv
    | some v =>
      cases hv2 : resultsA tm h rs' with
      | none => rw [hv1, hv2] at hv; cases hv
      | some vs' =>
        rw [hv1, hv2] at hv; cases hv
        obtain ⟨u, k1, k2⟩ := hrv v hv1
        obtain ⟨us, k3, k4⟩ := result_ok TT HT HH l rs' vs' hrs' hv2
        refine ⟨u :: us, concL_cons.2 ⟨u, us, k1, k3, rfl⟩, ?_⟩
        rw [List.mapM_cons, run_bind_ok k2, run_bind_ok k4]
        rfl

theorem run_results {p : Par} {ty : Nat → Option TI} (TT : TyOk p.P ty) {n : Nat} {keep : List Nat} {E : Env} {w0 : Base} {w : World} {tm : Tm} {h : Heap} {arr : Array Value} (HT : TmOk n keep E tm arr) (HH : HeapOk p E h w0 w)
    {fn : Func} {rs : List RV} {vs : List AV} (hr : cRes ty fn.results.toList = some rs) (hv : resultsA tm h rs = some vs) : ∃ v, conc E (one vs) = some v ∧ (results fn arr).run p.P w = .ok v w := by
  obtain ⟨us, h1, h2⟩ := result_ok TT HT HH _ rs vs hr hv
  have hlen := concL_len h1
  have hres : results fn arr = (do let us ← fn.results.mapM (resSem arr); pure (if h : us.size = 1 then us[0] else .tuple us)) := by
    unfold results
    congr 1
  have hm : (fn.results.mapM (resSem arr)).run p.P w = .ok us.toArray w := by
    rw [Array.mapM_eq_mapM_toList]
    show ((fn.results.toList.mapM (resSem arr)) >>= fun us => pure us.toArray).run p.P w = _
    rw [run_bind_ok h2]
    rfl
  rw [hres, run_bind_ok hm]
  match vs, us, hlen, h1 with
  | [v], [u], _, h1 =>
    obtain ⟨u', r, hu, hr', e⟩ := concL_cons.1 h1
    cases e
    exact ⟨u, hu, rfl⟩
  | [], us, hlen, h1 =>
    simp only [concL, Option.some.injEq] at h1
    subst h1
    exact ⟨_, rfl, rfl⟩
  | v :: v' :: vs, us, hlen, h1 =>
    refine ⟨.tuple us.toArray, by simp [one, conc, h1], ?_⟩
    have : ¬ us.toArray.size = 1 := by simp at hlen ⊢; omega
    simp only [dif_neg this]
    rfl

/-! ## The marks -/
theorem undefer_ok {p : Par} {fn : Func} {tmps : Array Value} {E : Env} {w0 : Base} {R : Ending → World → Prop} {Q : Heap → Prop} :
    ∀ (df : List Nat) (ds : List Deferred) (h : Heap) (w : World), DfOk E df ds → HeapOk p E h w0 w → (undefer df h).Holds E.ρ Q →
      (∀ h' w', Q h' → HeapOk p E h' w0 w' → ∃ v, (results fn tmps).run p.P w' = .ok v w' ∧ R (.returned v) w') → LeavesInM Fence.wide 0 p.P fn tmps R ds .returning w
  | [], [], h, w, _, HH, k, P => P h w k HH
  | [], _ :: _, h, w, D, _, _, _ => D.elim
  | _ :: _, [], h, w, D, _, _, _ => D.elim
  | b :: df, d :: ds, h, w, ⟨⟨c, hc, hd⟩, D⟩, HH, k, P => by
    unfold undefer at k
    split at k
    · rename_i hg
      obtain ⟨c', hc', hh⟩ := HH.obj b _ hg
      rw [hc] at hc'; cases hc'
      have hlt := HH.lt b _ c 0 hg hc
      refine ⟨by simp, .inl ⟨c, _, hd, run_takeDeferred (by simpa using hh), ?_⟩⟩
      refine undefer_ok df ds (h.put b (.defd false)) _ D ?_ k P
      exact HH.turn hg rfl hc rfl ⟨c, hc, by rw [World.putObj_heap_same hlt]; rfl⟩ (fun i hi => World.putObj_heap_other hi) rfl rfl rfl (by simp)
    · exact k.elim

end Go.Sx
/-! THE EVALUATOR IS SOUND. -/
namespace Go.Sx
open Go.RowKit

theorem cFunc_some {ty : Nat → Option TI} {keep : List Nat} {fid : FuncId} {fn : Func} {cf : CF} (h : cFunc ty keep fid fn = some cf) :
    ∃ c f rs, fn.body = some c ∧ cCode ty fn.ntmps keep fid c = some f ∧ cRes ty fn.results.toList = some rs ∧ ((List.range (fn.params.size + fn.nfree)).all fun i => memN keep (some i)) = true ∧ cf = ⟨fn.params.size + fn.nfree, f, rs⟩ := by
  unfold cFunc at h
  split at h
  · cases h
  · rename_i c hc
    split at h
    · rename_i f rs hf hrs
      cases hk : ((List.range (fn.params.size + fn.nfree)).all fun i => memN keep (some i)) with
      | false => rw [hk] at h; cases h
      | true => rw [hk] at h; cases h; exact ⟨c, f, rs, hc, hf, hrs, rfl, rfl⟩
    · cases h

/-- what a call leads to -/
def CallOk (p : Par) (f : FuncId) (args : List AV) (h : Heap) (t : T (AV × Heap)) : Prop :=
  ∀ vs E w0 w Q K, t.Holds E.ρ Q → HeapOk p E h w0 w → concL E args = some vs → Post p E w0 Q K →
    (callFunc f vs.toArray).run p.P w = .ok (.enter f vs.toArray) w ∧ Calls p.P f vs.toArray w fun e w' => ∃ v, e = .returned v ∧ K v w'

structure TabOk (p : Par) (ty : Nat → Option TI) (tb : Tabs) : Prop where
  types : TyOk p.P ty
  mixed : p.P.follows .mixedOrders = true
  fn : ∀ f cf, tb.F f = some cf → ∃ fn keep, p.P.funcs[f]? = some fn ∧ cFunc ty keep f fn = some cf ∧ (fn.name == "runtime.NumGoroutine") = false ∧ ∀ c, fn.body = some c → Rng p fn.ntmps keep f c
  rc : ∀ code n keep a b, p.RC code n keep a b → ∃ fid ca cb, tb.R code = some (ca, cb) ∧ cCode ty n keep fid a = some ca ∧ cCode ty n keep fid b = some cb ∧ Rng p n keep fid a ∧ Rng p n keep fid b
  orc : ∀ f args h t, tb.orc f args h = some t → CallOk p f args h t

theorem run_callFunc {P : Program} {f : FuncId} {fn : Func} {c : Code} (hf : P.funcs[f]? = some fn) (hb : fn.body = some c) (hn : (fn.name == "runtime.NumGoroutine") = false) (args : Array Value) (w : World) :
    (callFunc f args).run P w = .ok (.enter f args) w := by
  unfold callFunc
  simp only [Sem.run_bind, program, Sem.run, Result.andThen_ok, hf, hn, hb, Bool.false_eq_true, if_false, Option.isNone_some]
  rfl

theorem callBody_ok {p : Par} {ty : Nat → Option TI} {tb : Tabs} (B : TabOk p ty tb) {cx : Cx} (CX : CxOk p cx) (f : FuncId) (args : List AV) (h : Heap) : CallOk p f args h (callBody tb cx f args h) := by
  intro vs E w0 w Q K k HH ha P
  unfold callBody at k
  cases hF : tb.F f with
  | none => rw [hF] at k; exact k.elim
  | some cf =>
    rw [hF] at k
    simp only at k
    obtain ⟨fn, keep, hfn, hcf, hname, hrng⟩ := B.fn f cf hF
    obtain ⟨c, g, rs, hb, hg, hrs, hkeep, rfl⟩ := cFunc_some hcf
    refine ⟨run_callFunc hfn hb hname _ w, ?_⟩
    cases hl : Nat.ble (lLen args) (fn.params.size + fn.nfree) with
    | false => simp only [hl, cond_false] at k; exact k.elim
    | true =>
      simp only [hl, cond_true] at k
      rw [T.holds_bind] at k
      have hlen : args.length ≤ fn.params.size + fn.nfree := by have := ble_t.1 hl; rwa [lLen_eq] at this
      refine callsIn_wide.1 (callsIn_of_wp_marks (F := Fence.wide) (n := 0) hfn hb trivial ?_)
      refine cCode_ok B.types B.mixed c g hg (hrng c hb) cx CX ⟨f, none⟩ none E w0 w ⟨⟨[], tmOf args 0 .nil⟩, [], h⟩ _ _ _ trivial ⟨args_ok ha hkeep hlen, trivial, HH⟩ k ?_
      intro x s' E' w' a' q hle S'
      have fin : (finish ⟨fn.params.size + fn.nfree, g, rs⟩ (x, s')).Holds E'.ρ Q := by rw [hle.ρ]; exact q
      have go : ((undefer s'.df s'.h).bind fun h2 => match resultsA s'.tm h2 rs with
          | some vs => T.ret (one vs, h2)
          | none => .fail 64).Holds E'.ρ Q → LeavesInM Fence.wide 0 p.P fn a'.tmps (fun e w' => ∃ v, e = .returned v ∧ K v w') a'.defers .returning w' := fun kk => by
        rw [T.holds_bind] at kk
        refine undefer_ok s'.df a'.defers s'.h w' S'.df S'.hp kk ?_
        intro h2 w2 q2 HH2
        cases hres : resultsA s'.tm h2 rs with
        | none => rw [hres] at q2; exact q2.elim
        | some vs' =>
          rw [hres] at q2
          obtain ⟨v, hv1, hv2⟩ := run_results B.types S'.tm HH2 hrs hres
          exact ⟨v, hv2, v, rfl, P _ _ E' w2 v q2 hle HH2 hv1⟩
      cases x with
      | norm => exact go fin
      | ret => exact go fin
      | exit id => exact fin.elim

/-! ## Rounds -/
theorem setParams_ok {n : Nat} {keep : List Nat} {E : Env} : ∀ (ps : List Nat) (args : List AV) (vs : List Value) (tm tm' : PT AV) (arr : Array Value), setParams ps args tm = some tm' → concL E args = some vs → n ≤ arr.size → psOk n keep ps = true → TreeOk keep E tm arr →
    vs.length = ps.length ∧ TreeOk keep E tm' ((ps.zip vs).foldl (fun t q => t.setIfInBounds q.1 q.2) arr) ∧ ((ps.zip vs).foldl (fun t q => t.setIfInBounds q.1 q.2) arr).size = arr.size
  | [], [], vs, tm, tm', arr, h, ha, hn, hp, H => by
    simp only [setParams, Option.some.injEq] at h; subst h
    simp only [concL, Option.some.injEq] at ha; subst ha
    exact ⟨rfl, H, rfl⟩
  | [], _ :: _, vs, tm, tm', arr, h, ha, hn, hp, H => by simp [setParams] at h
  | _ :: _, [], vs, tm, tm', arr, h, ha, hn, hp, H => by simp [setParams] at h
  | t :: ps, a :: args, vs, tm, tm', arr, h, ha, hn, hp, H => by
    simp only [setParams] at h
    obtain ⟨v, r, hv, hr, rfl⟩ := concL_cons.1 ha
    simp only [psOk, List.all_cons, Bool.and_eq_true] at hp
    have hlt := ble_t.1 hp.1.2
    have H' : TreeOk keep E (PT.set tm t a) (arr.setIfInBounds t v) := by
      refine ⟨fun i b e => ?_⟩
      rw [PT.get_set] at e
      by_cases c : i = t
      · subst c; rw [if_pos rfl] at e; cases e
        exact ⟨hp.1.1, v, hv, by rw [Array.getElem?_setIfInBounds]; simp; omega⟩
      · rw [if_neg c] at e
        obtain ⟨h1, u, h2, h3⟩ := H.at_ i b e
        exact ⟨h1, u, h2, by rw [Array.getElem?_setIfInBounds_ne (Ne.symm c)]; exact h3⟩
    obtain ⟨h1, h2, h3⟩ := setParams_ok ps args r _ tm' (arr.setIfInBounds t v) h hr (by simpa using hn) (by simpa [psOk] using hp.2) H'
    exact ⟨by simp [h1], h2, by rw [List.zip_cons_cons, List.foldl_cons, h3]; simp⟩

theorem goesOn_eq (x : Ex) : goesOn x = (jumpOf x).isNone := by cases x <;> rfl
theorem endState_eq (x : Ex) : endState x = if (jumpOf x).isNone then .ready else .done := by cases x <;> rfl

theorem yieldBody_ok {p : Par} {ty : Nat → Option TI} {tb : Tabs} (B : TabOk p ty tb) {cx : Cx} (CX : CxOk p cx) (l : Nat) (args : List AV) (h : Heap) :
    ∀ vs E w0 w Q K q, (yieldBody tb cx l args h).Holds E.ρ Q → HeapOk p E h w0 w → concL E args = some vs → E.σ l = some q → Post p E w0 Q K → Does p.P ((Instr.yield q.1 vs.toArray).run p.P w) K := by
  intro vs E w0 w Q K q k HH ha hq P
  unfold yieldBody at k
  split at k
  · rename_i st0 pd0 fnn tm params code d0 hg
    split at k
    · rename_i tm' c htm hR
      obtain ⟨cc, d', n, keep, r, g1, g2, g3, g4, g5, g6, g7, g8, ⟨g9, g9'⟩, g10, ht⟩ := HH.loopTurn hg
      rw [hq] at g1; cases g1
      obtain ⟨fid, ca, cb, hR', hca, hcb, ra, rb⟩ := B.rc code n keep _ _ g9
      rw [hR] at hR'; cases hR'
      obtain ⟨s1, s2, s3⟩ := setParams_ok (n := n) params args vs tm tm' r.tmps htm ha g6 g9' g7
      have hzip : ((r.params.zip vs.toArray).foldl (fun tmps (x : Nat × Value) => tmps.setIfInBounds x.1 x.2) r.tmps) = ((params.zip vs).foldl (fun t q => t.setIfInBounds q.1 q.2) r.tmps) := by
        rw [← g8, ← Array.foldl_toList]
        simp
      have hsz : vs.toArray.size = r.params.size := by
        rw [← g8] at s1; simpa using s1
      rw [run_yield g3 hsz]
      rw [T.holds_bind] at k
      show RoundIn Fence.wide 0 p.P cc r.fn ((r.params.zip vs.toArray).foldl (fun tmps (x : Nat × Value) => tmps.setIfInBounds x.1 x.2) r.tmps) r.assign r.body w _
      rw [hzip]
      refine roundIn_of_wpIn (F := Fence.wide) trivial ?_
      have S0 : StOk p n keep E w0 ⟨⟨[], tm'⟩, [], h⟩ { tmps := (params.zip vs).foldl (fun t q => t.setIfInBounds q.1 q.2) r.tmps, defers := [] } w :=
        ⟨⟨by rw [s3]; exact g6, fun i a e => (by cases e), s2⟩, trivial, HH⟩
      refine cCode_ok B.types B.mixed r.assign ca hca ra cx CX ⟨fnn, some l⟩ (some cc) E w0 w _ _ _ _ hq S0 k ?_
      intro x s1 E1 w1 a1 q1 hle1 S1
      cases x with
      | exit id => exact q1.elim
      | ret => exact q1.elim
      | norm =>
        have q1' : (midRound cx ⟨fnn, some l⟩ l cb (.norm, s1)).Holds E1.ρ Q := by rw [hle1.ρ]; exact q1
        unfold midRound at q1'
        simp only at q1'
        split at q1'
        · rename_i st1 p1 f1 t1 ps1 c1 d1 hg1
          split at q1'
          · obtain ⟨cc1, d1', n1, keep1, r1, e1, e2, e3, e4, e5, e6, e7, e8, e9, e10, ht1⟩ := S1.hp.loopTurn hg1
            have hq1 := hle1.σ _ _ hq
            rw [hq1] at e1; cases e1
            have HB := ht1 .busy p1
            rw [show ({ r1 with state := LoopState.busy, pending := jumpOf p1 } : Loop) = { r1 with state := .busy } from by rw [← e5]] at HB
            refine ⟨_, run_beginRound e3 e4, ?_⟩
            rw [T.holds_bind] at q1'
            refine cCode_ok B.types B.mixed r.body cb hcb rb cx CX ⟨fnn, some l⟩ (some cc) E1 w0 _ ⟨s1.tm, s1.df, s1.h.put l (.loop .busy p1 f1 t1 ps1 c1 d1)⟩ _ _ _ hq1 ⟨S1.tm, S1.df, HB⟩ q1' ?_
            intro x s2 E2 w2 a2 q2 hle2 S2
            have q2' : (endRound l (x, s2)).Holds E2.ρ Q := by rw [hle2.ρ]; exact q2
            unfold endRound at q2'
            simp only at q2'
            split at q2'
            · split at q2'
              · rename_i st2 p2 f2 t2 ps2 c2 d2 hg2
                obtain ⟨cc2, d2', n2, keep2, r2, o1, o2, o3, o4, o5, o6, o7, o8, o9, o10, ht2⟩ := S2.hp.loopTurn hg2
                have hq2 := hle2.σ _ _ hq1
                rw [hq2] at o1; cases o1
                have HE := ht2 (endState x) x
                have hre := run_endRound (P := p.P) (jumpOf x) o3
                rw [← endState_eq] at hre
                have done : ∃ v w', (Instr.endRound cc (jumpOf x)).run p.P w2 = .ok v w' ∧ ∃ u, Ending.returned v = .returned u ∧ K u w' := by
                  refine ⟨_, _, hre, _, rfl, ?_⟩
                  refine P _ _ E2 _ (.bool (jumpOf x).isNone) q2' (hle1.trans hle2) HE ?_
                  rw [goesOn_eq]; rfl
                cases x <;> exact done
              · exact q2'.elim
            · exact q2'.elim
          · exact q1'.elim
        · exact q1'.elim
    · exact k.elim
  · exact k.elim

/-- THE EVALUATOR. -/
theorem evalN_ok {p : Par} {ty : Nat → Option TI} {tb : Tabs} (B : TabOk p ty tb) : ∀ d, CxOk p ⟨evalN tb d false, evalN tb d true, tb.loops⟩
  | 0 => ⟨fun f args h vs E w0 w Q K k => k.elim, fun f args h vs E w0 w Q K q k => k.elim⟩
  | d + 1 => by
    have ih := evalN_ok B d
    refine ⟨fun f args h vs E w0 w Q K k => ?_, fun l args h vs E w0 w Q K q k => ?_⟩
    · have k' : (match tb.orc f args h with
        | some t => t
        | none => callBody tb ⟨evalN tb d false, evalN tb d true, tb.loops⟩ f args h).Holds E.ρ Q := k
      cases ho : tb.orc f args h with
      | some t =>
        rw [ho] at k'
        exact B.orc f args h t ho vs E w0 w Q K k'
      | none =>
        rw [ho] at k'
        exact callBody_ok B ih f args h vs E w0 w Q K k'
    · have k' : (yieldBody tb ⟨evalN tb d false, evalN tb d true, tb.loops⟩ l args h).Holds E.ρ Q := k
      exact yieldBody_ok B ih l args h vs E w0 w Q K q k'

theorem eval_ok {p : Par} {ty : Nat → Option TI} {tb : Tabs} (B : TabOk p ty tb) (d : Nat) (f : FuncId) (args : List AV) (h : Heap) : CallOk p f args h (evalN tb d false f args h) :=
  fun vs E w0 w Q K k HH ha P => (evalN_ok B d).call f args h vs E w0 w Q K k HH ha P

end Go.Sx
/-! TABLES: how a program's own facts make the evaluator's premises. -/
namespace Go.Sx
open Go.RowKit

noncomputable def tyOf (P : Program) (t : Nat) : Option TI :=
  match P.underlying t, P.info? t with
  | some u, some j => some ⟨u, j.size, j.bytes, j.zero.bind ofV, and (Bool.not (P.stoodInHeld t)) (Bool.not (P.eqGuardType P.depth t))⟩
  | _, _ => none

/-- one type's row: 'eqOk' may be withheld. -/
structure TyRow (P : Program) (t : Nat) (i : TI) : Prop where
  und : P.underlying t = some i.desc
  info : ∃ j, P.info? t = some j ∧ j.size = i.size ∧ j.bytes = i.bytes ∧ ∀ z, i.zero = some z → ∃ v, j.zero = some v ∧ ofV v = some z
  eqOk : i.eqOk = true → P.stoodInHeld t = false ∧ P.eqGuardType P.depth t = false

theorem TyRow.of' {P : Program} {t : Nat} (i : TI) (j : TypeInfo) (hu : P.underlying t = some i.desc) (hj : P.info? t = some j) (hs : j.size = i.size) (hb : j.bytes = i.bytes)
    (hz : i.zero.isSome = true → j.zero.bind ofV = i.zero) (he : i.eqOk = true → (P.stoodInHeld t = false ∧ P.eqGuardType P.depth t = false)) : TyRow P t i := by
  refine ⟨hu, ⟨j, hj, hs, hb, fun z0 h0 => ?_⟩, he⟩
  have := hz (by rw [h0]; rfl)
  rw [h0] at this
  cases hv : j.zero with
  | none => rw [hv] at this; cases this
  | some v => rw [hv] at this; exact ⟨v, rfl, this⟩

def PT.Every {α : Type} (R : Nat → α → Prop) : PT α → Prop
  | .nil => True
  | .node v l r => (∀ a, v = some a → R 0 a) ∧ PT.Every (fun k => R (2 * k + 1)) l ∧ PT.Every (fun k => R (2 * k + 2)) r

theorem PT.every_get {α : Type} : ∀ (t : PT α) (R : Nat → α → Prop), t.Every R → ∀ k a, t.get k = some a → R k a
  | .nil, R, _, k, a, h => by rw [PT.get_nil] at h; cases h
  | .node v l r, R, h, k, a, e => by
    rw [PT.get_node] at e
    by_cases h0 : k = 0
    · subst h0; rw [beq_t.2 rfl, cond_true] at e; exact h.1 a e
    · rw [beq_f.2 h0, cond_false] at e
      by_cases h1 : k % 2 = 1
      · rw [show Nat.beq (Nat.mod k 2) 1 = true from beq_t.2 h1, cond_true] at e
        have := PT.every_get l _ h.2.1 _ a e
        rw [show 2 * (Nat.div (Nat.pred k) 2) + 1 = k from by show 2 * ((k - 1) / 2) + 1 = k; omega] at this
        exact this
      · rw [show Nat.beq (Nat.mod k 2) 1 = false from beq_f.2 h1, cond_false] at e
        have := PT.every_get r _ h.2.2 _ a e
        rw [show 2 * (Nat.div (Nat.pred k) 2) + 2 = k from by show 2 * ((k - 1) / 2) + 2 = k; omega] at this
        exact this

theorem ev1 {α : Type} {R : Nat → α → Prop} {k : Nat} {x : α} (h : R k x) : ∀ a, some x = some a → R k a := fun a e => by cases e; exact h
theorem ev0 {α : Type} {R : Nat → α → Prop} {k : Nat} : ∀ a, (none : Option α) = some a → R k a := fun a e => by cases e

theorem tyOk_of {P : Program} {tt : PT TI} (h : tt.Every (TyRow P)) : TyOk P tt.get :=
  ⟨fun t i e => (PT.every_get tt _ h t i e).und, fun t i e => (PT.every_get tt _ h t i e).info, fun t i e he => (PT.every_get tt _ h t i e).eqOk he⟩

/-! ## Ranges over functions -/
noncomputable def ranges : Code → List (List Nat × Code × Code)
  | .seq a b => ranges a ++ ranges b
  | .cond _ a b => ranges a ++ ranges b
  | .block _ a => ranges a
  | .loop a => ranges a
  | .scope a => ranges a
  | .rangeFunc _ ps a b => (ps.toList, a, b) :: (ranges a ++ ranges b)
  | _ => []

theorem rng_of {p : Par} {n : Nat} {keep : List Nat} {fid : FuncId} : ∀ (c : Code), (∀ q ∈ ranges c, ∀ id, rangeId fid q.1 = some id → p.RC id n keep q.2.1 q.2.2) → Rng p n keep fid c := by
  intro c
  induction c with
  | seq a b iha ihb => exact fun h => ⟨iha fun q hq => h q (List.mem_append_left _ hq), ihb fun q hq => h q (List.mem_append_right _ hq)⟩
  | cond c a b iha ihb => exact fun h => ⟨iha fun q hq => h q (List.mem_append_left _ hq), ihb fun q hq => h q (List.mem_append_right _ hq)⟩
  | block id a ih => exact fun h => ih h
  | loop a ih => exact fun h => ih h
  | scope a ih => exact fun h => ih h
  | rangeFunc g ps a b _ _ => exact fun h => h (ps.toList, a, b) (by simp [ranges])
  | _ => exact fun _ => trivial

noncomputable def firstR (l : List (List Nat × Code × Code)) : Code × Code :=
  match l with
  | q :: _ => q.2
  | [] => (.skip, .skip)

noncomputable def bodyOf (fn : Func) : Code :=
  match fn.body with
  | some c => c
  | none => .skip

/-- one range: its number, the function's slots, those that are kept, and the two pieces of code -/
structure RRow where
  id : Nat
  fid : Nat
  n : Nat
  keep : List Nat
  a : Code
  b : Code

def rcOf (l : List RRow) (code n : Nat) (keep : List Nat) (a b : Code) : Prop := ∃ r ∈ l, r.id = code ∧ r.n = n ∧ r.keep = keep ∧ r.a = a ∧ r.b = b

theorem rcOf_rng {P : Program} {ok : Rho → (Nat → Obj → Prop) → Prop} {l : List RRow} {n : Nat} {keep : List Nat} {fid : FuncId} {c : Code} (rs : List (List Nat × Code × Code)) (h : ranges c = rs)
    (hr : ∀ q ∈ rs, ∀ id, rangeId fid q.1 = some id → rcOf l id n keep q.2.1 q.2.2) : Rng ⟨P, rcOf l, ok⟩ n keep fid c := rng_of c (by rw [h]; exact hr)

structure FRow (p : Par) (ty : Nat → Option TI) (f : Nat) (cf : CF) : Prop where
  row : ∃ fn keep, p.P.funcs[f]? = some fn ∧ cFunc ty keep f fn = some cf ∧ (fn.name == "runtime.NumGoroutine") = false ∧ ∀ c, fn.body = some c → Rng p fn.ntmps keep f c

theorem FRow.plain {P : Program} {ok : Rho → (Nat → Obj → Prop) → Prop} {l : List RRow} {ty : Nat → Option TI} {f : Nat} {cf : CF} {fn : Func} (keep : List Nat) (c : Code) (h1 : P.funcs[f]? = some fn) (h2 : cFunc ty keep f fn = some cf) (h3 : (fn.name == "runtime.NumGoroutine") = false) (h4 : fn.body = some c)
    (rs : List (List Nat × Code × Code)) (h5 : ranges c = rs) (h6 : ∀ q ∈ rs, ∀ id, rangeId f q.1 = some id → rcOf l id fn.ntmps keep q.2.1 q.2.2) : FRow ⟨P, rcOf l, ok⟩ ty f cf :=
  ⟨fn, keep, h1, h2, h3, fun c' hc => by rw [h4] at hc; cases hc; exact rcOf_rng rs h5 h6⟩

/-- the ranges within a range are rows, too -/
def RSub (l : List RRow) (r : RRow) : Prop := ∀ q ∈ ranges r.a ++ ranges r.b, ∀ id, rangeId r.fid q.1 = some id → rcOf l id r.n r.keep q.2.1 q.2.2
theorem RSub.of {l : List RRow} {r : RRow} (rs : List (List Nat × Code × Code)) (h : ranges r.a ++ ranges r.b = rs) (k : ∀ q ∈ rs, ∀ id, rangeId r.fid q.1 = some id → rcOf l id r.n r.keep q.2.1 q.2.2) : RSub l r := by rw [← h] at k; exact k

theorem tabOk_of {P : Program} {ok : Rho → (Nat → Obj → Prop) → Prop} {l : List RRow} {tt : PT TI} {ft : PT CF} {rt : List (Nat × (C × C))} {loops : Nat} {orc : FuncId → List AV → Heap → Option (T (AV × Heap))} (hm : P.follows .mixedOrders = true) (ht : tt.Every (TyRow P)) (hf : ft.Every (FRow ⟨P, rcOf l, ok⟩ tt.get))
    (hr : ∀ r ∈ l, ∃ ca cb, lFind rt r.id = some (ca, cb) ∧ cCode tt.get r.n r.keep r.fid r.a = some ca ∧ cCode tt.get r.n r.keep r.fid r.b = some cb ∧ RSub l r)
    (ho : ∀ f args h t, orc f args h = some t → CallOk ⟨P, rcOf l, ok⟩ f args h t) : TabOk ⟨P, rcOf l, ok⟩ tt.get ⟨ft.get, lFind rt, loops, orc⟩ := by
  refine ⟨tyOk_of ht, hm, fun f cf e => (PT.every_get ft _ hf f cf e).row, ?_, ho⟩
  rintro code n keep a b ⟨r, hrl, rfl, rfl, rfl, rfl, rfl⟩
  obtain ⟨ca, cb, h1, h2, h3, h4⟩ := hr r hrl
  exact ⟨r.fid, ca, cb, h1, h2, h3, rng_of _ fun q hq => h4 q (List.mem_append_left _ hq), rng_of _ fun q hq => h4 q (List.mem_append_right _ hq)⟩

end Go.Sx
