/- REGIONS WHOSE ORDER OF EVALUATION IS DRAWN: every order. -/
import Derived.Test.YtegeacnehkpinaaDoorSxFloat
/-! REGIONS WHOSE ORDER OF EVALUATION IS DRAWN: every order. -/
namespace Go.Sx
open Go.RowKit

theorem lRev_eq {α : Type} (l : List α) : lRev l = l.reverse := by
  have : ∀ (l m : List α), (@List.rec α (fun _ => List α → List α) (fun m => m) (fun a _ ih m => ih (a :: m)) l : List α → List α) m = l.reverse ++ m := by
    intro l
    induction l with
    | nil => intro m; rfl
    | cons a l ih => intro m; show (@List.rec α (fun _ => List α → List α) (fun m => m) (fun a _ ih m => ih (a :: m)) l : List α → List α) (a :: m) = _; rw [ih]; simp
  unfold lRev
  rw [this l []]; simp

theorem upto_ok {f : Nat → Bool} : ∀ (n k : Nat), upto f n k = true → ∀ j, k ≤ j → j ≤ k + n → f j = true
  | 0, k, h, j, h1, h2 => by
    have : j = k := by omega
    subst this; exact h
  | n + 1, k, h, j, h1, h2 => by
    have h' : cond (f k) (upto f n (k + 1)) false = true := h
    cases hk : f k with
    | false => rw [hk] at h'; cases h'
    | true =>
      rw [hk] at h'
      by_cases e : j = k
      · rw [e]; exact hk
      · exact upto_ok n (k + 1) h' j (by omega) (by omega)

theorem getD_set {l : Array Bool} {i j : Nat} : (l.setIfInBounds i true).getD j false = if i = j ∧ j < l.size then true else l.getD j false := by
  simp only [Array.getD_eq_getD_getElem?, Array.getElem?_setIfInBounds]
  by_cases h : i = j
  · subst h
    by_cases h2 : i < l.size
    · simp [h2]
    · simp [h2]
  · simp [h]

theorem getD_true {l : Array Bool} {j : Nat} (h : l.getD j true = false) : j < l.size ∧ l.getD j false = false := by
  simp only [Array.getD_eq_getD_getElem?] at *
  by_cases hj : j < l.size
  · simp [hj] at *; exact h
  · simp [hj] at h
theorem getD_false {l : Array Bool} {j : Nat} (hj : j < l.size) (h : l.getD j false = false) : l.getD j true = false := by
  simp only [Array.getD_eq_getD_getElem?] at *
  simp [hj] at *; exact h

/-- what is known of the allocations that no order binds -/
def FltOk (dis : List DI) (base : Nat) (pdF : List (Nat × List AV)) (E : Env) (listed : Array Bool) : Prop :=
  ∀ (i : Nat) (d : DI) (fl : FIns × FK × Nat), dis[i]? = some d → d.fl = some fl → base + fl.2.2 < E.n ∧
    (listed.getD i false = true → ∀ cs, lFind pdF fl.2.2 = some cs → ∃ c vs, E.σ (base + fl.2.2) = some (c, 0) ∧ concL E cs = some vs ∧ E.rc (base + fl.2.2) = vs.toArray) ∧
    (listed.getD i false = false → E.σ (base + fl.2.2) = none)

structure DInv (p : Par) (dis : List DI) (ms : List Nat) (N : Nat) (base : Nat) (pdF : List (Nat × List AV)) (HS : List Heap) (tmF : Tm) (E0 E : Env) (w0 : Base) (w : World) (arr0 : Array Value) (ds0 : List Deferred) (listed : Array Bool) (a : Act) (k : Nat) : Prop where
  le : E0.le E
  hp : ∃ h, HS[k]? = some h ∧ HeapOk p E h w0 w
  sz : listed.size = N
  cl : ∀ i, listed.getD i false = true → ∀ j, Nat.testBit (natGet ms i) j = true → listed.getD j false = true
  eff : ∀ (i : Nat) (d : DI), dis[i]? = some d → d.eff = true → (listed.getD i false = true ↔ d.lo < k)
  val : ∀ (i : Nat) (d : DI) (t : Nat) (v : AV), dis[i]? = some d → listed.getD i false = true → d.ci.dst = some t → tmF.look t = some v → good E a.tmps t v
  old : ∀ t, (∀ (j : Nat) (d : DI), dis[j]? = some d → d.ci.dst = some t → listed.getD j false = false) → a.tmps[t]? = arr0[t]?
  asz : a.tmps.size = arr0.size
  adf : a.defers = ds0
  flt : FltOk dis base pdF E listed

theorem DInv.next {p : Par} {dis : List DI} {ms : List Nat} {N base : Nat} {pdF : List (Nat × List AV)} {HS : List Heap} {tmF : Tm} {E0 E E' : Env} {w0 : Base} {w w' : World} {arr0 : Array Value} {ds0 : List Deferred} {listed : Array Bool} {a : Act} {k k' : Nat}
    (I : DInv p dis ms N base pdF HS tmF E0 E w0 w arr0 ds0 listed a k) (ho : Once dis) {i : Nat} {d : DI} (hd : dis[i]? = some d) (hi : i < N)
    (hanc : ∀ j, Nat.testBit (natGet ms i) j = true → listed.getD j false = true) (hE0 : E0.le E') (hle : E.le0 E') (hfl : FltOk dis base pdF E' (listed.setIfInBounds i true)) {h' : Heap} (hH : HS[k']? = some h') (HH : HeapOk p E' h' w0 w')
    (hnum : ∀ (j : Nat) (e : DI), dis[j]? = some e → e.eff = true → j ≠ i → (e.lo < k' ↔ e.lo < k)) (hme : d.eff = true → d.lo < k') {v : AV} {cv : Value} (hv : ∀ t, d.ci.dst = some t → conc E' v = some cv)
    (hdst : ∀ t, d.ci.dst = some t → tmF.look t = some v ∧ t < arr0.size) : DInv p dis ms N base pdF HS tmF E0 E' w0 w' arr0 ds0 (listed.setIfInBounds i true) (a.put d.ci.dst cv) k' := by
  refine ⟨hE0, ⟨h', hH, HH⟩, by simp [I.sz], fun i' h j hb => ?_, fun i' d' hd' he' => ?_, fun i' d' t v' hd' hl' ht' hv' => ?_, fun t ht => ?_, ?_, ?_, hfl⟩
  · rw [getD_set] at h ⊢
    have key : listed.getD j false = true := by
      by_cases c : i = i' ∧ i' < listed.size
      · obtain ⟨rfl, _⟩ := c; exact hanc j hb
      · rw [if_neg c] at h; exact I.cl i' h j hb
    split
    · rfl
    · exact key
  · rw [getD_set]
    by_cases c : i = i'
    · subst c
      rw [hd] at hd'; cases hd'
      rw [if_pos ⟨rfl, by rw [I.sz]; exact hi⟩]
      exact ⟨fun _ => hme he', fun _ => rfl⟩
    · rw [if_neg (fun h => c h.1), hnum i' d' hd' he' (Ne.symm c)]
      exact I.eff i' d' hd' he'
  · by_cases c : i = i'
    · subst c
      rw [hd] at hd'; cases hd'
      obtain ⟨h1, h2⟩ := hdst t ht'
      rw [h1] at hv'; cases hv'
      refine ⟨cv, hv t ht', ?_⟩
      rw [ht']
      simp only [Act.put]
      rw [Array.getElem?_setIfInBounds]
      simp [I.asz, h2]
    · rw [getD_set, if_neg (fun h => c h.1)] at hl'
      obtain ⟨u, g1, g2⟩ := (I.val i' d' t v' hd' hl' ht' hv').mono hle
      refine ⟨u, g1, ?_⟩
      cases hdd : d.ci.dst with
      | none => exact g2
      | some t' =>
        have hne : t' ≠ t := by
          rintro rfl
          rcases Nat.lt_or_ge i i' with hlt | hge
          · exact ho i i' d d' t' hlt hd hd' hdd ht'
          · exact ho i' i d' d t' (by omega) hd' hd ht' hdd
        simp only [Act.put]
        rw [Array.getElem?_setIfInBounds_ne hne]; exact g2
  · have hno : ∀ (j : Nat) (e : DI), dis[j]? = some e → e.ci.dst = some t → i ≠ j ∧ listed.getD j false = false := fun j e hj he => by
      have h1 := ht j e hj he
      rw [getD_set] at h1
      by_cases c : i = j ∧ j < listed.size
      · rw [if_pos c] at h1; cases h1
      · rw [if_neg c] at h1
        refine ⟨fun h => c ⟨h, ?_⟩, h1⟩
        rw [I.sz, ← h]; exact hi
    rw [← I.old t fun j e hj he => (hno j e hj he).2]
    cases hdd : d.ci.dst with
    | none => rfl
    | some t' =>
      have hne : t' ≠ t := by
        rintro rfl
        exact (hno i d hd hdd).1 rfl
      simp only [Act.put]
      rw [Array.getElem?_setIfInBounds_ne hne]
  · rw [← I.asz]
    cases hdd : d.ci.dst with
    | none => rfl
    | some t' => simp [Act.put]
  · rw [← I.adf]
    cases hdd : d.ci.dst <;> rfl

end Go.Sx
