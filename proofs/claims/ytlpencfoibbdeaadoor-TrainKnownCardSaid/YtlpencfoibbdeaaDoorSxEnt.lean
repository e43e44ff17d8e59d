/- CALLS THAT ARE TAKEN AS MADE: what they read is held against what lies there, wherever it lies; what they make is laid anew. -/
import Derived.Test.YtlpencfoibbdeaaDoorSxView
import Derived.Test.YtlpencfoibbdeaaDoorSxEntD
/-! CALLS THAT ARE TAKEN AS MADE: what they read is held against what lies there, wherever it lies; what they make is laid anew. -/
namespace Go.Sx
open Go.RowKit

theorem eqFn_eq {a b : Fn} (h : eqFn a b = true) : a = b := by
  cases a <;> cases b <;> simp only [eqFn] at h <;> first | (cases h; done) | skip
  rw [beq_t.1 h]

structure Rel (n : Nat) (E ES : Env) (r : Ren) : Prop where
  ρ : ES.ρ = E.ρ
  lo : ∀ b, b < 1000 → ES.σ b = E.σ b ∧ ES.κ b = E.κ b
  at_ : ∀ b c, 1000 ≤ b → b < n → lFind r b = some c → ES.σ b = E.σ c ∧ ES.κ b = E.κ c

def SubR (n : Nat) (r r' : Ren) : Prop := ∀ b c, 1000 ≤ b → b < n → lFind r b = some c → lFind r' b = some c
theorem SubR.refl (n : Nat) (r : Ren) : SubR n r r := fun _ _ _ _ h => h
theorem SubR.trans {n : Nat} {r s t : Ren} (h : SubR n r s) (k : SubR n s t) : SubR n r t := fun b c h1 h2 e => k b c h1 h2 (h b c h1 h2 e)
theorem Rel.sub {n : Nat} {E ES : Env} {r r' : Ren} (h : Rel n E ES r') (k : SubR n r r') : Rel n E ES r := ⟨h.ρ, h.lo, fun b c h1 h2 e => h.at_ b c h1 h2 (k b c h1 h2 e)⟩

theorem bindR_ok {n b b' : Nat} {r r' : Ren} (h : bindR n b b' r = some r') :
    SubR n r r' ∧ ∀ E ES, Rel n E ES r' → ES.σ b = E.σ b' ∧ ES.κ b = E.κ b' := by
  unfold bindR at h
  cases h1 : Nat.ble (Nat.succ b) 1000 with
  | true =>
    rw [h1, cond_true] at h
    cases h2 : Nat.beq b b' with
    | false => rw [h2] at h; cases h
    | true =>
      rw [h2] at h; cases h
      have e := beq_t.1 h2
      subst e
      exact ⟨SubR.refl _ _, fun E ES R => R.lo b (ble_t.1 h1)⟩
  | false =>
    rw [h1, cond_false] at h
    have hb : 1000 ≤ b := by
      rcases Nat.lt_or_ge b 1000 with k | k
      · have := ble_t.2 k; rw [h1] at this; cases this
      · exact k
    cases h3 : Nat.ble (Nat.succ b) n with
    | false => rw [h3] at h; cases h
    | true =>
      rw [h3, cond_true] at h
      have hn : b < n := ble_t.1 h3
      cases h2 : lFind r b with
      | some c =>
        rw [h2] at h
        simp only at h
        cases h4 : Nat.beq c b' with
        | false => rw [h4] at h; cases h
        | true =>
          rw [h4] at h; cases h
          have e := beq_t.1 h4
          subst e
          exact ⟨SubR.refl _ _, fun E ES R => R.at_ b c hb hn h2⟩
      | none =>
        rw [h2] at h
        simp only at h
        cases h
        refine ⟨fun i c _ _ e => ?_, fun E ES R => R.at_ b b' hb hn (by rw [lFind_cons, beq_t.2 rfl]; rfl)⟩
        rw [lFind_cons]
        cases hi : Nat.beq b i with
        | true => have := beq_t.1 hi; subst this; rw [h2] at e; cases e
        | false => exact e

theorem cond_some {α : Type} {c : Bool} {x : Option α} {y : α} (h : cond c x none = some y) : c = true ∧ x = some y := by
  cases c with
  | true => exact ⟨rfl, h⟩
  | false => cases h

mutual
theorem mtV_ok {n : Nat} : ∀ (a a' : AV) (r r' : Ren), mtV n a a' r = some r' → SubR n r r' ∧ ∀ E ES, Rel n E ES r' → conc ES a = conc E a'
  | .ptr b o, a', r, r', h => by
    cases a' <;> simp only [mtV] at h <;> first | (cases h; done) | skip
    obtain ⟨h1, h2⟩ := cond_some h
    have := beq_t.1 h1; subst this
    obtain ⟨q1, q2⟩ := bindR_ok h2
    exact ⟨q1, fun E ES R => by simp only [conc, (q2 E ES R).1]⟩
  | .slice b o l c, a', r, r', h => by
    cases a' <;> simp only [mtV] at h <;> first | (cases h; done) | skip
    obtain ⟨h1, h2⟩ := cond_some h
    simp only [Bool.and_eq_true] at h1
    have e1 := beq_t.1 h1.1; have e2 := beq_t.1 h1.2.1; have e3 := beq_t.1 h1.2.2; subst e1; subst e2; subst e3
    obtain ⟨q1, q2⟩ := bindR_ok h2
    exact ⟨q1, fun E ES R => by simp only [conc, (q2 E ES R).1]⟩
  | .sliceX b o l c, a', r, r', h => by
    cases a' <;> simp only [mtV] at h <;> first | (cases h; done) | skip
    obtain ⟨h1, h2⟩ := cond_some h
    simp only [Bool.and_eq_true] at h1
    have e1 := beq_t.1 h1.1; have e2 := beq_t.1 h1.2.1; have e3 := beq_t.1 h1.2.2; subst e1; subst e2; subst e3
    obtain ⟨q1, q2⟩ := bindR_ok h2
    exact ⟨q1, fun E ES R => by simp only [conc, (q2 E ES R).1, (q2 E ES R).2]⟩
  | .agg x, a', r, r', h => by
    cases a' <;> simp only [mtV] at h <;> first | (cases h; done) | skip
    obtain ⟨q1, q2⟩ := mtL_ok x _ r r' h
    exact ⟨q1, fun E ES R => by simp only [conc, q2 E ES R]⟩
  | .tup x, a', r, r', h => by
    cases a' <;> simp only [mtV] at h <;> first | (cases h; done) | skip
    obtain ⟨q1, q2⟩ := mtL_ok x _ r r' h
    exact ⟨q1, fun E ES R => by simp only [conc, q2 E ES R]⟩
  | .func fn x y, a', r, r', h => by
    cases a' <;> simp only [mtV] at h <;> first | (cases h; done) | skip
    rename_i fn' x' y'
    obtain ⟨h1, h2⟩ := cond_some h
    have e1 := eqFn_eq h1; subst e1
    cases h3 : mtL n x x' r with
    | none => rw [h3] at h2; cases h2
    | some r1 =>
      rw [h3] at h2
      obtain ⟨q1, q2⟩ := mtL_ok x _ r r1 h3
      obtain ⟨q3, q4⟩ := mtL_ok y _ r1 r' h2
      exact ⟨q1.trans q3, fun E ES R => by simp only [conc, q2 E ES (R.sub q3), q4 E ES R]⟩
  | .bool b, a', r, r', h => by
    cases a' <;> simp only [mtV] at h <;> first | (cases h; done) | skip
    obtain ⟨h1, h2⟩ := cond_some h
    cases h2
    have := eqBE_eq _ _ h1; subst this
    exact ⟨SubR.refl _ _, fun E ES R => by simp only [conc, R.ρ]⟩
  | .int k e, a', r, r', h => by
    cases a' <;> simp only [mtV] at h <;> first | (cases h; done) | skip
    obtain ⟨h1, h2⟩ := cond_some h
    cases h2
    simp only [Bool.and_eq_true] at h1
    have e1 := kindEq_eq h1.1; have e2 := eqIE_eq _ _ h1.2; subst e1; subst e2
    exact ⟨SubR.refl _ _, fun E ES R => by simp only [conc, R.ρ]⟩
  | .nilptr, a', r, r', h => by
    cases a' <;> simp only [mtV] at h <;> first | (cases h; done) | skip
    cases h; exact ⟨SubR.refl _ _, fun E ES R => rfl⟩
  | .nilslice, a', r, r', h => by
    cases a' <;> simp only [mtV] at h <;> first | (cases h; done) | skip
    cases h; exact ⟨SubR.refl _ _, fun E ES R => rfl⟩
  | .nilmap, a', r, r', h => by
    cases a' <;> simp only [mtV] at h <;> first | (cases h; done) | skip
    cases h; exact ⟨SubR.refl _ _, fun E ES R => rfl⟩
  | .nilFunc, a', r, r', h => by
    cases a' <;> simp only [mtV] at h <;> first | (cases h; done) | skip
    cases h; exact ⟨SubR.refl _ _, fun E ES R => rfl⟩
  | .map b, a', r, r', h => by cases a' <;> simp only [mtV] at h <;> cases h
  | .yieldF b, a', r, r', h => by cases a' <;> simp only [mtV] at h <;> cases h
  | .opq b, a', r, r', h => by cases a' <;> simp only [mtV] at h <;> cases h
  | .bad, a', r, r', h => by cases a' <;> simp only [mtV] at h <;> cases h
theorem mtL_ok {n : Nat} : ∀ (l l' : List AV) (r r' : Ren), mtL n l l' r = some r' → SubR n r r' ∧ ∀ E ES, Rel n E ES r' → concL ES l = concL E l'
  | [], l', r, r', h => by
    cases l' <;> simp only [mtL] at h
    · cases h; exact ⟨SubR.refl _ _, fun E ES R => rfl⟩
    · cases h
  | a :: l, l', r, r', h => by
    cases l' with
    | nil => simp only [mtL] at h; cases h
    | cons b m =>
      simp only [mtL] at h
      cases h3 : mtV n a b r with
      | none => rw [h3] at h; cases h
      | some r1 =>
        rw [h3] at h
        obtain ⟨q1, q2⟩ := mtV_ok a b r r1 h3
        obtain ⟨q3, q4⟩ := mtL_ok l m r1 r' h
        exact ⟨q1.trans q3, fun E ES R => by simp only [concL, q2 E ES (R.sub q3), q4 E ES R]⟩
end

theorem mtView_ok {n : Nat} {h : Heap} : ∀ (l : List (Nat × List AV)) (r r' : Ren), mtView n h l r = some r' → SubR n r r' ∧
    ∀ {p : Par} {E ES : Env} {w0 w : World}, Rel n E ES r' → HeapOk p E h w0 w → ∀ g ∈ l, ViewIn w ES g
  | [], r, r', e => by
    simp only [mtView, Option.some.injEq] at e; subst e
    exact ⟨SubR.refl _ _, fun _ _ g hg => by cases hg⟩
  | g :: l, r, r', e => by
    simp only [mtView] at e
    split at e
    · rename_i b hb
      split at e
      · rename_i cs hcs
        split at e
        · rename_i r1 h1
          obtain ⟨q1, q2⟩ := mtL_ok g.2 cs r r1 h1
          obtain ⟨q3, q4⟩ := mtView_ok l r1 r' e
          refine ⟨q1.trans q3, fun {p E ES w0 w} R HH g' hg' => ?_⟩
          rcases List.mem_cons.1 hg' with rfl | hg'
          · have hσ : ES.σ g'.1 = E.σ b := by
              cases h2 : Nat.ble (Nat.succ g'.1) 1000 with
              | true => rw [h2] at hb; cases hb; exact (R.lo _ (ble_t.1 h2)).1
              | false =>
                rw [h2, cond_false] at hb
                obtain ⟨h3, h4⟩ := cond_some hb
                have h5 : 1000 ≤ g'.1 := by
                  rcases Nat.lt_or_ge g'.1 1000 with k | k
                  · have := ble_t.2 k; rw [h2] at this; cases this
                  · exact k
                exact (R.at_ _ _ h5 (ble_t.1 h3) ((q1.trans q3) _ _ h5 (ble_t.1 h3) h4)).1
            unfold Heap.cells at hcs
            split at hcs
            · rename_i cs' el own ext hg
              cases hcs
              exact (ViewIn.of_heap HH hg).re hσ (q2 E ES (R.sub q3))
            · cases hcs
          · exact q4 R HH g' hg'
        · cases e
      · cases e
    · cases e

/-- the entry's names -/
noncomputable def envR (n : Nat) (E : Env) (r : Ren) : Env :=
  ⟨E.ρ, fun b => if b < 1000 then some (b, 0) else if b < n then (match lFind r b with | some c => E.σ c | none => none) else none,
    fun b => if b < 1000 then E.κ b else if b < n then (match lFind r b with | some c => E.κ c | none => 0) else 0, n, fun _ => #[]⟩

theorem envR_rel {n : Nat} {E : Env} {r : Ren} (hg : ∀ b, b < 1000 → E.σ b = some (b, 0)) : Rel n E (envR n E r) r := by
  refine ⟨rfl, fun b hb => ?_, fun b c h1 h2 e => ?_⟩
  · simp only [envR, if_pos hb, hg b hb, and_self]
  · simp only [envR, if_neg (show ¬ b < 1000 by omega), if_pos h2, e, and_self]

/-! ## What is handed back -/
structure RelB (g : Nat → Option Nat) (E1 E2 : Env) : Prop where
  ρ : E2.ρ = E1.ρ
  at_ : ∀ b c q, g b = some c → E1.σ b = some q → E2.σ c = some q ∧ E2.κ c = E1.κ b

mutual
theorem rnV_ok {g : Nat → Option Nat} {E1 E2 : Env} (R : RelB g E1 E2) : ∀ (a a' : AV) (v : Value), rnV g a = some a' → conc E1 a = some v → conc E2 a' = some v
  | .ptr b o, a', v, h, e => by
    simp only [rnV] at h
    split at h
    · rename_i b' hb
      cases h
      simp only [conc, Option.map_eq_some_iff] at e ⊢
      obtain ⟨q, hq, e⟩ := e
      exact ⟨q, (R.at_ _ _ _ hb hq).1, e⟩
    · cases h
  | .slice b o l c, a', v, h, e => by
    simp only [rnV] at h
    split at h
    · rename_i b' hb
      cases h
      simp only [conc, Option.map_eq_some_iff] at e ⊢
      obtain ⟨q, hq, e⟩ := e
      exact ⟨q, (R.at_ _ _ _ hb hq).1, e⟩
    · cases h
  | .sliceX b o l c, a', v, h, e => by
    simp only [rnV] at h
    split at h
    · rename_i b' hb
      cases h
      simp only [conc] at e ⊢
      split at e
      · rename_i hl
        simp only [Option.map_eq_some_iff] at e
        obtain ⟨q, hq, e⟩ := e
        obtain ⟨h1, h2⟩ := R.at_ _ _ _ hb hq
        rw [if_pos (by rw [h2]; exact hl), h1, h2, Option.map_some, e]
      · cases e
    · cases h
  | .agg x, a', v, h, e => by
    simp only [rnV] at h
    split at h
    · rename_i y hy
      cases h
      simp only [conc, Option.map_eq_some_iff] at e ⊢
      obtain ⟨q, hq, e⟩ := e
      exact ⟨q, rnL_ok R x y q hy hq, e⟩
    · cases h
  | .tup x, a', v, h, e => by
    simp only [rnV] at h
    split at h
    · rename_i y hy
      cases h
      simp only [conc, Option.map_eq_some_iff] at e ⊢
      obtain ⟨q, hq, e⟩ := e
      exact ⟨q, rnL_ok R x y q hy hq, e⟩
    · cases h
  | .bool a, a', v, h, e => by simp only [rnV, Option.some.injEq] at h; subst h; simpa only [conc, R.ρ] using e
  | .int k a, a', v, h, e => by simp only [rnV, Option.some.injEq] at h; subst h; simpa only [conc, R.ρ] using e
  | .nilptr, a', v, h, e => by simp only [rnV, Option.some.injEq] at h; subst h; exact e
  | .nilslice, a', v, h, e => by simp only [rnV, Option.some.injEq] at h; subst h; exact e
  | .nilmap, a', v, h, e => by simp only [rnV, Option.some.injEq] at h; subst h; exact e
  | .nilFunc, a', v, h, e => by simp only [rnV, Option.some.injEq] at h; subst h; exact e
  | .map b, a', v, h, e => by simp only [rnV] at h; cases h
  | .func f x y, a', v, h, e => by simp only [rnV] at h; cases h
  | .yieldF b, a', v, h, e => by simp only [rnV] at h; cases h
  | .opq b, a', v, h, e => by simp only [rnV] at h; cases h
  | .bad, a', v, h, e => by simp only [rnV] at h; cases h
theorem rnL_ok {g : Nat → Option Nat} {E1 E2 : Env} (R : RelB g E1 E2) : ∀ (l l' : List AV) (vs : List Value), rnL g l = some l' → concL E1 l = some vs → concL E2 l' = some vs
  | [], l', vs, h, e => by simp only [rnL, Option.some.injEq] at h; subst h; exact e
  | a :: l, l', vs, h, e => by
    simp only [rnL] at h
    split at h
    · rename_i b hb
      split at h
      · rename_i m hm
        cases h
        obtain ⟨v, rest, h1, h2, rfl⟩ := concL_cons.1 e
        exact concL_cons.2 ⟨v, rest, rnV_ok R a b v hb h1, rnL_ok R l m rest hm h2, rfl⟩
      · cases h
    · cases h
end

/-! ## Blocks laid anew -/
theorem newsH_next {g : Nat → Option Nat} : ∀ (l : List (Nat × NB)) (h h2 : Heap), newsH g l h = some h2 → h2.next = h.next + l.length
  | [], h, h2, e => by simp only [newsH, Option.some.injEq] at e; subst e; rfl
  | q :: l, h, h2, e => by
    simp only [newsH] at e
    split at e
    · rename_i cs hcs
      rw [newsH_next l _ h2 e, Heap.next_new, List.length_cons]; omega
    · cases e

theorem newsH_get {g : Nat → Option Nat} : ∀ (l : List (Nat × NB)) (h h2 : Heap), newsH g l h = some h2 → ∀ j o, h2.get j = some o →
    (h.get j = some o ∧ (j < h.next ∨ h.next + l.length ≤ j)) ∨ ∃ i q cs, l[i]? = some q ∧ j = h.next + i ∧ rnL g q.2.cs = some cs ∧ o = .cells cs q.2.el true q.2.ext
  | [], h, h2, e, j, o, ho => by
    simp only [newsH, Option.some.injEq] at e; subst e
    refine .inl ⟨ho, ?_⟩
    simp only [List.length_nil]; omega
  | q :: l, h, h2, e, j, o, ho => by
    simp only [newsH] at e
    split at e
    · rename_i cs hcs
      rcases newsH_get l _ h2 e j o ho with ⟨h1, h3⟩ | ⟨i, q', cs', h1, h3, h4, h5⟩
      · rw [Heap.get_new] at h1
        by_cases hj : j = h.next
        · rw [if_pos hj] at h1; cases h1
          exact .inr ⟨0, q, cs, rfl, by omega, hcs, rfl⟩
        · rw [if_neg hj] at h1
          rw [Heap.next_new] at h3
          refine .inl ⟨h1, ?_⟩
          simp only [List.length_cons]; omega
      · rw [Heap.next_new] at h3
        exact .inr ⟨i + 1, q', cs', by simpa using h1, by omega, h4, h5⟩
    · cases e

theorem newsR_find : ∀ (l : List (Nat × NB)) (k b c : Nat), lFind (newsR l k) b = some c → ∃ i q, l[i]? = some q ∧ q.1 = b ∧ c = k + i
  | [], k, b, c, e => by cases e
  | q :: l, k, b, c, e => by
    simp only [newsR, lFind_cons] at e
    cases h : Nat.beq q.1 b with
    | true => rw [h] at e; cases e; exact ⟨0, q, rfl, beq_t.1 h, rfl⟩
    | false =>
      rw [h] at e
      obtain ⟨i, q', h1, h2, h3⟩ := newsR_find l _ b c e
      exact ⟨i + 1, q', by simpa using h1, h2, by omega⟩

theorem rises_ge : ∀ (l : List (Nat × NB)) (n : Nat), rises n l = true → ∀ q ∈ l, n ≤ q.1
  | [], n, _, q, hq => by cases hq
  | q :: l, n, h, q', hq => by
    simp only [rises] at h
    cases h1 : Nat.ble n q.1 with
    | false => rw [h1] at h; cases h
    | true =>
      rw [h1] at h
      rcases List.mem_cons.1 hq with rfl | hq
      · exact ble_t.1 h1
      · have := rises_ge l _ h q' hq; have := ble_t.1 h1; omega

theorem rises_inj : ∀ (l : List (Nat × NB)) (n : Nat), rises n l = true → ∀ (i j : Nat) (q q' : Nat × NB), l[i]? = some q → l[j]? = some q' → q.1 = q'.1 → i = j
  | [], n, _, i, j, q, q', h1, _, _ => by simp at h1
  | p :: l, n, h, i, j, q, q', h1, h2, e => by
    simp only [rises] at h
    cases h0 : Nat.ble n p.1 with
    | false => rw [h0] at h; cases h
    | true =>
      rw [h0] at h
      cases i with
      | zero =>
        cases j with
        | zero => rfl
        | succ j =>
          simp at h1 h2; subst h1
          have := rises_ge l _ h q' (List.mem_of_getElem? h2); omega
      | succ i =>
        cases j with
        | zero =>
          simp at h1 h2; subst h2
          have := rises_ge l _ h q (List.mem_of_getElem? h1); omega
        | succ j =>
          simp at h1 h2
          rw [rises_inj l _ h i j q q' h1 h2 e]

/-- the names here, with those of the new blocks -/
noncomputable def envN (E E1 : Env) (base : Nat) (l : List (Nat × NB)) : Env :=
  ⟨E.ρ, fun b => if b < base then E.σ b else match l[b - base]? with | some q => E1.σ q.1 | none => none,
    fun b => if b < base then E.κ b else match l[b - base]? with | some q => E1.κ q.1 | none => 0, base + l.length,
    E.rc⟩

/-- THE NEW BLOCKS LAID BESIDE WHAT LAY. -/
theorem HeapOk.merge {p : Par} {E E1 : Env} {h h1 h2 : Heap} {w0 w w' : World} {n : Nat} {r : Ren} {l : List (Nat × NB)}
    (HH : HeapOk p E h w0 w) (H1 : HeapOk p E1 h1 w w') (hle : (envR n E r).le E1) (hrise : rises n l = true)
    (hl : ∀ q ∈ l, h1.get q.1 = some (.cells q.2.cs q.2.el true q.2.ext))
    (e2 : newsH (blR n r (newsR l h.next)) l h = some h2) :
    E.le (envN E E1 h.next l) ∧ RelB (blR n r (newsR l h.next)) E1 (envN E E1 h.next l) ∧ HeapOk p (envN E E1 h.next l) h2 w0 w' := by
  have hnx := newsH_next l h h2 e2
  have hfr : ∀ b q, E.σ b = some q → b < h.next := fun b q e => by
    rcases Nat.lt_or_ge b h.next with k | k
    · exact k
    · rw [HH.fresh b k] at e; cases e
  have h1000 : 1000 ≤ h.next := by
    rcases Nat.lt_or_ge h.next 1000 with k | k
    · have := HH.glob h.next k; rw [HH.fresh _ (Nat.le_refl _)] at this; cases this
    · exact k
  have hσ0 : ∀ b, b < h.next → (envN E E1 h.next l).σ b = E.σ b := fun b hb => by simp only [envN, if_pos hb]
  have hκ0 : ∀ b, b < h.next → (envN E E1 h.next l).κ b = E.κ b := fun b hb => by simp only [envN, if_pos hb]
  have hσ1 : ∀ i q, l[i]? = some q → (envN E E1 h.next l).σ (h.next + i) = E1.σ q.1 := fun i q hq => by
    simp only [envN, if_neg (show ¬ h.next + i < h.next by omega), Nat.add_sub_cancel_left, hq]
  have hκ1 : ∀ i q, l[i]? = some q → (envN E E1 h.next l).κ (h.next + i) = E1.κ q.1 := fun i q hq => by
    simp only [envN, if_neg (show ¬ h.next + i < h.next by omega), Nat.add_sub_cancel_left, hq]
  have hσ2 : ∀ b, h.next + l.length ≤ b → (envN E E1 h.next l).σ b = none := fun b hb => by
    simp only [envN, if_neg (show ¬ b < h.next by omega)]
    rw [List.getElem?_eq_none (by omega)]
  have hEle : E.le (envN E E1 h.next l) := by
    refine ⟨⟨rfl, fun b q e => by rw [hσ0 b (hfr b q e)]; exact e, fun b q e => hκ0 b (hfr b q e), fun _ _ _ => rfl⟩, ?_, fun b hb e => ?_⟩
    · have := HH.nx; simp only [envN]; omega
    · rw [hσ0 b (Nat.lt_of_lt_of_le hb HH.nx)]; exact e
  have hR : RelB (blR n r (newsR l h.next)) E1 (envN E E1 h.next l) := by
    refine ⟨?_, fun b c q hb hq => ?_⟩
    · exact hle.ρ.symm
    · unfold blR at hb
      cases k1 : Nat.ble (Nat.succ b) 1000 with
      | true =>
        rw [k1] at hb; cases hb
        have hb' : b < 1000 := ble_t.1 k1
        have s0 : (envR n E r).σ b = some (b, 0) := by simp only [envR, if_pos hb']
        have s1 := hle.σ _ _ s0
        rw [hq] at s1; cases s1
        have kk := hle.κ _ _ s0
        rw [hσ0 b (by omega), hκ0 b (by omega), HH.glob b hb', kk]
        exact ⟨rfl, by simp only [envR, if_pos hb']⟩
      | false =>
        rw [k1, cond_false] at hb
        have hb1 : 1000 ≤ b := by
          rcases Nat.lt_or_ge b 1000 with k | k
          · have := ble_t.2 k; rw [k1] at this; cases this
          · exact k
        cases k2 : Nat.ble (Nat.succ b) n with
        | true =>
          rw [k2, cond_true] at hb
          have hbn : b < n := ble_t.1 k2
          have s0 : (envR n E r).σ b = E.σ c := by simp only [envR, if_neg (show ¬ b < 1000 by omega), if_pos hbn, hb]
          have t0 : (envR n E r).κ b = E.κ c := by simp only [envR, if_neg (show ¬ b < 1000 by omega), if_pos hbn, hb]
          cases hc : E.σ c with
          | none =>
            have := hle.none b (by simpa [envR] using hbn) (by rw [s0]; exact hc)
            rw [hq] at this; cases this
          | some q' =>
            rw [hc] at s0
            have s1 := hle.σ _ _ s0
            rw [hq] at s1; cases s1
            have hcn := hfr c _ hc
            refine ⟨by rw [hσ0 c hcn]; exact hc, ?_⟩
            rw [hκ0 c hcn, hle.κ _ _ s0, t0]
        | false =>
          rw [k2, cond_false] at hb
          obtain ⟨i, q', g1, g2, rfl⟩ := newsR_find l _ b c hb
          subst g2
          exact ⟨by rw [hσ1 i q' g1]; exact hq, hκ1 i q' g1⟩
  refine ⟨hEle, hR, ?_⟩
  have HW := HH.below
  have hbel : Below w.heap.size w w' := H1.below
  have HH' := HH.world hbel
  have newO : ∀ (i : Nat) (q : Nat × NB), l[i]? = some q → ∀ c x, E1.σ q.1 = some (c, x) → w.heap.size ≤ c ∧ c < w'.heap.size := fun i q hq c x hs => by
    have hg := hl q (List.mem_of_getElem? hq)
    exact ⟨H1.base _ _ _ _ hg rfl hs, H1.lt _ _ _ _ hg hs⟩
  have old : ∀ j o, h.get j = some o → (j < h.next ∨ h.next + l.length ≤ j) → (envN E E1 h.next l).σ j = E.σ j := fun j o _ hj => by
    rcases hj with hj | hj
    · exact hσ0 j hj
    · rw [hσ2 j hj, HH.fresh j (by omega)]
  refine ⟨fun j o ho => ?_, fun b b' o o' c x y g1 g2 w1 w2 s1 s2 => ?_, fun b o c x ho ow s => ?_, fun b cs e x c y hg s => ?_, fun b hb => ?_, fun b o c x ho s => ?_, fun b hb => ?_, ?_, ?_⟩
  · rcases newsH_get l h h2 e2 j o ho with ⟨g, hj⟩ | ⟨i, q, cs, hq, rfl, hcs, rfl⟩
    · refine (HH'.obj j o g).mono hEle.tole0 (fun hn => by rw [old j o g hj]; exact hn) (fun _ _ _ _ => rfl)
    · have hg := hl q (List.mem_of_getElem? hq)
      obtain ⟨c, base, vs, cells, el, fz, k1, k2, k3, k4, k5⟩ := H1.obj _ _ hg
      exact ⟨c, base, vs, cells, el, fz, by rw [hσ1 i q hq]; exact k1, rnL_ok hR _ _ _ hcs k2, k3, k4, by rw [hκ1 i q hq]; exact k5⟩
  · rcases newsH_get l h h2 e2 b o g1 with ⟨g1', hj1⟩ | ⟨i, q, cs, hq, rfl, hcs, rfl⟩
    · rw [old b o g1' hj1] at s1
      rcases newsH_get l h h2 e2 b' o' g2 with ⟨g2', hj2⟩ | ⟨i', q', cs', hq', rfl, hcs', rfl⟩
      · rw [old b' o' g2' hj2] at s2
        exact HH.inj b b' o o' c x y g1' g2' w1 w2 s1 s2
      · rw [hσ1 i' q' hq'] at s2
        have a1 := (newO i' q' hq' c y s2).1
        have a2 := HH.lt b o c x g1' s1
        omega
    · rw [hσ1 i q hq] at s1
      rcases newsH_get l h h2 e2 b' o' g2 with ⟨g2', hj2⟩ | ⟨i', q', cs', hq', rfl, hcs', rfl⟩
      · rw [old b' o' g2' hj2] at s2
        have a1 := (newO i q hq c x s1).1
        have a2 := HH.lt b' o' c y g2' s2
        omega
      · rw [hσ1 i' q' hq'] at s2
        have hg := hl q (List.mem_of_getElem? hq)
        have hg' := hl q' (List.mem_of_getElem? hq')
        have := H1.inj _ _ _ _ _ _ _ hg hg' rfl rfl s1 s2
        rw [rises_inj l n hrise i i' q q' hq hq' this]
  · rcases newsH_get l h h2 e2 b o ho with ⟨g, hj⟩ | ⟨i, q, cs, hq, rfl, hcs, rfl⟩
    · rw [old b o g hj] at s
      exact HH.base b o c x g ow s
    · rw [hσ1 i q hq] at s
      have := (newO i q hq c x s).1
      exact Nat.le_trans HW.size this
  · rcases newsH_get l h h2 e2 b _ hg with ⟨g, hj⟩ | ⟨i, q, cs', hq, rfl, hcs, e⟩
    · rw [old b _ g hj] at s
      exact HH.ro b cs e x c y g s
    · cases e
  · rw [hnx] at hb; exact hσ2 b hb
  · rcases newsH_get l h h2 e2 b o ho with ⟨g, hj⟩ | ⟨i, q, cs, hq, rfl, hcs, rfl⟩
    · rw [old b o g hj] at s
      exact HH'.lt b o c x g s
    · rw [hσ1 i q hq] at s
      exact (newO i q hq c x s).2
  · rw [hσ0 b (by omega)]; exact HH.glob b hb
  · exact HH'.below
  · rw [hnx]; exact Nat.le_refl _

/-! ## Entries -/
theorem beqB_eq {a b : Bool} (h : beqB a b = true) : a = b := by cases a <;> cases b <;> first | rfl | cases h

theorem newOk_get {h : Heap} {q : Nat × NB} (e : newOk h q = true) : h.get q.1 = some (.cells q.2.cs q.2.el true q.2.ext) := by
  unfold newOk at e
  split at e
  · rename_i cs el own ext hg
    simp only [Bool.and_eq_true] at e
    rw [hg, e.1, eqAVs_eq _ _ e.2.1, beq_t.1 e.2.2.1, beqB_eq e.2.2.2]
  · cases e

noncomputable def li (n : Int) : AV := .int .i64 (.lit n)
theorem lAll_cons {α : Type} {p : α → Bool} {a : α} {l : List α} (h : p a = true) (k : lAll p l = true) : lAll p (a :: l) = true := by
  show cond (p a) (lAll p l) false = true
  rw [h]; exact k

/-- THE ENTRY's CALL, RUN -/
noncomputable def Ent.run (tb : Tabs) (d : Nat) (e : Ent) : Bool :=
  match evalN tb d false e.f e.args (viewHeap e.n e.view) with
  | .ret r => and (and (eqAV r.1 e.res) (lAll (newOk r.2) e.news)) (and (rises e.n e.news) (Nat.ble 1000 e.n))
  | _ => false

theorem lAll_mem {α : Type} {p : α → Bool} : ∀ {l : List α}, lAll p l = true → ∀ a ∈ l, p a = true
  | [], _, a, h => by cases h
  | x :: l, h, a, ha => by
    have h : cond (p x) (lAll p l) false = true := h
    cases hx : p x with
    | false => rw [hx] at h; cases h
    | true =>
      rw [hx] at h
      rcases List.mem_cons.1 ha with rfl | ha
      · exact hx
      · exact lAll_mem h a ha

theorem Ent.meet_ok {p : Par} {ty : Nat → Option TI} {tb : Tabs} (B : TabOk p ty tb) {d : Nat} {e : Ent} (hrun : e.run tb d = true) {args : List AV} {h : Heap} {t : T (AV × Heap)}
    (hm : e.meet args h = some t) : CallOk p e.f args h t := by
  unfold Ent.meet at hm
  split at hm
  · rename_i r0 h0
    split at hm
    · rename_i r hr
      split at hm
      · rename_i v h2 hv hn
        cases hm
        obtain ⟨s0, m0⟩ := mtL_ok _ _ _ _ h0
        obtain ⟨s1, m1⟩ := mtView_ok _ _ _ hr
        intro vs E w0 w Q K k HH ha P
        have R : Rel e.n E (envR e.n E r) r := envR_rel HH.glob
        unfold Ent.run at hrun
        split at hrun
        · rename_i q hq
          obtain ⟨v1, h1⟩ := q
          simp only [Bool.and_eq_true] at hrun
          obtain ⟨⟨k1, k2⟩, k3, k4⟩ := hrun
          have hn1 : 1000 ≤ e.n := ble_t.1 k4
          have k1 := eqAV_eq _ _ k1
          subst k1
          have hargs : concL (envR e.n E r) e.args = some vs := by rw [m0 E _ (R.sub s1)]; exact ha
          have hview := m1 R HH
          have h1000 : ∀ b, b < 1000 → (envR e.n E r).σ b = some (b, 0) := fun b hb => by simp only [envR, if_pos hb]
          have key := eval_ok B d e.f e.args (viewHeap e.n e.view) vs (envR e.n E r) w w (fun r => r = (e.res, h1)) (fun cv w' => ∃ E1, (envR e.n E r).le E1 ∧ HeapOk p E1 h1 w w' ∧ conc E1 e.res = some cv)
            (by rw [hq]; rfl) (view_ok hview (fun b hb => by simp only [envR]; rw [if_neg (by omega), if_neg (by omega)]) h1000 (Nat.le_refl _)) hargs ?_
          · refine ⟨key.1, key.2.mono ?_⟩
            rintro ex w' ⟨cv, rfl, E1, hle, H1, hcv⟩
            obtain ⟨z1, z2, z3⟩ := HH.merge H1 hle k3 (fun q hq => newOk_get (lAll_mem k2 q hq)) hn
            exact ⟨cv, rfl, P v h2 _ w' cv k z1 z3 (rnV_ok z2 _ _ _ hv hcv)⟩
          · intro v' h' E' w' cv q hle HH' hv'
            cases q
            exact ⟨E', hle, HH', hv'⟩
        · cases hrun
      · cases hm
    · cases hm
  · cases hm

theorem entOrc_ok {p : Par} {ty : Nat → Option TI} {tb : Tabs} (B : TabOk p ty tb) {d : Nat} {f : FuncId} {args : List AV} {h : Heap} {t : T (AV × Heap)} : ∀ {l : List Ent}, lAll (Ent.run tb d) l = true → entOrc f args h l = some t → CallOk p f args h t
  | [], _, e => by cases e
  | x :: l, hl, e => by
    have e : cond (Nat.beq f x.f) (match x.meet args h with
      | some t => some t
      | none => entOrc f args h l) (entOrc f args h l) = some t := e
    have hx : Ent.run tb d x = true := lAll_mem hl x List.mem_cons_self
    have hl' : lAll (Ent.run tb d) l = true := by
      have h : cond (Ent.run tb d x) (lAll (Ent.run tb d) l) false = true := hl
      rw [hx] at h; exact h
    cases hf : Nat.beq f x.f with
    | false => rw [hf] at e; exact entOrc_ok B hl' e
    | true =>
      rw [hf, cond_true] at e
      have := beq_t.1 hf
      subst this
      cases hm : x.meet args h with
      | none => rw [hm] at e; exact entOrc_ok B hl' e
      | some u => rw [hm] at e; cases e; exact Ent.meet_ok B hx hm

end Go.Sx
