/- TREES UNDER CONDITIONS: which way a tree goes, where some conditions are known; one tree against another one. -/
import Derived.Test.YtanhchkdglglhaaDoorSpSxLoopV
/-! TREES UNDER CONDITIONS: which way a tree goes, where some conditions are known; one tree against another one. -/
namespace Go.Sx
open Go.RowKit

/-- a condition that is known: 'a ≤ b', 'a = b' or any other one, and whether it holds -/
structure Asm where
  c : BE
  b : Bool

/-- comparisons in one form: 'a ≤ b', with whether it holds -/
noncomputable def canon (c : BE) (b : Bool) : Asm :=
  match c with
  | .cmp .leq x y => ⟨.cmp .leq x y, b⟩
  | .cmp .geq x y => ⟨.cmp .leq y x, b⟩
  | .cmp .lss x y => ⟨.cmp .leq y x, Bool.not b⟩
  | .cmp .gtr x y => ⟨.cmp .leq x y, Bool.not b⟩
  | .cmp .neq x y => ⟨.cmp .eql x y, Bool.not b⟩
  | c => ⟨c, b⟩

theorem canon_den {ρ : Rho} (c : BE) (b : Bool) : (canon c b).c.den ρ = (canon c b).b ↔ c.den ρ = b := by
  unfold canon
  split
  · exact Iff.rfl
  · simp only [BE.den, cmpDen]
  · rename_i x y
    simp only [BE.den, cmpDen]
    by_cases h : IE.den ρ x < IE.den ρ y
    · have h2 : ¬ IE.den ρ y ≤ IE.den ρ x := by omega
      simp only [h, h2, decide_true, decide_false]; cases b <;> simp
    · have h2 : IE.den ρ y ≤ IE.den ρ x := by omega
      simp only [h, h2, decide_true, decide_false]; cases b <;> simp
  · rename_i x y
    simp only [BE.den, cmpDen]
    by_cases h : IE.den ρ x ≤ IE.den ρ y
    · have h2 : ¬ IE.den ρ x > IE.den ρ y := by omega
      simp only [h, h2, decide_true, decide_false]; cases b <;> simp
    · have h2 : IE.den ρ x > IE.den ρ y := by omega
      simp only [h, h2, decide_true, decide_false]; cases b <;> simp
  · rename_i x y
    simp only [BE.den, cmpDen]
    cases h : (IE.den ρ x == IE.den ρ y) with
    | true => simp only [bne, h]; cases b <;> simp
    | false => simp only [bne, h]; cases b <;> simp
  · exact Iff.rfl

noncomputable def findA (c : BE) (l : List Asm) : Option Bool := @List.rec Asm (fun _ => Option Bool) none (fun a _ ih => cond (eqBE a.c c) (some a.b) ih) l
/-- is it known whether a condition holds? -/
noncomputable def decB (l : List Asm) : BE → Option Bool
  | .lit b => some b
  | .not a => (match decB l a with
    | some b => some (Bool.not b)
    | none => none)
  | .and a b => (match decB l a with
    | some false => some false
    | some true => decB l b
    | none => (match decB l b with
      | some false => some false
      | _ => none))
  | .cmp o x y => (match findA (canon (.cmp o x y) true).c l with
    | some b => some (cond (canon (.cmp o x y) true).b b (Bool.not b))
    | none => none)
  | c => findA c l

def AsmOk (ρ : Rho) (l : List Asm) : Prop := ∀ a ∈ l, a.c.den ρ = a.b

theorem findA_ok {ρ : Rho} {c : BE} : ∀ {l : List Asm} {b : Bool}, AsmOk ρ l → findA c l = some b → c.den ρ = b
  | [], b, _, h => by cases h
  | a :: l, b, H, h => by
    have h : cond (eqBE a.c c) (some a.b) (findA c l) = some b := h
    cases he : eqBE a.c c with
    | true =>
      rw [he] at h; cases h
      rw [← eqBE_eq _ _ he]; exact H a List.mem_cons_self
    | false => rw [he] at h; exact findA_ok (fun x hx => H x (List.mem_cons_of_mem _ hx)) h

theorem decB_ok {ρ : Rho} {l : List Asm} (H : AsmOk ρ l) : ∀ (c : BE) (b : Bool), decB l c = some b → c.den ρ = b
  | .lit x, b, h => by simp only [decB, Option.some.injEq] at h; exact h
  | .var i, b, h => by simp only [decB] at h; exact findA_ok H h
  | .app f x y z, b, h => by simp only [decB] at h; exact findA_ok H h
  | .iff x y, b, h => by simp only [decB] at h; exact findA_ok H h
  | .not a, b, h => by
    simp only [decB] at h
    split at h
    · rename_i x hx; cases h; simp only [BE.den, decB_ok H a x hx]
    · cases h
  | .and a c, b, h => by
    simp only [decB] at h
    split at h
    · rename_i hx; cases h; simp only [BE.den, decB_ok H a false hx, Bool.false_and]
    · rename_i hx; simp only [BE.den, decB_ok H a true hx, decB_ok H c b h, Bool.true_and]
    · split at h
      · rename_i hy; cases h; simp only [BE.den, decB_ok H c false hy, Bool.and_false]
      · cases h
  | .cmp o x y, b, h => by
    simp only [decB] at h
    split at h
    · rename_i z hz
      cases h
      have h1 := findA_ok H hz
      have h2 := canon_den (ρ := ρ) (.cmp o x y) true
      have e : (canon (.cmp o x y) true).c = (canon (.cmp o x y) false).c ∧ (canon (.cmp o x y) false).b = Bool.not (canon (.cmp o x y) true).b := by
        cases o <;> exact ⟨rfl, rfl⟩
      cases hb : (canon (.cmp o x y) true).b with
      | true =>
        rw [cond_true]
        cases z with
        | true => exact h2.1 (by rw [hb]; exact h1)
        | false =>
          refine (canon_den (.cmp o x y) false).1 ?_
          rw [← e.1, e.2, hb]; exact h1
      | false =>
        rw [cond_false]
        cases z with
        | false => exact h2.1 (by rw [hb]; exact h1)
        | true =>
          refine (canon_den (.cmp o x y) false).1 ?_
          rw [← e.1, e.2, hb]; exact h1
    · cases h

/-- a condition, taken apart, that is known from now on -/
noncomputable def addB (b : Bool) : BE → List Asm → List Asm
  | .lit _, l => l
  | .not a, l => addB (Bool.not b) a l
  | .and x y, l => cond b (addB b x (addB b y l)) (⟨.and x y, b⟩ :: l)
  | c, l => canon c b :: l

theorem addB_ok {ρ : Rho} : ∀ (c : BE) (b : Bool) (l : List Asm), AsmOk ρ l → c.den ρ = b → AsmOk ρ (addB b c l)
  | .lit _, b, l, H, _ => H
  | .not a, b, l, H, h => by
    simp only [addB]
    refine addB_ok a _ l H ?_
    simp only [BE.den] at h
    rw [← h, Bool.not_not]
  | .and x y, b, l, H, h => by
    simp only [addB]
    cases b with
    | true =>
      simp only [BE.den, Bool.and_eq_true] at h
      exact addB_ok x true _ (addB_ok y true l H h.2) h.1
    | false =>
      intro a ha
      rcases List.mem_cons.1 ha with rfl | ha
      · exact h
      · exact H a ha
  | .var i, b, l, H, h => by
    intro a ha
    rcases List.mem_cons.1 ha with rfl | ha
    · exact (canon_den (.var i) b).2 h
    · exact H a ha
  | .app f x y z, b, l, H, h => by
    intro a ha
    rcases List.mem_cons.1 ha with rfl | ha
    · exact (canon_den (.app f x y z) b).2 h
    · exact H a ha
  | .iff x y, b, l, H, h => by
    intro a ha
    rcases List.mem_cons.1 ha with rfl | ha
    · exact (canon_den (.iff x y) b).2 h
    · exact H a ha
  | .cmp o x y, b, l, H, h => by
    intro a ha
    rcases List.mem_cons.1 ha with rfl | ha
    · exact (canon_den (.cmp o x y) b).2 h
    · exact H a ha

/-- does each way of a tree that can be end so? -/
noncomputable def allWays {α : Type} (Q : List Asm → α → Bool) (t : T α) : List Asm → Bool :=
  @T.rec α (fun _ => List Asm → Bool) (fun a l => Q l a)
    (fun c _ _ ih1 ih2 l => match decB l c with
      | some b => cond b (ih1 l) (ih2 l)
      | none => and (ih1 (addB true c l)) (ih2 (addB false c l)))
    (fun _ _ => false) t

theorem allWays_ok {α : Type} {ρ : Rho} {Q : List Asm → α → Bool} {P : α → Prop} (hQ : ∀ l a, AsmOk ρ l → Q l a = true → P a) : ∀ (t : T α) (l : List Asm), AsmOk ρ l → allWays Q t l = true → t.Holds ρ P
  | .ret a, l, H, h => hQ l a H h
  | .fail w, l, H, h => by cases h
  | .br c x y, l, H, h => by
    have h : (match decB l c with
      | some b => cond b (allWays Q x l) (allWays Q y l)
      | none => and (allWays Q x (addB true c l)) (allWays Q y (addB false c l))) = true := h
    simp only [T.Holds]
    split at h
    · rename_i b hb
      have hc := decB_ok H c b hb
      cases b with
      | true => rw [hc, if_pos rfl]; exact allWays_ok hQ x l H h
      | false => rw [hc, if_neg (by simp)]; exact allWays_ok hQ y l H h
    · simp only [Bool.and_eq_true] at h
      cases hc : c.den ρ with
      | true => rw [if_pos rfl]; exact allWays_ok hQ x _ (addB_ok c true l H hc) h.1
      | false => rw [if_neg (by simp)]; exact allWays_ok hQ y _ (addB_ok c false l H hc) h.2

/-- where a tree ends under conditions; 'dead': it ends nowhere, whatever holds -/
inductive Lf (α : Type) where
  | at_ (a : α)
  | dead
  | open_
noncomputable def leafA {α : Type} (t : T α) (l : List Asm) : Lf α :=
  @T.rec α (fun _ => Lf α) (fun a => .at_ a)
    (fun c _ _ x y => match decB l c with
      | some b => cond b x y
      | none => .open_)
    (fun _ => .dead) t

theorem leafA_at {α : Type} {ρ : Rho} {l : List Asm} (H : AsmOk ρ l) {P : α → Prop} : ∀ (t : T α) (a : α), leafA t l = .at_ a → t.Holds ρ P → P a
  | .ret b, a, h, k => by cases h; exact k
  | .fail w, a, h, k => k.elim
  | .br c x y, a, h, k => by
    have h : (match decB l c with
      | some b => cond b (leafA x l) (leafA y l)
      | none => .open_) = .at_ a := h
    split at h
    · rename_i b hb
      have hc := decB_ok H c b hb
      simp only [T.Holds, hc] at k
      cases b with
      | true => rw [if_pos rfl] at k; exact leafA_at H x a h k
      | false => rw [if_neg (by simp)] at k; exact leafA_at H y a h k
    · cases h
theorem leafA_dead {α : Type} {ρ : Rho} {l : List Asm} (H : AsmOk ρ l) {P : α → Prop} : ∀ (t : T α), leafA t l = .dead → t.Holds ρ P → False
  | .ret b, h, k => by cases h
  | .fail w, h, k => k
  | .br c x y, h, k => by
    have h : (match decB l c with
      | some b => cond b (leafA x l) (leafA y l)
      | none => .open_) = .dead := h
    split at h
    · rename_i b hb
      have hc := decB_ok H c b hb
      simp only [T.Holds, hc] at k
      cases b with
      | true => rw [if_pos rfl] at k; exact leafA_dead H x h k
      | false => rw [if_neg (by simp)] at k; exact leafA_dead H y h k
    · cases h

/-- ONE TREE SERVES FOR ANOTHER: wherever the run's tree 't' ends, the said one 'u' ends alike, or nowhere. -/
noncomputable def serves {α : Type} (eq : α → α → Bool) (u : T α) (t : T α) : List Asm → Bool :=
  @T.rec α (fun _ => List Asm → Bool)
    (fun a l => match leafA u l with
      | .at_ b => eq a b
      | .dead => true
      | .open_ => false)
    (fun c _ _ ih1 ih2 l => match leafA u l with
      | .dead => true
      | _ => (match decB l c with
        | some b => cond b (ih1 l) (ih2 l)
        | none => and (ih1 (addB true c l)) (ih2 (addB false c l))))
    (fun _ l => match leafA u l with
      | .dead => true
      | _ => false) t

theorem serves_ok {α : Type} {ρ : Rho} {eq : α → α → Bool} {P : α → Prop} (heq : ∀ a b, eq a b = true → a = b) {u : T α} (hu : u.Holds ρ P) : ∀ (t : T α) (l : List Asm), AsmOk ρ l → serves eq u t l = true → t.Holds ρ P
  | .ret a, l, H, h => by
    have h : (match leafA u l with
      | .at_ b => eq a b
      | .dead => true
      | .open_ => false) = true := h
    split at h
    · rename_i b hb
      have := leafA_at H u b hb hu
      rw [← heq a b h] at this; exact this
    · rename_i hd; exact (leafA_dead H u hd hu).elim
    · cases h
  | .fail w, l, H, h => by
    have h : (match leafA u l with
      | .dead => true
      | _ => false) = true := h
    split at h
    · rename_i hd; exact (leafA_dead H u hd hu).elim
    · cases h
  | .br c x y, l, H, h => by
    have h : (match leafA u l with
      | .dead => true
      | _ => (match decB l c with
        | some b => cond b (serves eq u x l) (serves eq u y l)
        | none => and (serves eq u x (addB true c l)) (serves eq u y (addB false c l)))) = true := h
    split at h
    · rename_i hd; exact (leafA_dead H u hd hu).elim
    · simp only [T.Holds]
      split at h
      · rename_i b hb
        have hc := decB_ok H c b hb
        cases b with
        | true => rw [hc, if_pos rfl]; exact serves_ok heq hu x l H h
        | false => rw [hc, if_neg (by simp)]; exact serves_ok heq hu y l H h
      · simp only [Bool.and_eq_true] at h
        cases hc : c.den ρ with
        | true => rw [if_pos rfl]; exact serves_ok heq hu x _ (addB_ok c true l H hc) h.1
        | false => rw [if_neg (by simp)]; exact serves_ok heq hu y _ (addB_ok c false l H hc) h.2

theorem T.holds_weak {α : Type} {ρ : Rho} {P Q : α → Prop} : ∀ {t : T α}, t.Holds ρ P → (∀ a, P a → Q a) → t.Holds ρ Q
  | .ret a, h, k => k a h
  | .fail w, h, _ => h.elim
  | .br c x y, h, k => by
    simp only [T.Holds] at h ⊢
    split at h
    · rename_i hc; rw [if_pos hc]; exact T.holds_weak h k
    · rename_i hc; rw [if_neg hc]; exact T.holds_weak h k

theorem serves_ok2 {α : Type} {ρ : Rho} {eq : α → α → Bool} {P R : α → Prop} (heq : ∀ a b, eq a b = true → a = b ∧ R a) {u : T α} (hu : u.Holds ρ P) : ∀ (t : T α) (l : List Asm), AsmOk ρ l → serves eq u t l = true → t.Holds ρ fun a => R a ∧ P a
  | .ret a, l, H, h => by
    have h : (match leafA u l with
      | .at_ b => eq a b
      | .dead => true
      | .open_ => false) = true := h
    split at h
    · rename_i b hb
      have := leafA_at H u b hb hu
      obtain ⟨h1, h2⟩ := heq a b h
      exact ⟨h2, h1 ▸ this⟩
    · rename_i hd; exact (leafA_dead H u hd hu).elim
    · cases h
  | .fail w, l, H, h => by
    have h : (match leafA u l with
      | .dead => true
      | _ => false) = true := h
    split at h
    · rename_i hd; exact (leafA_dead H u hd hu).elim
    · cases h
  | .br c x y, l, H, h => by
    have h : (match leafA u l with
      | .dead => true
      | _ => (match decB l c with
        | some b => cond b (serves eq u x l) (serves eq u y l)
        | none => and (serves eq u x (addB true c l)) (serves eq u y (addB false c l)))) = true := h
    split at h
    · rename_i hd; exact (leafA_dead H u hd hu).elim
    · simp only [T.Holds]
      split at h
      · rename_i b hb
        have hc := decB_ok H c b hb
        cases b with
        | true => rw [hc, if_pos rfl]; exact serves_ok2 heq hu x l H h
        | false => rw [hc, if_neg (by simp)]; exact serves_ok2 heq hu y l H h
      · simp only [Bool.and_eq_true] at h
        cases hc : c.den ρ with
        | true => rw [if_pos rfl]; exact serves_ok2 heq hu x _ (addB_ok c true l H hc) h.1
        | false => rw [if_neg (by simp)]; exact serves_ok2 heq hu y _ (addB_ok c false l H hc) h.2

end Go.Sx
