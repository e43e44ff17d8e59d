/- REGIONS WHOSE ORDER OF EVALUATION IS DRAWN: the plan's facts. -/
import Derived.Test.YtegeacnehkpinaaDoorSxQuiet
/-! REGIONS WHOSE ORDER OF EVALUATION IS DRAWN: the plan's facts. -/
namespace Go.Sx
open Go.RowKit

/-! ## The plan's entries -/
theorem cOpers_get {ty : Nat → Option TI} {n : Nat} {keep : List Nat} {ops : List Oper} : ∀ (l : List Oper) (cs : List CI), cOpers ty n keep ops l = some cs → cs.length = l.length ∧ ∀ (i : Nat) (o : Oper), l[i]? = some o → ∃ c, cs[i]? = some c ∧ cOper ty n keep ops o = some c
  | [], cs, h => by cases h; exact ⟨rfl, fun i o e => by simp at e⟩
  | o :: l, cs, h => by
    simp only [cOpers] at h
    split at h
    · rename_i c cl hc hcl
      cases h
      obtain ⟨h1, h2⟩ := cOpers_get l cl hcl
      refine ⟨by simp [h1], fun i o' e => ?_⟩
      cases i with
      | zero => simp at e; subst e; exact ⟨c, rfl, hc⟩
      | succ i => simp at e; exact h2 i o' e
    · cases h

theorem planOf_get {ty : Nat → Option TI} (effs fls ms : List Nat) : ∀ (l : List Oper) (cs : List CI) (k : Nat) (dis : List DI), cs.length = l.length → planOf ty effs fls ms k l cs = some dis → dis.length = l.length ∧
    ∀ i o c, l[i]? = some o → cs[i]? = some c → ∃ d, dis[i]? = some d ∧ planAt ty effs fls ms (k + i) o c = some d
  | [], cs, k, dis, h, hp => by
    cases cs <;> (simp only [planOf, Option.some.injEq] at hp; subst hp; exact ⟨rfl, fun i o c e => by simp at e⟩)
  | o :: l, [], k, dis, h, _ => by simp at h
  | o :: l, c :: cs, k, dis, h, hp => by
    simp only [planOf] at hp
    split at hp
    · rename_i a dl ha hl
      cases hp
      obtain ⟨h1, h2⟩ := planOf_get effs fls ms l cs (k + 1) dl (by simpa using h) hl
      refine ⟨by simp [h1], fun i o' c' e1 e2 => ?_⟩
      cases i with
      | zero => simp at e1 e2; subst e1; subst e2; exact ⟨a, rfl, ha⟩
      | succ i =>
        simp at e1 e2
        obtain ⟨d, g1, g2⟩ := h2 i o' c' e1 e2
        exact ⟨d, by simpa using g1, by rw [show k + (i + 1) = k + 1 + i by omega]; exact g2⟩
    · cases hp

/-- what a plan's entry is -/
def PlanIs (ty : Nat → Option TI) (fls ms : List Nat) (i : Nat) (o : Oper) (d : DI) : Prop :=
  (d.fl = none ∧ d.eff = isEff o.op ∧ memB fls i = false ∧ (d.eff = false → d.due = []) ∧ (d.eff = true → d.due = dueOf ms i fls fls)) ∨
  (∃ q, cFl ty o.op = some q ∧ d.fl = some (q.1, q.2, posOf fls i) ∧ d.eff = false ∧ memB fls i = true)

theorem planAt_is {ty : Nat → Option TI} {effs fls ms : List Nat} {i : Nat} {o : Oper} {c : CI} {d : DI} (h : planAt ty effs fls ms i o c = some d) : d.ci = c ∧ d.reads = readsOf o c ∧ PlanIs ty fls ms i o d := by
  unfold planAt at h
  cases hm : memB fls i with
  | true =>
    rw [hm, cond_true] at h
    split at h
    · rename_i q hq; cases h; exact ⟨rfl, rfl, .inr ⟨q, hq, rfl, rfl, hm⟩⟩
    · cases h
  | false =>
    rw [hm, cond_false] at h
    cases he : isEff o.op with
    | true => rw [he, cond_true] at h; cases h; exact ⟨rfl, rfl, .inl ⟨rfl, he.symm, hm, fun h => (by cases h), fun _ => rfl⟩⟩
    | false => rw [he, cond_false] at h; cases h; exact ⟨rfl, rfl, .inl ⟨rfl, he.symm, hm, fun _ => rfl, fun h => (by cases h)⟩⟩

theorem rowOk_get {ms : List Nat} {i : Nat} {a : DI} : ∀ (l : List DI) (k : Nat), rowOk ms i a k l = true → ∀ j b, l[j]? = some b → pairOk ms i (k + j) a b = true
  | [], k, _, j, b, e => by simp at e
  | c :: l, k, h, j, b, e => by
    simp only [rowOk, Bool.and_eq_true] at h
    cases j with
    | zero => simp at e; subst e; exact h.1
    | succ j =>
      simp at e
      have := rowOk_get l (k + 1) h.2 j b e
      rw [show k + (j + 1) = k + 1 + j by omega]; exact this

theorem rowsOk_get {ms : List Nat} {all : List DI} : ∀ (l : List DI) (k : Nat), rowsOk ms all k l = true → ∀ i a j b, l[i]? = some a → all[j]? = some b → pairOk ms (k + i) j a b = true
  | [], k, _, i, a, j, b, e, _ => by simp at e
  | c :: l, k, h, i, a, j, b, e, e2 => by
    simp only [rowsOk, Bool.and_eq_true] at h
    cases i with
    | zero => simp at e; subst e; have := rowOk_get all 0 h.1 j b e2; simpa using this
    | succ i =>
      simp at e
      have := rowsOk_get l (k + 1) h.2 i a j b e e2
      rw [show k + (i + 1) = k + 1 + i by omega]; exact this

theorem edgesOk_get : ∀ (l : List Oper) (k : Nat), edgesOk k l = true → ∀ i o, l[i]? = some o → ∀ e ∈ o.after, Region.binds .any e = true → e.on < k + i
  | [], k, _, i, o, h, _, _, _ => by simp at h
  | c :: l, k, h, i, o, e, ed, he, hb => by
    simp only [edgesOk, Bool.and_eq_true, List.all_eq_true] at h
    cases i with
    | zero =>
      simp at e; subst e
      have h1 := h.1 ed (by simpa using he)
      rw [hb] at h1
      have := ble_t.1 (by simpa using h1)
      omega
    | succ i =>
      simp at e
      have := edgesOk_get l (k + 1) h.2 i o e ed he hb
      omega

/-! ## Which operations come before -/
theorem testBit_one_shift (k j : Nat) : Nat.testBit (Nat.shiftLeft 1 k) j = decide (k = j) := by
  show Nat.testBit (1 <<< k) j = decide (k = j)
  rw [Nat.one_shiftLeft, Nat.testBit_two_pow]

theorem maskOf_bit {acc : List Nat} {j : Nat} : ∀ (l : List Edge), Nat.testBit (maskOf acc l) j = true → ∃ e ∈ l, Region.binds .any e = true ∧ (e.on = j ∨ Nat.testBit (natGet acc e.on) j = true)
  | [], h => by simp [maskOf] at h
  | e :: l, h => by
    simp only [maskOf] at h
    cases hb : Region.binds .any e with
    | false =>
      rw [hb, cond_false] at h
      obtain ⟨e', h1, h2⟩ := maskOf_bit l h
      exact ⟨e', List.mem_cons_of_mem _ h1, h2⟩
    | true =>
      rw [hb, cond_true] at h
      have h' : Nat.testBit ((Nat.shiftLeft 1 e.on ||| natGet acc e.on) ||| maskOf acc l) j = true := h
      rw [Nat.testBit_or, Nat.testBit_or, testBit_one_shift] at h'
      rw [Bool.or_eq_true, Bool.or_eq_true] at h'
      rcases h' with h1 | h1
      · refine ⟨e, List.mem_cons_self, hb, ?_⟩
        rcases h1 with h2 | h2
        · exact .inl (by simpa using h2)
        · exact .inr h2
      · obtain ⟨e', h1, h2⟩ := maskOf_bit l h1
        exact ⟨e', List.mem_cons_of_mem _ h1, h2⟩

theorem masks_pre : ∀ (l : List Oper) (acc : List Nat) (i : Nat), i < acc.length → (masks acc l)[i]? = acc[i]?
  | [], acc, i, _ => rfl
  | o :: l, acc, i, h => by
    simp only [masks]
    rw [masks_pre l _ i (by simp; omega), List.getElem?_append_left h]

theorem natGet_le {acc acc' : List Nat} (h : ∀ i, i < acc.length → acc'[i]? = acc[i]?) (x j : Nat) (hb : Nat.testBit (natGet acc x) j = true) : Nat.testBit (natGet acc' x) j = true := by
  unfold natGet at *
  by_cases hx : x < acc.length
  · rw [h x hx]; exact hb
  · rw [List.getElem?_eq_none (by omega)] at hb; simp at hb

theorem masks_bit : ∀ (l : List Oper) (acc : List Nat) (i : Nat) (o : Oper) (j : Nat), l[i]? = some o → Nat.testBit (natGet (masks acc l) (acc.length + i)) j = true →
    ∃ e ∈ o.after, Region.binds .any e = true ∧ (e.on = j ∨ Nat.testBit (natGet (masks acc l) e.on) j = true)
  | [], acc, i, o, j, h, _ => by simp at h
  | o :: l, acc, i, o', j, h, hb => by
    cases i with
    | zero =>
      simp at h; subst h
      have hm : (masks acc (o :: l))[acc.length + 0]? = some (maskOf acc o.after.toList) := by
        simp only [masks, Nat.add_zero]
        rw [masks_pre l _ acc.length (by simp)]; simp
      unfold natGet at hb
      rw [hm] at hb
      obtain ⟨e, h1, h2, h3⟩ := maskOf_bit _ hb
      refine ⟨e, by simpa using h1, h2, h3.imp id fun h4 => natGet_le (fun i hi => ?_) _ _ h4⟩
      exact masks_pre (o :: l) acc i hi
    | succ i =>
      simp at h
      simp only [masks] at hb ⊢
      refine masks_bit l (acc ++ [maskOf acc o.after.toList]) i o' j h ?_
      rw [show (acc ++ [maskOf acc o.after.toList]).length + i = acc.length + (i + 1) by simp; omega]
      exact hb

/-! ## The numbers of the effects -/
def effCount : List DI → Nat
  | [] => 0
  | o :: l => cond o.eff (effCount l + 1) (effCount l)

theorem numbered_get : ∀ (l : List DI) (k : Nat), numbered k l = true → ∀ r, k ≤ r → r < k + effCount l → ∃ (i : Nat) (d : DI), l[i]? = some d ∧ d.eff = true ∧ d.lo = r
  | [], k, _, r, h1, h2 => by simp [effCount] at h2; omega
  | o :: l, k, h, r, h1, h2 => by
    simp only [numbered, effCount] at h h2
    cases he : o.eff with
    | false =>
      rw [he] at h h2
      obtain ⟨i, d, h3, h4⟩ := numbered_get l k h r h1 h2
      exact ⟨i + 1, d, by simpa using h3, h4⟩
    | true =>
      rw [he, cond_true] at h h2
      simp only [Bool.and_eq_true] at h
      by_cases hr : r = k
      · exact ⟨0, o, rfl, he, by rw [beq_t.1 h.1, hr]⟩
      · obtain ⟨i, d, h3, h4⟩ := numbered_get l (k + 1) h.2 r (by omega) (by omega)
        exact ⟨i + 1, d, by simpa using h3, h4⟩

theorem numbered_lt : ∀ (l : List DI) (k : Nat), numbered k l = true → ∀ (i : Nat) (d : DI), l[i]? = some d → d.eff = true → k ≤ d.lo ∧ d.lo < k + effCount l
  | [], k, _, i, d, h, _ => by simp at h
  | o :: l, k, h, i, d, e, hd => by
    simp only [numbered, effCount] at h ⊢
    cases he : o.eff with
    | false =>
      rw [he] at h
      rw [cond_false]
      cases i with
      | zero => simp at e; subst e; rw [hd] at he; cases he
      | succ i => simp at e; exact numbered_lt l k h i d e hd
    | true =>
      rw [he, cond_true] at h
      simp only [Bool.and_eq_true] at h
      rw [cond_true]
      cases i with
      | zero => simp at e; subst e; have := beq_t.1 h.1; omega
      | succ i => simp at e; have := numbered_lt l (k + 1) h.2 i d e hd; omega

end Go.Sx
