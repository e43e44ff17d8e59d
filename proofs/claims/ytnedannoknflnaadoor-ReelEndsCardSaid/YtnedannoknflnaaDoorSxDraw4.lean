/- REGIONS WHOSE ORDER OF EVALUATION IS DRAWN: the law. -/
import Derived.Test.YtnedannoknflnaaDoorSxDraw3
/-! REGIONS WHOSE ORDER OF EVALUATION IS DRAWN: the law. -/
namespace Go.Sx
open Go.RowKit

theorem numbered_inj : ∀ (l : List DI) (k : Nat), numbered k l = true → ∀ (i j : Nat) (d e : DI), l[i]? = some d → l[j]? = some e → d.eff = true → e.eff = true → d.lo = e.lo → i = j
  | [], k, _, i, j, d, e, h, _, _, _, _ => by simp at h
  | o :: l, k, hn, i, j, d, e, h1, h2, e1, e2, hl => by
    have hn0 := hn
    simp only [numbered] at hn
    cases he : o.eff with
    | false =>
      rw [he, cond_false] at hn
      cases i with
      | zero => simp at h1; subst h1; rw [he] at e1; cases e1
      | succ i => cases j with
        | zero => simp at h2; subst h2; rw [he] at e2; cases e2
        | succ j => simp at h1 h2; rw [numbered_inj l k hn i j d e h1 h2 e1 e2 hl]
    | true =>
      rw [he, cond_true] at hn
      simp only [Bool.and_eq_true] at hn
      have hk := beq_t.1 hn.1
      cases i with
      | zero => cases j with
        | zero => rfl
        | succ j => simp at h1 h2; subst h1; have := numbered_lt l (k + 1) hn.2 j e h2 e2; omega
      | succ i => cases j with
        | zero => simp at h1 h2; subst h2; have := numbered_lt l (k + 1) hn.2 i d h1 e1; omega
        | succ j => simp at h1 h2; rw [numbered_inj l (k + 1) hn.2 i j d e h1 h2 e1 e2 hl]

structure PlanOk (ty : Nat → Option TI) (n : Nat) (keep : List Nat) (ops : Array Oper) (ms : List Nat) (dis : List DI) : Prop where
  here : ∀ (i : Nat) (o : Oper), ops[i]? = some o → ∃ d, dis[i]? = some d ∧ cOper ty n keep ops.toList o = some d.ci ∧ d.eff = isEff o.op
  back : ∀ (i : Nat) (d : DI), dis[i]? = some d → ∃ o, ops[i]? = some o ∧ cOper ty n keep ops.toList o = some d.ci ∧ d.eff = isEff o.op
  pair : ∀ (i j : Nat) (a b : DI), dis[i]? = some a → dis[j]? = some b → pairOk ms i j a b = true
  edge : ∀ (i : Nat) (o : Oper), ops[i]? = some o → ∀ e ∈ o.after, Region.binds .any e = true → e.on < i
  num : numbered 0 dis = true
  bit : ∀ (i : Nat) (o : Oper) (j : Nat), ops[i]? = some o → Nat.testBit (natGet ms i) j = true → ∃ e ∈ o.after, Region.binds .any e = true ∧ (e.on = j ∨ Nat.testBit (natGet ms e.on) j = true)

theorem planOk_of {ty : Nat → Option TI} {n : Nat} {keep : List Nat} {ops : Array Oper} {cs : List CI} (hcs : cOpers ty n keep ops.toList ops.toList = some cs) {effs : List Nat}
    (hok : drawOk ops.toList (masks [] ops.toList) (planOf effs (masks [] ops.toList) 0 ops.toList cs) = true) : PlanOk ty n keep ops (masks [] ops.toList) (planOf effs (masks [] ops.toList) 0 ops.toList cs) := by
  obtain ⟨hl, hget⟩ := cOpers_get _ _ hcs
  obtain ⟨hpl, hpg⟩ := planOf_get effs (masks [] ops.toList) ops.toList cs 0 hl
  simp only [drawOk, Bool.and_eq_true] at hok
  have here : ∀ (i : Nat) (o : Oper), ops[i]? = some o → ∃ d, (planOf effs (masks [] ops.toList) 0 ops.toList cs)[i]? = some d ∧ cOper ty n keep ops.toList o = some d.ci ∧ d.eff = isEff o.op := fun i o h => by
    have h' : ops.toList[i]? = some o := by simpa using h
    obtain ⟨c, hc1, hc2⟩ := hget i o h'
    obtain ⟨p1, p2⟩ := planAt_ci effs (masks [] ops.toList) (0 + i) o c
    exact ⟨_, hpg i o c h' hc1, by rw [p1]; exact hc2, p2⟩
  refine ⟨here, fun i d h => ?_, fun i j a b h1 h2 => ?_, fun i o h e he hbe => ?_, hok.2, fun i o j h hb => ?_⟩
  · have hi : i < ops.toList.length := by rw [← hpl]; exact (List.getElem?_eq_some_iff.1 h).1
    have ho : ops[i]? = some ops[i]! := by
      have : i < ops.size := by simpa using hi
      simp [this]
    obtain ⟨d', h1, h2⟩ := here i _ ho
    rw [h] at h1; cases h1
    exact ⟨_, ho, h2⟩
  · have := rowsOk_get _ 0 hok.1.1 i a j b h1 h2
    simpa using this
  · have := edgesOk_get _ 0 hok.1.2 i o (by simpa using h) e he hbe
    omega
  · have := masks_bit ops.toList [] i o j (by simpa using h) (by simpa using hb)
    exact this

section
variable {ty : Nat → Option TI} {n : Nat} {keep : List Nat} {ops : Array Oper} {ms : List Nat} {dis : List DI}

theorem PlanOk.lt (L : PlanOk ty n keep ops ms dis) (i : Nat) : ∀ (o : Oper) (j : Nat), ops[i]? = some o → Nat.testBit (natGet ms i) j = true → j < i := by
  induction i using Nat.strongRecOn with
  | _ i ih =>
    intro o j h hb
    obtain ⟨e, he, hbe, h1⟩ := L.bit i o j h hb
    have hlt := L.edge i o h e he hbe
    rcases h1 with rfl | h1
    · exact hlt
    · have hsz : i < ops.size := (Array.getElem?_eq_some_iff.1 h).1
      have ho : ops[e.on]? = some ops[e.on]! := by
        have : e.on < ops.size := by omega
        simp [this]
      have := ih e.on hlt _ j ho h1
      omega

theorem PlanOk.once (L : PlanOk ty n keep ops ms dis) : Once dis := by
  intro i j d d' t hij h1 h2 h3 h4
  have := L.pair i j d d' h1 h2
  simp only [pairOk, Bool.and_eq_true, h3, h4] at this
  have := this.1.2
  simp only [Bool.or_eq_true, Bool.not_eq_true'] at this
  rcases this with h | h
  · rw [beq_t.2 rfl] at h; cases h
  · have := beq_t.1 h; omega

theorem PlanOk.quiet (L : PlanOk ty n keep ops ms dis) : ∀ d ∈ dis, QuietD d := by
  intro d hd he cx tm h ρ r e
  obtain ⟨i, hi⟩ := List.getElem?_of_mem hd
  obtain ⟨o, ho, hc, hee⟩ := L.back i d hi
  exact quiet_runC hc (by rw [← hee]; exact he) e

theorem PlanOk.reads (L : PlanOk ty n keep ops ms dis) {i j : Nat} {d d' : DI} (h1 : dis[i]? = some d) (h2 : dis[j]? = some d') {t : Nat} (ht : t ∈ d.reads) (hd : d'.ci.dst = some t) : Nat.testBit (natGet ms i) j = true ∨ Nat.testBit (natGet ms j) i = true := by
  have := L.pair i j d d' h1 h2
  simp only [pairOk, Bool.and_eq_true, hd] at this
  have := this.1.1
  simp only [Bool.or_eq_true, Bool.not_eq_true'] at this
  rcases this with h | h
  · rw [List.any_eq_false] at h
    exact absurd (beq_t.2 rfl) (h t ht)
  · exact h

theorem PlanOk.effs (L : PlanOk ty n keep ops ms dis) {i j : Nat} {d e : DI} (h1 : dis[j]? = some e) (h2 : dis[i]? = some d) (he : e.eff = true) (hd : d.eff = true) (hl : e.lo < d.lo) : Nat.testBit (natGet ms i) j = true := by
  have := L.pair j i e d h1 h2
  simp only [pairOk, Bool.and_eq_true, hd, he, cond_true] at this
  have := this.2
  simp only [Bool.or_eq_true] at this
  rcases this with h | h
  · have := ble_t.1 h; omega
  · exact h

theorem PlanOk.lo (L : PlanOk ty n keep ops ms dis) {i j : Nat} {d e : DI} (h1 : dis[i]? = some d) (h2 : dis[j]? = some e) (he : e.eff = true) (hd : d.eff = false) (hl : e.lo < d.lo) : Nat.testBit (natGet ms i) j = true := by
  have := L.pair i j d e h1 h2
  simp only [pairOk, Bool.and_eq_true, hd, he, cond_true, cond_false] at this
  have := this.2.1
  simp only [Bool.or_eq_true] at this
  rcases this with h | h
  · have := ble_t.1 h; omega
  · exact h
theorem PlanOk.hi (L : PlanOk ty n keep ops ms dis) {i j : Nat} {d e : DI} (h1 : dis[i]? = some d) (h2 : dis[j]? = some e) (he : e.eff = true) (hd : d.eff = false) (hl : d.hi ≤ e.lo) : Nat.testBit (natGet ms j) i = true := by
  have := L.pair i j d e h1 h2
  simp only [pairOk, Bool.and_eq_true, hd, he, cond_true, cond_false] at this
  have := this.2.2
  simp only [Bool.or_eq_true] at this
  rcases this with h | h
  · have := ble_t.1 h; omega
  · exact h
end

end Go.Sx
