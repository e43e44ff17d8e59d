/- THE LAW OF WHAT IS TORN OFF: what the names mean. -/
import Derived.Test.YtanhchkdglglhaaDoorSxTornS
import Derived.Test.YtanhchkdglglhaaDoorSxTornRl
/-! THE LAW OF WHAT IS TORN OFF: its tree ends well wherever the names mean what they should. -/
namespace Go.Sx
open Go.RowKit Go.Proofs
set_option maxRecDepth 100000
theorem firstAt_mono {P Q : Nat → Bool} (h : ∀ n, Q n = true → P n = true) : ∀ k i, firstAt P k i ≤ firstAt Q k i
  | 0, _ => Nat.le_refl _
  | k + 1, i => by
    simp only [firstAt]
    cases hp : P i with
    | true =>
      rw [if_pos rfl]
      split
      · exact Nat.le_refl _
      · have := (firstAt_le Q k (i + 1)).1; omega
    | false =>
      have hq : Q i = false := by
        cases hq : Q i with
        | false => rfl
        | true => rw [h i hq] at hp; cases hp
      rw [if_neg (by simp), hq, if_neg (by simp)]
      exact firstAt_mono h k (i + 1)
theorem serves_in (a b c : Int) : -1 ≤ servesF a b c ∧ servesF a b c ≤ 999 := by
  unfold servesF
  have := firstAt_le (fun n => decide (feetAt a b n < c)) 1000 0
  omega
theorem feetAt_two {low high tl th : Int} (h : low ≤ high) (ht : tl ≤ th) (n : Nat) : feetAt low th n ≤ feetAt high tl n := by
  simp only [feetAt]
  have : (n : Int) * tl ≤ n * th := Int.mul_le_mul_of_nonneg_left ht (by omega)
  omega
theorem serves_mono {low high tl th want : Int} (h : low ≤ high) (ht : tl ≤ th) : servesF low th want ≤ servesF high tl want := by
  unfold servesF
  have := firstAt_mono (P := fun n => decide (feetAt low th n < want)) (Q := fun n => decide (feetAt high tl n < want)) (fun n hn => by
    have := of_decide_eq_true hn
    have := feetAt_two h ht n
    exact decide_eq_true (by omega)) 1000 0
  omega
theorem serves_nonneg {high tl want : Int} (h0 : 0 ≤ high) (h : want ≤ high) : 0 ≤ servesF high tl want := by
  unfold servesF
  have h1 := firstAt_yes (fun n => decide (feetAt high tl n < want)) 1000 0
  rcases Nat.eq_zero_or_pos (firstAt (fun n => decide (feetAt high tl n < want)) 1000 0) with hz | hp
  · rw [hz] at h1
    have := of_decide_eq_true (h1 (by omega))
    rw [feetAt_zero h0] at this
    omega
  · omega
/-- what is told of the showings is so -/
def told (k : Nat) (ρ : Rho) : Prop := (ρ.iv 99 = 0 ∧ ρ.iv 97 = servesF (ρ.iv (hadV k 0)) (ρ.iv 3) (1 + ρ.iv 94) ∧ ρ.iv 98 = servesF (ρ.iv (hadV k 1)) (ρ.iv 2) (1 + ρ.iv 94) ∧ 1 + ρ.iv 94 ≤ ρ.iv (hadV k 1)) ∨ (ρ.iv 99 = 4 ∧ 1 + ρ.iv 94 > ρ.iv (hadV k 1))
theorem want_den {ρ : Rho} (h : 0 ≤ ρ.iv 94 ∧ ρ.iv 94 ≤ 1199) : wantE.den ρ = 1 + ρ.iv 94 := by
  show (IE.bin .add .i64 (.lit 1) (.var 94)).den ρ = _
  rw [IE.den_add, IE.den_lit, IE.den_var, IntWalk.i64_in _ (by omega)]
theorem torn_rules {k : Nat} {ρ : Rho} (h94 : 0 ≤ ρ.iv 94 ∧ ρ.iv 94 ≤ 1199) (hlh : ρ.iv (hadV k 0) ≤ ρ.iv (hadV k 1)) (h0 : 0 ≤ ρ.iv (hadV k 1)) (htt : ρ.iv 2 ≤ ρ.iv 3) (ht : told k ρ) : RulesOk ρ (lawTR k) := by
  have hw := want_den h94
  have ne : ∀ {n : Int}, (BE.cmp .neq (.var 99) (.lit n)).den ρ = true → ρ.iv 99 ≠ n := fun {n} h => by
    have h : (ρ.iv 99 != n) = true := h
    simpa using h
  have eq : ∀ {n : Int}, (BE.cmp .eql (.var 99) (.lit n)).den ρ = true → ρ.iv 99 = n := fun {n} h => by
    have h : (ρ.iv 99 == n) = true := h
    simpa using h
  have gt : ∀ {a b : IE}, (BE.cmp .gtr a b).den ρ = true → a.den ρ > b.den ρ := fun {a b} h => of_decide_eq_true h
  have lt : ∀ {a b : IE}, (BE.cmp .lss a b).den ρ = true → a.den ρ < b.den ρ := fun {a b} h => of_decide_eq_true h
  have ge : ∀ {a b : IE}, (BE.cmp .geq a b).den ρ = true → a.den ρ ≥ b.den ρ := fun {a b} h => of_decide_eq_true h
  intro r hr hp
  exfalso
  simp only [lawTR, List.mem_cons, List.not_mem_nil, or_false] at hr
  rcases hr with rfl | rfl | rfl | rfl | rfl | rfl | rfl <;> simp only [List.mem_cons, List.not_mem_nil, or_false, forall_eq_or_imp, forall_eq] at hp <;> obtain ⟨p1, p2⟩ := hp
  · have a := ne p1; have b := ne p2
    rcases ht with ⟨t1, _⟩ | ⟨t1, _⟩ <;> omega
  · have a := ne p1; have b := ge p2
    rw [IE.den_var, hw] at b
    rcases ht with ⟨t1, _⟩ | ⟨_, t2⟩ <;> omega
  · have a := eq p1; have b := gt p2
    rw [IE.den_var, IE.den_var] at b
    rcases ht with ⟨_, t2, t3, _⟩ | ⟨t1, _⟩
    · have := serves_mono (want := 1 + ρ.iv 94) hlh htt; omega
    · omega
  · have a := eq p1; have b := lt p2
    rw [IE.den_var, IE.den_lit] at b
    rcases ht with ⟨_, t2, t3, _⟩ | ⟨t1, _⟩
    · have := serves_in (ρ.iv (hadV k 0)) (ρ.iv 3) (1 + ρ.iv 94); omega
    · omega
  · have a := eq p1; have b := gt p2
    rw [IE.den_var, IE.den_lit] at b
    rcases ht with ⟨_, t2, t3, _⟩ | ⟨t1, _⟩
    · have := serves_in (ρ.iv (hadV k 0)) (ρ.iv 3) (1 + ρ.iv 94); omega
    · omega
  · have a := eq p1; have b := lt p2
    rw [IE.den_var, IE.den_lit] at b
    rcases ht with ⟨_, t2, t3, t4⟩ | ⟨t1, _⟩
    · have := serves_nonneg (tl := ρ.iv 2) h0 t4; omega
    · omega
  · exact ne p2 (eq p1)

theorem told_good {k : Nat} {ρ : Rho} (h94 : 0 ≤ ρ.iv 94 ∧ ρ.iv 94 ≤ 1199) (ht : told k ρ) : (BE.not (.and (.not (gAw k)) (.not (gBw k)))).den ρ = true := by
  have hw := want_den h94
  have e0 : (IE.app 0 (.var (hadV k 0)) (.var (tornV 0)) wantE).den ρ = servesF (ρ.iv (hadV k 0)) (ρ.iv 3) (1 + ρ.iv 94) := by
    show FI ρ.fi 0 (ρ.iv (hadV k 0)) (ρ.iv 3) (wantE.den ρ) = _
    rw [hw]; rfl
  have e1 : (IE.app 0 (.var (hadV k 1)) (.var (tornV 1)) wantE).den ρ = servesF (ρ.iv (hadV k 1)) (ρ.iv 2) (1 + ρ.iv 94) := by
    show FI ρ.fi 0 (ρ.iv (hadV k 1)) (ρ.iv 2) (wantE.den ρ) = _
    rw [hw]; rfl
  have hA : (gAw k).den ρ = ((ρ.iv 99 == 0) && ((ρ.iv 97 == servesF (ρ.iv (hadV k 0)) (ρ.iv 3) (1 + ρ.iv 94)) && (ρ.iv 98 == servesF (ρ.iv (hadV k 1)) (ρ.iv 2) (1 + ρ.iv 94)))) := by
    rw [← e0, ← e1]; rfl
  have hB : (gBw k).den ρ = ((ρ.iv 99 == 4) && decide (1 + ρ.iv 94 > ρ.iv (hadV k 1))) := by
    rw [← hw]; rfl
  show (!((!((gAw k).den ρ)) && (!((gBw k).den ρ)))) = true
  rw [hA, hB]
  rcases ht with ⟨t1, t2, t3, _⟩ | ⟨t1, t2⟩
  · rw [t1, t2, t3]; simp
  · rw [t1, decide_eq_true t2]; simp
theorem torn_valid {q : Nat × Nat × Nat} (hq : q ∈ lk21) (hturn : ∀ args h t, closedOrc glV args h = some t → CallOk pT 25 args h t) {E : Env} {w : World} {vs : List Value} (hv : ∀ g ∈ viewV q.1, ViewIn w E g) (hf : ∀ b, 2000 ≤ b → E.σ b = none)
    (hg : ∀ b, b < 1000 → E.σ b = some (b, 0)) (hn : E.n ≤ 2000) (ha : concL E (tornArgs q.1) = some vs) (hcs : ∀ c ∈ csL q.1 ++ rdom q.2.1, c.den E.ρ = true) (h88 : 0 ≤ E.ρ.iv 88 ∧ E.ρ.iv 88 ≤ 119) (h94 : 0 ≤ E.ρ.iv 94 ∧ E.ρ.iv 94 ≤ 1199)
    (h92 : E.ρ.iv (hadV q.2.1 0) ≤ E.ρ.iv 92 ∧ E.ρ.iv 92 ≤ E.ρ.iv (hadV q.2.1 1)) (ht : told q.2.1 E.ρ) (hok : (pLaw q.1 q.2.1).okB E.ρ (Base.of w)) :
    Calls Tryd.prog 11 vs.toArray w fun e w' => e = .returned (.bool true) ∧ Below w.heap.size w w' := by
  have hck : lawTCk q = true := lawT_all q hq
  have hr : ∀ c ∈ rdom q.2.1, c.den E.ρ = true := fun c hc => hcs c (List.mem_append_right _ hc)
  have htt : (le2 (.var 2) (.var 3)).den E.ρ = true := hcs _ (List.mem_append_left _ (rest_up (by simp [restC]) q.1 10))
  simp only [rdom, List.mem_cons, List.not_mem_nil, or_false, forall_eq_or_imp, forall_eq] at hr
  obtain ⟨d1, d2, d3, d4, d5, d6, d7, d8⟩ := hr
  unfold le2 at htt
  rw [BE.t_leq] at d1 d2 d3 d4 d5 d6 d7 d8 htt
  simp only [IE.den_lit, IE.den_var] at d1 d2 d3 d4 d5 d6 d7 d8 htt
  have hR := torn_rules h94 (by omega) d3 htt ht
  have hK : KnOk E.ρ (knOf [(94, 0, 1199)] (lawTK q.1 q.2.1)) := by
    refine knOf_ok (fun c hc => ?_) fun c hc => ?_
    · simp only [ivC, List.mem_cons, List.not_mem_nil, or_false] at hc
      rcases hc with rfl | rfl
      · rw [BE.t_leq, IE.den_lit, IE.den_var]; exact h94.1
      · rw [BE.t_leq, IE.den_lit, IE.den_var]; exact h94.2
    · rcases List.mem_append.1 hc with hc | hc
      · exact hcs c hc
      · simp only [List.mem_cons, List.not_mem_nil, or_false] at hc
        rcases hc with rfl | rfl | rfl | rfl | rfl | rfl | rfl
        · rw [BE.t_leq, IE.den_lit, IE.den_var]; exact h88.1
        · rw [BE.t_leq, IE.den_lit, IE.den_var]; exact h88.2
        · rw [BE.t_leq, IE.den_lit, IE.den_var]; exact h94.1
        · rw [BE.t_leq, IE.den_lit, IE.den_var]; exact h94.2
        · rw [BE.t_leq, IE.den_var, IE.den_var]; exact h92.1
        · rw [BE.t_leq, IE.den_var, IE.den_var]; exact h92.2
        · exact told_good h94 ht
  have hu : (T.ret (AV.bool (.lit true)) : T AV).Holds E.ρ (fun b => b = .bool (.lit true)) := rfl
  have key := servesX_ok hR hu _ _ hK hck
  rw [T.holds_bind] at key
  have HS : HeapOk (pLaw q.1 q.2.1) E (viewHeap 2000 (viewV q.1)) (Base.of w) w := view_ok hv hf hg hn hok
  obtain ⟨r1, r2⟩ := torn_call hq hturn vs E (Base.of w) w _ (fun cv w' => cv = .bool true ∧ Below w.heap.size w w') key HS ha
    (fun v h' E2 w' cv hq2 hle HH' hv2 => by
      obtain ⟨b, rfl, _, hs⟩ := hq2
      refine ⟨?_, Base.keeps_below HH'.below⟩
      have := hs E2 hle.ρ
      rw [hv2] at this
      simpa [conc, BE.den] using this)
  refine r2.mono ?_
  rintro e w' ⟨cv, rfl, rfl, hb⟩
  exact ⟨rfl, hb⟩
end Go.Sx
/-! THE LAW OF WHAT IS TORN OFF: what the names mean. -/
namespace Go.Sx
open Go.RowKit Go.Proofs
set_option maxRecDepth 100000
/-- what is told of the showings, just so -/
def toldV (k : Nat) (ρ : Rho) : Prop :=
  if 1 + ρ.iv 94 > ρ.iv (hadV k 1) then ρ.iv 99 = 4 ∧ ρ.iv 97 = 0 ∧ ρ.iv 98 = 0
  else ρ.iv 99 = 0 ∧ ρ.iv 97 = servesF (ρ.iv (hadV k 0)) (ρ.iv 3) (1 + ρ.iv 94) ∧ ρ.iv 98 = servesF (ρ.iv (hadV k 1)) (ρ.iv 2) (1 + ρ.iv 94)
theorem toldV_told {k : Nat} {ρ : Rho} (h : toldV k ρ) : told k ρ := by
  unfold toldV at h
  split at h
  · rename_i hc; exact .inr ⟨h.1, hc⟩
  · rename_i hc; exact .inl ⟨h.1, h.2.1, h.2.2, by omega⟩
theorem same3 {ρ : Rho} {a b c a' b' c' : IE} (h1 : a.den ρ = a'.den ρ) (h2 : b.den ρ = b'.den ρ) (h3 : c.den ρ = c'.den ρ) :
    SameE ρ (.tup [.int .i64 a, .int .i64 b, .int .i64 c]) (.tup [.int .i64 a', .int .i64 b', .int .i64 c']) := by
  intro E hE
  subst hE
  simp only [conc, concL, h1, h2, h3]
theorem shows_leaf {k : Nat} {ρ : Rho} (h94 : 0 ≤ ρ.iv 94 ∧ ρ.iv 94 ≤ 1199) (ht : toldV k ρ) : ∃ b, (showsW k).leaf ρ = some b ∧ SameE ρ (.tup [vi 97, vi 98, vi 99]) b := by
  have hw := want_den h94
  have e0 : (IE.app 0 (.var (hadV k 0)) (.var (tornV 0)) wantE).den ρ = servesF (ρ.iv (hadV k 0)) (ρ.iv 3) (1 + ρ.iv 94) := by
    show FI ρ.fi 0 (ρ.iv (hadV k 0)) (ρ.iv 3) (wantE.den ρ) = _
    rw [hw]; rfl
  have e1 : (IE.app 0 (.var (hadV k 1)) (.var (tornV 1)) wantE).den ρ = servesF (ρ.iv (hadV k 1)) (ρ.iv 2) (1 + ρ.iv 94) := by
    show FI ρ.fi 0 (ρ.iv (hadV k 1)) (ρ.iv 2) (wantE.den ρ) = _
    rw [hw]; rfl
  have i0 := serves_in (ρ.iv (hadV k 0)) (ρ.iv 3) (1 + ρ.iv 94)
  have i1 := serves_in (ρ.iv (hadV k 1)) (ρ.iv 2) (1 + ρ.iv 94)
  have c0 : (BE.cmp .gtr wantE (.var (hadV k 1))).den ρ = decide (1 + ρ.iv 94 > ρ.iv (hadV k 1)) := by rw [← hw]; rfl
  have c1 : (BE.cmp .lss (.app 0 (.var (hadV k 0)) (.var (tornV 0)) wantE) (.lit 999)).den ρ = decide (servesF (ρ.iv (hadV k 0)) (ρ.iv 3) (1 + ρ.iv 94) < 999) := by rw [← e0]; rfl
  have c2 : (BE.cmp .lss (.app 0 (.var (hadV k 1)) (.var (tornV 1)) wantE) (.lit 999)).den ρ = decide (servesF (ρ.iv (hadV k 1)) (ρ.iv 2) (1 + ρ.iv 94) < 999) := by rw [← e1]; rfl
  unfold toldV at ht
  unfold showsW
  simp only [T.leaf, c0, c1, c2]
  by_cases hc : 1 + ρ.iv 94 > ρ.iv (hadV k 1)
  · rw [if_pos hc] at ht
    rw [if_pos (decide_eq_true hc)]
    exact ⟨_, rfl, same3 ht.2.1 ht.2.2 ht.1⟩
  · rw [if_neg hc] at ht
    rw [if_neg (by simpa using hc)]
    by_cases h0 : servesF (ρ.iv (hadV k 0)) (ρ.iv 3) (1 + ρ.iv 94) < 999
    · rw [if_pos (decide_eq_true h0)]
      by_cases h1 : servesF (ρ.iv (hadV k 1)) (ρ.iv 2) (1 + ρ.iv 94) < 999
      · rw [if_pos (decide_eq_true h1)]
        exact ⟨_, rfl, same3 (ht.2.1.trans e0.symm) (ht.2.2.trans e1.symm) ht.1⟩
      · rw [if_neg (by simpa using h1)]
        exact ⟨_, rfl, same3 (ht.2.1.trans e0.symm) (show ρ.iv 98 = 999 by omega) ht.1⟩
    · rw [if_neg (by simpa using h0)]
      by_cases h1 : servesF (ρ.iv (hadV k 1)) (ρ.iv 2) (1 + ρ.iv 94) < 999
      · rw [if_pos (decide_eq_true h1)]
        exact ⟨_, rfl, same3 (show ρ.iv 97 = 999 by omega) (ht.2.2.trans e1.symm) ht.1⟩
      · rw [if_neg (by simpa using h1)]
        exact ⟨_, rfl, same3 (show ρ.iv 97 = 999 by omega) (show ρ.iv 98 = 999 by omega) ht.1⟩
theorem same1 {ρ : Rho} {a b : IE} (h : a.den ρ = b.den ρ) : SameE ρ (.int .i64 a) (.int .i64 b) := by
  intro E hE; subst hE; simp only [conc, h]
theorem okLaw_of {L k : Nat} {ρ : Rho} {m : Nat → Obj → Prop} (hp : okPick ρ m) (h87 : turnF (ρ.iv 87) L = k) (h86 : turnF (ρ.iv 86) 120 = ρ.iv 88) (h85 : turnF (ρ.iv 85) 1200 = ρ.iv 94)
    (h92 : ρ.iv 92 = chooseF (ρ.iv (hadV k 0)) (ρ.iv (hadV k 1)) (ρ.fi 1000 0 0 0)) (hcs : ∀ c ∈ csL L ++ rdom k, c.den ρ = true) (h94 : 0 ≤ ρ.iv 94 ∧ ρ.iv 94 ≤ 1199) (ht : toldV k ρ) : okLaw L k ρ m := by
  refine ⟨hp, fun cv hcv => ?_⟩
  simp only [namedL, List.mem_cons, List.not_mem_nil, or_false] at hcv
  rcases hcv with rfl | rfl | rfl | rfl | rfl
  · exact ⟨fun d hd => (List.not_mem_nil hd).elim, _, rfl, same1 h87.symm⟩
  · exact ⟨fun d hd => (List.not_mem_nil hd).elim, _, rfl, same1 h86.symm⟩
  · exact ⟨fun d hd => (List.not_mem_nil hd).elim, _, rfl, same1 h85.symm⟩
  · exact ⟨fun d hd => hcs d (List.mem_append_right _ hd), _, rfl, same1 h92⟩
  · refine ⟨fun d hd => ?_, shows_leaf h94 ht⟩
    rcases List.mem_append.1 hd with hd | hd
    · exact hcs d hd
    · simp only [List.mem_cons, List.not_mem_nil, or_false] at hd
      rcases hd with rfl | rfl
      · rw [BE.t_leq, IE.den_lit, IE.den_var]; exact h94.1
      · rw [BE.t_leq, IE.den_lit, IE.den_var]; exact h94.2
end Go.Sx
