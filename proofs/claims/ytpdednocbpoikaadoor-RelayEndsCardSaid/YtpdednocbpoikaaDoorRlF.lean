/- RlF -/
import Derived.Test.YtpdednocbpoikaaDoorRlW
namespace Go.Sx
open Go.RowKit Go.Proofs
set_option maxRecDepth 100000
theorem plansN_mem : ∀ (f n : Nat) (l : List Nat), l ∈ plansN f n → (∀ p ∈ l, 1 ≤ p) ∧ sumN l = n
  | 0, _, _, h => by cases h
  | _ + 1, 0, l, h => by
    have h : l ∈ [[]] := h
    rw [List.mem_singleton] at h
    subst h; exact ⟨fun p hp => (by cases hp), rfl⟩
  | f + 1, n + 1, l, h => by
    have h : l ∈ (upN (n + 1) 1).flatMap fun p => (plansN f (n + 1 - p)).map fun l => p :: l := h
    obtain ⟨p, hp, h⟩ := List.mem_flatMap.1 h
    obtain ⟨m, hm, rfl⟩ := List.mem_map.1 h
    have hp := upN_lt _ _ _ hp
    obtain ⟨h1, h2⟩ := plansN_mem f _ m hm
    refine ⟨fun q hq => ?_, by simp only [sumN, h2]; omega⟩
    rcases List.mem_cons.1 hq with rfl | hq
    · exact hp.1
    · exact h1 q hq
theorem mem_plansN : ∀ (f n : Nat) (l : List Nat), n < f → (∀ p ∈ l, 1 ≤ p) → sumN l = n → l ∈ plansN f n
  | 0, _, _, h, _, _ => by omega
  | f + 1, 0, [], _, _, _ => List.mem_singleton.2 rfl
  | f + 1, 0, p :: l, _, h, hs => by have := h p List.mem_cons_self; simp only [sumN] at hs; omega
  | f + 1, n + 1, [], _, _, hs => by simp only [sumN] at hs; omega
  | f + 1, n + 1, p :: l, hf, h, hs => by
    have hp := h p List.mem_cons_self
    simp only [sumN] at hs
    refine List.mem_flatMap.2 ⟨p, mem_upN _ _ _ hp (by omega), List.mem_map.2 ⟨l, mem_plansN f _ l (by omega) (fun q hq => h q (List.mem_cons_of_mem _ hq)) (by omega), rfl⟩⟩
theorem sum_len : ∀ (l : List Nat), (∀ p ∈ l, 1 ≤ p) → l.length ≤ sumN l
  | [], _ => Nat.le_refl _
  | p :: l, h => by
    have := h p List.mem_cons_self
    have := sum_len l fun q hq => h q (List.mem_cons_of_mem _ hq)
    simp only [List.length_cons, sumN]; omega
structure LastZ (L : Nat) (ρ : Rho) : Prop where
  t0 : ∀ j, j < L → 0 ≤ ρ.iv (100 + 4 * j) ∧ ρ.iv (100 + 4 * j) ≤ ρ.iv (101 + 4 * j) ∧ ρ.iv (101 + 4 * j) ≤ 24000
  t1 : ∀ j, j < L → 0 ≤ ρ.iv (102 + 4 * j) ∧ ρ.iv (102 + 4 * j) ≤ ρ.iv (103 + 4 * j) ∧ ρ.iv (103 + 4 * j) ≤ 24000
  go : 0 ≤ ρ.iv 61 ∧ ρ.iv 61 ≤ ρ.iv 62 ∧ ρ.iv 62 ≤ 3600
  back : 0 ≤ ρ.iv 63 ∧ ρ.iv 63 ≤ ρ.iv 64 ∧ ρ.iv 64 ≤ 3600
theorem lastZ_of {L : Nat} (h0 : 1 ≤ L) (hL : L ≤ 6) {ρ : Rho} (h : okBN L ρ) : LastZ L ρ := by
  have b := h.1.2.2.2
  have q := ivC_in b.1
  have q1 := q (61, 0, 3600) (by simp [bookQ])
  have q2 := q (62, 0, 3600) (by simp [bookQ])
  have q3 := q (63, 0, 3600) (by simp [bookQ])
  have q4 := q (64, 0, 3600) (by simp [bookQ])
  have l1 := BE.t_leq.1 (b.2 (leV 61 62) (by simp [bookLe]))
  have l2 := BE.t_leq.1 (b.2 (leV 63 64) (by simp [bookLe]))
  simp only [IE.den_var] at l1 l2 q1 q2 q3 q4
  refine ⟨fun j hj => ?_, fun j hj => ?_, ⟨q1.1, l1, q2.2⟩, ⟨q3.1, l2, q4.2⟩⟩
  · have := okN_in h0 hL h.1 h.2.1 hj (show 0 < 2 by omega)
    exact this
  · have := okN_in h0 hL h.1 h.2.1 hj (show 1 < 2 by omega)
    rw [show 100 + 4 * j + 2 * 1 = 102 + 4 * j by omega, show 101 + 4 * j + 2 * 1 = 103 + 4 * j by omega] at this
    exact this
theorem LastZ.a {L : Nat} {ρ : Rho} (H : LastZ L ρ) {t e j : Nat} (ht : t < 2) (he : e < 2) (hj : j < L) : 0 ≤ ρ.iv (100 + 4 * j + 2 * t + e) ∧ ρ.iv (100 + 4 * j + 2 * t + e) ≤ 24000 := by
  have a := H.t0 j hj
  have b := H.t1 j hj
  rcases (by omega : t = 0 ∧ e = 0 ∨ t = 0 ∧ e = 1 ∨ t = 1 ∧ e = 0 ∨ t = 1 ∧ e = 1) with ⟨rfl, rfl⟩ | ⟨rfl, rfl⟩ | ⟨rfl, rfl⟩ | ⟨rfl, rfl⟩
  · rw [show 100 + 4 * j + 2 * 0 + 0 = 100 + 4 * j by omega]; omega
  · rw [show 100 + 4 * j + 2 * 0 + 1 = 101 + 4 * j by omega]; omega
  · rw [show 100 + 4 * j + 2 * 1 + 0 = 102 + 4 * j by omega]; omega
  · rw [show 100 + 4 * j + 2 * 1 + 1 = 103 + 4 * j by omega]; omega
def befZ (ρ : Rho) (t e : Nat) : Nat → Int
  | 0 => 0
  | n + 1 => befZ ρ t e n + ρ.iv (100 + 4 * n + 2 * t + e)
theorem befZ_in {L : Nat} {ρ : Rho} (H : LastZ L ρ) {t e : Nat} (ht : t < 2) (he : e < 2) : ∀ n, n ≤ L → 0 ≤ befZ ρ t e n ∧ befZ ρ t e n ≤ 24000 * n
  | 0, _ => ⟨Int.le_refl _, Int.le_refl _⟩
  | n + 1, hn => by
    have i := befZ_in H ht he n (by omega)
    have a := H.a ht he (show n < L by omega)
    simp only [befZ]
    omega
theorem befE_den {L : Nat} (hL : L ≤ 6) {ρ : Rho} (H : LastZ L ρ) {t e : Nat} (ht : t < 2) (he : e < 2) : ∀ n, n ≤ L → (befE t e n).den ρ = befZ ρ t e n
  | 0, _ => rfl
  | n + 1, hn => by
    have i := befZ_in H ht he n (by omega)
    have a := H.a ht he (show n < L by omega)
    have e1 : befE t e (n + 1) = adE (befE t e n) (aV t e n) := rfl
    rw [e1]
    unfold adE
    rw [IE.den_add, befE_den hL H ht he n (by omega)]
    show IntKind.i64.wrap (befZ ρ t e n + ρ.iv (100 + 4 * n + 2 * t + e)) = _
    rw [wrap_sm (by omega) (by omega)]; rfl
theorem ten_den {ρ : Rho} {a : IE} (h0 : -1000000 ≤ a.den ρ) (h1 : a.den ρ ≤ 1000000) : (tenE a).den ρ = 10 * a.den ρ := by
  unfold tenE
  rw [IE.den_mul, IE.den_lit]
  exact wrap_sm (by omega) (by omega)
theorem repE_mem {a x : IE} : ∀ (n : Nat) (l : List IE), x ∈ repE a n l → x = a ∨ x ∈ l
  | 0, _, h => .inr h
  | n + 1, l, h => by
    have h : x ∈ a :: repE a n l := h
    rcases List.mem_cons.1 h with h | h
    · exact .inl h
    · exact repE_mem n l h
theorem repE_len {a : IE} : ∀ (n : Nat) (l : List IE), (repE a n l).length = n + l.length
  | 0, l => (Nat.zero_add _).symm
  | n + 1, l => by
    have e : repE a (n + 1) l = a :: repE a n l := rfl
    rw [e, List.length_cons, repE_len n l]; omega
theorem atsE_cons (e p : Nat) (plan : List Nat) (next : Nat) (boy : IE) : atsE e (p :: plan) next boy = repE (atE e (next + p) boy) p (atsE e plan (next + p) (adE (atE e (next + p) boy) (tenE (.var (63 + e))))) := rfl
theorem atsE_len (e : Nat) : ∀ (plan : List Nat) (next : Nat) (boy : IE), (atsE e plan next boy).length = sumN plan
  | [], _, _ => rfl
  | p :: plan, next, boy => by rw [atsE_cons, repE_len, atsE_len e plan]; rfl
theorem at_den {L : Nat} (hL : L ≤ 6) {ρ : Rho} (H : LastZ L ρ) {e next : Nat} (he : e < 2) (hn : next ≤ L) {boy : IE} {M : Int} (h0 : 0 ≤ boy.den ρ) (h1 : boy.den ρ ≤ M) (hM : 144000 ≤ M) (hM2 : M ≤ 10000000) :
    (atE e next boy).den ρ = max (boy.den ρ) (befZ ρ 0 e next) + 10 * ρ.iv (61 + e) ∧ 0 ≤ (atE e next boy).den ρ ∧ (atE e next boy).den ρ ≤ M + 36000 := by
  have b := befZ_in H (show 0 < 2 by omega) he next hn
  have g : 0 ≤ ρ.iv (61 + e) ∧ ρ.iv (61 + e) ≤ 3600 := by
    have := H.go
    rcases (by omega : e = 0 ∨ e = 1) with rfl | rfl
    · rw [show 61 + 0 = 61 by omega]; omega
    · rw [show 61 + 1 = 62 by omega]; omega
  have hd : (atE e next boy).den ρ = max (boy.den ρ) (befZ ρ 0 e next) + 10 * ρ.iv (61 + e) := by
    unfold atE adE
    rw [IE.den_add, IE.den_mx, befE_den hL H (by omega) he next hn, ten_den (by rw [IE.den_var]; omega) (by rw [IE.den_var]; omega), IE.den_var]
    exact wrap_sm (by omega) (by omega)
  refine ⟨hd, ?_, ?_⟩ <;> rw [hd] <;> omega
theorem boy_den {L : Nat} {ρ : Rho} (H : LastZ L ρ) {e : Nat} (he : e < 2) {x : IE} {M : Int} (h0 : 0 ≤ x.den ρ) (h1 : x.den ρ ≤ M) (hM : M ≤ 10000000) :
    (adE x (tenE (.var (63 + e)))).den ρ = x.den ρ + 10 * ρ.iv (63 + e) ∧ 0 ≤ (adE x (tenE (.var (63 + e)))).den ρ ∧ (adE x (tenE (.var (63 + e)))).den ρ ≤ M + 36000 := by
  have g : 0 ≤ ρ.iv (63 + e) ∧ ρ.iv (63 + e) ≤ 3600 := by
    have := H.back
    rcases (by omega : e = 0 ∨ e = 1) with rfl | rfl
    · rw [show 63 + 0 = 63 by omega]; omega
    · rw [show 63 + 1 = 64 by omega]; omega
  have hd : (adE x (tenE (.var (63 + e)))).den ρ = x.den ρ + 10 * ρ.iv (63 + e) := by
    unfold adE
    rw [IE.den_add, ten_den (by rw [IE.den_var]; omega) (by rw [IE.den_var]; omega), IE.den_var]
    exact wrap_sm (by omega) (by omega)
  refine ⟨hd, ?_, ?_⟩ <;> rw [hd] <;> omega
theorem atsE_in {L : Nat} (hL : L ≤ 6) {ρ : Rho} (H : LastZ L ρ) {e : Nat} (he : e < 2) : ∀ (plan : List Nat) (next : Nat) (boy : IE) (k : Nat), next + sumN plan ≤ L → plan.length + k ≤ 6 → 0 ≤ boy.den ρ → boy.den ρ ≤ 144000 + 72000 * k →
    ∀ x ∈ atsE e plan next boy, 0 ≤ x.den ρ ∧ x.den ρ ≤ 600000
  | [], _, _, _, _, _, _, _, x, hx => by cases hx
  | p :: plan, next, boy, k, hn, hk, h0, h1, x, hx => by
    simp only [sumN, List.length_cons] at hn hk
    have a := at_den hL H (next := next + p) he (by omega) h0 h1 (by omega) (by omega)
    rw [atsE_cons] at hx
    rcases repE_mem _ _ hx with rfl | hx
    · omega
    · have b := boy_den H he a.2.1 a.2.2 (by omega)
      exact atsE_in hL H he plan (next + p) _ (k + 1) (by omega) (by omega) b.2.1 (by have := b.2.2; push_cast; omega) x hx
theorem lateE_cons (e2 : Nat) (a : IE) (l : List IE) (i : Nat) (acc : IE) : lateE e2 (a :: l) i acc = lateE e2 l (i + 1) (.mx acc (sbE a (befE 1 e2 i))) := rfl
theorem lateE_den {L : Nat} (hL : L ≤ 6) {ρ : Rho} (H : LastZ L ρ) {e2 : Nat} (he : e2 < 2) : ∀ (l : List IE) (i : Nat) (acc : IE), i + l.length ≤ L → (∀ x ∈ l, 0 ≤ x.den ρ ∧ x.den ρ ≤ 600000) → 0 ≤ acc.den ρ → acc.den ρ ≤ 600000 →
    acc.den ρ ≤ (lateE e2 l i acc).den ρ ∧ (lateE e2 l i acc).den ρ ≤ 600000 ∧ (∀ k x, l[k]? = some x → x.den ρ - befZ ρ 1 e2 (i + k) ≤ (lateE e2 l i acc).den ρ) ∧
      ((lateE e2 l i acc).den ρ = acc.den ρ ∨ ∃ k x, l[k]? = some x ∧ (lateE e2 l i acc).den ρ = x.den ρ - befZ ρ 1 e2 (i + k))
  | [], i, acc, _, _, h0, h1 => ⟨Int.le_refl _, h1, fun k x h => by simp at h, .inl rfl⟩
  | a :: l, i, acc, hi, hl, h0, h1 => by
    simp only [List.length_cons] at hi
    have ha := hl a List.mem_cons_self
    have b := befZ_in H (show 1 < 2 by omega) he i (by omega)
    have hs : (sbE a (befE 1 e2 i)).den ρ = a.den ρ - befZ ρ 1 e2 i := by
      unfold sbE
      rw [IE.den_sub, befE_den hL H (by omega) he i (by omega)]
      exact wrap_sm (by omega) (by omega)
    have hm : (IE.mx acc (sbE a (befE 1 e2 i))).den ρ = max (acc.den ρ) (a.den ρ - befZ ρ 1 e2 i) := by rw [IE.den_mx, hs]
    obtain ⟨r1, r2, r3, r4⟩ := lateE_den hL H he l (i + 1) (.mx acc (sbE a (befE 1 e2 i))) (by omega) (fun x hx => hl x (List.mem_cons_of_mem _ hx)) (by rw [hm]; omega) (by rw [hm]; omega)
    rw [lateE_cons]
    rw [hm] at r1 r4
    refine ⟨by omega, r2, fun k x hx => ?_, ?_⟩
    · cases k with
      | zero => simp only [List.getElem?_cons_zero, Option.some.injEq] at hx; subst hx; rw [Nat.add_zero]; omega
      | succ k =>
        rw [List.getElem?_cons_succ] at hx
        have := r3 k x hx
        rw [show i + (k + 1) = i + 1 + k by omega]; exact this
    · rcases r4 with r4 | ⟨k, x, hx, r4⟩
      · by_cases h : acc.den ρ ≤ a.den ρ - befZ ρ 1 e2 i
        · exact .inr ⟨0, a, rfl, by rw [r4, Nat.add_zero]; omega⟩
        · exact .inl (by omega)
      · exact .inr ⟨k + 1, x, by rw [List.getElem?_cons_succ]; exact hx, by rw [r4, show i + (k + 1) = i + 1 + k by omega]⟩
theorem sec_den {ρ : Rho} {x : IE} (h0 : 0 ≤ x.den ρ) (h1 : x.den ρ ≤ 600000) : 0 ≤ (secE x).den ρ ∧ (secE x).den ρ ≤ 100000 ∧ x.den ρ ≤ 10 * (secE x).den ρ ∧ 10 * (secE x).den ρ ≤ x.den ρ + 9 := by
  have e : (secE x).den ρ = (x.den ρ + 10 - 1) / 10 := by
    have d : (sbE (adE x (.lit 10)) (.lit 1)).den ρ = x.den ρ + 10 - 1 := by
      unfold sbE adE
      have w : IntKind.i64.wrap (x.den ρ + 10) = x.den ρ + 10 := wrap_sm (by omega) (by omega)
      rw [IE.den_sub, IE.den_add, IE.den_lit, IE.den_lit, w]
      exact wrap_sm (by omega) (by omega)
    have : (secE x).den ρ = IntKind.i64.wrap ((sbE (adE x (.lit 10)) (.lit 1)).den ρ |>.tdiv 10) := rfl
    rw [this, d, Int.tdiv_eq_ediv_of_nonneg (by omega)]
    exact wrap_sm (by omega) (by omega)
  rw [e]
  omega
end Go.Sx
