/- RtG -/
import Derived.Test.YtpdednocbpoikaaDoorRtW
import Derived.Test.YtpdednocbpoikaaDoorRtX5
import Derived.Test.YtpdednocbpoikaaDoorRtX6a
import Derived.Test.YtpdednocbpoikaaDoorRtX6b
import Derived.Test.YtpdednocbpoikaaDoorRtX6c
import Derived.Test.YtpdednocbpoikaaDoorRtX6d
import Derived.Test.YtpdednocbpoikaaDoorRtK5a
import Derived.Test.YtpdednocbpoikaaDoorRtK5b
import Derived.Test.YtpdednocbpoikaaDoorRtK6a
import Derived.Test.YtpdednocbpoikaaDoorRtK6b
import Derived.Test.YtpdednocbpoikaaDoorRtK6c
import Derived.Test.YtpdednocbpoikaaDoorRtK6d
import Derived.Test.YtpdednocbpoikaaDoorRtK6e
import Derived.Test.YtpdednocbpoikaaDoorRtK6f
import Derived.Test.YtpdednocbpoikaaDoorRtK6g
import Derived.Test.YtpdednocbpoikaaDoorRtK6h
namespace Go.Sx
open Go.RowKit Go.Proofs
set_option maxRecDepth 100000
theorem repE_get {a : IE} : ∀ (n : Nat) (l : List IE) (i : Nat), (repE a n l)[i]? = if i < n then some a else l[i - n]?
  | 0, l, i => by rw [if_neg (by omega)]; rfl
  | n + 1, l, i => by
    have e : repE a (n + 1) l = a :: repE a n l := rfl
    rw [e]
    cases i with
    | zero => rw [if_pos (by omega)]; rfl
    | succ i =>
      rw [List.getElem?_cons_succ, repE_get n l i]
      by_cases h : i < n
      · rw [if_pos h, if_pos (by omega)]
      · rw [if_neg h, if_neg (by omega), show i + 1 - (n + 1) = i - n by omega]
theorem spanUp_rest {i0 : Nat} {l : List (Nat × Nat × Nat)} {x : Nat × Nat × Nat} (h : x ∈ l) : ∀ (n next j : Nat), x ∈ spanUp i0 n l next j
  | 0, _, _ => h
  | n + 1, next, j => List.mem_cons_of_mem _ (spanUp_rest h n (next + 1) (j + 1))
theorem spanUp_mem {i0 : Nat} {l : List (Nat × Nat × Nat)} : ∀ (n next j q : Nat), q < n → (next + q, i0 + 4 * (j + q), i0 + 1 + 4 * (j + q)) ∈ spanUp i0 n l next j
  | 0, _, _, _, h => by omega
  | n + 1, next, j, 0, _ => List.mem_cons_self
  | n + 1, next, j, q + 1, h => by
    have := spanUp_mem (i0 := i0) (l := l) n (next + 1) (j + 1) q (by omega)
    rw [show next + 1 + q = next + (q + 1) by omega, show j + 1 + q = j + (q + 1) by omega] at this
    exact List.mem_cons_of_mem _ this
theorem sh_den {L : Nat} {ρ : Rho} (H : LastZ L ρ) (hL : L ≤ 6) : ∀ (p next j : Nat) (shown : IE), j + p ≤ L → (∀ q, q < p → ρ.iv (100 + 4 * (j + q)) ≤ ρ.iv (340 + (next + q)) ∧ ρ.iv (340 + (next + q)) ≤ ρ.iv (101 + 4 * (j + q))) →
    befZ ρ 0 0 j ≤ shown.den ρ → shown.den ρ ≤ befZ ρ 0 1 j → befZ ρ 0 0 (j + p) ≤ (shE p next shown).den ρ ∧ (shE p next shown).den ρ ≤ befZ ρ 0 1 (j + p)
  | 0, _, _, _, _, _, h1, h2 => ⟨h1, h2⟩
  | p + 1, next, j, shown, hj, hv, h1, h2 => by
    have v := hv 0 (by omega)
    rw [Nat.add_zero, Nat.add_zero] at v
    have b0 := befZ_in H (show 0 < 2 by omega) (show 0 < 2 by omega) j (by omega)
    have b1 := befZ_in H (show 0 < 2 by omega) (show 1 < 2 by omega) j (by omega)
    have a := H.t0 j (by omega)
    have d : (adE shown (.var (340 + next))).den ρ = shown.den ρ + ρ.iv (340 + next) := by
      unfold adE
      rw [IE.den_add, IE.den_var]
      exact wrap_sm (by omega) (by omega)
    have e0 : befZ ρ 0 0 (j + 1) = befZ ρ 0 0 j + ρ.iv (100 + 4 * j) := rfl
    have e1 : befZ ρ 0 1 (j + 1) = befZ ρ 0 1 j + ρ.iv (101 + 4 * j) := by
      show befZ ρ 0 1 j + ρ.iv (100 + 4 * j + 2 * 0 + 1) = _
      rw [show 100 + 4 * j + 2 * 0 + 1 = 101 + 4 * j by omega]
    have := sh_den H hL p (next + 1) (j + 1) (adE shown (.var (340 + next))) (by omega) (fun q hq => by
      have := hv (q + 1) (by omega)
      rw [show j + 1 + q = j + (q + 1) by omega, show next + 1 + q = next + (q + 1) by omega]; exact this) (by rw [d, e0]; omega) (by rw [d, e1]; omega)
    rw [show j + (p + 1) = j + 1 + p by omega]
    exact this
theorem trueE_cons (p : Nat) (plan : List Nat) (next : Nat) (shown boy : IE) : trueE (p :: plan) next shown boy = repE (adE (.mx boy (shE p next shown)) (tenE (.var (340 + (next + p))))) p (trueE plan (next + p + 2) (shE p next shown) (adE (adE (.mx boy (shE p next shown)) (tenE (.var (340 + (next + p))))) (tenE (.var (340 + (next + p + 1)))))) := rfl
theorem chsE_cons (p : Nat) (plan : List Nat) (next j : Nat) : chsE (p :: plan) next j = spanUp 100 p ((next + p, 61, 62) :: (next + p + 1, 63, 64) :: chsE plan (next + p + 2) (j + p)) next j := rfl
theorem true_den {L : Nat} (hL : L ≤ 6) {ρ : Rho} (H : LastZ L ρ) : ∀ (plan : List Nat) (next j : Nat) (shown bT b0 b1 : IE) (k : Nat), j + sumN plan ≤ L → plan.length + k ≤ 6 →
    (∀ q ∈ chsE plan next j, ρ.iv q.2.1 ≤ ρ.iv (340 + q.1) ∧ ρ.iv (340 + q.1) ≤ ρ.iv q.2.2) → befZ ρ 0 0 j ≤ shown.den ρ → shown.den ρ ≤ befZ ρ 0 1 j → 0 ≤ b0.den ρ → b0.den ρ ≤ bT.den ρ → bT.den ρ ≤ b1.den ρ → b1.den ρ ≤ 144000 + 72000 * k →
    (trueE plan next shown bT).length = sumN plan ∧ ∀ (i : Nat) (a t c : IE), (atsE 0 plan j b0)[i]? = some a → (trueE plan next shown bT)[i]? = some t → (atsE 1 plan j b1)[i]? = some c → a.den ρ ≤ t.den ρ ∧ t.den ρ ≤ c.den ρ
  | [], _, _, _, _, _, _, _, _, _, _, _, _, _, _, _, _ => ⟨rfl, fun i a t c h _ _ => by cases h⟩
  | p :: plan, next, j, shown, bT, b0, b1, k, hj, hk, hc, s0, s1, h0, hT, h1, hM => by
    simp only [sumN, List.length_cons] at hj hk
    rw [chsE_cons] at hc
    have sh := sh_den H hL p next j shown (by omega) (fun q hq => hc _ (spanUp_mem p next j q hq)) s0 s1
    have g : ρ.iv 61 ≤ ρ.iv (340 + (next + p)) ∧ ρ.iv (340 + (next + p)) ≤ ρ.iv 62 := hc _ (spanUp_rest List.mem_cons_self p next j)
    have r : ρ.iv 63 ≤ ρ.iv (340 + (next + p + 1)) ∧ ρ.iv (340 + (next + p + 1)) ≤ ρ.iv 64 := hc _ (spanUp_rest (List.mem_cons_of_mem _ List.mem_cons_self) p next j)
    have hg := H.go
    have hb := H.back
    have z0 := befZ_in H (show 0 < 2 by omega) (show 0 < 2 by omega) (j + p) (by omega)
    have z1 := befZ_in H (show 0 < 2 by omega) (show 1 < 2 by omega) (j + p) (by omega)
    have a0 := at_den hL H (e := 0) (next := j + p) (by omega) (by omega) h0 (show b0.den ρ ≤ 144000 + 72000 * (k : Int) by omega) (by omega) (by omega)
    have a1 := at_den hL H (e := 1) (next := j + p) (by omega) (by omega) (show 0 ≤ b1.den ρ by omega) hM (by omega) (by omega)
    have dt : (adE (.mx bT (shE p next shown)) (tenE (.var (340 + (next + p))))).den ρ = max (bT.den ρ) ((shE p next shown).den ρ) + 10 * ρ.iv (340 + (next + p)) := by
      unfold adE
      rw [IE.den_add, IE.den_mx, ten_den (by rw [IE.den_var]; omega) (by rw [IE.den_var]; omega), IE.den_var]
      exact wrap_sm (by omega) (by omega)
    have e61 : ρ.iv (61 + 0) = ρ.iv 61 := rfl
    have e62 : ρ.iv (61 + 1) = ρ.iv 62 := rfl
    rw [e61] at a0
    rw [e62] at a1
    generalize hAT : adE (.mx bT (shE p next shown)) (tenE (.var (340 + (next + p)))) = AT at *
    generalize hA0 : atE 0 (j + p) b0 = A0 at *
    generalize hA1 : atE 1 (j + p) b1 = A1 at *
    have c0 := boy_den H (e := 0) (by omega) a0.2.1 a0.2.2 (by omega)
    have c1 := boy_den H (e := 1) (by omega) a1.2.1 a1.2.2 (by omega)
    have e63 : ρ.iv (63 + 0) = ρ.iv 63 := rfl
    have e64 : ρ.iv (63 + 1) = ρ.iv 64 := rfl
    rw [e63] at c0
    rw [e64] at c1
    have cT : (adE AT (tenE (.var (340 + (next + p + 1))))).den ρ = AT.den ρ + 10 * ρ.iv (340 + (next + p + 1)) := by
      unfold adE
      rw [IE.den_add, ten_den (by rw [IE.den_var]; omega) (by rw [IE.den_var]; omega), IE.den_var]
      exact wrap_sm (by omega) (by omega)
    have rec1 := true_den hL H plan (next + p + 2) (j + p) (shE p next shown) (adE AT (tenE (.var (340 + (next + p + 1))))) (adE A0 (tenE (.var (63 + 0)))) (adE A1 (tenE (.var (63 + 1)))) (k + 1) (by omega) (by omega)
      (fun q hq => hc q (spanUp_rest (List.mem_cons_of_mem _ (List.mem_cons_of_mem _ hq)) p next j)) sh.1 sh.2 c0.2.1 (by rw [c0.1, cT]; omega) (by rw [c1.1, cT]; omega) (by rw [c1.1]; push_cast; omega)
    refine ⟨?_, fun i a t c ha ht hcc => ?_⟩
    · rw [trueE_cons, repE_len, hAT, rec1.1]; rfl
    · rw [atsE_cons, hA0, repE_get] at ha
      rw [trueE_cons, hAT, repE_get] at ht
      rw [atsE_cons, hA1, repE_get] at hcc
      by_cases hi : i < p
      · rw [if_pos hi] at ha ht hcc
        cases ha; cases ht; cases hcc
        omega
      · rw [if_neg hi] at ha ht hcc
        exact rec1.2 _ a t c ha ht hcc
structure SecZ (L : Nat) (nx : Nat) (ρ : Rho) : Prop where
  s : ∀ k, k < L → ρ.iv (102 + 4 * k) ≤ ρ.iv (340 + (nx + k)) ∧ ρ.iv (340 + (nx + k)) ≤ ρ.iv (103 + 4 * k)
theorem bef1 {ρ : Rho} (j : Nat) : befZ ρ 1 0 (j + 1) = befZ ρ 1 0 j + ρ.iv (102 + 4 * j) ∧ befZ ρ 1 1 (j + 1) = befZ ρ 1 1 j + ρ.iv (103 + 4 * j) := by
  constructor
  · show befZ ρ 1 0 j + ρ.iv (100 + 4 * j + 2 * 1 + 0) = _
    rw [show 100 + 4 * j + 2 * 1 + 0 = 102 + 4 * j by omega]
  · show befZ ρ 1 1 j + ρ.iv (100 + 4 * j + 2 * 1 + 1) = _
    rw [show 100 + 4 * j + 2 * 1 + 1 = 103 + 4 * j by omega]
theorem now_den {ρ : Rho} {x : IE} {v : Nat} (h0 : 0 ≤ x.den ρ) (h1 : x.den ρ ≤ 10000000) (h2 : 0 ≤ ρ.iv v) (h3 : ρ.iv v ≤ 24000) : (adE x (.var v)).den ρ = x.den ρ + ρ.iv v := by
  unfold adE
  rw [IE.den_add, IE.den_var]
  exact wrap_sm (by omega) (by omega)
theorem hap_ge {ρ : Rho} {nx : Nat} : ∀ (l : List IE) (i : Nat) (now : IE) (cnt : Nat), cnt ≤ (hapI ρ nx l i now cnt).2
  | [], _, _, _ => Nat.le_refl _
  | a :: l, i, now, cnt => by
    unfold hapI
    split
    · exact Nat.le_trans (Nat.le_succ _) (hap_ge l (i + 1) _ (cnt + 1))
    · exact hap_ge l (i + 1) _ cnt
theorem hap_none {L : Nat} {ρ : Rho} (H : LastZ L ρ) {nx : Nat} (S : SecZ L nx ρ) : ∀ (l : List IE) (i : Nat) (now : IE) (cnt : Nat), i + l.length ≤ L → 0 ≤ now.den ρ → now.den ρ ≤ 1000000 + 24000 * i → L ≤ 6 →
    (∀ (k : Nat) (x : IE), l[k]? = some x → x.den ρ ≤ now.den ρ + (befZ ρ 1 0 (i + k) - befZ ρ 1 0 i)) → (hapI ρ nx l i now cnt).2 = cnt
  | [], _, _, _, _, _, _, _, _ => rfl
  | a :: l, i, now, cnt, hi, h0, h1, hL, h => by
    simp only [List.length_cons] at hi
    have ha := h 0 a rfl
    rw [Nat.add_zero] at ha
    have s := S.s i (by omega)
    have t := H.t1 i (by omega)
    have d := now_den (v := 340 + (nx + i)) h0 (by omega) (by omega) (by omega)
    unfold hapI
    rw [if_neg (by omega)]
    refine hap_none H S l (i + 1) _ cnt (by omega) (by rw [d]; omega) (by rw [d]; push_cast; omega) hL fun k x hx => ?_
    have := h (k + 1) x (by rw [List.getElem?_cons_succ]; exact hx)
    have e := (bef1 (ρ := ρ) i).1
    rw [d, show i + 1 + k = i + (k + 1) by omega]
    omega
theorem hap_zero {L : Nat} {ρ : Rho} (H : LastZ L ρ) {nx : Nat} (S : SecZ L nx ρ) : ∀ (l : List IE) (i : Nat) (now : IE) (cnt : Nat), i + l.length ≤ L → 0 ≤ now.den ρ → now.den ρ ≤ 1000000 + 24000 * i → L ≤ 6 → (hapI ρ nx l i now cnt).2 = cnt →
    ∀ (k : Nat) (x : IE), l[k]? = some x → x.den ρ ≤ now.den ρ + (befZ ρ 1 1 (i + k) - befZ ρ 1 1 i)
  | [], _, _, _, _, _, _, _, _, k, x, hx => by simp at hx
  | a :: l, i, now, cnt, hi, h0, h1, hL, h, k, x, hx => by
    simp only [List.length_cons] at hi
    have s := S.s i (by omega)
    have t := H.t1 i (by omega)
    have d := now_den (v := 340 + (nx + i)) h0 (by omega) (by omega) (by omega)
    unfold hapI at h
    by_cases hlt : now.den ρ < a.den ρ
    · rw [if_pos hlt] at h
      have := hap_ge (ρ := ρ) (nx := nx) l (i + 1) (adE a (.var (340 + (nx + i)))) (cnt + 1)
      omega
    · rw [if_neg hlt] at h
      cases k with
      | zero =>
        simp only [List.getElem?_cons_zero, Option.some.injEq] at hx
        subst hx
        rw [Nat.add_zero]; omega
      | succ k =>
        rw [List.getElem?_cons_succ] at hx
        have := hap_zero H S l (i + 1) _ cnt (by omega) (by rw [d]; omega) (by rw [d]; push_cast; omega) hL h k x hx
        have e := (bef1 (ρ := ρ) i).2
        rw [d, show i + 1 + k = i + (k + 1) by omega] at this
        omega
theorem hap_over {L : Nat} (hL : L ≤ 6) {ρ : Rho} (H : LastZ L ρ) {nx : Nat} (S : SecZ L nx ρ) : ∀ (l0 lT l1 : List IE) (i : Nat) (acc0 now acc1 : IE) (cnt : Nat), l0.length = lT.length → l1.length = lT.length → i + lT.length ≤ L →
    (∀ (k : Nat) (a t c : IE), l0[k]? = some a → lT[k]? = some t → l1[k]? = some c → (0 ≤ a.den ρ ∧ a.den ρ ≤ t.den ρ) ∧ t.den ρ ≤ c.den ρ ∧ c.den ρ ≤ 600000) → 0 ≤ acc0.den ρ → acc0.den ρ ≤ now.den ρ → now.den ρ ≤ acc1.den ρ → acc1.den ρ ≤ 1000000 + 24000 * i →
    (overE 0 l0 i acc0).den ρ ≤ (hapI ρ nx lT i now cnt).1.den ρ ∧ (hapI ρ nx lT i now cnt).1.den ρ ≤ (overE 1 l1 i acc1).den ρ
  | [], [], [], _, _, _, _, _, _, _, _, _, _, h1, h2, _ => ⟨h1, h2⟩
  | [], _ :: _, _, _, _, _, _, _, h, _, _, _, _, _, _, _ => by simp at h
  | _ :: _, [], _, _, _, _, _, _, h, _, _, _, _, _, _, _ => by simp at h
  | _, _ :: _, [], _, _, _, _, _, _, h, _, _, _, _, _, _ => by simp at h
  | _, [], _ :: _, _, _, _, _, _, _, h, _, _, _, _, _, _ => by simp at h
  | a :: l0, t :: lT, c :: l1, i, acc0, now, acc1, cnt, e0, e1, hi, hk, h0, hn, hm, hM => by
    simp only [List.length_cons] at e0 e1 hi
    have b := hk 0 a t c rfl rfl rfl
    have s := S.s i (by omega)
    have z := H.t1 i (by omega)
    have m0 : (IE.mx acc0 a).den ρ = max (acc0.den ρ) (a.den ρ) := IE.den_mx
    have m1 : (IE.mx acc1 c).den ρ = max (acc1.den ρ) (c.den ρ) := IE.den_mx
    have v0 : aV 1 0 i = .var (102 + 4 * i) := by unfold aV; rw [show 100 + 4 * i + 2 * 1 + 0 = 102 + 4 * i by omega]
    have v1 : aV 1 1 i = .var (103 + 4 * i) := by unfold aV; rw [show 100 + 4 * i + 2 * 1 + 1 = 103 + 4 * i by omega]
    have d0 := now_den (ρ := ρ) (x := .mx acc0 a) (v := 102 + 4 * i) (by rw [m0]; omega) (by rw [m0]; omega) z.1 (by omega)
    have d1 := now_den (ρ := ρ) (x := .mx acc1 c) (v := 103 + 4 * i) (by rw [m1]; omega) (by rw [m1]; omega) (by omega) z.2.2
    have dn := now_den (ρ := ρ) (x := now) (v := 340 + (nx + i)) (by omega) (by omega) (by omega) (by omega)
    have dt := now_den (ρ := ρ) (x := t) (v := 340 + (nx + i)) (by omega) (by omega) (by omega) (by omega)
    rw [overE_cons, overE_cons, v0, v1]
    have rest : ∀ now' : IE, now'.den ρ = max (now.den ρ) (t.den ρ) + ρ.iv (340 + (nx + i)) → ∀ cnt', (overE 0 l0 (i + 1) (adE (.mx acc0 a) (.var (102 + 4 * i)))).den ρ ≤ (hapI ρ nx lT (i + 1) now' cnt').1.den ρ ∧ (hapI ρ nx lT (i + 1) now' cnt').1.den ρ ≤ (overE 1 l1 (i + 1) (adE (.mx acc1 c) (.var (103 + 4 * i)))).den ρ := fun now' hd cnt' =>
      hap_over hL H S l0 lT l1 (i + 1) _ now' _ cnt' (by omega) (by omega) (by omega) (fun k x y w hx hy hw => hk (k + 1) x y w (by rw [List.getElem?_cons_succ]; exact hx) (by rw [List.getElem?_cons_succ]; exact hy) (by rw [List.getElem?_cons_succ]; exact hw))
        (by rw [d0, m0]; omega) (by rw [d0, m0, hd]; omega) (by rw [d1, m1, hd]; omega) (by rw [d1, m1]; push_cast; omega)
    unfold hapI
    split
    · exact rest _ (by rw [dt]; omega) _
    · exact rest _ (by rw [dn]; omega) _
end Go.Sx
namespace Go.Sx
open Go.RowKit Go.Proofs
set_option maxRecDepth 100000
theorem ckOv4_all : lAll (ckOv 4) (plansL 4) = true := by
  have h4 : lAll (ckOv 4) (lDrop (plansL 4) 8) = true := by kernel_rfl
  have h3 := chunk ckOv4_3 h4
  have h2 := chunk ckOv4_2 h3
  have h1 := chunk ckOv4_1 h2
  have h0 := chunk ckOv4_0 h1
  rw [lDrop_eq, List.drop_zero] at h0
  exact h0
theorem ckOv5_all : lAll (ckOv 5) (plansL 5) = true := by
  have h16 : lAll (ckOv 5) (lDrop (plansL 5) 16) = true := by kernel_rfl
  have h15 := chunk ckOv5_15 h16
  have h14 := chunk ckOv5_14 h15
  have h13 := chunk ckOv5_13 h14
  have h12 := chunk ckOv5_12 h13
  have h11 := chunk ckOv5_11 h12
  have h10 := chunk ckOv5_10 h11
  have h9 := chunk ckOv5_9 h10
  have h8 := chunk ckOv5_8 h9
  have h7 := chunk ckOv5_7 h8
  have h6 := chunk ckOv5_6 h7
  have h5 := chunk ckOv5_5 h6
  have h4 := chunk ckOv5_4 h5
  have h3 := chunk ckOv5_3 h4
  have h2 := chunk ckOv5_2 h3
  have h1 := chunk ckOv5_1 h2
  have h0 := chunk ckOv5_0 h1
  rw [lDrop_eq, List.drop_zero] at h0
  exact h0
theorem ckOv6_all : lAll (ckOv 6) (plansL 6) = true := by
  have h32 : lAll (ckOv 6) (lDrop (plansL 6) 32) = true := by kernel_rfl
  have h31 := chunk ckOv6_31 h32
  have h30 := chunk ckOv6_30 h31
  have h29 := chunk ckOv6_29 h30
  have h28 := chunk ckOv6_28 h29
  have h27 := chunk ckOv6_27 h28
  have h26 := chunk ckOv6_26 h27
  have h25 := chunk ckOv6_25 h26
  have h24 := chunk ckOv6_24 h25
  have h23 := chunk ckOv6_23 h24
  have h22 := chunk ckOv6_22 h23
  have h21 := chunk ckOv6_21 h22
  have h20 := chunk ckOv6_20 h21
  have h19 := chunk ckOv6_19 h20
  have h18 := chunk ckOv6_18 h19
  have h17 := chunk ckOv6_17 h18
  have h16 := chunk ckOv6_16 h17
  have h15 := chunk ckOv6_15 h16
  have h14 := chunk ckOv6_14 h15
  have h13 := chunk ckOv6_13 h14
  have h12 := chunk ckOv6_12 h13
  have h11 := chunk ckOv6_11 h12
  have h10 := chunk ckOv6_10 h11
  have h9 := chunk ckOv6_9 h10
  have h8 := chunk ckOv6_8 h9
  have h7 := chunk ckOv6_7 h8
  have h6 := chunk ckOv6_6 h7
  have h5 := chunk ckOv6_5 h6
  have h4 := chunk ckOv6_4 h5
  have h3 := chunk ckOv6_3 h4
  have h2 := chunk ckOv6_2 h3
  have h1 := chunk ckOv6_1 h2
  have h0 := chunk ckOv6_0 h1
  rw [lDrop_eq, List.drop_zero] at h0
  exact h0
theorem ckH4_all : lAll (ckH 4) (plansL 4) = true := by
  have h4 : lAll (ckH 4) (lDrop (plansL 4) 8) = true := by kernel_rfl
  have h3 := chunk ckH4_3 h4
  have h2 := chunk ckH4_2 h3
  have h1 := chunk ckH4_1 h2
  have h0 := chunk ckH4_0 h1
  rw [lDrop_eq, List.drop_zero] at h0
  exact h0
theorem ckH5_all : lAll (ckH 5) (plansL 5) = true := by
  have h16 : lAll (ckH 5) (lDrop (plansL 5) 16) = true := by kernel_rfl
  have h15 := chunk ckH5_15 h16
  have h14 := chunk ckH5_14 h15
  have h13 := chunk ckH5_13 h14
  have h12 := chunk ckH5_12 h13
  have h11 := chunk ckH5_11 h12
  have h10 := chunk ckH5_10 h11
  have h9 := chunk ckH5_9 h10
  have h8 := chunk ckH5_8 h9
  have h7 := chunk ckH5_7 h8
  have h6 := chunk ckH5_6 h7
  have h5 := chunk ckH5_5 h6
  have h4 := chunk ckH5_4 h5
  have h3 := chunk ckH5_3 h4
  have h2 := chunk ckH5_2 h3
  have h1 := chunk ckH5_1 h2
  have h0 := chunk ckH5_0 h1
  rw [lDrop_eq, List.drop_zero] at h0
  exact h0
theorem ckH6_all : lAll (ckH 6) (plansL 6) = true := by
  have h32 : lAll (ckH 6) (lDrop (plansL 6) 32) = true := by kernel_rfl
  have h31 := chunk ckH6_31 h32
  have h30 := chunk ckH6_30 h31
  have h29 := chunk ckH6_29 h30
  have h28 := chunk ckH6_28 h29
  have h27 := chunk ckH6_27 h28
  have h26 := chunk ckH6_26 h27
  have h25 := chunk ckH6_25 h26
  have h24 := chunk ckH6_24 h25
  have h23 := chunk ckH6_23 h24
  have h22 := chunk ckH6_22 h23
  have h21 := chunk ckH6_21 h22
  have h20 := chunk ckH6_20 h21
  have h19 := chunk ckH6_19 h20
  have h18 := chunk ckH6_18 h19
  have h17 := chunk ckH6_17 h18
  have h16 := chunk ckH6_16 h17
  have h15 := chunk ckH6_15 h16
  have h14 := chunk ckH6_14 h15
  have h13 := chunk ckH6_13 h14
  have h12 := chunk ckH6_12 h13
  have h11 := chunk ckH6_11 h12
  have h10 := chunk ckH6_10 h11
  have h9 := chunk ckH6_9 h10
  have h8 := chunk ckH6_8 h9
  have h7 := chunk ckH6_7 h8
  have h6 := chunk ckH6_6 h7
  have h5 := chunk ckH6_5 h6
  have h4 := chunk ckH6_4 h5
  have h3 := chunk ckH6_3 h4
  have h2 := chunk ckH6_2 h3
  have h1 := chunk ckH6_1 h2
  have h0 := chunk ckH6_0 h1
  rw [lDrop_eq, List.drop_zero] at h0
  exact h0
theorem ckTr4_all : lAll (ckTr 4) (plansL 4) = true := by
  have h4 : lAll (ckTr 4) (lDrop (plansL 4) 8) = true := by kernel_rfl
  have h3 := chunk ckTr4_3 h4
  have h2 := chunk ckTr4_2 h3
  have h1 := chunk ckTr4_1 h2
  have h0 := chunk ckTr4_0 h1
  rw [lDrop_eq, List.drop_zero] at h0
  exact h0
theorem ckTr5_all : lAll (ckTr 5) (plansL 5) = true := by
  have h16 : lAll (ckTr 5) (lDrop (plansL 5) 16) = true := by kernel_rfl
  have h15 := chunk ckTr5_15 h16
  have h14 := chunk ckTr5_14 h15
  have h13 := chunk ckTr5_13 h14
  have h12 := chunk ckTr5_12 h13
  have h11 := chunk ckTr5_11 h12
  have h10 := chunk ckTr5_10 h11
  have h9 := chunk ckTr5_9 h10
  have h8 := chunk ckTr5_8 h9
  have h7 := chunk ckTr5_7 h8
  have h6 := chunk ckTr5_6 h7
  have h5 := chunk ckTr5_5 h6
  have h4 := chunk ckTr5_4 h5
  have h3 := chunk ckTr5_3 h4
  have h2 := chunk ckTr5_2 h3
  have h1 := chunk ckTr5_1 h2
  have h0 := chunk ckTr5_0 h1
  rw [lDrop_eq, List.drop_zero] at h0
  exact h0
theorem ckTr6_all : lAll (ckTr 6) (plansL 6) = true := by
  have h32 : lAll (ckTr 6) (lDrop (plansL 6) 32) = true := by kernel_rfl
  have h31 := chunk ckTr6_31 h32
  have h30 := chunk ckTr6_30 h31
  have h29 := chunk ckTr6_29 h30
  have h28 := chunk ckTr6_28 h29
  have h27 := chunk ckTr6_27 h28
  have h26 := chunk ckTr6_26 h27
  have h25 := chunk ckTr6_25 h26
  have h24 := chunk ckTr6_24 h25
  have h23 := chunk ckTr6_23 h24
  have h22 := chunk ckTr6_22 h23
  have h21 := chunk ckTr6_21 h22
  have h20 := chunk ckTr6_20 h21
  have h19 := chunk ckTr6_19 h20
  have h18 := chunk ckTr6_18 h19
  have h17 := chunk ckTr6_17 h18
  have h16 := chunk ckTr6_16 h17
  have h15 := chunk ckTr6_15 h16
  have h14 := chunk ckTr6_14 h15
  have h13 := chunk ckTr6_13 h14
  have h12 := chunk ckTr6_12 h13
  have h11 := chunk ckTr6_11 h12
  have h10 := chunk ckTr6_10 h11
  have h9 := chunk ckTr6_9 h10
  have h8 := chunk ckTr6_8 h9
  have h7 := chunk ckTr6_7 h8
  have h6 := chunk ckTr6_6 h7
  have h5 := chunk ckTr6_5 h6
  have h4 := chunk ckTr6_4 h5
  have h3 := chunk ckTr6_3 h4
  have h2 := chunk ckTr6_2 h3
  have h1 := chunk ckTr6_1 h2
  have h0 := chunk ckTr6_0 h1
  rw [lDrop_eq, List.drop_zero] at h0
  exact h0
theorem ckOv_all {L : Nat} (h0 : 1 ≤ L) (hL : L ≤ 6) {plan : List Nat} (hp : plan ∈ plansL L) : ckOv L plan = true := by
  rcases six h0 hL with rfl | rfl | rfl | rfl | rfl | rfl
  · exact lAll_mem ckOv1 plan hp
  · exact lAll_mem ckOv2 plan hp
  · exact lAll_mem ckOv3 plan hp
  · exact lAll_mem ckOv4_all plan hp
  · exact lAll_mem ckOv5_all plan hp
  · exact lAll_mem ckOv6_all plan hp
theorem ckH_all {L : Nat} (h0 : 1 ≤ L) (hL : L ≤ 6) {plan : List Nat} (hp : plan ∈ plansL L) : ckH L plan = true := by
  rcases six h0 hL with rfl | rfl | rfl | rfl | rfl | rfl
  · exact lAll_mem ckH1 plan hp
  · exact lAll_mem ckH2 plan hp
  · exact lAll_mem ckH3 plan hp
  · exact lAll_mem ckH4_all plan hp
  · exact lAll_mem ckH5_all plan hp
  · exact lAll_mem ckH6_all plan hp
theorem ckTr_all {L : Nat} (h0 : 1 ≤ L) (hL : L ≤ 6) {plan : List Nat} (hp : plan ∈ plansL L) : ckTr L plan = true := by
  rcases six h0 hL with rfl | rfl | rfl | rfl | rfl | rfl
  · exact lAll_mem ckTr1 plan hp
  · exact lAll_mem ckTr2 plan hp
  · exact lAll_mem ckTr3 plan hp
  · exact lAll_mem ckTr4_all plan hp
  · exact lAll_mem ckTr5_all plan hp
  · exact lAll_mem ckTr6_all plan hp
structure OkTrue (L : Nat) (plan : List Nat) (ρ : Rho) (m : Nat → Obj → Prop) : Prop where
  pb : okPB L plan ρ
  tr : OkTr L plan ρ
  ch : OkCh L plan ρ
  pk : okPick ρ m
  hp : ∀ i, i < 3 → OkHp L plan i (xsE i) ρ
  ov : ∀ i, i < 3 → ρ.iv (240 + 2 * i) = (ovE 0 plan (xsE i)).den ρ ∧ ρ.iv (241 + 2 * i) = (ovE 1 plan (xsE i)).den ρ
  st : ρ.iv 98 = turnF (ρ.iv 97) 4000
noncomputable def pTr (L : Nat) (plan : List Nat) : Par := pOk (OkTrue L plan)
theorem st_in {ρ : Rho} (h : ρ.iv 98 = turnF (ρ.iv 97) 4000) : 0 ≤ ρ.iv 98 ∧ ρ.iv 98 ≤ 3999 := by
  have := turnF_in (n := ρ.iv 97) (m := 4000) (by omega)
  omega
theorem sure_in {L : Nat} (hL : L ≤ 6) {plan : List Nat} {ρ : Rho} (W : WaitZ L plan ρ) : ρ.iv 220 ≤ 70000 ∧ ρ.iv 221 ≤ 70000 := by
  refine ⟨?_, ?_⟩
  · rcases W.late with h | ⟨i, hi, h⟩
    · omega
    · have b := befZ_in W.last (show 1 < 2 by omega) (show 0 < 2 by omega) i (by omega)
      have t := W.there i hi
      omega
  · rcases W.soon with h | ⟨i, hi, h⟩
    · omega
    · have b := befZ_in W.last (show 1 < 2 by omega) (show 1 < 2 by omega) i (by omega)
      have t := W.there i hi
      omega
theorem bg_den {L : Nat} (hL : L ≤ 6) {plan : List Nat} {ρ : Rho} (W : WaitZ L plan ρ) : (bgE 1).den ρ = ρ.iv 220 ∧ (bgE 2).den ρ = max 0 (ρ.iv 221 - 1) := by
  have s := sure_in hL W
  refine ⟨?_, ?_⟩
  · show (IE.mn (.var 220) (.lit 99999)).den ρ = _
    rw [IE.den_mn, IE.den_var, IE.den_lit]; omega
  · show (IE.mx (.lit 0) (sbE (.var 221) (.lit 1))).den ρ = _
    have d : (sbE (.var 221) (.lit 1)).den ρ = ρ.iv 221 - 1 := by
      unfold sbE
      rw [IE.den_sub, IE.den_var, IE.den_lit]
      have := W.may
      exact wrap_sm (by omega) (by omega)
    rw [IE.den_mx, d, IE.den_lit]
theorem xs_den {L : Nat} (hL : L ≤ 6) {plan : List Nat} {ρ : Rho} (W : WaitZ L plan ρ) (h98 : 0 ≤ ρ.iv 98 ∧ ρ.iv 98 ≤ 3999) : (xsE 0).den ρ = ρ.iv 98 ∧ (xsE 1).den ρ = ρ.iv 220 ∧ (xsE 2).den ρ = max 0 (ρ.iv 221 - 1) := by
  have s := sure_in hL W
  have b := bg_den hL W
  refine ⟨?_, ?_, ?_⟩
  · show (IE.mn (.var 98) (.lit 99999)).den ρ = _
    rw [IE.den_mn, IE.den_var, IE.den_lit]; omega
  · show (IE.mn (bgE 1) (.lit 99999)).den ρ = _
    rw [IE.den_mn, b.1, IE.den_lit]; omega
  · show (IE.mn (bgE 2) (.lit 99999)).den ρ = _
    rw [IE.den_mn, b.2, IE.den_lit]; omega
theorem xs_in {L : Nat} (hL : L ≤ 6) {plan : List Nat} {ρ : Rho} (W : WaitZ L plan ρ) (h98 : 0 ≤ ρ.iv 98 ∧ ρ.iv 98 ≤ 3999) : ∀ i, i < 3 → 0 ≤ (xsE i).den ρ ∧ (xsE i).den ρ ≤ 99999 := fun i hi => by
  obtain ⟨d0, d1, d2⟩ := xs_den hL W h98
  have s := sure_in hL W
  have s1 := W.sure
  rcases (by omega : i = 0 ∨ i = 1 ∨ i = 2) with rfl | rfl | rfl
  · rw [d0]; omega
  · rw [d1]; omega
  · rw [d2]; omega
theorem orcP_gen {L : Nat} (h0 : 1 ≤ L) (hL : L ≤ 6) {plan : List Nat} (hp : plan ∈ plansL L) {ok : Rho → (Nat → Obj → Prop) → Prop} (hok : ∀ ρ m, ok ρ m → okPB L plan ρ) {f : FuncId} {args : List AV} {h : Heap} {t : T (AV × Heap)} (e : orcP L plan f args h = some t) : CallOk (pOk ok) f args h t := by
  unfold orcP at e
  split at e
  · rename_i fa c s z n
    obtain ⟨j1, e1⟩ := cond_some e
    simp only [Bool.and_eq_true] at j1
    obtain ⟨⟨i1, i2, i3, i4⟩, i5, i6, i7⟩ := j1
    rw [eqAV_eq _ _ i1, beq_t.1 i2, beq_t.1 i3, beq_t.1 i4]
    clear e
    cases h9 : Nat.beq f 9 with
    | true =>
      rw [h9, cond_true] at e1
      rw [beq_t.1 h9]
      cases e1
      exact there_at h0 hL (ckTh_all h0 hL hp) hok i5 i6 (ble_t.1 i7)
    | false =>
      rw [h9, cond_false] at e1
      obtain ⟨h10, e2⟩ := cond_some e1
      rw [beq_t.1 h10]
      cases e2
      exact starts_at h0 hL (ckSt_all h0 hL hp) hok i5 i6
  · cases e
theorem firstS_some {α : Type} {f : Nat → Option α} {t : α} (h : firstS f = some t) : ∃ i, i < 3 ∧ f i = some t := by
  unfold firstS at h
  split at h
  · rename_i u hu; cases h; exact ⟨0, by omega, hu⟩
  · split at h
    · rename_i u hu; cases h; exact ⟨1, by omega, hu⟩
    · exact ⟨2, by omega, h⟩
theorem orcOv_ok {L : Nat} (h0 : 1 ≤ L) (hL : L ≤ 6) {plan : List Nat} (hp : plan ∈ plansL L) {args : List AV} {h : Heap} {t : T (AV × Heap)} (e : orcOv L plan args h = some t) : CallOk (pTr L plan) 12 args h t := by
  unfold orcOv at e
  split at e
  · rename_i fa c s z n k x
    obtain ⟨j1, e1⟩ := cond_some e
    simp only [Bool.and_eq_true] at j1
    obtain ⟨⟨⟨i1, i2⟩, i3, i4, i5⟩, i6, i7⟩ := j1
    rw [eqAV_eq _ _ i1, isI64_eq i2, beq_t.1 i3, beq_t.1 i4, beq_t.1 i5]
    clear e
    obtain ⟨i, hi, e2⟩ := firstS_some e1
    obtain ⟨hx, e3⟩ := cond_some e2
    cases e3
    rw [eqIE_eq _ _ hx]
    refine over_at h0 hL hp (ckOv_all h0 hL hp) (x := xsE i) (a := .var (240 + 2 * i)) (b := .var (241 + 2 * i)) (ok := OkTrue L plan) (fun ρ m k => ?_) i6 i7
    have W := waitZ_of h0 hL hp k.pb
    have b := xs_in hL W (st_in k.st) i hi
    exact ⟨⟨k.pb.1, k.pb.2.carry⟩, b.1, b.2, (k.ov i hi).1, (k.ov i hi).2⟩
  · cases e
theorem orcTr_ok {L : Nat} (h0 : 1 ≤ L) (hL : L ≤ 6) {plan : List Nat} (hp : plan ∈ plansL L) : ∀ f args h t, orcTr L plan f args h = some t → CallOk (pTr L plan) f args h t := by
  intro f args h t e
  unfold orcTr at e
  have dec : ∀ {n : Nat} {a b : Option (T (AV × Heap))}, cond (Nat.beq f n) a b = some t → (f = n ∧ a = some t) ∨ b = some t := fun {n a b} e => by
    cases hf : Nat.beq f n with
    | true => rw [hf, cond_true] at e; exact .inl ⟨beq_t.1 hf, e⟩
    | false => rw [hf, cond_false] at e; exact .inr e
  rcases dec e with ⟨rfl, e⟩ | e
  · exact CallOk.weak (fun _ _ _ => trivial) (carried_orc e)
  rcases dec e with ⟨rfl, e⟩ | e
  · exact smallO_ok (CallOk.weak (fun ρ m h => h.pb.1.1) (soundB_said h0 hL)) (by omega) rfl (viewR_ok h0 hL) e
  rcases dec e with ⟨rfl, e⟩ | e
  · exact smallO_ok (CallOk.weak (ok0 := fun ρ m => OkTr L plan ρ ∧ okPick ρ m) (fun ρ m (h : OkTrue L plan ρ m) => ⟨h.tr, h.pk⟩) (chosen_said h0 hL hp)) (by omega) rfl (viewR_ok h0 hL) e
  rcases dec e with ⟨rfl, e5⟩ | e
  · obtain ⟨ha, e1⟩ := cond_some e5
    rw [eqAVs_eq _ _ ha]
    cases e1
    refine CallOk.read (p0 := pTr L plan) (p := pTr L plan) rfl (turn_at (p := pTr L plan) rfl (.var 97) (.lit 4000) h) fun ρ b hk Q k => ⟨ρ, hk, SameL.refl _ _, ⟨rfl, fun j o g => ⟨o, g, SameA.refl o⟩⟩, ?_⟩
    obtain ⟨m, hA, _⟩ := hk
    have hA : OkTrue L plan ρ m := hA
    have k : Q (vj 98, h) := k
    simp only [T.Holds]
    rw [if_pos (by rw [BE.t_leq, IE.den_lit]; show (4000 : Int) ≤ 9223372036854775807; omega)]
    exact ⟨_, k, SameV.int hA.st.symm, rfl, fun j o g => ⟨o, g, SameA.refl o⟩⟩
  rcases dec e with ⟨rfl, e⟩ | e
  · exact orcOv_ok h0 hL hp e
  rcases dec e with ⟨rfl, e5⟩ | e
  · obtain ⟨i, hi, e1⟩ := firstS_some e5
    refine smallO_ok (happened_said h0 hL hp (ckH_all h0 hL hp) (i := i) (x := xsE i) (ok := OkTrue L plan) fun ρ m k => ⟨⟨k.pb.1, k.ch, k.pk⟩, k.hp i hi⟩) (by omega) ?_ (viewH_ok h0 hL plan) e1
    rfl
  · exact orcP_gen h0 hL hp (ok := OkTrue L plan) (fun ρ m h => h.pb) e
theorem lApp_mem {α : Type} {a : α} {l m : List α} (h : a ∈ lApp l m) : a ∈ l ∨ a ∈ m := by rw [lApp_eq] at h; exact List.mem_append.1 h
theorem true_kn {L : Nat} (h0 : 1 ≤ L) (hL : L ≤ 6) {plan : List Nat} (hp : plan ∈ plansL L) {ρ : Rho} {m : Nat → Obj → Prop} (T : OkTrue L plan ρ m) : ∃ q ∈ [((0 : Nat), (0 : Nat)), (0, 1), (0, 2), (1, 0), (2, 0), (2, 1), (2, 2)], KnOk ρ (knOf (trueQ L) (lApp (reg0 q.1) (lApp (reg2 q.2) (alwaysC L)))) := by
  have W := waitZ_of h0 hL hp T.pb
  have H := W.last
  have h98 := st_in T.st
  obtain ⟨p1, p2⟩ := plansN_mem _ _ _ hp
  have pl := sum_len plan p1
  obtain ⟨x0, x1, x2⟩ := xs_den hL W h98
  obtain ⟨g1, g2⟩ := bg_den hL W
  have sb := sure_in hL W
  have len : ∀ e, (thereE e plan).length = L := fun e => by unfold thereE; rw [atsE_len, p2]
  have bd : ∀ e, e < 2 → ∀ x ∈ thereE e plan, 0 ≤ x.den ρ ∧ x.den ρ ≤ 600000 := fun e he => atsE_in hL H he plan 0 (.lit 0) 0 (by omega) (by omega) (Int.le_refl _) (by rw [IE.den_lit]; omega)
  have hch : ∀ q ∈ chsL L plan, ρ.iv q.2.1 ≤ ρ.iv (340 + q.1) ∧ ρ.iv (340 + q.1) ≤ ρ.iv q.2.2 := fun q hq => T.ch.in hq
  have S : SecZ L (nxE L plan) ρ := ⟨fun k hk => by
    have := hch (nxE L plan + k, 102 + 4 * (0 + k), 102 + 1 + 4 * (0 + k)) (by unfold chsL; rw [lApp_eq]; exact List.mem_append_right _ (spanUp_mem L (nxE L plan) 0 k hk))
    rw [Nat.zero_add] at this
    exact this⟩
  have td := true_den hL H plan 0 0 (.lit 0) (.lit 0) (.lit 0) (.lit 0) 0 (by omega) (by omega) (fun q hq => hch q (by unfold chsL; rw [lApp_eq]; exact List.mem_append_left _ hq)) (Int.le_refl _) (Int.le_refl _) (Int.le_refl _) (Int.le_refl _) (Int.le_refl _) (by rw [IE.den_lit]; omega)
  have trl : (trE plan).length = L := td.1.trans p2
  have val : ∀ k, k < L → ∃ a t c, (thereE 0 plan)[k]? = some a ∧ (trE plan)[k]? = some t ∧ (thereE 1 plan)[k]? = some c ∧ ρ.iv (200 + 2 * k) = a.den ρ ∧ ρ.iv (270 + k) = t.den ρ ∧ ρ.iv (201 + 2 * k) = c.den ρ ∧ a.den ρ ≤ t.den ρ ∧ t.den ρ ≤ c.den ρ := fun k hk => by
    obtain ⟨a, c, e1, e2, e3, e4⟩ := zipI_get (thereE 0 plan) (thereE 1 plan) L (len 0) (len 1) k hk
    have g := T.pb.2.ats
    have q1 : ((zipI (thereE 0 plan) (thereE 1 plan)).map (IE.den ρ))[2 * k]? = ((upN (2 * L) 200).map ρ.iv)[2 * k]? := by rw [g]
    have q2 : ((zipI (thereE 0 plan) (thereE 1 plan)).map (IE.den ρ))[2 * k + 1]? = ((upN (2 * L) 200).map ρ.iv)[2 * k + 1]? := by rw [g]
    rw [List.getElem?_map, List.getElem?_map, e3, upN_get _ _ _ (by omega)] at q1
    rw [List.getElem?_map, List.getElem?_map, e4, upN_get _ _ _ (by omega)] at q2
    simp only [Option.map_some, Option.some.injEq] at q1 q2
    have ht : ∃ t, (trE plan)[k]? = some t := ⟨(trE plan)[k]'(by omega), List.getElem?_eq_getElem _⟩
    obtain ⟨t, ht⟩ := ht
    have gt := (T.hp 0 (by omega)).tr
    have q3 : ((trE plan).map (IE.den ρ))[k]? = ((upN L 270).map ρ.iv)[k]? := by rw [gt]
    rw [List.getElem?_map, List.getElem?_map, ht, upN_get _ _ _ hk] at q3
    simp only [Option.map_some, Option.some.injEq] at q3
    have le := td.2 k a t c e1 ht e2
    exact ⟨a, t, c, e1, ht, e2, q1.symm, q3.symm, by rw [q2, show 200 + (2 * k + 1) = 201 + 2 * k by omega], le.1, le.2⟩
  have le01 : ∀ k, k < L → ρ.iv (200 + 2 * k) ≤ ρ.iv (201 + 2 * k) := fun k hk => by
    obtain ⟨a, t, c, _, _, _, e1, _, e3, l1, l2⟩ := val k hk
    rw [e1, e3]; omega
  have b01 : ∀ k, k ≤ L → befZ ρ 1 0 k ≤ befZ ρ 1 1 k := by
    intro k
    induction k with
    | zero => intro _; exact Int.le_refl _
    | succ k ih =>
      intro hk
      have e := bef1 (ρ := ρ) k
      have t := H.t1 k (by omega)
      have := ih (by omega)
      omega
  have may_le : ρ.iv 221 ≤ ρ.iv 220 := by
    rcases W.soon with h | ⟨i, hi, h⟩
    · have := W.sure; omega
    · have n := W.none i hi
      have l := le01 i hi
      have b := b01 i (by omega)
      omega
  have ten : ∀ i, i < 3 → (tenE (xsE i)).den ρ = 10 * (xsE i).den ρ := fun i hi => by
    have b := xs_in hL W h98 i hi
    exact ten_den (by omega) (by omega)
  have cnt0 : ∀ i, i < 3 → 0 ≤ ρ.iv (260 + i) := fun i hi => by rw [(T.hp i hi).cnt]; omega
  have none : ∀ i, i < 3 → ρ.iv 220 ≤ (xsE i).den ρ → ρ.iv (260 + i) = 0 := fun i hi hx => by
    have b := xs_in hL W h98 i hi
    have d := ten i hi
    have := hap_none H S (trE plan) 0 (tenE (xsE i)) 0 (by omega) (by rw [d]; omega) (by rw [d]; omega) hL fun k x hx' => by
      have hk : k < L := by rw [← trl]; exact (List.getElem?_eq_some_iff.1 hx').1
      obtain ⟨a, t, c, _, e2, _, _, _, e5, _, l2⟩ := val k hk
      rw [e2] at hx'; cases hx'
      have n := W.none k hk
      rw [d, Nat.zero_add]
      simp only [befZ]
      omega
    rw [(T.hp i hi).cnt, this]; rfl
  have some1 : ∀ i, i < 3 → (xsE i).den ρ < ρ.iv 221 → 1 ≤ ρ.iv (260 + i) := fun i hi hx => by
    have b := xs_in hL W h98 i hi
    have d := ten i hi
    refine Int.not_lt.1 fun hlt => ?_
    have hz : (hapI ρ (nxE L plan) (trE plan) 0 (tenE (xsE i)) 0).2 = 0 := by
      have := (T.hp i hi).cnt
      omega
    have z := hap_zero H S (trE plan) 0 (tenE (xsE i)) 0 (by omega) (by rw [d]; omega) (by rw [d]; omega) hL hz
    rcases W.soon with h | ⟨k, hk, h⟩
    · omega
    · obtain ⟨a, t, c, _, e2, _, e4, _, _, l1, _⟩ := val k hk
      have := z k t e2
      rw [d, Nat.zero_add] at this
      simp only [befZ] at this
      omega
  have over : ∀ i, i < 3 → ρ.iv (240 + 2 * i) ≤ ρ.iv (290 + i) ∧ ρ.iv (290 + i) ≤ ρ.iv (241 + 2 * i) := fun i hi => by
    have b := xs_in hL W h98 i hi
    have d := ten i hi
    have o := T.ov i hi
    have := hap_over hL H S (thereE 0 plan) (trE plan) (thereE 1 plan) 0 (tenE (xsE i)) (tenE (xsE i)) (tenE (xsE i)) 0 (by rw [len, trl]) (by rw [len, trl]) (by omega) (fun k a t c ha ht hc => by
      have le := td.2 k a t c ha ht hc
      have q0 := bd 0 (by omega) a (List.mem_of_getElem? ha)
      have q1 := bd 1 (by omega) c (List.mem_of_getElem? hc)
      exact ⟨⟨q0.1, le.1⟩, le.2, q1.2⟩) (by rw [d]; omega) (Int.le_refl _) (Int.le_refl _) (by rw [d]; omega)
    rw [o.1, o.2, (T.hp i hi).over]
    exact this
  have always : ∀ c ∈ alwaysC L, c.den ρ = true := fun c hc => by
    unfold alwaysC at hc
    simp only [List.mem_cons] at hc
    rcases hc with rfl | rfl | rfl | rfl | rfl | rfl | hc
    · unfold leV; rw [BE.t_leq]; exact may_le
    · rw [BE.t_leq, g1, IE.den_var]; exact may_le
    · rw [BE.t_leq, g1, IE.den_var]; exact Int.le_refl _
    · rw [BE.t_eql]; exact none 1 (by omega) (by rw [x1]; exact Int.le_refl _)
    · rw [BE.t_leq]; exact cnt0 0 (by omega)
    · rw [BE.t_leq]; exact cnt0 2 (by omega)
    · rcases lApp_mem hc with hc | hc
      · rw [lMap_eq, List.mem_map] at hc
        obtain ⟨i, hi, rfl⟩ := hc
        have hi := upN_lt _ _ _ hi
        unfold leV; rw [BE.t_leq]; exact (over i (by omega)).1
      rcases lApp_mem hc with hc | hc
      · rw [lMap_eq, List.mem_map] at hc
        obtain ⟨i, hi, rfl⟩ := hc
        have hi := upN_lt _ _ _ hi
        unfold leV; rw [BE.t_leq]; exact (over i (by omega)).2
      rcases lApp_mem hc with hc | hc
      · rw [lMap_eq, List.mem_map] at hc
        obtain ⟨k, hk, rfl⟩ := hc
        have hk := upN_lt _ _ _ hk
        obtain ⟨a, t, c, _, _, _, e4, e5, _, l1, _⟩ := val k (by omega)
        unfold leV; rw [BE.t_leq, IE.den_var, IE.den_var, e4, e5]; exact l1
      · rw [lMap_eq, List.mem_map] at hc
        obtain ⟨k, hk, rfl⟩ := hc
        have hk := upN_lt _ _ _ hk
        obtain ⟨a, t, c, _, _, _, _, e5, e6, _, l2⟩ := val k (by omega)
        unfold leV; rw [BE.t_leq, IE.den_var, IE.den_var, e5, e6]; exact l2
  have ivs : ∀ c ∈ ivC (trueQ L), c.den ρ = true := fun c hc => by
    unfold trueQ at hc
    simp only [ivC, List.mem_cons] at hc
    rcases hc with rfl | rfl | hc
    · rw [BE.t_leq]; exact h98.1
    · rw [BE.t_leq]; exact h98.2
    · exact lawQ_ok W c hc
  have fin : ∀ a c, (∀ d ∈ reg0 a, d.den ρ = true) → (∀ d ∈ reg2 c, d.den ρ = true) → KnOk ρ (knOf (trueQ L) (lApp (reg0 a) (lApp (reg2 c) (alwaysC L)))) := fun a c h1 h2 => knOf_ok ivs fun d hd => by
    rcases lApp_mem hd with hd | hd
    · exact h1 d hd
    rcases lApp_mem hd with hd | hd
    · exact h2 d hd
    · exact always d hd
  have third : ∃ c, c < 3 ∧ (∀ d ∈ reg2 c, d.den ρ = true) ∧ (c = 0 ∨ ρ.iv 221 = 0) := by
    have m0 := W.may.1
    have s0 := W.sure.1
    by_cases hm : ρ.iv 221 = 0
    · by_cases hs : ρ.iv 220 = 0
      · refine ⟨1, by omega, fun d hd => ?_, .inr hm⟩
        simp only [reg2, List.mem_cons, List.not_mem_nil, or_false] at hd
        rcases hd with rfl | rfl | rfl
        · rw [BE.t_leq, g2, IE.den_var]; omega
        · rw [BE.t_leq, g2, IE.den_var]; omega
        · rw [BE.t_eql]; exact none 2 (by omega) (by rw [x2]; omega)
      · refine ⟨2, by omega, fun d hd => ?_, .inr hm⟩
        simp only [reg2, List.mem_cons, List.not_mem_nil, or_false] at hd
        rcases hd with rfl | rfl
        · rw [BE.t_leq, g2, IE.den_var]; omega
        · rw [BE.t_lss, g2, IE.den_var]; omega
    · refine ⟨0, by omega, fun d hd => ?_, .inl rfl⟩
      simp only [reg2, List.mem_cons, List.not_mem_nil, or_false] at hd
      rcases hd with rfl | rfl | rfl
      · rw [BE.t_lss, g2, IE.den_var]; omega
      · rw [BE.t_lss, g2, IE.den_var]; omega
      · rw [BE.t_leq]; exact some1 2 (by omega) (by rw [x2]; omega)
  obtain ⟨c, hc, hr2, hc0⟩ := third
  by_cases h1 : ρ.iv 220 ≤ ρ.iv 98
  · refine ⟨(0, c), ?_, fin 0 c (fun d hd => ?_) hr2⟩
    · rcases (by omega : c = 0 ∨ c = 1 ∨ c = 2) with rfl | rfl | rfl <;> simp
    · simp only [reg0, List.mem_cons, List.not_mem_nil, or_false] at hd
      rcases hd with rfl | rfl | rfl
      · unfold leV; rw [BE.t_leq]; exact h1
      · unfold leV; rw [BE.t_leq, IE.den_var, IE.den_var]; omega
      · rw [BE.t_eql]; exact none 0 (by omega) (by rw [x0]; exact h1)
  · by_cases h2 : ρ.iv 98 < ρ.iv 221
    · have : c = 0 := by
        rcases hc0 with h | h
        · exact h
        · omega
      subst this
      refine ⟨(1, 0), by simp, fin 1 0 (fun d hd => ?_) hr2⟩
      simp only [reg0, List.mem_cons, List.not_mem_nil, or_false] at hd
      rcases hd with rfl | rfl | rfl
      · rw [BE.t_lss]; exact h2
      · rw [BE.t_lss, IE.den_var, IE.den_var]; omega
      · rw [BE.t_leq]; exact some1 0 (by omega) (by rw [x0]; exact h2)
    · refine ⟨(2, c), ?_, fin 2 c (fun d hd => ?_) hr2⟩
      · rcases (by omega : c = 0 ∨ c = 1 ∨ c = 2) with rfl | rfl | rfl <;> simp
      · simp only [reg0, List.mem_cons, List.not_mem_nil, or_false] at hd
        rcases hd with rfl | rfl
        · unfold leV; rw [BE.t_leq, IE.den_var, IE.den_var]; omega
        · rw [BE.t_lss, IE.den_var, IE.den_var]; omega
section
variable {E : Env} {w : World} {vs : List Value}
theorem true_valid {L : Nat} (h0 : 1 ≤ L) (hL : L ≤ 6) {plan : List Nat} (hp : plan ∈ plansL L) (HS : HeapOk (pTr L plan) E (viewA 2000 (vR L)) (Base.of w) w) (ha : concL E [bookF L, .sliceU 96, vj 97] = some vs) :
    Calls Tryd.prog 3 vs.toArray w fun e w' => e = .returned (.bool true) ∧ Below w.heap.size w w' := by
  obtain ⟨m, hm, _⟩ := HS.ok
  have hm : OkTrue L plan E.ρ m := hm
  obtain ⟨q, hq, hK⟩ := true_kn h0 hL hp hm
  have hck : lawTr L plan q.1 q.2 = true := lAll_mem (show lAll (fun q : Nat × Nat => lawTr L plan q.1 q.2) [(0, 0), (0, 1), (0, 2), (1, 0), (2, 0), (2, 1), (2, 2)] = true from ckTr_all h0 hL hp) q hq
  have key := allK_ok (fun K a H h => isTrueK_ok H h) _ _ hK hck
  obtain ⟨r1, r2⟩ := eval_ok (Tryd.tab (orcTr L plan) (orcTr_ok h0 hL hp) 2000) 60 3 [bookF L, .sliceU 96, vj 97] (viewA 2000 (vR L)) vs E (Base.of w) w _ (fun cv w' => cv = .bool true ∧ Below w.heap.size w w') key HS ha
    (fun v h' E2 w' cv hq2 hle HH' hv2 => by
      obtain ⟨b, hb1, hb2⟩ := hq2
      refine ⟨?_, Base.keeps_below HH'.below⟩
      have hb1 : v = .bool b := hb1
      rw [hb1] at hv2
      simp only [conc, Option.some.injEq] at hv2
      rw [← hv2, hle.ρ, hb2])
  refine r2.mono ?_
  rintro e w' ⟨cv, rfl, rfl, hb⟩
  exact ⟨rfl, hb⟩
end
end Go.Sx
