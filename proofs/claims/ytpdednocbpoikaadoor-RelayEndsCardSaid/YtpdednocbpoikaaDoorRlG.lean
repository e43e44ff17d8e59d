/- RlG -/
import Derived.Test.YtpdednocbpoikaaDoorRlF
import Derived.Test.YtpdednocbpoikaaDoorRlT
import Derived.Test.YtpdednocbpoikaaDoorRlE5b
import Derived.Test.YtpdednocbpoikaaDoorRlE6a
import Derived.Test.YtpdednocbpoikaaDoorRlE6b
import Derived.Test.YtpdednocbpoikaaDoorRlE6c
import Derived.Test.YtpdednocbpoikaaDoorRlE6d
import Derived.Test.YtpdednocbpoikaaDoorRlW
namespace Go.Sx
open Go.RowKit Go.Proofs
set_option maxRecDepth 100000
theorem lAll_td {α : Type} {p : α → Bool} : ∀ (l : List α) (n : Nat), lAll p (lTake l n) = true → lAll p (lDrop l n) = true → lAll p l = true
  | [], _, _, _ => rfl
  | a :: l, 0, _, h => by rw [lDrop_eq, List.drop_zero] at h; exact h
  | a :: l, n + 1, h1, h2 => by
    have e1 : lTake (a :: l) (n + 1) = a :: lTake l n := rfl
    have e2 : lDrop (a :: l) (n + 1) = lDrop l n := rfl
    rw [e1] at h1; rw [e2] at h2
    have h1 : cond (p a) (lAll p (lTake l n)) false = true := h1
    cases ha : p a with
    | false => rw [ha] at h1; cases h1
    | true => rw [ha, cond_true] at h1; exact lAll_cons ha (lAll_td l n h1 h2)
theorem chunk {α : Type} {p : α → Bool} {l : List α} {k n : Nat} (h1 : lAll p (lTake (lDrop l k) n) = true) (h2 : lAll p (lDrop l (k + n)) = true) : lAll p (lDrop l k) = true := by
  refine lAll_td (lDrop l k) n h1 ?_
  rw [lDrop_eq, lDrop_eq, List.drop_drop, ← lDrop_eq]; exact h2
theorem ckTh4_all : lAll (ckTh 4) (plansL 4) = true := by
  have h4 : lAll (ckTh 4) (lDrop (plansL 4) 8) = true := by kernel_rfl
  have h3 := chunk ckTh4_3 h4
  have h2 := chunk ckTh4_2 h3
  have h1 := chunk ckTh4_1 h2
  have h0 := chunk ckTh4_0 h1
  rw [lDrop_eq, List.drop_zero] at h0
  exact h0
theorem ckSt4_all : lAll (ckSt 4) (plansL 4) = true := by
  have h4 : lAll (ckSt 4) (lDrop (plansL 4) 8) = true := by kernel_rfl
  have h3 := chunk ckSt4_3 h4
  have h2 := chunk ckSt4_2 h3
  have h1 := chunk ckSt4_1 h2
  have h0 := chunk ckSt4_0 h1
  rw [lDrop_eq, List.drop_zero] at h0
  exact h0
theorem ckTh5_all : lAll (ckTh 5) (plansL 5) = true := by
  have h8 : lAll (ckTh 5) (lDrop (plansL 5) 16) = true := by kernel_rfl
  have h7 := chunk ckTh5_7 h8
  have h6 := chunk ckTh5_6 h7
  have h5 := chunk ckTh5_5 h6
  have h4 := chunk ckTh5_4 h5
  have h3 := chunk ckTh5_3 h4
  have h2 := chunk ckTh5_2 h3
  have h1 := chunk ckTh5_1 h2
  have h0 := chunk ckTh5_0 h1
  rw [lDrop_eq, List.drop_zero] at h0
  exact h0
theorem ckSt5_all : lAll (ckSt 5) (plansL 5) = true := by
  have h8 : lAll (ckSt 5) (lDrop (plansL 5) 16) = true := by kernel_rfl
  have h7 := chunk ckSt5_7 h8
  have h6 := chunk ckSt5_6 h7
  have h5 := chunk ckSt5_5 h6
  have h4 := chunk ckSt5_4 h5
  have h3 := chunk ckSt5_3 h4
  have h2 := chunk ckSt5_2 h3
  have h1 := chunk ckSt5_1 h2
  have h0 := chunk ckSt5_0 h1
  rw [lDrop_eq, List.drop_zero] at h0
  exact h0
theorem ckTh6_all : lAll (ckTh 6) (plansL 6) = true := by
  have h32 : lAll (ckTh 6) (lDrop (plansL 6) 32) = true := by kernel_rfl
  have h31 := chunk ckTh6_31 h32
  have h30 := chunk ckTh6_30 h31
  have h29 := chunk ckTh6_29 h30
  have h28 := chunk ckTh6_28 h29
  have h27 := chunk ckTh6_27 h28
  have h26 := chunk ckTh6_26 h27
  have h25 := chunk ckTh6_25 h26
  have h24 := chunk ckTh6_24 h25
  have h23 := chunk ckTh6_23 h24
  have h22 := chunk ckTh6_22 h23
  have h21 := chunk ckTh6_21 h22
  have h20 := chunk ckTh6_20 h21
  have h19 := chunk ckTh6_19 h20
  have h18 := chunk ckTh6_18 h19
  have h17 := chunk ckTh6_17 h18
  have h16 := chunk ckTh6_16 h17
  have h15 := chunk ckTh6_15 h16
  have h14 := chunk ckTh6_14 h15
  have h13 := chunk ckTh6_13 h14
  have h12 := chunk ckTh6_12 h13
  have h11 := chunk ckTh6_11 h12
  have h10 := chunk ckTh6_10 h11
  have h9 := chunk ckTh6_9 h10
  have h8 := chunk ckTh6_8 h9
  have h7 := chunk ckTh6_7 h8
  have h6 := chunk ckTh6_6 h7
  have h5 := chunk ckTh6_5 h6
  have h4 := chunk ckTh6_4 h5
  have h3 := chunk ckTh6_3 h4
  have h2 := chunk ckTh6_2 h3
  have h1 := chunk ckTh6_1 h2
  have h0 := chunk ckTh6_0 h1
  rw [lDrop_eq, List.drop_zero] at h0
  exact h0
theorem ckSt6_all : lAll (ckSt 6) (plansL 6) = true := by
  have h32 : lAll (ckSt 6) (lDrop (plansL 6) 32) = true := by kernel_rfl
  have h31 := chunk ckSt6_31 h32
  have h30 := chunk ckSt6_30 h31
  have h29 := chunk ckSt6_29 h30
  have h28 := chunk ckSt6_28 h29
  have h27 := chunk ckSt6_27 h28
  have h26 := chunk ckSt6_26 h27
  have h25 := chunk ckSt6_25 h26
  have h24 := chunk ckSt6_24 h25
  have h23 := chunk ckSt6_23 h24
  have h22 := chunk ckSt6_22 h23
  have h21 := chunk ckSt6_21 h22
  have h20 := chunk ckSt6_20 h21
  have h19 := chunk ckSt6_19 h20
  have h18 := chunk ckSt6_18 h19
  have h17 := chunk ckSt6_17 h18
  have h16 := chunk ckSt6_16 h17
  have h15 := chunk ckSt6_15 h16
  have h14 := chunk ckSt6_14 h15
  have h13 := chunk ckSt6_13 h14
  have h12 := chunk ckSt6_12 h13
  have h11 := chunk ckSt6_11 h12
  have h10 := chunk ckSt6_10 h11
  have h9 := chunk ckSt6_9 h10
  have h8 := chunk ckSt6_8 h9
  have h7 := chunk ckSt6_7 h8
  have h6 := chunk ckSt6_6 h7
  have h5 := chunk ckSt6_5 h6
  have h4 := chunk ckSt6_4 h5
  have h3 := chunk ckSt6_3 h4
  have h2 := chunk ckSt6_2 h3
  have h1 := chunk ckSt6_1 h2
  have h0 := chunk ckSt6_0 h1
  rw [lDrop_eq, List.drop_zero] at h0
  exact h0
theorem ckTh_all {L : Nat} (h0 : 1 ≤ L) (hL : L ≤ 6) {plan : List Nat} (hp : plan ∈ plansL L) : ckTh L plan = true := by
  rcases six h0 hL with rfl | rfl | rfl | rfl | rfl | rfl
  · exact lAll_mem ckTh1 plan hp
  · exact lAll_mem ckTh2 plan hp
  · exact lAll_mem ckTh3 plan hp
  · exact lAll_mem ckTh4_all plan hp
  · exact lAll_mem ckTh5_all plan hp
  · exact lAll_mem ckTh6_all plan hp
theorem ckSt_all {L : Nat} (h0 : 1 ≤ L) (hL : L ≤ 6) {plan : List Nat} (hp : plan ∈ plansL L) : ckSt L plan = true := by
  rcases six h0 hL with rfl | rfl | rfl | rfl | rfl | rfl
  · exact lAll_mem ckSt1 plan hp
  · exact lAll_mem ckSt2 plan hp
  · exact lAll_mem ckSt3 plan hp
  · exact lAll_mem ckSt4_all plan hp
  · exact lAll_mem ckSt5_all plan hp
  · exact lAll_mem ckSt6_all plan hp
theorem turn_at {p : Par} (hP : pT.P = p.P) (a m : IE) (h : Heap) : CallOk p 11 [.int .i64 a, .int .i64 m] h (.br (.cmp .leq m big) (.ret (.int .i64 (.app 6 a m (.lit 0)), h)) (.fail 99)) := turn_orc hP (args := [.int .i64 a, .int .i64 m]) (h := h) rfl
theorem trips_left : ∀ (plan : List Nat) (left k : Nat), (∀ p ∈ plan, 1 ≤ p) → sumN plan = left → ∀ q ∈ tripsL plan left k, q.1 ≤ left ∧ 1 ≤ q.2.2 ∧ q.2.2 ≤ q.1
  | [], _, _, _, _, q, hq => by cases hq
  | p :: plan, left, k, h, hs, q, hq => by
    have hp := h p List.mem_cons_self
    simp only [sumN] at hs
    have hq : q ∈ (left, k, p) :: tripsL plan (left - p) (k + 1) := hq
    rcases List.mem_cons.1 hq with rfl | hq
    · exact ⟨Nat.le_refl _, hp, by show p ≤ left; omega⟩
    · have := trips_left plan (left - p) (k + 1) (fun q hq => h q (List.mem_cons_of_mem _ hq)) (by omega) q hq
      omega
theorem zipI_get : ∀ (l m : List IE) (n : Nat), l.length = n → m.length = n → ∀ i, i < n → ∃ a b, l[i]? = some a ∧ m[i]? = some b ∧ (zipI l m)[2 * i]? = some a ∧ (zipI l m)[2 * i + 1]? = some b
  | [], _, n, h1, _, i, hi => by simp only [List.length_nil] at h1; omega
  | _ :: _, [], n, _, h2, i, hi => by simp only [List.length_nil] at h2; omega
  | a :: l, b :: m, n, h1, h2, i, hi => by
    simp only [List.length_cons] at h1 h2
    cases i with
    | zero => exact ⟨a, b, rfl, rfl, rfl, rfl⟩
    | succ i =>
      obtain ⟨x, y, e1, e2, e3, e4⟩ := zipI_get l m (n - 1) (by omega) (by omega) i (by omega)
      refine ⟨x, y, by rw [List.getElem?_cons_succ]; exact e1, by rw [List.getElem?_cons_succ]; exact e2, ?_, ?_⟩
      · show (a :: b :: zipI l m)[2 * (i + 1)]? = _
        rw [show 2 * (i + 1) = 2 * i + 1 + 1 by omega, List.getElem?_cons_succ, List.getElem?_cons_succ]; exact e3
      · show (a :: b :: zipI l m)[2 * (i + 1) + 1]? = _
        rw [show 2 * (i + 1) + 1 = 2 * i + 1 + 1 + 1 by omega, List.getElem?_cons_succ, List.getElem?_cons_succ]; exact e4
theorem upN_get : ∀ (n k i : Nat), i < n → (upN n k)[i]? = some (k + i)
  | 0, _, _, h => by omega
  | n + 1, k, 0, _ => by simp [upN]
  | n + 1, k, i + 1, h => by simp only [upN, List.getElem?_cons_succ]; rw [upN_get n (k + 1) i (by omega)]; congr 1; omega
structure WaitZ (L : Nat) (plan : List Nat) (ρ : Rho) : Prop where
  last : LastZ L ρ
  there : ∀ i, i < L → (0 ≤ ρ.iv (200 + 2 * i) ∧ ρ.iv (200 + 2 * i) ≤ 600000) ∧ 0 ≤ ρ.iv (201 + 2 * i) ∧ ρ.iv (201 + 2 * i) ≤ 600000
  sure : 0 ≤ ρ.iv 220 ∧ ρ.iv 220 ≤ 100000
  may : 0 ≤ ρ.iv 221 ∧ ρ.iv 221 ≤ 100000
  early : ∀ i, i < L → ρ.iv (200 + 2 * i) ≤ 10 * ρ.iv 221 + befZ ρ 1 1 i
  none : ∀ i, i < L → ρ.iv (201 + 2 * i) ≤ 10 * ρ.iv 220 + befZ ρ 1 0 i
  late : ρ.iv 220 = 0 ∨ ∃ i, i < L ∧ 10 * (ρ.iv 220 - 1) + befZ ρ 1 0 i < ρ.iv (201 + 2 * i)
  soon : ρ.iv 221 = 0 ∨ ∃ i, i < L ∧ 10 * (ρ.iv 221 - 1) + befZ ρ 1 1 i < ρ.iv (200 + 2 * i)
theorem waitZ_of {L : Nat} (h0 : 1 ≤ L) (hL : L ≤ 6) {plan : List Nat} (hp : plan ∈ plansL L) {ρ : Rho} (h : okPB L plan ρ) : WaitZ L plan ρ := by
  obtain ⟨p1, p2⟩ := plansN_mem _ _ _ hp
  have pl := sum_len plan p1
  have H := lastZ_of h0 hL h.1
  have len : ∀ e, (thereE e plan).length = L := fun e => by unfold thereE; rw [atsE_len, p2]
  have bd : ∀ e, e < 2 → ∀ x ∈ thereE e plan, 0 ≤ x.den ρ ∧ x.den ρ ≤ 600000 := fun e he => atsE_in hL H he plan 0 (.lit 0) 0 (by omega) (by omega) (Int.le_refl _) (by rw [IE.den_lit]; omega)
  have val : ∀ i, i < L → ∃ a b, (thereE 0 plan)[i]? = some a ∧ (thereE 1 plan)[i]? = some b ∧ ρ.iv (200 + 2 * i) = a.den ρ ∧ ρ.iv (201 + 2 * i) = b.den ρ := fun i hi => by
    obtain ⟨a, b, e1, e2, e3, e4⟩ := zipI_get (thereE 0 plan) (thereE 1 plan) L (len 0) (len 1) i hi
    have g := h.2.ats
    have g1 : ((zipI (thereE 0 plan) (thereE 1 plan)).map (IE.den ρ))[2 * i]? = ((upN (2 * L) 200).map ρ.iv)[2 * i]? := by rw [g]
    have g2 : ((zipI (thereE 0 plan) (thereE 1 plan)).map (IE.den ρ))[2 * i + 1]? = ((upN (2 * L) 200).map ρ.iv)[2 * i + 1]? := by rw [g]
    rw [List.getElem?_map, List.getElem?_map, e3, upN_get _ _ _ (by omega)] at g1
    rw [List.getElem?_map, List.getElem?_map, e4, upN_get _ _ _ (by omega)] at g2
    simp only [Option.map_some, Option.some.injEq] at g1 g2
    exact ⟨a, b, e1, e2, g1.symm, by rw [g2, show 200 + (2 * i + 1) = 201 + 2 * i by omega]⟩
  have d1 := lateE_den hL H (e2 := 0) (by omega) (thereE 1 plan) 0 (.lit 0) (by rw [len]; omega) (bd 1 (by omega)) (Int.le_refl _) (by rw [IE.den_lit]; omega)
  have d2 := lateE_den hL H (e2 := 1) (by omega) (thereE 0 plan) 0 (.lit 0) (by rw [len]; omega) (bd 0 (by omega)) (Int.le_refl _) (by rw [IE.den_lit]; omega)
  obtain ⟨a1, a2, a3, a4⟩ := d1
  obtain ⟨b1, b2, b3, b4⟩ := d2
  rw [IE.den_lit] at a1 a4 b1 b4
  have s1 := sec_den a1 a2
  have s2 := sec_den b1 b2
  have e1 : ρ.iv 220 = (secE (lateE 0 (thereE 1 plan) 0 (.lit 0))).den ρ := h.2.sure
  have e2 : ρ.iv 221 = (secE (lateE 1 (thereE 0 plan) 0 (.lit 0))).den ρ := h.2.may
  rw [← e1] at s1
  rw [← e2] at s2
  refine ⟨H, fun i hi => ?_, ⟨s1.1, s1.2.1⟩, ⟨s2.1, s2.2.1⟩, fun i hi => ?_, fun i hi => ?_, ?_, ?_⟩
  · obtain ⟨a, b, g1, g2, g3, g4⟩ := val i hi
    rw [g3, g4]
    exact ⟨bd 0 (by omega) a (List.mem_of_getElem? g1), bd 1 (by omega) b (List.mem_of_getElem? g2)⟩
  · obtain ⟨a, b, g1, g2, g3, g4⟩ := val i hi
    have := b3 i a g1
    rw [Nat.zero_add] at this
    rw [g3]; omega
  · obtain ⟨a, b, g1, g2, g3, g4⟩ := val i hi
    have := a3 i b g2
    rw [Nat.zero_add] at this
    rw [g4]; omega
  · rcases a4 with a4 | ⟨k, x, hx, a4⟩
    · left; omega
    · have hk : k < L := by rw [← len 1]; exact (List.getElem?_eq_some_iff.1 hx).1
      obtain ⟨a, b, g1, g2, g3, g4⟩ := val k hk
      rw [hx] at g2; cases g2
      rw [Nat.zero_add] at a4
      by_cases hz : ρ.iv 220 = 0
      · exact .inl hz
      · exact .inr ⟨k, hk, by rw [g4]; omega⟩
  · rcases b4 with b4 | ⟨k, x, hx, b4⟩
    · left; omega
    · have hk : k < L := by rw [← len 0]; exact (List.getElem?_eq_some_iff.1 hx).1
      obtain ⟨a, b, g1, g2, g3, g4⟩ := val k hk
      rw [hx] at g1; cases g1
      rw [Nat.zero_add] at b4
      by_cases hz : ρ.iv 221 = 0
      · exact .inl hz
      · exact .inr ⟨k, hk, by rw [g3]; omega⟩
end Go.Sx
