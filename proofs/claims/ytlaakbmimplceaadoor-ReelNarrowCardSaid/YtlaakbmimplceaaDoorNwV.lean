/- THE LAW OF WHAT CAN BE SEEN BETTER holds of a valid film. -/
import Derived.Test.YtlaakbmimplceaaDoorNwR4
import Derived.Test.YtlaakbmimplceaaDoorNwR5
import Derived.Test.YtlaakbmimplceaaDoorNwR60
import Derived.Test.YtlaakbmimplceaaDoorNwR61
import Derived.Test.YtlaakbmimplceaaDoorNwR62
import Derived.Test.YtlaakbmimplceaaDoorNwR63
import Derived.Test.YtlaakbmimplceaaDoorNwR64
import Derived.Test.YtlaakbmimplceaaDoorNwR65
import Derived.Test.YtlaakbmimplceaaDoorFiP
/-! THE LAW OF WHAT CAN BE SEEN BETTER holds of a valid film. -/
namespace Go.Sx
open Go.RowKit Go.Proofs
set_option maxRecDepth 100000
theorem rows_of {L k s : Nat} (h : rowNw L k = true) (b : Bool) (hs : b = true → s < 2 ^ L ∧ s ≠ 0) : b = true → lawNw b L k s = true := fun hb => by
  subst hb
  unfold rowNw at h
  rw [Bool.and_eq_true] at h
  obtain ⟨h1, h2⟩ := hs rfl
  have e : Nat.pow 2 L = 2 ^ L := rfl
  exact lAll_at (p := lawNw true L k) h.2 (by omega) (by omega)
/-- where no order is left, the places do not matter -/
theorem law_none {L k s : Nat} (h : lawNw false L k 0 = true) : lawNw false L k s = true := h
theorem lawNw_all {b : Bool} {L k s : Nat} (h0 : 1 ≤ L) (hL : L ≤ 6) (hk : k < L) (hs : b = true → s < 2 ^ L ∧ s ≠ 0) : lawNw b L k s = true := by
  have low : rowNw L k = true → lawNw b L k s = true := fun h => by
    cases b with
    | true => exact rows_of h true hs rfl
    | false => unfold rowNw at h; rw [Bool.and_eq_true] at h; exact law_none h.1
  rcases six h0 hL with rfl | rfl | rfl | rfl | rfl | rfl
  · exact low (lAll_at (p := rowNw 1) lawNw1 (Nat.zero_le _) (by omega))
  · exact low (lAll_at (p := rowNw 2) lawNw2 (Nat.zero_le _) (by omega))
  · exact low (lAll_at (p := rowNw 3) lawNw3 (Nat.zero_le _) (by omega))
  · have : k = 0 ∨ k = 1 ∨ k = 2 ∨ k = 3 := by omega
    cases b with
    | false =>
      rcases this with rfl | rfl | rfl | rfl
      · exact law_none lawNw4_0
      · exact law_none lawNw4_1
      · exact law_none lawNw4_2
      · exact law_none lawNw4_3
    | true =>
      obtain ⟨s1, s2⟩ := hs rfl
      have hc : s < 8 ∧ 1 ≤ s ∨ s < 16 ∧ 8 ≤ s := by omega
      rcases this with rfl | rfl | rfl | rfl
      · rcases hc with h | h
        · exact lAll_at lawNw4_0_1 (by omega) (by omega)
        · exact lAll_at lawNw4_0_8 (by omega) (by omega)
      · rcases hc with h | h
        · exact lAll_at lawNw4_1_1 (by omega) (by omega)
        · exact lAll_at lawNw4_1_8 (by omega) (by omega)
      · rcases hc with h | h
        · exact lAll_at lawNw4_2_1 (by omega) (by omega)
        · exact lAll_at lawNw4_2_8 (by omega) (by omega)
      · rcases hc with h | h
        · exact lAll_at lawNw4_3_1 (by omega) (by omega)
        · exact lAll_at lawNw4_3_8 (by omega) (by omega)
  · have : k = 0 ∨ k = 1 ∨ k = 2 ∨ k = 3 ∨ k = 4 := by omega
    cases b with
    | false =>
      rcases this with rfl | rfl | rfl | rfl | rfl
      · exact law_none lawNw5_0
      · exact law_none lawNw5_1
      · exact law_none lawNw5_2
      · exact law_none lawNw5_3
      · exact law_none lawNw5_4
    | true =>
      obtain ⟨s1, s2⟩ := hs rfl
      have hc : s < 8 ∧ 1 ≤ s ∨ s < 16 ∧ 8 ≤ s ∨ s < 24 ∧ 16 ≤ s ∨ s < 32 ∧ 24 ≤ s := by omega
      rcases this with rfl | rfl | rfl | rfl | rfl
      · rcases hc with h | h | h | h
        · exact lAll_at lawNw5_0_1 (by omega) (by omega)
        · exact lAll_at lawNw5_0_8 (by omega) (by omega)
        · exact lAll_at lawNw5_0_16 (by omega) (by omega)
        · exact lAll_at lawNw5_0_24 (by omega) (by omega)
      · rcases hc with h | h | h | h
        · exact lAll_at lawNw5_1_1 (by omega) (by omega)
        · exact lAll_at lawNw5_1_8 (by omega) (by omega)
        · exact lAll_at lawNw5_1_16 (by omega) (by omega)
        · exact lAll_at lawNw5_1_24 (by omega) (by omega)
      · rcases hc with h | h | h | h
        · exact lAll_at lawNw5_2_1 (by omega) (by omega)
        · exact lAll_at lawNw5_2_8 (by omega) (by omega)
        · exact lAll_at lawNw5_2_16 (by omega) (by omega)
        · exact lAll_at lawNw5_2_24 (by omega) (by omega)
      · rcases hc with h | h | h | h
        · exact lAll_at lawNw5_3_1 (by omega) (by omega)
        · exact lAll_at lawNw5_3_8 (by omega) (by omega)
        · exact lAll_at lawNw5_3_16 (by omega) (by omega)
        · exact lAll_at lawNw5_3_24 (by omega) (by omega)
      · rcases hc with h | h | h | h
        · exact lAll_at lawNw5_4_1 (by omega) (by omega)
        · exact lAll_at lawNw5_4_8 (by omega) (by omega)
        · exact lAll_at lawNw5_4_16 (by omega) (by omega)
        · exact lAll_at lawNw5_4_24 (by omega) (by omega)
  · have : k = 0 ∨ k = 1 ∨ k = 2 ∨ k = 3 ∨ k = 4 ∨ k = 5 := by omega
    cases b with
    | false =>
      rcases this with rfl | rfl | rfl | rfl | rfl | rfl
      · exact law_none lawNw6_0
      · exact law_none lawNw6_1
      · exact law_none lawNw6_2
      · exact law_none lawNw6_3
      · exact law_none lawNw6_4
      · exact law_none lawNw6_5
    | true =>
      obtain ⟨s1, s2⟩ := hs rfl
      have hc : s < 8 ∧ 1 ≤ s ∨ s < 16 ∧ 8 ≤ s ∨ s < 24 ∧ 16 ≤ s ∨ s < 32 ∧ 24 ≤ s ∨ s < 40 ∧ 32 ≤ s ∨ s < 48 ∧ 40 ≤ s ∨ s < 56 ∧ 48 ≤ s ∨ s < 64 ∧ 56 ≤ s := by omega
      rcases this with rfl | rfl | rfl | rfl | rfl | rfl
      · rcases hc with h | h | h | h | h | h | h | h
        · exact lAll_at lawNw6_0_1 (by omega) (by omega)
        · exact lAll_at lawNw6_0_8 (by omega) (by omega)
        · exact lAll_at lawNw6_0_16 (by omega) (by omega)
        · exact lAll_at lawNw6_0_24 (by omega) (by omega)
        · exact lAll_at lawNw6_0_32 (by omega) (by omega)
        · exact lAll_at lawNw6_0_40 (by omega) (by omega)
        · exact lAll_at lawNw6_0_48 (by omega) (by omega)
        · exact lAll_at lawNw6_0_56 (by omega) (by omega)
      · rcases hc with h | h | h | h | h | h | h | h
        · exact lAll_at lawNw6_1_1 (by omega) (by omega)
        · exact lAll_at lawNw6_1_8 (by omega) (by omega)
        · exact lAll_at lawNw6_1_16 (by omega) (by omega)
        · exact lAll_at lawNw6_1_24 (by omega) (by omega)
        · exact lAll_at lawNw6_1_32 (by omega) (by omega)
        · exact lAll_at lawNw6_1_40 (by omega) (by omega)
        · exact lAll_at lawNw6_1_48 (by omega) (by omega)
        · exact lAll_at lawNw6_1_56 (by omega) (by omega)
      · rcases hc with h | h | h | h | h | h | h | h
        · exact lAll_at lawNw6_2_1 (by omega) (by omega)
        · exact lAll_at lawNw6_2_8 (by omega) (by omega)
        · exact lAll_at lawNw6_2_16 (by omega) (by omega)
        · exact lAll_at lawNw6_2_24 (by omega) (by omega)
        · exact lAll_at lawNw6_2_32 (by omega) (by omega)
        · exact lAll_at lawNw6_2_40 (by omega) (by omega)
        · exact lAll_at lawNw6_2_48 (by omega) (by omega)
        · exact lAll_at lawNw6_2_56 (by omega) (by omega)
      · rcases hc with h | h | h | h | h | h | h | h
        · exact lAll_at lawNw6_3_1 (by omega) (by omega)
        · exact lAll_at lawNw6_3_8 (by omega) (by omega)
        · exact lAll_at lawNw6_3_16 (by omega) (by omega)
        · exact lAll_at lawNw6_3_24 (by omega) (by omega)
        · exact lAll_at lawNw6_3_32 (by omega) (by omega)
        · exact lAll_at lawNw6_3_40 (by omega) (by omega)
        · exact lAll_at lawNw6_3_48 (by omega) (by omega)
        · exact lAll_at lawNw6_3_56 (by omega) (by omega)
      · rcases hc with h | h | h | h | h | h | h | h
        · exact lAll_at lawNw6_4_1 (by omega) (by omega)
        · exact lAll_at lawNw6_4_8 (by omega) (by omega)
        · exact lAll_at lawNw6_4_16 (by omega) (by omega)
        · exact lAll_at lawNw6_4_24 (by omega) (by omega)
        · exact lAll_at lawNw6_4_32 (by omega) (by omega)
        · exact lAll_at lawNw6_4_40 (by omega) (by omega)
        · exact lAll_at lawNw6_4_48 (by omega) (by omega)
        · exact lAll_at lawNw6_4_56 (by omega) (by omega)
      · rcases hc with h | h | h | h | h | h | h | h
        · exact lAll_at lawNw6_5_1 (by omega) (by omega)
        · exact lAll_at lawNw6_5_8 (by omega) (by omega)
        · exact lAll_at lawNw6_5_16 (by omega) (by omega)
        · exact lAll_at lawNw6_5_24 (by omega) (by omega)
        · exact lAll_at lawNw6_5_32 (by omega) (by omega)
        · exact lAll_at lawNw6_5_40 (by omega) (by omega)
        · exact lAll_at lawNw6_5_48 (by omega) (by omega)
        · exact lAll_at lawNw6_5_56 (by omega) (by omega)
/-- what the names of the law mean: no order is left, or some are, and the reel has these places -/
def okNb (b : Bool) (L k s : Nat) (ρ : Rho) : Prop := if b = true then okN L k s ρ else okN0 L k ρ ∧ ρ.iv 313 = 0
theorem okNb_0 {b : Bool} {L k s : Nat} {ρ : Rho} (h : okNb b L k s ρ) : okN0 L k ρ := by
  unfold okNb at h
  cases b with
  | true => rw [if_pos rfl] at h; exact h.1
  | false => rw [if_neg (by simp)] at h; exact h.1
noncomputable def pNw (b : Bool) (L k s : Nat) : Par := ⟨Tryd.prog, rcOf Tryd.rows, fun ρ _ => okNb b L k s ρ⟩
theorem turn_var {p : Par} (hP : pT.P = p.P) {a : Nat} {e : IE} {x : AV} {y : IE} (hx : x = .int .i64 y) (hok : ∀ ρ M, p.ok ρ M → e.den ρ ≤ 9223372036854775807 ∧ y.den ρ = turnF (ρ.iv a) (e.den ρ)) {h : Heap} : CallOk p 18 [vi a, .int .i64 e] h (.ret (x, h)) := by
  have ho : turnC.orc [vi a, .int .i64 e] h = some (.br (.cmp .leq e big) (.ret (.int .i64 (.app 6 (.var a) e (.lit 0)), h)) (.fail 99)) := rfl
  refine CallOk.read (p0 := p) (p := p) rfl (turn_orc hP ho) ?_
  intro ρ _ ⟨M, k1, k2⟩ Q kk
  obtain ⟨h1, h2⟩ := hok ρ M k1
  have kk : Q (x, h) := kk
  refine ⟨ρ, ⟨M, k1, k2⟩, SameL.refl _ _, ⟨rfl, fun _ o g => ⟨o, g, SameA.refl o⟩⟩, ?_⟩
  simp only [T.Holds]
  rw [if_pos (BE.t_leq.2 h1)]
  refine ⟨_, kk, ?_, rfl, fun _ o g => ⟨o, g, SameA.refl o⟩⟩
  subst hx
  exact SameV.int h2.symm
theorem len_den {ρ : Rho} {a b : Nat} (h1 : 0 ≤ ρ.iv b) (h2 : ρ.iv b ≤ ρ.iv a) (h3 : ρ.iv a ≤ 99) : (lenE a b).den ρ = ρ.iv a - ρ.iv b + 1 := by
  unfold lenE
  rw [IE.den_add, IE.den_sub]
  simp only [IE.den_var, IE.den_lit]
  rw [show IntKind.i64.wrap (ρ.iv a - ρ.iv b) = ρ.iv a - ρ.iv b from wrap_sm (by omega) (by omega)]
  exact wrap_sm (by omega) (by omega)
theorem cond_and {α : Type} {b c : Bool} {x y : α} {P : α → Prop} (h : P (cond (and b c) x y)) : (b = true ∧ c = true ∧ P x) ∨ P y := by
  cases b with
  | false => exact .inr h
  | true => cases c with
    | false => exact .inr h
    | true => exact .inl ⟨rfl, rfl, h⟩
theorem retO_some {args args0 : List AV} {v : AV} {h : Heap} {t : T (AV × Heap)} (e : retO args args0 v h = some t) : args = args0 ∧ t = .ret (v, h) := by
  unfold retO at e
  obtain ⟨h1, h2⟩ := cond_some e
  exact ⟨eqAVs_eq _ _ h1, (Option.some.inj h2).symm⟩
theorem film_at {E : Env} {c L : Nat} : concL (E.mv 1001 c 2000) [filmF L] = concL E [filmAt c L] := by simp [filmF, filmAt, concL, conc, Env.mv, mvN, vj]
theorem film_at2 {E : Env} {c L k : Nat} : concL (E.mv 1001 c 2000) [filmF L, ln k] = concL E [filmAt c L, ln k] := by simp [filmF, filmAt, concL, conc, Env.mv, mvN, vj, ln, IE.den]
theorem orcNw_ok {b : Bool} {L k s : Nat} (h0 : 1 ≤ L) (hL : L ≤ 6) (hk : k < L) : ∀ f args h t, orcNw b L k s f args h = some t → CallOk (pNw b L k s) f args h t := by
  intro f args h t e
  have ok0 : ∀ ρ M, (pNw b L k s).ok ρ M → okN0 L k ρ := fun ρ M h => okNb_0 (show okNb b L k s ρ from h)
  have film : ∀ ρ M, (pNw b L k s).ok ρ M → okFilm L ρ := fun ρ M h => (film_of_cs h0 hL (ok0 ρ M h).1).1
  unfold orcNw at e
  have dec : ∀ {n : Nat} {a b : Option (T (AV × Heap))}, cond (Nat.beq f n) a b = some t → (f = n ∧ a = some t) ∨ b = some t := fun {n a b} e => by
    cases hf : Nat.beq f n with
    | true => rw [hf, cond_true] at e; exact .inl ⟨beq_t.1 hf, e⟩
    | false => rw [hf, cond_false] at e; exact .inr e
  rcases dec e with ⟨rfl, e⟩ | e
  · exact CallOk.weak (fun _ _ _ => trivial) (turned_orc e)
  rcases dec e with ⟨rfl, e⟩ | e
  · exact smallO_ok (CallOk.weak film (sound_said h0 hL)) (by omega) rfl (viewK_ok h0 hL) e
  rcases dec e with ⟨rfl, e⟩ | e
  · rcases orTry_some e with e | e
    · obtain ⟨rfl, rfl⟩ := retO_some e
      exact turn_var (p := pNw b L k s) rfl (a := 301) (e := .lit (Int.ofNat L)) (y := .lit (Int.ofNat k)) rfl fun ρ M h => ⟨by show ((L : Nat) : Int) ≤ _; omega, (ok0 ρ M h).2.2.2.2.2.1.1⟩
    rcases orTry_some e with e | e
    · obtain ⟨rfl, rfl⟩ := retO_some e
      refine turn_var (p := pNw b L k s) rfl (y := .var 320) rfl fun ρ M h => ?_
      obtain ⟨u1, u2, u3, u4, u5, u6, _⟩ := reelN (ok0 ρ M h).1 hk
      have hd := len_den u1 u2 u3
      exact ⟨by rw [hd]; omega, by rw [hd]; exact (ok0 ρ M h).2.2.2.2.2.1.2.1⟩
    · obtain ⟨rfl, rfl⟩ := retO_some e
      refine turn_var (p := pNw b L k s) rfl (y := .var 321) rfl fun ρ M h => ?_
      obtain ⟨u1, u2, u3, u4, u5, u6, _⟩ := reelN (ok0 ρ M h).1 hk
      have hd := len_den u4 u5 u6
      exact ⟨by rw [hd]; omega, by rw [hd]; exact (ok0 ρ M h).2.2.2.2.2.1.2.2⟩
  rcases dec e with ⟨rfl, e⟩ | e
  · rcases orTry_some e with e | e
    · exact smallO_ok (ordersF (p := pNw b L k s) rfl h0 hL ok0) (by omega) rfl (viewK_ok h0 hL) e
    · unfold ordX at e
      split at e
      · obtain ⟨h1, h2⟩ := cond_some e
        have h2 := Option.some.inj h2
        subst h2
        rw [Bool.and_eq_true] at h1
        obtain ⟨i1, i2⟩ := h1
        unfold seenX at i2
        simp only [Bool.and_eq_true] at i2
        rw [eqAVs_eq _ _ i1]
        exact CallOk.moved (a := 1001) (ordersX (p := pNw b L k s) rfl h0 hL hk ok0) (by omega) (by omega) rfl vX_ro (vX_at i2.1 i2.2.1) fun E => film_at
      · cases e
  rcases cond_and (P := fun o => o = some t) e with ⟨hb, hf, e⟩ | e
  · have := beq_t.1 hf
    subst this
    subst hb
    have okb : ∀ ρ M, (pNw true L k s).ok ρ M → okN L k s ρ := fun ρ M h => by
      have h : okNb true L k s ρ := h
      unfold okNb at h
      rw [if_pos rfl] at h
      exact h
    rcases orTry_some e with e | e
    · exact smallO_ok (placesF (p := pNw true L k s) rfl h0 hL hk okb) (by omega) rfl (viewK_ok h0 hL) e
    · unfold plX at e
      split at e
      · obtain ⟨h1, h2⟩ := cond_some e
        have h2 := Option.some.inj h2
        subst h2
        rw [Bool.and_eq_true] at h1
        obtain ⟨i1, i2⟩ := h1
        unfold seenX at i2
        simp only [Bool.and_eq_true] at i2
        rw [eqAVs_eq _ _ i1]
        exact CallOk.movedT (a := 1001) (placesX (p := pNw true L k s) rfl h0 hL hk okb) (by omega) (by omega) vX_ro (ble_t.1 i2.2.2) (vX_at i2.1 i2.2.1) fun E => film_at2
      · cases e
  · cases e
section
variable {E : Env} {w : World} {vs : List Value}
/-- THE LAW, of a valid film. -/
theorem narrow_valid {b : Bool} {L k s : Nat} (h0 : 1 ≤ L) (hL : L ≤ 6) (hk : k < L) (hv : ∀ g ∈ viewV L, ViewIn w E g) (hf : ∀ b, 2000 ≤ b → E.σ b = none) (hg : ∀ b, b < 1000 → E.σ b = some (b, 0)) (hn : E.n ≤ 2000)
    (ha : concL E [filmV L, .agg [vi 301, vi 302, vi 303]] = some vs) (hok : okNb b L k s E.ρ) : Calls Tryd.prog 6 vs.toArray w fun e w' => e = .returned (.bool true) ∧ Below w.heap.size w w' := by
  have ok0 := okNb_0 hok
  obtain ⟨q1, q2, q3, q4, ⟨q5, q6⟩, _⟩ := id ok0
  have hfilm := (film_of_cs h0 hL q1).1
  have hle := cnt_nar (nar_ok hk q1 q4).2 hL (hi_of q1) L (fullM L) 0 100 0 100 fullM_lt0 (Int.le_refl _) (Int.le_refl _)
  have hbig := cntF_le E.ρ L (fullM L) 0 100
  have hb6 : 6 ^ L ≤ 46656 := Nat.le_trans (Nat.pow_le_pow_right (by omega) hL) (by decide)
  have hs : b = true → s < 2 ^ L ∧ s ≠ 0 := fun hb => by
    subst hb
    unfold okNb at hok
    rw [if_pos rfl] at hok
    obtain ⟨_, r1, r2, r3⟩ := id hok
    refine ⟨r2, fun hs0 => ?_⟩
    obtain ⟨j, j1, j2⟩ := some_at h0 hL hk (ρ := E.ρ) (by omega)
    rw [r3 j j1, hs0] at j2
    have : j = 0 ∨ j = 1 ∨ j = 2 ∨ j = 3 ∨ j = 4 ∨ j = 5 := by omega
    rcases this with rfl | rfl | rfl | rfl | rfl | rfl <;> cases j2
  have h313 : (cond b (1 : Int) 0) ≤ E.ρ.iv 313 ∧ E.ρ.iv 313 ≤ cond b 46656 0 := by
    unfold okNb at hok
    cases b with
    | true => rw [if_pos rfl] at hok; have := hok.2.1; simp only [cond_true]; omega
    | false => rw [if_neg (by simp)] at hok; have := hok.2; simp only [cond_false]; omega
  have hK : KnOk E.ρ (knNw b L) := by
    refine knOf_ok (fun c hc => ?_) fun c hc => ?_
    · have e : ∀ (q : Nat × Int × Int) (l : List (Nat × Int × Int)), ivC (q :: l) = .cmp .leq (.lit q.2.1) (.var q.1) :: .cmp .leq (.var q.1) (.lit q.2.2) :: ivC l := fun _ _ => rfl
      rw [e, e] at hc
      simp only [List.mem_cons] at hc
      rcases hc with rfl | rfl | rfl | rfl | hc
      · rw [BE.t_leq, IE.den_var, IE.den_lit]; omega
      · rw [BE.t_leq, IE.den_var, IE.den_lit]; omega
      · rw [BE.t_leq, IE.den_var, IE.den_lit]; cases b <;> exact h313.1
      · rw [BE.t_leq, IE.den_var, IE.den_lit]; cases b <;> exact h313.2
      · exact hfilm.1 c hc
    · rcases List.mem_cons.1 hc with rfl | hc
      · exact BE.t_leq.2 (by simp only [IE.den_var]; omega)
      · exact hfilm.2 c hc
  exact law_view (Tryd.tab (orcNw b L k s) (orcNw_ok h0 hL hk) 2000) hv hf hg hn ha (allK_ok (fun K a H h => isTrueK_ok H h) _ _ hK (lawNw_all h0 hL hk hs)) ⟨_, hok, fun _ _ h => h⟩
end
end Go.Sx
