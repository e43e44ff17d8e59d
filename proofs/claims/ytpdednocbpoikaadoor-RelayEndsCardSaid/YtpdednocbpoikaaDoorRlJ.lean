/- RlJ -/
import Derived.Test.YtpdednocbpoikaaDoorRlI
import Derived.Test.YtpdednocbpoikaaDoorRtC
namespace Go.Sx
open Go.RowKit Go.Proofs
set_option maxRecDepth 100000
noncomputable def fiW (ρ : Rho) (f : Nat) (a b c : Int) : Int :=
  if f = 3001 then (aftF ρ a.toNat b c).1 else if f = 3002 then (aftF ρ a.toNat b c).2
  else if 4100 ≤ f ∧ f < 4612 then (ordF ρ (cnt ((f - 4100) / 8)) ((f - 4100) / 8) a b).getD ((f - 4100) % 8) 0
  else if 5000 ≤ f ∧ f < 9200 then leftF ρ (cnt ((f - 5000) % 600 / 8)) ((f - 5000) / 600 - cnt ((f - 5000) % 600 / 8)) ((f - 5000) % 600 / 8) ((f - 5000) % 600 % 8) a b c
  else ρ.fi f a b c
noncomputable def fbW (ρ : Rho) (f : Nat) (a b c : Int) : Bool := if 4000 ≤ f ∧ f < 4064 then noneF ρ (cnt (f - 4000)) (f - 4000) a b else ρ.fb f a b c
def LikeF (ρ ρ' : Rho) : Prop := ∀ j, j < 60 → ρ.iv j = ρ'.iv j
theorem aftF_like {ρ ρ' : Rho} (h : LikeF ρ ρ') {r : Nat} (hr : r < 6) (a b : Int) : aftF ρ r a b = aftF ρ' r a b := by
  unfold aftF
  rw [h (10 + 6 * r) (by omega), h (11 + 6 * r) (by omega), h (12 + 6 * r) (by omega), h (13 + 6 * r) (by omega)]
theorem noneF_like {ρ ρ' : Rho} (h : LikeF ρ ρ') : ∀ (k m : Nat) (a b : Int), noneF ρ k m a b = noneF ρ' k m a b
  | 0, _, _, _ => rfl
  | k + 1, m, a, b => by
    simp only [noneF]
    refine all_congr fun r hr => ?_
    rw [aftF_like h (rsOf_lt hr), noneF_like h k]
theorem ordF_like {ρ ρ' : Rho} (h : LikeF ρ ρ') : ∀ (k m : Nat) (a b : Int), ordF ρ k m a b = ordF ρ' k m a b
  | 0, _, _, _ => rfl
  | k + 1, m, a, b => by
    simp only [ordF]
    rw [find_congr (q := fun r => !(decide (aftF ρ' r a b = (0, 0)) || noneF ρ' k (del m r) (aftF ρ' r a b).1 (aftF ρ' r a b).2)) fun r hr => by rw [aftF_like h (rsOf_lt hr), noneF_like h k]]
    cases hf : (rsOf m).find? fun r => !(decide (aftF ρ' r a b = (0, 0)) || noneF ρ' k (del m r) (aftF ρ' r a b).1 (aftF ρ' r a b).2) with
    | none => rfl
    | some r =>
      simp only
      rw [aftF_like h (rsOf_lt (List.mem_of_find?_eq_some hf)), ordF_like h k]
theorem leftF_like {ρ ρ' : Rho} (h : LikeF ρ ρ') : ∀ (k p m j : Nat) (a b o : Int), leftF ρ k p m j a b o = leftF ρ' k p m j a b o
  | 0, _, _, _, _, _, _ => rfl
  | k + 1, p, m, j, a, b, o => by
    simp only [leftF]
    refine foldl_congr _ fun o r hr => ?_
    rw [aftF_like h (rsOf_lt hr), leftF_like h k]
theorem okT_of {L : Nat} (hL : L ≤ 6) {ρ ρ0 : Rho} (h : LikeF ρ ρ0) (hfi : ∀ f a b c, ¬ (3101 ≤ f ∧ f < 3105) → ρ.fi f a b c = fiW ρ0 f a b c) (hfb : ρ.fb = fbW ρ0) (hr : ∀ r, r < L → reelOk ρ r) : okT L ρ := by
  have m64 : ∀ m, m < 2 ^ L → m < 64 := fun m hm => lt64 hL hm
  refine ⟨fun r hrL => ⟨hr r hrL, fun a b => ?_⟩, fun m hm => ⟨fun a b => ?_, fun j a b hj => ?_, fun K j a b o hK hj => ?_⟩⟩
  · rw [hfi 3001 _ _ _ (by omega), hfi 3002 _ _ _ (by omega), aftF_like h (by omega)]
    unfold fiW
    rw [if_pos rfl, if_neg (by omega), if_pos rfl, Int.toNat_natCast]
    exact ⟨rfl, rfl⟩
  · rw [hfb, noneF_like h]
    have := m64 m hm
    unfold fbW
    rw [if_pos (by omega), Nat.add_sub_cancel_left]
  · have := m64 m hm
    rw [hfi _ _ _ _ (by omega), ordF_like h]
    unfold fiW
    rw [if_neg (by omega), if_neg (by omega), if_pos (by omega), show 4100 + 8 * m + j - 4100 = 8 * m + j by omega, show (8 * m + j) / 8 = m by omega, show (8 * m + j) % 8 = j by omega]
  · have := m64 m hm
    rw [hfi _ _ _ _ (by omega), leftF_like h]
    unfold fiW
    rw [if_neg (by omega), if_neg (by omega), if_neg (by omega), if_pos (by omega), show 5000 + 600 * K + 8 * m + j - 5000 = 600 * K + (8 * m + j) by omega, show (600 * K + (8 * m + j)) % 600 = 8 * m + j by omega, show (600 * K + (8 * m + j)) / 600 = K by omega,
      show (8 * m + j) / 8 = m by omega, show (8 * m + j) % 8 = j by omega]
theorem cellsUp_vals (E : Env) (z : Nat → Int) : ∀ (k i : Nat), (∀ j, i ≤ j → j < i + k → E.ρ.iv j = z j) → concL E (cellsUp k i) = some ((List.range k).map fun q => .int .i64 (z (i + q)))
  | 0, i, _ => rfl
  | k + 1, i, h => by
    simp only [cellsUp, vi, concL, conc, IE.den]
    rw [h i (Nat.le_refl _) (by omega), cellsUp_vals E z k (i + 1) fun j h1 h2 => h j (by omega) (by omega)]
    simp only [List.range_succ_eq_map, List.map_cons, List.map_map, Nat.add_zero]
    congr 2
    apply List.map_congr_left
    intro q _
    simp only [Function.comp, Nat.succ_eq_add_one]
    rw [show i + 1 + q = i + (q + 1) by omega]
def pickF (y : Nat → Int) (bl : Nat) (i : Int) : Int := if bl = 0 then 0 else y (turnF i bl).toNat
def fiR (y : Nat → Int) (bl : Nat) (f : Nat) (a _ _ : Int) : Int := if f = 1001 then y a.toNat else if f = 1000 then pickF y bl a else 0
theorem filmV_ok {L : Nat} (h0 : 1 ≤ L) (hL : L ≤ 6) {ρ : Rho} (h : ∀ c ∈ csL L, c.den ρ = true) : okFilm L ρ ∧ ∀ r, r < L → reelOk ρ r := by
  have up : ∀ n b r, r < n → ∀ c ∈ reelC (b + 6 * r), c ∈ csUp n b := by
    intro n
    induction n with
    | zero => intro b r hr; omega
    | succ n ih =>
      intro b r hr c hc
      cases r with
      | zero => exact List.mem_append_left _ hc
      | succ r => exact List.mem_append_right _ (ih (b + 6) r (by omega) c (by rw [show b + 6 + 6 * r = b + 6 * (r + 1) by omega]; exact hc))
  have rest : ∀ n b, ∀ c ∈ restC, c ∈ csUp n b := by
    intro n
    induction n with
    | zero => intro b c hc; exact hc
    | succ n ih => intro b c hc; exact List.mem_append_right _ (ih _ c hc)
  have R : ∀ c ∈ restC, c.den ρ = true := fun c hc => h c (rest L 10 c hc)
  have U : ∀ r, r < L → ∀ c ∈ reelC (10 + 6 * r), c.den ρ = true := fun r hr c hc => h c (up L 10 r hr c hc)
  have le : ∀ {a b : IE}, (le2 a b).den ρ = true → a.den ρ ≤ b.den ρ := fun k => BE.t_leq.1 k
  have reel : ∀ r, r < L → 0 ≤ ρ.iv (10 + 6 * r) ∧ ρ.iv (10 + 6 * r) ≤ ρ.iv (11 + 6 * r) ∧ ρ.iv (11 + 6 * r) ≤ 99 ∧ 0 ≤ ρ.iv (12 + 6 * r) ∧ ρ.iv (12 + 6 * r) ≤ ρ.iv (13 + 6 * r) ∧ ρ.iv (13 + 6 * r) ≤ 99 ∧ 1 ≤ ρ.iv (14 + 6 * r) ∧ ρ.iv (14 + 6 * r) ≤ ρ.iv (15 + 6 * r) ∧ ρ.iv (15 + 6 * r) ≤ 1200 ∧ ρ.iv (10 + 6 * r) ≤ ρ.iv (13 + 6 * r) := fun r hr => by
    have u := U r hr
    simp only [reelC, List.forall_mem_cons, le2, BE.t_leq, IE.den_lit, IE.den_var] at u
    obtain ⟨u1, u2, u3, u4, u5, u6, u7, u8, u9, u10, _⟩ := u
    rw [show 10 + 6 * r + 1 = 11 + 6 * r by omega] at u2 u3
    rw [show 10 + 6 * r + 2 = 12 + 6 * r by omega] at u4 u5
    rw [show 10 + 6 * r + 3 = 13 + 6 * r by omega] at u5 u6 u10
    rw [show 10 + 6 * r + 4 = 14 + 6 * r by omega] at u7 u8
    rw [show 10 + 6 * r + 5 = 15 + 6 * r by omega] at u8 u9
    exact ⟨u1, u2, u3, u4, u5, u6, u7, u8, u9, u10⟩
  simp only [restC, List.forall_mem_cons, le2, BE.t_leq, IE.den_lit, IE.den_var] at R
  obtain ⟨r1, r2, r3, r4, r5, r6, r7, r8, _⟩ := R
  refine ⟨⟨?_, ?_⟩, fun r hr => ?_⟩
  · rcases six h0 hL with rfl | rfl | rfl | rfl | rfl | rfl
    all_goals
      have q0 := reel 0 (by omega)
      try have q1 := reel 1 (by omega)
      try have q2 := reel 2 (by omega)
      try have q3 := reel 3 (by omega)
      try have q4 := reel 4 (by omega)
      try have q5 := reel 5 (by omega)
      simp only [Nat.mul_zero, Nat.mul_one, Nat.reduceMul, Nat.reduceAdd, Nat.add_zero] at *
      simp only [filmQ, upN, ivC, List.forall_mem_cons, BE.t_leq, IE.den_lit, IE.den_var, List.not_mem_nil, false_implies, implies_true, and_true, Nat.reduceMul, Nat.reduceAdd]
      omega
  · rcases six h0 hL with rfl | rfl | rfl | rfl | rfl | rfl
    all_goals
      have q0 := reel 0 (by omega)
      try have q1 := reel 1 (by omega)
      try have q2 := reel 2 (by omega)
      try have q3 := reel 3 (by omega)
      try have q4 := reel 4 (by omega)
      try have q5 := reel 5 (by omega)
      simp only [Nat.mul_zero, Nat.mul_one, Nat.reduceMul, Nat.reduceAdd, Nat.add_zero] at *
      simp only [filmC, upN, leV, List.forall_mem_cons, BE.t_leq, IE.den_var, List.not_mem_nil, false_implies, implies_true, and_true, Nat.reduceMul, Nat.reduceAdd]
      omega
  · obtain ⟨a1, a2, a3, a4, a5, a6, _⟩ := reel r hr
    exact ⟨a1, a2, a3, a4, a5, a6⟩
theorem book_ok {ρ : Rho} (h : ∀ c ∈ bookCs, c.den ρ = true) : okBook ρ := by
  simp only [bookCs, List.forall_mem_cons, le2, BE.t_leq, IE.den_lit, IE.den_var] at h
  obtain ⟨r1, r2, r3, r4, r5, r6, r7, r8, r9, r10, _⟩ := h
  refine ⟨?_, ?_⟩
  · simp only [bookQ, ivC, List.forall_mem_cons, BE.t_leq, IE.den_lit, IE.den_var, List.not_mem_nil, false_implies, implies_true, and_true]
    omega
  · simp only [bookLe, leV, List.forall_mem_cons, BE.t_leq, IE.den_var, List.not_mem_nil, false_implies, implies_true, and_true]
    omega
def baseI (nf z bk : Nat → Int) (bl len : Nat) (j : Nat) : Int :=
  if j < 5 then nf j else if j < 60 then z (j - 10) else if j < 66 then bk (j - 60) else if j = 95 then len else if j = 96 then bl else 0
noncomputable def rhoF (b : Nat → Int) (y : Nat → Int) (bl : Nat) (s bits : Value) : Rho := ⟨b, fun _ => false, fiR y bl, fun _ _ _ _ => false, fun j => if j = 95 then s else bits⟩
noncomputable def rho1 (ρF : Rho) : Rho := ⟨ρF.iv, ρF.bv, fiW ρF, fbW ρF, ρF.ov⟩
noncomputable def lastI (L : Nat) (ρ : Rho) (q : Nat) : Int := if q % 2 = 0 then loZ ρ ((oB L (q / 4)).den ρ).toNat (ρ.iv 60 + ((q % 4 / 2 : Nat) : Int)) else hiZ ρ ((oB L (q / 4)).den ρ).toNat (ρ.iv 60 + ((q % 4 / 2 : Nat) : Int))
noncomputable def fiX (L : Nat) (ρ : Rho) (f : Nat) (a b c : Int) : Int := if 3101 ≤ f ∧ f < 3105 then lastI L ρ (4 * a.toNat + (f - 3101)) else ρ.fi f a b c
noncomputable def rho2 (L : Nat) (ρ : Rho) : Rho := ⟨fun j => if 100 ≤ j ∧ j < 124 then lastI L ρ (j - 100) else ρ.iv j, ρ.bv, fiX L ρ, ρ.fb, ρ.ov⟩
noncomputable def rho3 (plan : List Nat) (ρ : Rho) : Rho := ⟨fun j => if 200 ≤ j ∧ j < 212 then ((zipI (thereE 0 plan) (thereE 1 plan)).map (IE.den ρ)).getD (j - 200) 0 else if j = 220 then (surelyE plan).den ρ else if j = 221 then (perhapsE plan).den ρ else ρ.iv j, ρ.bv, ρ.fi, ρ.fb, ρ.ov⟩
noncomputable def planZ (g : Nat → Int) (carry : Int) : Nat → Nat → Nat → List Nat
  | 0, _, _ => []
  | f + 1, left, k => if left = 0 then [] else (1 + (turnF (g k) (min (left : Int) carry)).toNat) :: planZ g carry f (left - (1 + (turnF (g k) (min (left : Int) carry)).toNat)) (k + 1)
theorem planZ_ok (g : Nat → Int) {carry : Int} (hc : 1 ≤ carry) : ∀ (f left k : Nat), left ≤ f → (∀ p ∈ planZ g carry f left k, 1 ≤ p ∧ (p : Int) ≤ carry) ∧ sumN (planZ g carry f left k) = left ∧
    ∀ q ∈ tripsL (planZ g carry f left k) left k, turnF (g q.2.1) (min (q.1 : Int) carry) = (q.2.2 : Int) - 1
  | 0, left, k, h => by
    have : left = 0 := by omega
    subst this
    exact ⟨fun p hp => (by cases hp), rfl, fun q hq => (by cases hq)⟩
  | f + 1, left, k, h => by
    unfold planZ
    by_cases h0 : left = 0
    · rw [if_pos h0]; subst h0
      exact ⟨fun p hp => (by cases hp), rfl, fun q hq => (by cases hq)⟩
    · rw [if_neg h0]
      have t := turnF_in (n := g k) (m := min (left : Int) carry) (by omega)
      generalize hT : turnF (g k) (min (left : Int) carry) = T at t ⊢
      obtain ⟨r1, r2, r3⟩ := planZ_ok g hc f (left - (1 + T.toNat)) (k + 1) (by omega)
      refine ⟨fun p hp => ?_, ?_, fun q hq => ?_⟩
      · rcases List.mem_cons.1 hp with rfl | hp
        · omega
        · exact r1 p hp
      · simp only [sumN, r2]; omega
      · have hq : q ∈ (left, k, 1 + T.toNat) :: tripsL (planZ g carry f (left - (1 + T.toNat)) (k + 1)) (left - (1 + T.toNat)) (k + 1) := hq
        rcases List.mem_cons.1 hq with rfl | hq
        · show turnF (g k) (min (left : Int) carry) = ((1 + T.toNat : Nat) : Int) - 1
          rw [hT]; omega
        · exact r3 q hq
noncomputable def varsP (plan : List Nat) : Bool := and (lAll (varsI 200) (thereE 0 plan)) (and (lAll (varsI 200) (thereE 1 plan)) (and (varsI 200 (surelyE plan)) (varsI 200 (perhapsE plan))))
theorem varsP_all : lAll (fun L => lAll varsP (plansL L)) [1, 2, 3, 4, 5, 6] = true := by kernel_rfl
theorem zipI_mem : ∀ {l m : List IE} {x : IE}, x ∈ zipI l m → x ∈ l ∨ x ∈ m
  | [], _, _, h => by cases h
  | _ :: _, [], _, h => by cases h
  | a :: l, b :: m, x, h => by
    have h : x ∈ a :: b :: zipI l m := h
    rcases List.mem_cons.1 h with rfl | h
    · exact .inl List.mem_cons_self
    · rcases List.mem_cons.1 h with rfl | h
      · exact .inr List.mem_cons_self
      · rcases zipI_mem h with h | h
        · exact .inl (List.mem_cons_of_mem _ h)
        · exact .inr (List.mem_cons_of_mem _ h)
theorem zipI_len : ∀ (l m : List IE), l.length = m.length → (zipI l m).length = 2 * l.length
  | [], _, _ => rfl
  | _ :: _, [], h => by simp at h
  | a :: l, b :: m, h => by
    have e : zipI (a :: l) (b :: m) = a :: b :: zipI l m := rfl
    rw [e, List.length_cons, List.length_cons, List.length_cons, zipI_len l m (by simpa using h)]; omega
theorem rho3_iv {plan : List Nat} {ρ : Rho} {j : Nat} (h : j < 200) : (rho3 plan ρ).iv j = ρ.iv j := by
  show (if 200 ≤ j ∧ j < 212 then _ else if j = 220 then _ else if j = 221 then _ else ρ.iv j) = _
  rw [if_neg (by omega), if_neg (by omega), if_neg (by omega)]
theorem rho2_iv {L : Nat} {ρ : Rho} {j : Nat} (h : j < 100) : (rho2 L ρ).iv j = ρ.iv j := by
  show (if 100 ≤ j ∧ j < 124 then _ else ρ.iv j) = _
  rw [if_neg (by omega)]
theorem okP_of {L : Nat} (h0 : 1 ≤ L) (hL : L ≤ 6) {plan : List Nat} (hp : plan ∈ plansL L) {ρ : Rho} (hc : ∀ p ∈ plan, (p : Int) ≤ ρ.iv 65) : OkP L plan (rho3 plan ρ) := by
  have hv := lAll_mem (lAll_mem varsP_all L (mem_six h0 hL)) plan hp
  unfold varsP at hv
  simp only [Bool.and_eq_true] at hv
  obtain ⟨v1, v2, v3, v4⟩ := hv
  have den : ∀ e, varsI 200 e = true → e.den (rho3 plan ρ) = e.den ρ := fun e he => varsI_den (n := 200) (fun i hi => rho3_iv hi) ⟨rfl, rfl⟩ e he
  have p2 := (plansN_mem _ _ _ hp).2
  have len : ∀ e, (thereE e plan).length = L := fun e => by unfold thereE; rw [atsE_len, p2]
  have zl : (zipI (thereE 0 plan) (thereE 1 plan)).length = 2 * L := by rw [zipI_len _ _ (by rw [len, len]), len]
  refine ⟨?_, ?_, ?_, fun c hcc => ?_⟩
  · have e1 : (zipI (thereE 0 plan) (thereE 1 plan)).map (IE.den (rho3 plan ρ)) = (zipI (thereE 0 plan) (thereE 1 plan)).map (IE.den ρ) := List.map_congr_left fun e he => by
      rcases zipI_mem he with he | he
      · exact den e (lAll_mem v1 e he)
      · exact den e (lAll_mem v2 e he)
    rw [e1]
    refine List.ext_getElem? fun i => ?_
    by_cases hi : i < 2 * L
    · rw [List.getElem?_map, List.getElem?_map, upN_get _ _ _ hi, Option.map_some]
      have hz : i < (zipI (thereE 0 plan) (thereE 1 plan)).length := by omega
      rw [List.getElem?_eq_getElem hz, Option.map_some]
      show some _ = some (if 200 ≤ 200 + i ∧ 200 + i < 212 then ((zipI (thereE 0 plan) (thereE 1 plan)).map (IE.den ρ)).getD (200 + i - 200) 0 else _)
      rw [if_pos (by omega), Nat.add_sub_cancel_left, List.getD_eq_getElem?_getD, List.getElem?_map, List.getElem?_eq_getElem hz]; rfl
    · rw [List.getElem?_eq_none (by rw [List.length_map]; omega), List.getElem?_eq_none (by
        rw [List.length_map]
        have : ∀ n k, (upN n k).length = n := by
          intro n
          induction n with
          | zero => intro k; rfl
          | succ n ih => intro k; simp only [upN, List.length_cons, ih]
        rw [this]; omega)]
  · have e : (rho3 plan ρ).iv 220 = (surelyE plan).den ρ := by simp [rho3]
    rw [den _ v3, e]
  · have e : (rho3 plan ρ).iv 221 = (perhapsE plan).den ρ := by simp [rho3]
    rw [den _ v4, e]
  · unfold carryC at hcc
    rw [lMap_eq, List.mem_map] at hcc
    obtain ⟨p, hpp, rfl⟩ := hcc
    rw [BE.t_leq, IE.den_lit, IE.den_var, rho3_iv (by omega)]
    exact hc p hpp
theorem oB_rho {L : Nat} {ρ ρ' : Rho} (h : ∀ f a b c, ¬ (3101 ≤ f ∧ f < 3105) → ρ'.fi f a b c = ρ.fi f a b c) {j : Nat} : (oB L j).den ρ' = (oB L j).den ρ := by
  unfold oB ordE
  simp only [IE.den, FI]
  rw [if_pos (by omega), if_pos (by omega), h _ _ _ _ (by omega)]
theorem cells_vj : ∀ (n i : Nat), cellsUp n i = lMap vj (upN n i)
  | 0, _ => rfl
  | n + 1, i => by
    have e : lMap vj (upN (n + 1) i) = vj i :: lMap vj (upN n (i + 1)) := rfl
    show vi i :: cellsUp n (i + 1) = _
    rw [e, cells_vj n]; rfl
theorem viewVR (L j : Nat) : (viewA 2000 (vR L)).get j = (viewHeap 2000 (viewV L)).get j := by
  have e : AObj.cells (cellsUp (6 * L) 10) 0 false false = rowsA L := by rw [cells_vj]; rfl
  simp only [vR, viewV, glR, viewA, viewHeap, Heap.get_put, e]
  by_cases h0 : j = 0
  · subst h0; simp [ro]
  · by_cases h1 : j = 1
    · subst h1; simp [ro]
    · by_cases h2 : j = 2
      · subst h2; simp [ro]
      · by_cases h3 : j = 3
        · subst h3; simp [ro]
        · simp only [if_neg h0, if_neg h1, if_neg h2, if_neg h3]
def envL (ρ : Rho) (b o cap : Nat) : Env := ⟨ρ, fun x => if x < 1000 then some (x, 0) else if x = 1001 then some (b, o) else none, fun _ => cap, 2000, fun _ => #[]⟩
theorem six_vals (E : Env) (nf bk : Nat → Int) (h : ∀ j, j < 5 → E.ρ.iv j = nf j) (k : ∀ j, j < 6 → E.ρ.iv (60 + j) = bk j) : concL E [vj 0, vj 1, vj 2, vj 3, vj 4, vj 60, vj 61, vj 62, vj 63, vj 64, vj 65] = some [.int .i64 (nf 0), .int .i64 (nf 1), .int .i64 (nf 2), .int .i64 (nf 3), .int .i64 (nf 4), .int .i64 (bk 0), .int .i64 (bk 1), .int .i64 (bk 2), .int .i64 (bk 3), .int .i64 (bk 4), .int .i64 (bk 5)] := by
  have k0 := k 0 (by omega); have k1 := k 1 (by omega); have k2 := k 2 (by omega); have k3 := k 3 (by omega); have k4 := k 4 (by omega); have k5 := k 5 (by omega)
  have h0 := h 0 (by omega); have h1 := h 1 (by omega); have h2 := h 2 (by omega); have h3 := h 3 (by omega); have h4 := h 4 (by omega)
  simp only [Nat.add_zero, Nat.reduceAdd] at k0 k1 k2 k3 k4 k5
  simp only [vj, concL, conc, IE.den, h0, h1, h2, h3, h4, k0, k1, k2, k3, k4, k5]
noncomputable def bookVal (s : Value) (nf bk : Nat → Int) : Value := .agg #[s, .int .i64 (nf 0), .int .i64 (nf 1), .int .i64 (nf 2), .int .i64 (nf 3), .int .i64 (nf 4), .int .i64 (bk 0), .int .i64 (bk 1), .int .i64 (bk 2), .int .i64 (bk 3), .int .i64 (bk 4), .int .i64 (bk 5)]
end Go.Sx
