/- BeZ -/
import Derived.Test.YtoefmmmfefdcdaaDoorRlI
import Derived.Test.YtoefmmmfefdcdaaDoorBeG1
import Derived.Test.YtoefmmmfefdcdaaDoorBeG60
import Derived.Test.YtoefmmmfefdcdaaDoorBeG61
import Derived.Test.YtoefmmmfefdcdaaDoorBeG62
import Derived.Test.YtoefmmmfefdcdaaDoorBeG63
import Derived.Test.YtoefmmmfefdcdaaDoorRlE5b
import Derived.Test.YtoefmmmfefdcdaaDoorRlE6b
import Derived.Test.YtoefmmmfefdcdaaDoorRlE6d
namespace Go.Sx
open Go.RowKit Go.Proofs
set_option maxRecDepth 100000
theorem turnF_in {n m : Int} (h : 1 ≤ m) : 0 ≤ turnF n m ∧ turnF n m < m := by
  unfold turnF
  rw [if_neg (by omega)]
  exact ⟨Int.emod_nonneg _ (by omega), Int.emod_lt_of_pos _ (by omega)⟩
theorem ckSt4_all : lAll (ckSt 4) (plansL 4) = true := by
  have h4 : lAll (ckSt 4) (lDrop (plansL 4) 8) = true := by kernel_rfl
  have h3 := chunk ckSt4_3 h4
  have h2 := chunk ckSt4_2 h3
  have h1 := chunk ckSt4_1 h2
  have h0 := chunk ckSt4_0 h1
  rw [lDrop_eq, List.drop_zero] at h0
  exact h0
theorem ckSt5_all : lAll (ckSt 5) (plansL 5) = true := by
  have h8 : lAll (ckSt 5) (lDrop (plansL 5) 16) = true := by kernel_rfl
  have h7 := chunk ckSt5_7 h8
  have h6 := chunk ckSt5_6 h7
  have h5 := chunk ckSt5_5 h6
  have h4 := chunk ckSt5_4 h5
  have h3 := chunk ckSt5_3 h4
  have h2 := chunk ckSt5_2 h3
  have h1 := chunk ckSt5_1 h2
  have h0 := chunk ckSt5_0 h1
  rw [lDrop_eq, List.drop_zero] at h0
  exact h0
theorem ckSt6_all : lAll (ckSt 6) (plansL 6) = true := by
  have h32 : lAll (ckSt 6) (lDrop (plansL 6) 32) = true := by kernel_rfl
  have h31 := chunk ckSt6_31 h32
  have h30 := chunk ckSt6_30 h31
  have h29 := chunk ckSt6_29 h30
  have h28 := chunk ckSt6_28 h29
  have h27 := chunk ckSt6_27 h28
  have h26 := chunk ckSt6_26 h27
  have h25 := chunk ckSt6_25 h26
  have h24 := chunk ckSt6_24 h25
  have h23 := chunk ckSt6_23 h24
  have h22 := chunk ckSt6_22 h23
  have h21 := chunk ckSt6_21 h22
  have h20 := chunk ckSt6_20 h21
  have h19 := chunk ckSt6_19 h20
  have h18 := chunk ckSt6_18 h19
  have h17 := chunk ckSt6_17 h18
  have h16 := chunk ckSt6_16 h17
  have h15 := chunk ckSt6_15 h16
  have h14 := chunk ckSt6_14 h15
  have h13 := chunk ckSt6_13 h14
  have h12 := chunk ckSt6_12 h13
  have h11 := chunk ckSt6_11 h12
  have h10 := chunk ckSt6_10 h11
  have h9 := chunk ckSt6_9 h10
  have h8 := chunk ckSt6_8 h9
  have h7 := chunk ckSt6_7 h8
  have h6 := chunk ckSt6_6 h7
  have h5 := chunk ckSt6_5 h6
  have h4 := chunk ckSt6_4 h5
  have h3 := chunk ckSt6_3 h4
  have h2 := chunk ckSt6_2 h3
  have h1 := chunk ckSt6_1 h2
  have h0 := chunk ckSt6_0 h1
  rw [lDrop_eq, List.drop_zero] at h0
  exact h0
theorem ckStL {L : Nat} (h0 : 1 ≤ L) (hL : L ≤ 6) : lAll (ckSt L) (plansL L) = true := by
  rcases six h0 hL with rfl | rfl | rfl | rfl | rfl | rfl
  · exact ckSt1
  · exact ckSt2
  · exact ckSt3
  · exact ckSt4_all
  · exact ckSt5_all
  · exact ckSt6_all
theorem ckGL {L ip : Nat} (h0 : 1 ≤ L) (hL : L ≤ 6) {p : List Nat} (hp : (plansL L)[ip]? = some p) : ckG L ip = true := by
  have hi := (List.getElem?_eq_some_iff.1 hp).1
  rcases six h0 hL with rfl | rfl | rfl | rfl | rfl | rfl
  · have hi : ip < 1 := hi
    exact lAll_at ckG1 (Nat.zero_le _) hi
  · have hi : ip < 2 := hi
    exact lAll_at ckG2 (Nat.zero_le _) hi
  · have hi : ip < 4 := hi
    exact lAll_at ckG3 (Nat.zero_le _) hi
  · have hi : ip < 8 := hi
    exact lAll_at ckG4 (Nat.zero_le _) hi
  · have hi : ip < 16 := hi
    rcases (by omega : ip < 8 ∨ 8 ≤ ip) with h | h
    · exact lAll_at ckG5_0 (Nat.zero_le _) h
    · exact lAll_at ckG5_1 h (by omega)
  · have hi : ip < 32 := hi
    rcases (by omega : ip < 4 ∨ (4 ≤ ip ∧ ip < 8) ∨ (8 ≤ ip ∧ ip < 12) ∨ (12 ≤ ip ∧ ip < 16) ∨ (16 ≤ ip ∧ ip < 20) ∨ (20 ≤ ip ∧ ip < 24) ∨ (24 ≤ ip ∧ ip < 28) ∨ 28 ≤ ip) with h | h | h | h | h | h | h | h
    · exact lAll_at ckG6_0 (Nat.zero_le _) h
    · exact lAll_at ckG6_1 h.1 (by omega)
    · exact lAll_at ckG6_2 h.1 (by omega)
    · exact lAll_at ckG6_3 h.1 (by omega)
    · exact lAll_at ckG6_4 h.1 (by omega)
    · exact lAll_at ckG6_5 h.1 (by omega)
    · exact lAll_at ckG6_6 h.1 (by omega)
    · exact lAll_at ckG6_7 h (by omega)
noncomputable def fiW (ρ : Rho) (f : Nat) (a b c : Int) : Int :=
  if f = 3001 then (aftF ρ a.toNat b c).1 else if f = 3002 then (aftF ρ a.toNat b c).2
  else if 4100 ≤ f ∧ f < 4612 then (ordF ρ (cnt ((f - 4100) / 8)) ((f - 4100) / 8) a b).getD ((f - 4100) % 8) 0
  else if 5000 ≤ f ∧ f < 9200 then leftF ρ (cnt ((f - 5000) % 600 / 8)) ((f - 5000) / 600 - cnt ((f - 5000) % 600 / 8)) ((f - 5000) % 600 / 8) ((f - 5000) % 600 % 8) a b c
  else ρ.fi f a b c
noncomputable def fbW (ρ : Rho) (f : Nat) (a b c : Int) : Bool := if 4000 ≤ f ∧ f < 4064 then noneF ρ (cnt (f - 4000)) (f - 4000) a b else ρ.fb f a b c
def LikeF (ρ ρ' : Rho) : Prop := ∀ j, j < 60 → ρ.iv j = ρ'.iv j
theorem aftF_like {ρ ρ' : Rho} (h : LikeF ρ ρ') {r : Nat} (hr : r < 6) (a b : Int) : aftF ρ r a b = aftF ρ' r a b := by
  unfold aftF
  rw [h (10 + 6 * r) (by omega), h (11 + 6 * r) (by omega), h (12 + 6 * r) (by omega), h (13 + 6 * r) (by omega)]
theorem noneF_like {ρ ρ' : Rho} (h : LikeF ρ ρ') : ∀ (k m : Nat) (a b : Int), noneF ρ k m a b = noneF ρ' k m a b
  | 0, _, _, _ => rfl
  | k + 1, m, a, b => by
    simp only [noneF]
    refine all_congr fun r hr => ?_
    rw [aftF_like h (rsOf_lt hr), noneF_like h k]
theorem ordF_like {ρ ρ' : Rho} (h : LikeF ρ ρ') : ∀ (k m : Nat) (a b : Int), ordF ρ k m a b = ordF ρ' k m a b
  | 0, _, _, _ => rfl
  | k + 1, m, a, b => by
    simp only [ordF]
    rw [find_congr (q := fun r => !(decide (aftF ρ' r a b = (0, 0)) || noneF ρ' k (del m r) (aftF ρ' r a b).1 (aftF ρ' r a b).2)) fun r hr => by rw [aftF_like h (rsOf_lt hr), noneF_like h k]]
    cases hf : (rsOf m).find? fun r => !(decide (aftF ρ' r a b = (0, 0)) || noneF ρ' k (del m r) (aftF ρ' r a b).1 (aftF ρ' r a b).2) with
    | none => rfl
    | some r =>
      simp only
      rw [aftF_like h (rsOf_lt (List.mem_of_find?_eq_some hf)), ordF_like h k]
theorem leftF_like {ρ ρ' : Rho} (h : LikeF ρ ρ') : ∀ (k p m j : Nat) (a b o : Int), leftF ρ k p m j a b o = leftF ρ' k p m j a b o
  | 0, _, _, _, _, _, _ => rfl
  | k + 1, p, m, j, a, b, o => by
    simp only [leftF]
    refine foldl_congr _ fun o r hr => ?_
    rw [aftF_like h (rsOf_lt hr), leftF_like h k]
theorem okT_of {L : Nat} (hL : L ≤ 6) {ρ ρ0 : Rho} (h : LikeF ρ ρ0) (hfi : ∀ f a b c, ¬ (3101 ≤ f ∧ f < 3105) → f ≠ 9702 → ρ.fi f a b c = fiW ρ0 f a b c) (hfb : ρ.fb = fbW ρ0) (hr : ∀ r, r < L → reelOk ρ r) : okT L ρ := by
  have m64 : ∀ m, m < 2 ^ L → m < 64 := fun m hm => lt64 hL hm
  refine ⟨fun r hrL => ⟨hr r hrL, fun a b => ?_⟩, fun m hm => ⟨fun a b => ?_, fun j a b hj => ?_, fun K j a b o hK hj => ?_⟩⟩
  · rw [hfi 3001 _ _ _ (by omega) (by omega), hfi 3002 _ _ _ (by omega) (by omega), aftF_like h (by omega)]
    unfold fiW
    rw [if_pos rfl, if_neg (by omega), if_pos rfl, Int.toNat_natCast]
    exact ⟨rfl, rfl⟩
  · rw [hfb, noneF_like h]
    have := m64 m hm
    unfold fbW
    rw [if_pos (by omega), Nat.add_sub_cancel_left]
  · have := m64 m hm
    rw [hfi _ _ _ _ (by omega) (by omega), ordF_like h]
    unfold fiW
    rw [if_neg (by omega), if_neg (by omega), if_pos (by omega), show 4100 + 8 * m + j - 4100 = 8 * m + j by omega, show (8 * m + j) / 8 = m by omega, show (8 * m + j) % 8 = j by omega]
  · have := m64 m hm
    rw [hfi _ _ _ _ (by omega) (by omega), leftF_like h]
    unfold fiW
    rw [if_neg (by omega), if_neg (by omega), if_neg (by omega), if_pos (by omega), show 5000 + 600 * K + 8 * m + j - 5000 = 600 * K + (8 * m + j) by omega, show (600 * K + (8 * m + j)) % 600 = 8 * m + j by omega, show (600 * K + (8 * m + j)) / 600 = K by omega,
      show (8 * m + j) / 8 = m by omega, show (8 * m + j) % 8 = j by omega]
theorem cellsUp_vals (E : Env) (z : Nat → Int) : ∀ (k i : Nat), (∀ j, i ≤ j → j < i + k → E.ρ.iv j = z j) → concL E (cellsUp k i) = some ((List.range k).map fun q => .int .i64 (z (i + q)))
  | 0, i, _ => rfl
  | k + 1, i, h => by
    simp only [cellsUp, vi, concL, conc, IE.den]
    rw [h i (Nat.le_refl _) (by omega), cellsUp_vals E z k (i + 1) fun j h1 h2 => h j (by omega) (by omega)]
    simp only [List.range_succ_eq_map, List.map_cons, List.map_map, Nat.add_zero]
    congr 2
    apply List.map_congr_left
    intro q _
    simp only [Function.comp, Nat.succ_eq_add_one]
    rw [show i + 1 + q = i + (q + 1) by omega]
def pickF (y : Nat → Int) (bl : Nat) (i : Int) : Int := if bl = 0 then 0 else y (turnF i bl).toNat
def fiR (y : Nat → Int) (bl : Nat) (f : Nat) (a _ _ : Int) : Int := if f = 1001 then y a.toNat else if f = 1000 then pickF y bl a else 0
theorem filmV_ok {L : Nat} (h0 : 1 ≤ L) (hL : L ≤ 6) {ρ : Rho} (h : ∀ c ∈ csL L, c.den ρ = true) : okFilm L ρ ∧ ∀ r, r < L → reelOk ρ r := by
  have up : ∀ n b r, r < n → ∀ c ∈ reelC (b + 6 * r), c ∈ csUp n b := by
    intro n
    induction n with
    | zero => intro b r hr; omega
    | succ n ih =>
      intro b r hr c hc
      cases r with
      | zero => exact List.mem_append_left _ hc
      | succ r => exact List.mem_append_right _ (ih (b + 6) r (by omega) c (by rw [show b + 6 + 6 * r = b + 6 * (r + 1) by omega]; exact hc))
  have rest : ∀ n b, ∀ c ∈ restC, c ∈ csUp n b := by
    intro n
    induction n with
    | zero => intro b c hc; exact hc
    | succ n ih => intro b c hc; exact List.mem_append_right _ (ih _ c hc)
  have R : ∀ c ∈ restC, c.den ρ = true := fun c hc => h c (rest L 10 c hc)
  have U : ∀ r, r < L → ∀ c ∈ reelC (10 + 6 * r), c.den ρ = true := fun r hr c hc => h c (up L 10 r hr c hc)
  have le : ∀ {a b : IE}, (le2 a b).den ρ = true → a.den ρ ≤ b.den ρ := fun k => BE.t_leq.1 k
  have reel : ∀ r, r < L → 0 ≤ ρ.iv (10 + 6 * r) ∧ ρ.iv (10 + 6 * r) ≤ ρ.iv (11 + 6 * r) ∧ ρ.iv (11 + 6 * r) ≤ 99 ∧ 0 ≤ ρ.iv (12 + 6 * r) ∧ ρ.iv (12 + 6 * r) ≤ ρ.iv (13 + 6 * r) ∧ ρ.iv (13 + 6 * r) ≤ 99 ∧ 1 ≤ ρ.iv (14 + 6 * r) ∧ ρ.iv (14 + 6 * r) ≤ ρ.iv (15 + 6 * r) ∧ ρ.iv (15 + 6 * r) ≤ 1200 ∧ ρ.iv (10 + 6 * r) ≤ ρ.iv (13 + 6 * r) := fun r hr => by
    have u := U r hr
    simp only [reelC, List.forall_mem_cons, le2, BE.t_leq, IE.den_lit, IE.den_var] at u
    obtain ⟨u1, u2, u3, u4, u5, u6, u7, u8, u9, u10, _⟩ := u
    rw [show 10 + 6 * r + 1 = 11 + 6 * r by omega] at u2 u3
    rw [show 10 + 6 * r + 2 = 12 + 6 * r by omega] at u4 u5
    rw [show 10 + 6 * r + 3 = 13 + 6 * r by omega] at u5 u6 u10
    rw [show 10 + 6 * r + 4 = 14 + 6 * r by omega] at u7 u8
    rw [show 10 + 6 * r + 5 = 15 + 6 * r by omega] at u8 u9
    exact ⟨u1, u2, u3, u4, u5, u6, u7, u8, u9, u10⟩
  simp only [restC, List.forall_mem_cons, le2, BE.t_leq, IE.den_lit, IE.den_var] at R
  obtain ⟨r1, r2, r3, r4, r5, r6, r7, r8, _⟩ := R
  refine ⟨⟨?_, ?_⟩, fun r hr => ?_⟩
  · rcases six h0 hL with rfl | rfl | rfl | rfl | rfl | rfl
    all_goals
      have q0 := reel 0 (by omega)
      try have q1 := reel 1 (by omega)
      try have q2 := reel 2 (by omega)
      try have q3 := reel 3 (by omega)
      try have q4 := reel 4 (by omega)
      try have q5 := reel 5 (by omega)
      simp only [Nat.mul_zero, Nat.mul_one, Nat.reduceMul, Nat.reduceAdd, Nat.add_zero] at *
      simp only [filmQ, upN, ivC, List.forall_mem_cons, BE.t_leq, IE.den_lit, IE.den_var, List.not_mem_nil, false_implies, implies_true, and_true, Nat.reduceMul, Nat.reduceAdd]
      omega
  · rcases six h0 hL with rfl | rfl | rfl | rfl | rfl | rfl
    all_goals
      have q0 := reel 0 (by omega)
      try have q1 := reel 1 (by omega)
      try have q2 := reel 2 (by omega)
      try have q3 := reel 3 (by omega)
      try have q4 := reel 4 (by omega)
      try have q5 := reel 5 (by omega)
      simp only [Nat.mul_zero, Nat.mul_one, Nat.reduceMul, Nat.reduceAdd, Nat.add_zero] at *
      simp only [filmC, upN, leV, List.forall_mem_cons, BE.t_leq, IE.den_var, List.not_mem_nil, false_implies, implies_true, and_true, Nat.reduceMul, Nat.reduceAdd]
      omega
  · obtain ⟨a1, a2, a3, a4, a5, a6, _⟩ := reel r hr
    exact ⟨a1, a2, a3, a4, a5, a6⟩
theorem book_ok {ρ : Rho} (h : ∀ c ∈ bookCs, c.den ρ = true) : okBook ρ := by
  simp only [bookCs, List.forall_mem_cons, le2, BE.t_leq, IE.den_lit, IE.den_var] at h
  obtain ⟨r1, r2, r3, r4, r5, r6, r7, r8, r9, r10, _⟩ := h
  refine ⟨?_, ?_⟩
  · simp only [bookQ, ivC, List.forall_mem_cons, BE.t_leq, IE.den_lit, IE.den_var, List.not_mem_nil, false_implies, implies_true, and_true]
    omega
  · simp only [bookLe, leV, List.forall_mem_cons, BE.t_leq, IE.den_var, List.not_mem_nil, false_implies, implies_true, and_true]
    omega
def baseI (nf z bk : Nat → Int) (bl len : Nat) (j : Nat) : Int :=
  if j < 5 then nf j else if j < 60 then z (j - 10) else if j < 66 then bk (j - 60) else if j = 95 then len else if j = 96 then bl else 0
noncomputable def rhoF (b : Nat → Int) (y : Nat → Int) (bl : Nat) (s bits : Value) : Rho := ⟨b, fun _ => false, fiR y bl, fun _ _ _ _ => false, fun j => if j = 95 then s else bits⟩
noncomputable def rho1 (ρF : Rho) : Rho := ⟨ρF.iv, ρF.bv, fiW ρF, fbW ρF, ρF.ov⟩
noncomputable def lastI (L : Nat) (ρ : Rho) (q : Nat) : Int := if q % 2 = 0 then loZ ρ ((oB L (q / 4)).den ρ).toNat (ρ.iv 60 + ((q % 4 / 2 : Nat) : Int)) else hiZ ρ ((oB L (q / 4)).den ρ).toNat (ρ.iv 60 + ((q % 4 / 2 : Nat) : Int))
noncomputable def fiX (L : Nat) (ρ : Rho) (f : Nat) (a b c : Int) : Int := if 3101 ≤ f ∧ f < 3105 then lastI L ρ (4 * a.toNat + (f - 3101)) else ρ.fi f a b c
noncomputable def rho2 (L : Nat) (ρ : Rho) : Rho := ⟨fun j => if 100 ≤ j ∧ j < 124 then lastI L ρ (j - 100) else ρ.iv j, ρ.bv, fiX L ρ, ρ.fb, ρ.ov⟩
theorem rho2_iv {L : Nat} {ρ : Rho} {j : Nat} (h : j < 100) : (rho2 L ρ).iv j = ρ.iv j := by
  show (if 100 ≤ j ∧ j < 124 then _ else ρ.iv j) = _
  rw [if_neg (by omega)]
noncomputable def planZ (g : Nat → Int) (carry : Int) : Nat → Nat → Nat → List Nat
  | 0, _, _ => []
  | f + 1, left, k => if left = 0 then [] else (1 + (turnF (g k) (min (left : Int) carry)).toNat) :: planZ g carry f (left - (1 + (turnF (g k) (min (left : Int) carry)).toNat)) (k + 1)
theorem planZ_ok (g : Nat → Int) {carry : Int} (hc : 1 ≤ carry) : ∀ (f left k : Nat), left ≤ f → (∀ p ∈ planZ g carry f left k, 1 ≤ p ∧ (p : Int) ≤ carry) ∧ sumN (planZ g carry f left k) = left ∧
    ∀ q ∈ tripsL (planZ g carry f left k) left k, turnF (g q.2.1) (min (q.1 : Int) carry) = (q.2.2 : Int) - 1
  | 0, left, k, h => by
    have : left = 0 := by omega
    subst this
    exact ⟨fun p hp => (by cases hp), rfl, fun q hq => (by cases hq)⟩
  | f + 1, left, k, h => by
    unfold planZ
    by_cases h0 : left = 0
    · rw [if_pos h0]; subst h0
      exact ⟨fun p hp => (by cases hp), rfl, fun q hq => (by cases hq)⟩
    · rw [if_neg h0]
      have t := turnF_in (n := g k) (m := min (left : Int) carry) (by omega)
      generalize hT : turnF (g k) (min (left : Int) carry) = T at t ⊢
      obtain ⟨r1, r2, r3⟩ := planZ_ok g hc f (left - (1 + T.toNat)) (k + 1) (by omega)
      refine ⟨fun p hp => ?_, ?_, fun q hq => ?_⟩
      · rcases List.mem_cons.1 hp with rfl | hp
        · omega
        · exact r1 p hp
      · simp only [sumN, r2]; omega
      · have hq : q ∈ (left, k, 1 + T.toNat) :: tripsL (planZ g carry f (left - (1 + T.toNat)) (k + 1)) (left - (1 + T.toNat)) (k + 1) := hq
        rcases List.mem_cons.1 hq with rfl | hq
        · show turnF (g k) (min (left : Int) carry) = ((1 + T.toNat : Nat) : Int) - 1
          rw [hT]; omega
        · exact r3 q hq
noncomputable def plainE (n : Nat) : IE → Bool
  | .lit _ => true
  | .var i => Nat.ble (i + 1) n
  | .bin _ _ a b => and (plainE n a) (plainE n b)
  | .conv _ a => plainE n a
  | .mx a b => and (plainE n a) (plainE n b)
  | .mn a b => and (plainE n a) (plainE n b)
  | .app _ _ _ _ => false
theorem plain_den {n : Nat} {ρ ρ' : Rho} (h : ∀ i, i < n → ρ'.iv i = ρ.iv i) : ∀ e, plainE n e = true → e.den ρ' = e.den ρ
  | .lit _, _ => rfl
  | .var i, he => h i (ble_t.1 he)
  | .bin o k a b, he => by
    simp only [plainE, Bool.and_eq_true] at he
    simp only [IE.den, plain_den h a he.1, plain_den h b he.2]
  | .conv k a, he => by
    simp only [plainE] at he
    simp only [IE.den, plain_den h a he]
  | .mx a b, he => by
    simp only [plainE, Bool.and_eq_true] at he
    simp only [IE.den, plain_den h a he.1, plain_den h b he.2]
  | .mn a b, he => by
    simp only [plainE, Bool.and_eq_true] at he
    simp only [IE.den, plain_den h a he.1, plain_den h b he.2]
  | .app _ _ _ _, he => by cases he
theorem plain_all : lAll (fun L => lAll (fun p => and (plainE 200 (surelyE p)) (plainE 200 (perhapsE p))) (plansL L)) [1, 2, 3, 4, 5, 6] = true := by kernel_rfl
theorem sure_in {L : Nat} (h0 : 1 ≤ L) (hL : L ≤ 6) {plan : List Nat} (hp : plan ∈ plansL L) {ρ : Rho} (h : okBN L ρ) : 0 ≤ (surelyE plan).den ρ ∧ (surelyE plan).den ρ ≤ 100000 := by
  obtain ⟨p1, p2⟩ := plansN_mem _ _ _ hp
  have pl := sum_len plan p1
  have H := lastZ_of h0 hL h
  have len : ∀ e, (thereE e plan).length = L := fun e => by unfold thereE; rw [atsE_len, p2]
  have bd : ∀ e, e < 2 → ∀ x ∈ thereE e plan, 0 ≤ x.den ρ ∧ x.den ρ ≤ 600000 := fun e he => atsE_in hL H he plan 0 (.lit 0) 0 (by omega) (by omega) (Int.le_refl _) (by rw [IE.den_lit]; omega)
  obtain ⟨a1, a2, _, _⟩ := lateE_den hL H (e2 := 0) (by omega) (thereE 1 plan) 0 (.lit 0) (by rw [len]; omega) (bd 1 (by omega)) (Int.le_refl _) (by rw [IE.den_lit]; omega)
  rw [IE.den_lit] at a1
  have s := sec_den a1 a2
  exact ⟨s.1, s.2.1⟩
noncomputable def ivS (L : Nat) (ρ : Rho) (f : List Nat → IE) (i : Nat) : Int := match (plansL L)[i]? with
  | some p => (f p).den ρ
  | none => 0
noncomputable def rho3 (L : Nat) (ρ : Rho) : Rho := ⟨fun j => if 400 ≤ j ∧ j < 432 then ivS L ρ surelyE (j - 400) else if 464 ≤ j ∧ j < 496 then ivS L ρ perhapsE (j - 464) else ρ.iv j, ρ.bv, ρ.fi, ρ.fb, ρ.ov⟩
theorem rho3_iv {L : Nat} {ρ : Rho} {j : Nat} (h : j < 400) : (rho3 L ρ).iv j = ρ.iv j := by
  show (if 400 ≤ j ∧ j < 432 then _ else if 464 ≤ j ∧ j < 496 then _ else ρ.iv j) = _
  rw [if_neg (by omega), if_neg (by omega)]
theorem rho3_sure {L : Nat} {ρ : Rho} {i : Nat} (h : i < 32) : (rho3 L ρ).iv (400 + i) = ivS L ρ surelyE i := by
  show (if 400 ≤ 400 + i ∧ 400 + i < 432 then ivS L ρ surelyE (400 + i - 400) else _) = _
  rw [if_pos (by omega), Nat.add_sub_cancel_left]
theorem rho3_may {L : Nat} {ρ : Rho} {i : Nat} (h : i < 32) : (rho3 L ρ).iv (464 + i) = ivS L ρ perhapsE i := by
  show (if 400 ≤ 464 + i ∧ 464 + i < 432 then _ else if 464 ≤ 464 + i ∧ 464 + i < 496 then ivS L ρ perhapsE (464 + i - 464) else _) = _
  rw [if_neg (by omega), if_pos (by omega), Nat.add_sub_cancel_left]
section
variable {L K : Nat} (h0 : 1 ≤ L) (hL : L ≤ 6) {ρ : Rho}
include h0 hL
theorem okSt_of : OkSt L (rhoW L K (rho3 L ρ)) := by
  have like : ∀ i, i < 200 → (rhoW L K (rho3 L ρ)).iv i = ρ.iv i := fun i hi => by rw [rhoW_iv (.inl (by omega)), rho3_iv (by omega)]
  have pl : ∀ i plan, (plansL L)[i]? = some plan → i < 32 ∧ plainE 200 (surelyE plan) = true ∧ plainE 200 (perhapsE plan) = true := fun i plan hi => by
    have := lAll_mem (lAll_mem plain_all L (mem_six h0 hL)) plan (List.mem_of_getElem? hi)
    rw [Bool.and_eq_true] at this
    exact ⟨(plan_vars h0 hL hi).1, this.1, this.2⟩
  refine ⟨fun i plan hi => ?_, fun i plan hi => ?_⟩
  · obtain ⟨a, b, _⟩ := pl i plan hi
    rw [rhoW_iv (.inl (by omega)), rho3_sure a, plain_den like _ b]
    unfold ivS; rw [hi]
  · obtain ⟨a, _, b⟩ := pl i plan hi
    rw [rhoW_iv (.inr (by omega)), rho3_may a, plain_den like _ b]
    unfold ivS; rw [hi]
theorem startsQ_ok (hB : okBN L (rhoW L K (rho3 L ρ))) : ∀ c ∈ ivC startsQ, c.den (rhoW L K (rho3 L ρ)) = true := by
  have hS := okSt_of (K := K) (ρ := ρ) h0 hL
  have key : ∀ (l : List Nat), (∀ i ∈ l, i < 32) → ∀ c ∈ ivC (lMap (fun i => (400 + i, (0 : Int), (100000 : Int))) l), c.den (rhoW L K (rho3 L ρ)) = true := by
    intro l
    induction l with
    | nil => intro _ c hc; cases hc
    | cons i l ih =>
      intro hl c hc
      have hi := hl i List.mem_cons_self
      have bd : 0 ≤ (rhoW L K (rho3 L ρ)).iv (400 + i) ∧ (rhoW L K (rho3 L ρ)).iv (400 + i) ≤ 100000 := by
        cases hp : (plansL L)[i]? with
        | some plan => rw [hS.sure i plan hp]; exact sure_in h0 hL (List.mem_of_getElem? hp) hB
        | none =>
          rw [rhoW_iv (.inl (by omega)), rho3_sure hi]
          unfold ivS; rw [hp]
          simp only; omega
      have hc : c ∈ BE.cmp .leq (.lit 0) (.var (400 + i)) :: BE.cmp .leq (.var (400 + i)) (.lit 100000) :: ivC (lMap (fun i => (400 + i, (0 : Int), (100000 : Int))) l) := hc
      rcases List.mem_cons.1 hc with rfl | hc
      · exact BE.t_leq.2 bd.1
      · rcases List.mem_cons.1 hc with rfl | hc
        · exact BE.t_leq.2 bd.2
        · exact ih (fun j hj => hl j (List.mem_cons_of_mem _ hj)) c hc
  exact key _ fun i hi => by have := upN_lt _ _ _ hi; omega
end
theorem oB_rho {L : Nat} {ρ ρ' : Rho} (h : ∀ f a b c, ¬ (3101 ≤ f ∧ f < 3105) → f < 5000 → ρ'.fi f a b c = ρ.fi f a b c) (hL : L ≤ 6) {j : Nat} (hj : j < L) : (oB L j).den ρ' = (oB L j).den ρ := by
  have hf := lt64 hL (fullM_lt (L := L))
  unfold oB ordE
  simp only [IE.den, FI]
  rw [if_pos (by omega), if_pos (by omega), h _ _ _ _ (by omega) (by omega)]
theorem okNM_of {L : Nat} (h0 : 1 ≤ L) (hL : L ≤ 6) {ρ1 ρ : Rho} (hiv : ∀ i, i < 400 → ρ.iv i = (rho2 L ρ1).iv i) (hfi : ∀ f a b c, f ≠ 9702 → ρ.fi f a b c = (rho2 L ρ1).fi f a b c) (hB : okB L ρ) : okN L ρ ∧ okM L ρ := by
  have fi : ∀ f a b c, ¬ (3101 ≤ f ∧ f < 3105) → f < 5000 → ρ.fi f a b c = ρ1.fi f a b c := fun f a b c hf h5 => by
    rw [hfi f a b c (by omega)]
    show (if 3101 ≤ f ∧ f < 3105 then _ else ρ1.fi f a b c) = _
    rw [if_neg hf]
  have iv : ∀ i, i < 100 → ρ.iv i = ρ1.iv i := fun i hi => by rw [hiv i (by omega), rho2_iv hi]
  have ivl : ∀ q, q < 24 → ρ.iv (100 + q) = lastI L ρ1 q := fun q hq => by
    rw [hiv _ (by omega)]
    show (if 100 ≤ 100 + q ∧ 100 + q < 124 then lastI L ρ1 (100 + q - 100) else _) = _
    rw [if_pos (by omega), Nat.add_sub_cancel_left]
  refine ⟨fun j t hj ht => ?_, fun r i hr hi => ?_⟩
  · have ho := oB_in h0 hL hB.1 hj
    have eo := oB_rho (L := L) (ρ := ρ1) (ρ' := ρ) fi hL hj
    rw [eo] at ho
    have l1 := ivl (4 * j + 2 * t) (by omega)
    have l2 := ivl (4 * j + 2 * t + 1) (by omega)
    rw [eo, iv 60 (by omega)]
    unfold lastI at l1 l2
    rw [if_pos (by omega), show (4 * j + 2 * t) / 4 = j by omega, show (4 * j + 2 * t) % 4 / 2 = t by omega] at l1
    rw [if_neg (by omega), show (4 * j + 2 * t + 1) / 4 = j by omega, show (4 * j + 2 * t + 1) % 4 / 2 = t by omega] at l2
    have hlt : ((oB L j).den ρ1).toNat < 6 := by omega
    refine ⟨?_, ?_⟩
    · rw [show 100 + 4 * j + 2 * t = 100 + (4 * j + 2 * t) by omega, l1]
      unfold loZ
      rw [iv (14 + 6 * ((oB L j).den ρ1).toNat) (by omega), iv 3 (by omega), iv 0 (by omega)]
    · rw [show 101 + 4 * j + 2 * t = 100 + (4 * j + 2 * t + 1) by omega, l2]
      unfold hiZ
      rw [iv (15 + 6 * ((oB L j).den ρ1).toNat) (by omega), iv 2 (by omega), iv 1 (by omega)]
  · rw [hfi _ _ _ _ (by omega)]
    rw [hiv 60 (by omega)]
    show (if 3101 ≤ 3101 + i ∧ 3101 + i < 3105 then lastI L ρ1 (4 * ((r : Int)).toNat + (3101 + i - 3101)) else _) = _
    rw [if_pos (by omega), Int.toNat_natCast, Nat.add_sub_cancel_left, show 100 + 4 * r + i = 100 + (4 * r + i) by omega, ivl (4 * r + i) (by omega)]
theorem leafLe_all : lAll (fun L => lAll (fun K => lAll (fun x : Node => allLe K x.pre) (leafs L K)) [1, 2, 3, 4, 5, 6]) [1, 2, 3, 4, 5, 6] = true := by kernel_rfl
theorem carry_of {K : Nat} {p : List Nat} {ρ : Rho} (hp : ∀ q ∈ p, q ≤ K) (hc : (K : Int) ≤ ρ.iv 65) : ∀ c ∈ carryC p, c.den ρ = true := fun c hcc => by
  unfold carryC at hcc
  rw [lMap_eq, List.mem_map] at hcc
  obtain ⟨q, hq, rfl⟩ := hcc
  rw [BE.t_leq, IE.den_lit, IE.den_var]
  have := hp q hq
  show ((q : Nat) : Int) ≤ _
  omega
theorem le_sum : ∀ (l : List Nat), ∀ q ∈ l, q ≤ sumN l
  | [], q, hq => by cases hq
  | a :: l, q, hq => by
    simp only [sumN]
    rcases List.mem_cons.1 hq with rfl | hq
    · omega
    · have := le_sum l q hq; omega
theorem cells_vj : ∀ (n i : Nat), cellsUp n i = lMap vj (upN n i)
  | 0, _ => rfl
  | n + 1, i => by
    have e : lMap vj (upN (n + 1) i) = vj i :: lMap vj (upN n (i + 1)) := rfl
    show vi i :: cellsUp n (i + 1) = _
    rw [e, cells_vj n]; rfl
theorem viewVR (L j : Nat) : (viewA 2000 (vR L)).get j = (viewHeap 2000 (viewV L)).get j := by
  have e : AObj.cells (cellsUp (6 * L) 10) 0 false false = rowsA L := by rw [cells_vj]; rfl
  simp only [vR, viewV, glR, viewA, viewHeap, Heap.get_put, e]
  by_cases h0 : j = 0
  · subst h0; simp [ro]
  · by_cases h1 : j = 1
    · subst h1; simp [ro]
    · by_cases h2 : j = 2
      · subst h2; simp [ro]
      · by_cases h3 : j = 3
        · subst h3; simp [ro]
        · simp only [if_neg h0, if_neg h1, if_neg h2, if_neg h3]
def envL (ρ : Rho) (b o cap : Nat) : Env := ⟨ρ, fun x => if x < 1000 then some (x, 0) else if x = 1001 then some (b, o) else none, fun _ => cap, 2000, fun _ => #[]⟩
theorem six_vals (E : Env) (nf bk : Nat → Int) (h : ∀ j, j < 5 → E.ρ.iv j = nf j) (k : ∀ j, j < 6 → E.ρ.iv (60 + j) = bk j) : concL E [vj 0, vj 1, vj 2, vj 3, vj 4, vj 60, vj 61, vj 62, vj 63, vj 64, vj 65] = some [.int .i64 (nf 0), .int .i64 (nf 1), .int .i64 (nf 2), .int .i64 (nf 3), .int .i64 (nf 4), .int .i64 (bk 0), .int .i64 (bk 1), .int .i64 (bk 2), .int .i64 (bk 3), .int .i64 (bk 4), .int .i64 (bk 5)] := by
  have k0 := k 0 (by omega); have k1 := k 1 (by omega); have k2 := k 2 (by omega); have k3 := k 3 (by omega); have k4 := k 4 (by omega); have k5 := k 5 (by omega)
  have h0 := h 0 (by omega); have h1 := h 1 (by omega); have h2 := h 2 (by omega); have h3 := h 3 (by omega); have h4 := h 4 (by omega)
  simp only [Nat.add_zero, Nat.reduceAdd] at k0 k1 k2 k3 k4 k5
  simp only [vj, concL, conc, IE.den, h0, h1, h2, h3, h4, k0, k1, k2, k3, k4, k5]
noncomputable def bookVal (s : Value) (nf bk : Nat → Int) : Value := .agg #[s, .int .i64 (nf 0), .int .i64 (nf 1), .int .i64 (nf 2), .int .i64 (nf 3), .int .i64 (nf 4), .int .i64 (bk 0), .int .i64 (bk 1), .int .i64 (bk 2), .int .i64 (bk 3), .int .i64 (bk 4), .int .i64 (bk 5)]
theorem best_any {W : World} {ρ0 : Rho} (hG : ∀ g ∈ glR, GlobIn W ρ0 g) {s bits : Value} {nf bk : Nat → Int}
    (hs : s = .slice none 0 0 ∨ ∃ (b o len cap : Nat) (z : Nat → Int), s = .slice (some ⟨b, o, none⟩) len cap ∧ len ≤ cap ∧
        (0 < len → ∃ cells el fz, W.heap[b]? = some (.cells cells el fz) ∧ ∀ q, q < 6 * len → cells[o + q]? = some (.int .i64 (z q))))
    {bb : Option Addr} {bl bc : Nat} (hbits : bits = .slice bb bl bc) (hbl : (bl : Int) ≤ 9223372036854775807) (hbc : bl ≤ bc) {y : Nat → Int}
    (hb : 0 < bl → ∃ c x cells el fz, bb = some ⟨c, x, none⟩ ∧ W.heap[c]? = some (.cells cells el fz) ∧ ∀ q, q < bl → cells[x + q]? = some (.int .i64 (y q))) :
    Calls Tryd.prog 3 #[bookVal s nf bk, bits] W fun e w' => e = .returned (.bool true) ∧ Below W.heap.size W w' := by
  have hσ : ∀ ρ b o cap, ∀ x, x < 1000 → (envL ρ b o cap).σ x = some (x, 0) := fun ρ b o cap x hx => by simp [envL, hx]
  have hnone : ∀ ρ b o cap, ∀ x, 2000 ≤ x → (envL ρ b o cap).σ x = none := fun ρ b o cap x hx => by
    simp only [envL]; rw [if_neg (by omega), if_neg (by omega)]
  have gvw : ∀ ρ b o cap, ∀ g ∈ glR, ViewIn W (envL ρ b o cap) g := fun ρ b o cap => glob_view glR_lit hG (hσ ρ b o cap)
  have args : ∀ (ρ : Rho) (b o cap : Nat) (a : AV), (∀ j, j < 5 → ρ.iv j = nf j) → (∀ j, j < 6 → ρ.iv (60 + j) = bk j) → ρ.ov 96 = bits → ρ.iv 96 = bl → conc (envL ρ b o cap) a = some s →
      concL (envL ρ b o cap) [bookW a, .sliceU 96] = some [bookVal s nf bk, bits] := fun ρ b o cap a h1 h2 h3 h4 ha => by
    have e1 : conc (envL ρ b o cap) (bookW a) = some (bookVal s nf bk) := by
      unfold bookW bookVal
      rw [conc, concL_cons.2 ⟨_, _, ha, six_vals (envL ρ b o cap) nf bk h1 h2, rfl⟩]; rfl
    have e2 : concL (envL ρ b o cap) [.sliceU 96] = some [bits] := by
      have h3' : (envL ρ b o cap).ρ.ov 96 = bits := h3
      have h4' : (envL ρ b o cap).ρ.iv 96 = bl := h4
      simp only [concL, conc, h3', h4', hbits, if_true]
    exact concL_cons.2 ⟨_, _, e1, e2, rfl⟩
  have b5 : ∀ z len j, j < 5 → baseI nf z bk bl len j = nf j := fun z len j hj => if_pos hj
  have b60 : ∀ z len j, j < 6 → baseI nf z bk bl len (60 + j) = bk j := fun z len j hj => by
    unfold baseI
    rw [if_neg (by omega), if_neg (by omega), if_pos (by omega), Nat.add_sub_cancel_left]
  have b96 : ∀ z len, baseI nf z bk bl len 96 = bl := fun z len => rfl
  have b95 : ∀ z len, baseI nf z bk bl len 95 = len := fun z len => rfl
  rcases hs with hs0 | ⟨b, o, len, cap, z, hs1, hlc, hcells⟩
  · exact waits_short (E := envL (rhoF (baseI nf (fun _ => 0) bk bl 0) y bl s bits) 0 0 0) lawTS_nil (gvw _ 0 0 0) (hnone _ 0 0 0) (hσ _ 0 0 0) (Nat.le_refl _) (args _ 0 0 0 .nilslice (b5 (fun _ => 0) 0) (b60 (fun _ => 0) 0) rfl (b96 (fun _ => 0) 0) (by rw [hs0]; rfl)) (fun c hc => (List.not_mem_nil hc).elim)
  · have hsu : conc (envL (rhoF (baseI nf z bk bl len) y bl s bits) b o cap) (.sliceU 95) = some s := by
      have h3 : (envL (rhoF (baseI nf z bk bl len) y bl s bits) b o cap).ρ.ov 95 = s := rfl
      have h4 : (envL (rhoF (baseI nf z bk bl len) y bl s bits) b o cap).ρ.iv 95 = len := rfl
      simp only [conc]
      rw [h3, h4, hs1]
      simp
    by_cases h0 : len = 0
    · exact waits_short lawTS_few (gvw _ b o cap) (hnone _ _ _ _) (hσ _ _ _ _) (Nat.le_refl _) (args _ b o cap (.sliceU 95) (b5 z len) (b60 z len) rfl (b96 z len) hsu) (fun c hc => by
        rcases List.mem_singleton.1 hc with rfl
        rw [BE.t_leq, IE.den_var, IE.den_lit]; show baseI nf z bk bl len 95 ≤ 0; rw [b95]; omega)
    · by_cases h7 : 7 ≤ len
      · exact waits_short lawTS_many (gvw _ b o cap) (hnone _ _ _ _) (hσ _ _ _ _) (Nat.le_refl _) (args _ b o cap (.sliceU 95) (b5 z len) (b60 z len) rfl (b96 z len) hsu) (fun c hc => by
          rcases List.mem_singleton.1 hc with rfl
          rw [BE.t_leq, IE.den_var, IE.den_lit]; show 7 ≤ baseI nf z bk bl len 95; rw [b95]; omega)
      · have h1 : 1 ≤ len := by omega
        have h6 : len ≤ 6 := by omega
        obtain ⟨cells, el, fz, c1, c2⟩ := hcells (by omega)
        let ρF := rhoF (baseI nf z bk bl len) y bl s bits
        let ρ1 := rho1 ρF
        let plan := planZ (fun k => ρ1.fi 1000 (k : Int) 0 0) (ρ1.iv 65) 6 len 0
        let K := min (ρ1.iv 65).toNat (len + 1)
        let ρ3 := rho3 len (rho2 len ρ1)
        let Wn := wOf len K ρ3
        let ρ := rhoW len K ρ3
        have iv : ∀ i, i < 100 → ρ.iv i = baseI nf z bk bl len i := fun i hi => by
          show (rhoW len K (rho3 len (rho2 len ρ1))).iv i = _
          rw [rhoW_iv (.inl (by omega)), rho3_iv (by omega), rho2_iv hi]; rfl
        have hsl : conc (envL ρ b o cap) (.sliceX 1001 6 0 len) = some s := by
          rw [hs1]
          simp only [conc, envL]
          rw [if_pos (by omega)]
          simp
        have hview : ∀ g ∈ viewV len, ViewIn W (envL ρ b o cap) g := fun g hg => by
          rcases List.mem_cons.1 hg with rfl | hg
          · refine ⟨b, o, _, cells, el, fz, by simp [envL], cellsUp_vals _ (fun j => z (j - 10)) (6 * len) 10 (fun j h3 h4 => ?_), c1, fun i hi => ?_⟩
            · show ρ.iv j = _
              rw [iv j (by omega)]
              unfold baseI
              rw [if_neg (by omega), if_pos (by omega)]
            · simp only [List.length_map, List.length_range] at hi
              rw [c2 i hi, List.getElem?_map, List.getElem?_range hi]
              simp
          · exact gvw ρ b o cap g hg
        have ha : concL (envL ρ b o cap) [bookF len, .sliceU 96] = some [bookVal s nf bk, bits] := args ρ b o cap _ (fun j hj => (iv j (by omega)).trans (b5 z len j hj)) (fun j hj => (iv (60 + j) (by omega)).trans (b60 z len j hj)) rfl ((iv 96 (by omega)).trans (b96 z len)) hsl
        by_cases hcs : ∀ c ∈ csL len, c.den ρ = true
        · obtain ⟨hF, hR⟩ := filmV_ok h1 h6 hcs
          have like : LikeF ρ ρF := fun j hj => iv j (by omega)
          have fi : ∀ f a b c, ¬ (3101 ≤ f ∧ f < 3105) → f ≠ 9702 → ρ.fi f a b c = fiW ρF f a b c := fun f a b c hf hf2 => by
            show (rhoW len K ρ3).fi f a b c = _
            rw [rhoW_fi hf2]
            show (if 3101 ≤ f ∧ f < 3105 then _ else fiW ρF f a b c) = _
            rw [if_neg hf]
          have hT : okT len ρ := okT_of h6 like fi rfl hR
          have heap : ∀ {ok : Rho → (Nat → Obj → Prop) → Prop}, ok ρ (Base.of W).has → HeapOk (pOk ok) (envL ρ b o cap) (viewA 2000 (vR len)) (Base.of W) W := fun {ok} hok =>
            HeapOk.congr (view_ok (p := pOk ok) (E := envL ρ b o cap) hview (hnone _ _ _ _) (hσ _ _ _ _) (Nat.le_refl _) ⟨_, hok, fun _ _ h => h⟩) (viewVR len) (by rw [viewA_next, viewHeap_next])
          cases hn : (noneB len).den ρ with
          | true => exact waits_none h1 h6 (heap ⟨hT, hF, hn⟩) ha
          | false =>
            by_cases hbc' : ∀ c ∈ bookCs, c.den ρ = true
            · have hBk := book_ok hbc'
              have hB : okB len ρ := ⟨hT, hF, hn, hBk⟩
              have hNM := okNM_of h1 h6 (ρ1 := ρ1) (ρ := ρ) (fun i hi => by
                show (rhoW len K (rho3 len (rho2 len ρ1))).iv i = _
                rw [rhoW_iv (.inl (by omega)), rho3_iv (by omega)]) (fun f a b c hf => by
                show (rhoW len K (rho3 len (rho2 len ρ1))).fi f a b c = _
                rw [rhoW_fi hf]; rfl) hB
              have hBN : okBN len ρ := ⟨hB, hNM⟩
              have e65 : ρ.iv 65 = ρ1.iv 65 := iv 65 (by omega)
              have hc6 : ρ1.iv 65 ≤ 6 := by
                have := (ivC_in hBk.1 (65, 1, 6) (by simp [bookQ])).2
                rw [← e65]; exact this
              have hcar : 1 ≤ ρ1.iv 65 := by
                have := ivC_in hBk.1 (65, 1, 6) (by simp [bookQ])
                have t1 := this.1
                show 1 ≤ ρ1.iv 65
                rw [← e65]; exact t1
              obtain ⟨q1, q2, q3⟩ := planZ_ok (fun k => ρ1.fi 1000 (k : Int) 0 0) hcar 6 len 0 h6
              have hp : plan ∈ plansL len := mem_plansN (len + 1) len plan (by omega) (fun p hp => (q1 p hp).1) q2
              have k0 : 1 ≤ K := by show 1 ≤ min (ρ1.iv 65).toNat (len + 1); omega
              have hK : K ≤ len + 1 := by show min (ρ1.iv 65).toNat (len + 1) ≤ len + 1; omega
              have k6 : K ≤ 6 := by show min (ρ1.iv 65).toNat (len + 1) ≤ 6; omega
              have hKc : (K : Int) ≤ ρ.iv 65 := by
                rw [e65]
                show ((min (ρ1.iv 65).toNat (len + 1) : Nat) : Int) ≤ _
                omega
              have H : Base0 len K Wn := ⟨h1, h6, k0, hK, k6, wOk_of h1 h6 k0 hK k6 ρ3⟩
              have hSB : okSB len ρ := ⟨hBN, okSt_of h1 h6⟩
              have hQ : ∀ c ∈ ivC (carryQ len K ++ startsQ), c.den ρ = true := fun c hc => by
                rw [ivC_app] at hc
                rcases List.mem_append.1 hc with hc | hc
                · have hc : c ∈ [BE.cmp .leq (.lit (Int.ofNat K)) (.var 65), BE.cmp .leq (.var 65) (.lit (cond (Nat.beq K (len + 1)) 6 (Int.ofNat K)))] := hc
                  rcases List.mem_cons.1 hc with rfl | hc
                  · rw [BE.t_leq, IE.den_lit, IE.den_var]; exact hKc
                  · rw [List.mem_singleton] at hc; subst hc
                    rw [BE.t_leq, IE.den_lit, IE.den_var, e65]
                    cases hb : Nat.beq K (len + 1) with
                    | true => rw [cond_true]; exact hc6
                    | false =>
                      rw [cond_false]
                      have hne : K ≠ len + 1 := fun h => by rw [beq_t.2 h] at hb; cases hb
                      have hK2 : K = min (ρ1.iv 65).toNat (len + 1) := rfl
                      show _ ≤ ((K : Nat) : Int)
                      omega
                · exact startsQ_ok h1 h6 hBN c hc
              have hNd : okNd len K Wn ρ := ⟨hSB, hQ, okW_of h1 h6 k0 hK k6 ρ3⟩
              obtain ⟨r0, r1, r2⟩ := root_in h1 h6 k0 hK k6
              obtain ⟨bm, ble⟩ := best_le h1 h6 k0 hK k6 ρ3
              obtain ⟨bi, bp⟩ := leaf_plan h1 h6 k0 hK k6 bm
              have hl : lenN Wn 32 = lLen (wN len K ρ3 (rootOf len K)).pre := by
                have := lenN_wOf h1 h6 k0 hK k6 ρ3 r0 (by omega)
                rw [r1] at this; exact this
              have pK : ∀ q ∈ (wN len K ρ3 (rootOf len K)).pre, q ≤ K := fun q hq => ble_t.1 (lAll_mem (lAll_mem (lAll_mem (lAll_mem leafLe_all len (mem_six h1 h6)) K (mem_six k0 k6)) _ bm) q hq)
              have oK : ∀ q ∈ plan, q ≤ K := fun q hq => by
                have a1 := (q1 q hq).2
                have a2 := le_sum plan q hq
                rw [q2] at a2
                show q ≤ min (ρ1.iv 65).toNat (len + 1)
                omega
              obtain ⟨io, hio⟩ := List.mem_iff_getElem?.1 hp
              obtain ⟨x, hx, xi, xp⟩ := plan_leaf h1 h6 k0 hK k6 hio oK
              obtain ⟨n1, n2⟩ := ble x hx
              have hx32 := (leaf_plan h1 h6 k0 hK k6 hx).1
              have hord : (ordC (wN len K ρ3 (rootOf len K)).id (wN len K ρ3 (rootOf len K)).pre io plan).den ρ = true := by
                have e1 : ρ.iv (400 + (wN len K ρ3 (rootOf len K)).id) = ρ3.iv (400 + (wN len K ρ3 (rootOf len K)).id) := rhoW_iv (.inl (by omega))
                have e2 : ρ.iv (400 + io) = ρ3.iv (400 + io) := rhoW_iv (.inl (by omega))
                unfold fL lexP at n1 n2
                rw [xi, xp] at n1 n2
                simp only at n1 n2
                unfold ordC
                cases hbo : befO (wN len K ρ3 (rootOf len K)).id (wN len K ρ3 (rootOf len K)).pre io plan with
                | false =>
                  rw [cond_false, BE.t_leq, IE.den_var, IE.den_var, e1, e2]; omega
                | true =>
                  rw [cond_true, BE.t_lss, IE.den_var, IE.den_var, e1, e2]
                  unfold befO at hbo
                  cases hb1 : Nat.ble (lLen plan + 1) (lLen (wN len K ρ3 (rootOf len K)).pre) with
                  | true => have := ble_t.1 hb1; omega
                  | false =>
                    rw [hb1, cond_false, Bool.and_eq_true] at hbo
                    have t1 := beq_t.1 hbo.1
                    have t2 := ble_t.1 hbo.2
                    omega
              have hTr : OkTr len plan ρ := fun q hq => by
                rw [← q3 q hq]
                have ef : ρ.fi 1000 (q.2.1 : Int) 0 0 = ρ1.fi 1000 (q.2.1 : Int) 0 0 := fi 1000 _ _ _ (by omega) (by omega)
                show turnF ((IE.app 1000 (.lit (Int.ofNat q.2.1)) (.lit 0) (.lit 0)).den ρ) ((IE.mn (.lit (Int.ofNat q.1)) (.var 65)).den ρ) = _
                rw [IE.den_mn, IE.den_lit, IE.den_var, e65]
                have d : (IE.app 1000 (.lit (Int.ofNat q.2.1)) (.lit 0) (.lit 0)).den ρ = ρ1.fi 1000 (q.2.1 : Int) 0 0 := by
                  rw [← ef]
                  simp only [IE.den, FI]
                  rw [if_pos (Nat.le_refl _)]; rfl
                rw [d]; rfl
              have hPk : okPick ρ (Base.of W).has := by
                refine ⟨bb, bl, bc, hbits, (iv 96 (by omega)).trans (b96 z len), hbl, hbc, fun n => ?_, fun hl => ?_⟩
                · rw [fi 1000 _ _ _ (by omega) (by omega)]
                  show (if bl = 0 then 0 else y (turnF n bl).toNat) = _
                  rw [fi 1001 _ _ _ (by omega) (by omega)]; rfl
                · obtain ⟨c, x, cells', el', fz', e1, e2, e3⟩ := hb hl
                  refine ⟨c, x, cells', el', fz', e1, ⟨(Array.getElem?_eq_some_iff.1 e2).1, e2⟩, fun j hj => ?_⟩
                  rw [e3 j hj, fi 1001 _ _ _ (by omega) (by omega)]
                  show _ = some (Value.int .i64 (y ((j : Int)).toNat))
                  rw [Int.toNat_natCast]
              exact best_valid H (ckStL h1 h6) (ckGL h1 h6 bp) bp hio hl hord (heap ⟨hNd, tripZ_wOf h1 h6 k0 hK k6 ρ3 r0, carry_of pK hKc, carry_of oK hKc, hTr, hPk⟩) ha
            · exact waits_book h1 h6 (heap ⟨hT, hF, hn⟩) ha hbc'
        · exact waits_bad (mem_six h1 h6) hview (hnone _ _ _ _) (hσ _ _ _ _) (Nat.le_refl _) ha hcs
end Go.Sx
