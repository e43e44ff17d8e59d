/- WHAT CAN BE SEEN BETTER OF ONE REEL: what is said of the film as it was, and as it is seen. -/
import Derived.Test.YtlaakbmimplceaaDoorRyPw
import Derived.Test.YtlaakbmimplceaaDoorRsSub
import Derived.Test.YtlaakbmimplceaaDoorFiF
/-! WHAT CAN BE SEEN BETTER OF ONE REEL, as numbers: fewer orders, fewer places. -/
namespace Go.Sx
open Go.RowKit Go.Proofs
set_option maxRecDepth 100000
/-- one film's scenes are seen better than another's -/
def Nar (ρ ρ' : Rho) : Prop := ∀ r, r < 6 → ρ'.iv (10 + 6 * r) = ρ.iv (10 + 6 * r) ∧ ρ'.iv (11 + 6 * r) ≤ ρ.iv (11 + 6 * r) ∧ ρ.iv (12 + 6 * r) ≤ ρ'.iv (12 + 6 * r) ∧ ρ'.iv (13 + 6 * r) = ρ.iv (13 + 6 * r)
def Hi (L : Nat) (ρ : Rho) : Prop := ∀ r, r < L → 0 ≤ ρ.iv (13 + 6 * r)
theorem aft_nar {ρ ρ' : Rho} (h : Nar ρ ρ') {r : Nat} (hr : r < 6) (hH : 0 ≤ ρ.iv (13 + 6 * r)) {a b a' b' : Int} (h1 : a ≤ a') (h2 : b' ≤ b) (hn : ¬ aftF ρ' r a' b' = (0, 0)) :
    ¬ aftF ρ r a b = (0, 0) ∧ (aftF ρ r a b).1 ≤ (aftF ρ' r a' b').1 ∧ (aftF ρ' r a' b').2 ≤ (aftF ρ r a b).2 := by
  obtain ⟨n1, n2, n3, n4⟩ := h r hr
  by_cases hc : max a' (ρ'.iv (10 + 6 * r)) ≤ min b' (ρ'.iv (11 + 6 * r)) ∧ max (max a' (ρ'.iv (10 + 6 * r))) (ρ'.iv (12 + 6 * r)) ≤ ρ'.iv (13 + 6 * r)
  · obtain ⟨c1, c2⟩ := hc
    have e' := aftF_pos c1 c2
    have e : aftF ρ r a b = (max (max a (ρ.iv (10 + 6 * r))) (ρ.iv (12 + 6 * r)), ρ.iv (13 + 6 * r) + 1) := aftF_pos (by omega) (by omega)
    rw [e, e']
    refine ⟨fun hh => ?_, ?_, ?_⟩
    · have := congrArg Prod.snd hh
      simp only at this
      omega
    · simp only; omega
    · simp only; omega
  · exact absurd (aftF_neg hc) hn
theorem none_nar {ρ ρ' : Rho} (h : Nar ρ ρ') {L : Nat} (hL : L ≤ 6) (hH : Hi L ρ) : ∀ (n m : Nat) (a b a' b' : Int), m < 2 ^ L → a ≤ a' → b' ≤ b → noneF ρ n m a b = true → noneF ρ' n m a' b' = true
  | 0, _, _, _, _, _, _, _, _, hn => by cases hn
  | n + 1, m, a, b, a', b', hm, h1, h2, hn => by
    rw [noneF] at hn ⊢
    rw [List.all_eq_true] at hn ⊢
    intro r hr
    obtain ⟨q1, q2, _⟩ := (facts_of hL hm).1 r hr
    by_cases he : aftF ρ' r a' b' = (0, 0)
    · rw [he]; rfl
    · obtain ⟨k1, k2, k3⟩ := aft_nar h (by omega) (hH r q1) h1 h2 he
      have := hn r hr
      rw [decide_eq_false k1, Bool.false_or] at this
      rw [decide_eq_false he, Bool.false_or]
      exact none_nar h hL hH n _ _ _ _ _ q2 k2 k3 this
theorem fold_le {q q' : Nat → Bool} {f f' : Nat → Nat} : ∀ (l : List Nat), (∀ r ∈ l, q' r = false → q r = false ∧ f' r ≤ f r) → l.foldl (fun s r => if q' r = true then s else s + f' r) 0 ≤ l.foldl (fun s r => if q r = true then s else s + f r) 0
  | [], _ => Nat.le_refl _
  | r :: l, h => by
    simp only [List.foldl_cons]
    rw [foldl_cnt (q := q') (f := f') l, foldl_cnt (q := q) (f := f) l]
    have ih := fold_le (q := q) (q' := q') (f := f) (f' := f') l fun r hr => h r (List.mem_cons_of_mem _ hr)
    have hr := h r List.mem_cons_self
    cases hq : q' r with
    | true => simp only [if_true]; omega
    | false =>
      obtain ⟨h1, h2⟩ := hr hq
      rw [h1]
      simp only [Bool.false_eq_true, if_false]
      omega
theorem cnt_nar {ρ ρ' : Rho} (h : Nar ρ ρ') {L : Nat} (hL : L ≤ 6) (hH : Hi L ρ) : ∀ (n m : Nat) (a b a' b' : Int), m < 2 ^ L → a ≤ a' → b' ≤ b → cntF ρ' n m a' b' ≤ cntF ρ n m a b
  | 0, _, _, _, _, _, _, _, _ => Nat.le_refl _
  | n + 1, m, a, b, a', b', hm, h1, h2 => by
    rw [cntF_eq, cntF_eq]
    refine fold_le (q := fun r => decide (aftF ρ r a b = (0, 0))) (q' := fun r => decide (aftF ρ' r a' b' = (0, 0))) (f := fun r => cntF ρ n (del m r) (aftF ρ r a b).1 (aftF ρ r a b).2) (f' := fun r => cntF ρ' n (del m r) (aftF ρ' r a' b').1 (aftF ρ' r a' b').2) (rsOf m) fun r hr hq => ?_
    obtain ⟨q1, q2, _⟩ := (facts_of hL hm).1 r hr
    obtain ⟨k1, k2, k3⟩ := aft_nar h (by omega) (hH r q1) h1 h2 (of_decide_eq_false hq)
    exact ⟨decide_eq_false k1, cnt_nar h hL hH n _ _ _ _ _ q2 k2 k3⟩
theorem at_nar {ρ ρ' : Rho} (h : Nar ρ ρ') {L : Nat} (hL : L ≤ 6) (hH : Hi L ρ) (k : Nat) : ∀ (n p m : Nat) (a b a' b' : Int) (j : Nat), m < 2 ^ L → a ≤ a' → b' ≤ b → atF ρ' k n p m a' b' j = true → atF ρ k n p m a b j = true
  | 0, _, _, _, _, _, _, _, _, _, _, hn => by cases hn
  | n + 1, p, m, a, b, a', b', j, hm, h1, h2, hn => by
    rw [atF] at hn ⊢
    rw [List.any_eq_true] at hn ⊢
    obtain ⟨r, hr, hv⟩ := hn
    rw [Bool.and_eq_true] at hv
    obtain ⟨v1, v2⟩ := hv
    have he : ¬ aftF ρ' r a' b' = (0, 0) := fun e => by rw [e] at v1; simp at v1
    obtain ⟨q1, q2, _⟩ := (facts_of hL hm).1 r hr
    obtain ⟨k1, k2, k3⟩ := aft_nar h (by omega) (hH r q1) h1 h2 he
    refine ⟨r, hr, ?_⟩
    rw [decide_eq_false k1, Bool.not_false, Bool.true_and]
    by_cases hrk : r = k
    · rw [if_pos hrk] at v2 ⊢
      rw [Bool.and_eq_true] at v2 ⊢
      refine ⟨v2.1, ?_⟩
      cases hx : noneF ρ n (del m r) (aftF ρ r a b).1 (aftF ρ r a b).2 with
      | false => rfl
      | true =>
        have := none_nar h hL hH n _ _ _ _ _ q2 k2 k3 hx
        rw [this] at v2; exact absurd v2.2 (by simp)
    · rw [if_neg hrk] at v2 ⊢
      exact at_nar h hL hH k n (p + 1) _ _ _ _ _ j q2 k2 k3 v2
/-- where there is an order, each of its reels is somewhere -/
theorem at_some {ρ : Rho} {L k : Nat} (hL : L ≤ 6) (hk : k < L) : ∀ (n p m : Nat) (a b : Int), m < 2 ^ L → cnt m = n → bt m k = true → noneF ρ n m a b = false → ∃ j, p ≤ j ∧ j < p + n ∧ atF ρ k n p m a b j = true
  | 0, p, m, a, b, hm, hc, hb, _ => by
    have : m = 0 := by
      rcases Nat.eq_zero_or_pos m with h | h
      · exact h
      · have := (facts_of hL hm).2.2 (by omega); omega
    subst this
    have e : bt 0 k = false := by
      have : k = 0 ∨ k = 1 ∨ k = 2 ∨ k = 3 ∨ k = 4 ∨ k = 5 := by omega
      rcases this with rfl | rfl | rfl | rfl | rfl | rfl <;> rfl
    rw [e] at hb; cases hb
  | n + 1, p, m, a, b, hm, hc, hb, hn => by
    rw [noneF, List.all_eq_false] at hn
    obtain ⟨r, hr, hv⟩ := hn
    simp only [Bool.or_eq_true, not_or, Bool.not_eq_true] at hv
    obtain ⟨v1, v2⟩ := hv
    obtain ⟨q1, q2, q3, _⟩ := (facts_of hL hm).1 r hr
    have h64 := lt64 hL hm
    by_cases hrk : r = k
    · refine ⟨p, Nat.le_refl _, by omega, ?_⟩
      rw [atF, List.any_eq_true]
      exact ⟨r, hr, by rw [v1, if_pos hrk, v2]; simp⟩
    · have hd : bt (del m r) k = true := by rw [del_k h64 hr (by omega), hb, beq_f.2 (fun h => hrk h.symm)]; rfl
      obtain ⟨j, j1, j2, j3⟩ := at_some hL hk n (p + 1) (del m r) _ _ q2 (by omega) hd v2
      refine ⟨j, by omega, by omega, ?_⟩
      rw [atF, List.any_eq_true]
      exact ⟨r, hr, by rw [v1, if_neg hrk, j3]; rfl⟩
/-! ## The names, chosen -/
noncomputable def fbX (ρ : Rho) (L k : Nat) (f : Nat) (a b c : Int) : Bool := if 20000 + 512 * k ≤ f ∧ f < 20512 + 512 * k then atF ρ k (cnt ((f - 20000 - 512 * k) / 8)) (L - cnt ((f - 20000 - 512 * k) / 8)) ((f - 20000 - 512 * k) / 8) a b ((f - 20000 - 512 * k) % 8) else fbW ρ f a b c
theorem atF_like {ρ ρ' : Rho} (h : LikeF ρ ρ') (k : Nat) : ∀ (n p m : Nat) (a b : Int) (j : Nat), atF ρ k n p m a b j = atF ρ' k n p m a b j
  | 0, _, _, _, _, _ => rfl
  | n + 1, p, m, a, b, j => by
    simp only [atF]
    have key : ∀ l : List Nat, (∀ r ∈ l, r < 6) → (l.any fun r => !decide (aftF ρ r a b = (0, 0)) && (if r = k then decide (j = p) && !noneF ρ n (del m r) (aftF ρ r a b).1 (aftF ρ r a b).2 else atF ρ k n (p + 1) (del m r) (aftF ρ r a b).1 (aftF ρ r a b).2 j)) =
        l.any fun r => !decide (aftF ρ' r a b = (0, 0)) && (if r = k then decide (j = p) && !noneF ρ' n (del m r) (aftF ρ' r a b).1 (aftF ρ' r a b).2 else atF ρ' k n (p + 1) (del m r) (aftF ρ' r a b).1 (aftF ρ' r a b).2 j) := by
      intro l
      induction l with
      | nil => intro _; rfl
      | cons r l ih =>
        intro hl
        rw [List.any_cons, List.any_cons, ih fun r hr => hl r (List.mem_cons_of_mem _ hr), aftF_like h (hl r List.mem_cons_self), noneF_like h, atF_like h k n]
    exact key _ fun r hr => rsOf_lt hr
theorem cntF_like {ρ ρ' : Rho} (h : LikeF ρ ρ') : ∀ (k m : Nat) (a b : Int), cntF ρ k m a b = cntF ρ' k m a b
  | 0, _, _, _ => rfl
  | k + 1, m, a, b => by
    simp only [cntF]
    have key : ∀ (l : List Nat) (s : Nat), (∀ r ∈ l, r < 6) → l.foldl (fun s r => if aftF ρ r a b = (0, 0) then s else s + cntF ρ k (del m r) (aftF ρ r a b).1 (aftF ρ r a b).2) s = l.foldl (fun s r => if aftF ρ' r a b = (0, 0) then s else s + cntF ρ' k (del m r) (aftF ρ' r a b).1 (aftF ρ' r a b).2) s := by
      intro l
      induction l with
      | nil => intro s _; rfl
      | cons r l ih =>
        intro s hl
        simp only [List.foldl_cons]
        rw [aftF_like h (hl r List.mem_cons_self), cntF_like h k]
        exact ih _ fun r hr => hl r (List.mem_cons_of_mem _ hr)
    exact key _ 0 fun r hr => rsOf_lt hr
theorem fbX_low {ρ : Rho} {L k f : Nat} (h : f < 20000) (a b c : Int) : fbX ρ L k f a b c = fbW ρ f a b c := by unfold fbX; rw [if_neg (by omega)]
theorem okX_of {L k : Nat} (hL : L ≤ 6) {ρ ρ0 : Rho} (h : LikeF ρ ρ0) (hfi : ρ.fi = fiW ρ0) (hfb : ρ.fb = fbX ρ0 L k) (hr : ∀ r, r < L → reelOk ρ r) : okO L ρ ∧ okPl L k ρ := by
  let ρ1 : Rho := ⟨ρ.iv, ρ.bv, ρ.fi, fbW ρ0, ρ.ov⟩
  have lk : LikeF ρ ρ1 := fun _ _ => rfl
  have o : okO L ρ1 := okO_of hL (ρ0 := ρ0) h hfi rfl hr
  have hT : okT L ρ := by
    refine ⟨fun r hrL => ⟨hr r hrL, fun a b => ?_⟩, fun m hm => ⟨fun a b => ?_, fun j a b hj => ?_, fun K j a b x hK hj => ?_⟩⟩
    · have := (o.1.1 r hrL).2 a b
      rw [aftF_like lk (by omega)]
      exact this
    · have := (o.1.2 m hm).1 a b
      have h64 := lt64 hL hm
      rw [hfb, fbX_low (by omega), noneF_like lk]
      exact this
    · rw [ordF_like lk]; exact (o.1.2 m hm).2.1 j a b hj
    · rw [leftF_like lk]; exact (o.1.2 m hm).2.2 K j a b x hK hj
  have hO : ∀ m, m < 2 ^ L → ∀ a b x, ρ.fi (9500 + m) a b x = manyF ρ (cnt m) m a b x := fun m hm a b x => by
    rw [manyF_like lk]; exact o.2 m hm a b x
  refine ⟨⟨hT, hO⟩, hT, fun m j hm hj a b => ?_⟩
  have h64 := lt64 hL hm
  rw [hfb, atF_like h]
  unfold fbX
  rw [if_pos (by omega), show 20000 + 512 * k + 8 * m + j - 20000 - 512 * k = 8 * m + j by omega, show (8 * m + j) / 8 = m by omega, show (8 * m + j) % 8 = j by omega]
end Go.Sx
/-! WHAT CAN BE SEEN BETTER OF ONE REEL: what is said of the film as it was, and as it is seen. -/
namespace Go.Sx
open Go.RowKit Go.Proofs
set_option maxRecDepth 100000
noncomputable def fstE (k : Nat) : IE := .bin .add .i64 (.var (10 + 6 * k)) (.var 320)
noncomputable def lstE (k : Nat) : IE := .bin .add .i64 (.var (12 + 6 * k)) (.var 321)
noncomputable def narI (ρ : Rho) (k j : Nat) : Int := if j = 11 + 6 * k then (fstE k).den ρ else if j = 12 + 6 * k then (lstE k).den ρ else ρ.iv j
noncomputable def narB (ρ : Rho) (k : Nat) : Rho := ⟨narI ρ k, ρ.bv, ρ.fi, ρ.fb, ρ.ov⟩
noncomputable def narF (ρ : Rho) (L k : Nat) : Rho := ⟨narI ρ k, ρ.bv, fiW (narB ρ k), fbX (narB ρ k) L k, ρ.ov⟩
def okIn (k : Nat) (ρ : Rho) : Prop := (0 ≤ ρ.iv 320 ∧ ρ.iv 320 ≤ ρ.iv (11 + 6 * k) - ρ.iv (10 + 6 * k)) ∧ 0 ≤ ρ.iv 321 ∧ ρ.iv 321 ≤ ρ.iv (13 + 6 * k) - ρ.iv (12 + 6 * k)
theorem reelN {L : Nat} {ρ : Rho} (h : ∀ c ∈ csL L, c.den ρ = true) {r : Nat} (hr : r < L) : 0 ≤ ρ.iv (10 + 6 * r) ∧ ρ.iv (10 + 6 * r) ≤ ρ.iv (11 + 6 * r) ∧ ρ.iv (11 + 6 * r) ≤ 99 ∧ 0 ≤ ρ.iv (12 + 6 * r) ∧ ρ.iv (12 + 6 * r) ≤ ρ.iv (13 + 6 * r) ∧ ρ.iv (13 + 6 * r) ≤ 99 ∧ 1 ≤ ρ.iv (14 + 6 * r) ∧ ρ.iv (14 + 6 * r) ≤ ρ.iv (15 + 6 * r) ∧ ρ.iv (15 + 6 * r) ≤ 1200 ∧ ρ.iv (10 + 6 * r) ≤ ρ.iv (13 + 6 * r) := by
  obtain ⟨u1, u2, u3, u4, u5, u6, u7, u8, u9, u10⟩ := reelC_den.1 fun c hc => h c ((csUp_mem L 10).2 (.inl ⟨r, hr, hc⟩))
  rw [show 10 + 6 * r + 1 = 11 + 6 * r by omega] at u2 u3
  rw [show 10 + 6 * r + 2 = 12 + 6 * r by omega] at u4 u5
  rw [show 10 + 6 * r + 3 = 13 + 6 * r by omega] at u5 u6 u10
  rw [show 10 + 6 * r + 4 = 14 + 6 * r by omega] at u7 u8
  rw [show 10 + 6 * r + 5 = 15 + 6 * r by omega] at u8 u9
  exact ⟨u1, u2, u3, u4, u5, u6, u7, u8, u9, u10⟩
theorem reelN_of {ρ : Rho} {r : Nat} (h : 0 ≤ ρ.iv (10 + 6 * r) ∧ ρ.iv (10 + 6 * r) ≤ ρ.iv (11 + 6 * r) ∧ ρ.iv (11 + 6 * r) ≤ 99 ∧ 0 ≤ ρ.iv (12 + 6 * r) ∧ ρ.iv (12 + 6 * r) ≤ ρ.iv (13 + 6 * r) ∧ ρ.iv (13 + 6 * r) ≤ 99 ∧ 1 ≤ ρ.iv (14 + 6 * r) ∧ ρ.iv (14 + 6 * r) ≤ ρ.iv (15 + 6 * r) ∧ ρ.iv (15 + 6 * r) ≤ 1200 ∧ ρ.iv (10 + 6 * r) ≤ ρ.iv (13 + 6 * r)) : ∀ c ∈ reelC (10 + 6 * r), c.den ρ = true := by
  obtain ⟨u1, u2, u3, u4, u5, u6, u7, u8, u9, u10⟩ := h
  refine reelC_den.2 ?_
  rw [show 10 + 6 * r + 1 = 11 + 6 * r by omega, show 10 + 6 * r + 2 = 12 + 6 * r by omega, show 10 + 6 * r + 3 = 13 + 6 * r by omega, show 10 + 6 * r + 4 = 14 + 6 * r by omega, show 10 + 6 * r + 5 = 15 + 6 * r by omega]
  exact ⟨u1, u2, u3, u4, u5, u6, u7, u8, u9, u10⟩
theorem ends_den {L k : Nat} {ρ : Rho} (hk : k < L) (h : ∀ c ∈ csL L, c.den ρ = true) (hi : okIn k ρ) : (fstE k).den ρ = ρ.iv (10 + 6 * k) + ρ.iv 320 ∧ (lstE k).den ρ = ρ.iv (12 + 6 * k) + ρ.iv 321 := by
  obtain ⟨u1, u2, u3, u4, u5, u6, _⟩ := reelN h hk
  obtain ⟨⟨i1, i2⟩, i3, i4⟩ := hi
  unfold fstE lstE
  rw [IE.den_add, IE.den_add]
  simp only [IE.den_var]
  exact ⟨wrap_sm (by omega) (by omega), wrap_sm (by omega) (by omega)⟩
theorem nar_iv {ρ : Rho} {L k j : Nat} (h1 : j ≠ 11 + 6 * k) (h2 : j ≠ 12 + 6 * k) : (narF ρ L k).iv j = ρ.iv j := by
  show narI ρ k j = _
  unfold narI; rw [if_neg h1, if_neg h2]
theorem nar_fst {ρ : Rho} {L k : Nat} : (narF ρ L k).iv (11 + 6 * k) = (fstE k).den ρ := by
  show narI ρ k _ = _
  unfold narI; rw [if_pos rfl]
theorem nar_lst {ρ : Rho} {L k : Nat} : (narF ρ L k).iv (12 + 6 * k) = (lstE k).den ρ := by
  show narI ρ k _ = _
  unfold narI; rw [if_neg (by omega), if_pos rfl]
theorem nar_ok {L k : Nat} {ρ : Rho} (hk : k < L) (h : ∀ c ∈ csL L, c.den ρ = true) (hi : okIn k ρ) : (∀ c ∈ csL L, c.den (narF ρ L k) = true) ∧ Nar ρ (narF ρ L k) := by
  obtain ⟨e1, e2⟩ := ends_den hk h hi
  obtain ⟨⟨i1, i2⟩, i3, i4⟩ := hi
  refine ⟨fun c hc => ?_, fun r hr => ?_⟩
  · rcases (csUp_mem L 10).1 hc with ⟨r, hr, hc⟩ | hc
    · refine reelN_of ?_ c hc
      obtain ⟨u1, u2, u3, u4, u5, u6, u7, u8, u9, u10⟩ := reelN h hr
      by_cases hrk : r = k
      · subst hrk
        rw [nar_iv (by omega) (by omega), nar_fst, nar_lst, nar_iv (by omega) (by omega), nar_iv (by omega) (by omega), nar_iv (by omega) (by omega), e1, e2]
        omega
      · rw [nar_iv (by omega) (by omega), nar_iv (by omega) (by omega), nar_iv (by omega) (by omega), nar_iv (by omega) (by omega), nar_iv (by omega) (by omega), nar_iv (by omega) (by omega)]
        omega
    · have q := restC_den.1 fun c hc => h c ((csUp_mem L 10).2 (.inr hc))
      refine restC_den.2 ?_ c hc
      rw [nar_iv (by omega) (by omega), nar_iv (by omega) (by omega), nar_iv (by omega) (by omega), nar_iv (by omega) (by omega), nar_iv (by omega) (by omega)]
      exact q
  · by_cases hrk : r = k
    · subst hrk
      rw [nar_iv (by omega) (by omega), nar_fst, nar_lst, nar_iv (by omega) (by omega), e1, e2]
      omega
    · rw [nar_iv (by omega) (by omega), nar_iv (by omega) (by omega), nar_iv (by omega) (by omega), nar_iv (by omega) (by omega)]
      omega
/-- what the names of the law mean -/
def okN0 (L k : Nat) (ρ : Rho) : Prop := (∀ c ∈ csL L, c.den ρ = true) ∧ okO L ρ ∧ okPl L k ρ ∧ okIn k ρ ∧ (ρ.iv 312 = cntF ρ L (fullM L) 0 100 ∧ ρ.iv 313 = cntF (narF ρ L k) L (fullM L) 0 100) ∧
  ((k : Int) = turnF (ρ.iv 301) L ∧ ρ.iv 320 = turnF (ρ.iv 302) (ρ.iv (11 + 6 * k) - ρ.iv (10 + 6 * k) + 1) ∧ ρ.iv 321 = turnF (ρ.iv 303) (ρ.iv (13 + 6 * k) - ρ.iv (12 + 6 * k) + 1)) ∧
  ∀ j, j < L → ρ.iv (330 + j) = if atF (narF ρ L k) k L 0 (fullM L) 0 100 j = true then 1 else 0
def okN (L k s : Nat) (ρ : Rho) : Prop := okN0 L k ρ ∧ 1 ≤ ρ.iv 313 ∧ s < 2 ^ L ∧ ∀ j, j < L → atF ρ k L 0 (fullM L) 0 100 j = bt s j
theorem narX {L k : Nat} {ρ : Rho} (h0 : 1 ≤ L) (hL : L ≤ 6) (hk : k < L) (h : ∀ c ∈ csL L, c.den ρ = true) (hi : okIn k ρ) : okO L (narF ρ L k) ∧ okPl L k (narF ρ L k) ∧ okFilm L (narF ρ L k) := by
  obtain ⟨f1, f2⟩ := film_of_cs h0 hL (nar_ok hk h hi).1
  obtain ⟨o1, o2⟩ := okX_of hL (ρ0 := narB ρ k) (ρ := narF ρ L k) (k := k) (fun _ _ => rfl) rfl rfl f2
  exact ⟨o1, o2, f1⟩
/-! ## Heaps -/
noncomputable def cellX (k j : Nat) : AV := cond (Nat.beq j (11 + 6 * k)) (.int .i64 (fstE k)) (cond (Nat.beq j (12 + 6 * k)) (.int .i64 (lstE k)) (vj j))
noncomputable def rowsX (L k : Nat) : AObj := .cells (lMap (cellX k) (upN (6 * L) 10)) 0 false false
noncomputable def vX (L k : Nat) : List (Nat × AObj) := [(0, ro [li 1, li 20, li 0, li 50]), (1, ro [li 0, li 99, li 0, li 99, li 1, li 1200]), (1001, rowsX L k)]
theorem rows_nar {ρ : Rho} {L k : Nat} : ∀ l : List Nat, SameL ρ (lMap (cellX k) l) (narF ρ L k) (lMap vj l)
  | [] => SameL.nil
  | j :: l => by
    have e1 : lMap (cellX k) (j :: l) = cellX k j :: lMap (cellX k) l := rfl
    have e2 : lMap vj (j :: l) = vj j :: lMap vj l := rfl
    rw [e1, e2]
    refine SameL.cons ?_ (rows_nar l)
    unfold cellX
    cases h1 : Nat.beq j (11 + 6 * k) with
    | true =>
      rw [cond_true, beq_t.1 h1]
      exact SameV.int nar_fst.symm
    | false =>
      rw [cond_false]
      cases h2 : Nat.beq j (12 + 6 * k) with
      | true =>
        rw [cond_true, beq_t.1 h2]
        exact SameV.int nar_lst.symm
      | false =>
        rw [cond_false]
        exact SameV.int (nar_iv (beq_f.1 h1) (beq_f.1 h2)).symm
theorem heap3 {p p' : Par} {ρ ρ' : Rho} {o o' : AObj} (hp : p.P = p'.P) (ho : SameA p p' ρ o ρ' o') : SameH p p' ρ (viewA 2000 [(0, ro [li 1, li 20, li 0, li 50]), (1, ro [li 0, li 99, li 0, li 99, li 1, li 1200]), (1001, o)]) ρ' (viewA 2000 [(0, ro [li 1, li 20, li 0, li 50]), (1, ro [li 0, li 99, li 0, li 99, li 1, li 1200]), (1001, o')]) := by
  refine ⟨by rw [viewA_next, viewA_next], fun j x g => ?_⟩
  have hm := viewA_get _ _ _ _ g
  simp only [List.mem_cons, List.not_mem_nil, or_false] at hm
  rcases hm with h | h | h
  · cases h
    exact ⟨_, viewA_mem 2000 _ 0 rfl _ List.mem_cons_self, SameA.cells hp (SameL.cons (SameV.int rfl) (SameL.cons (SameV.int rfl) (SameL.cons (SameV.int rfl) (SameL.cons (SameV.int rfl) SameL.nil))))⟩
  · cases h
    exact ⟨_, viewA_mem 2000 _ 0 rfl _ (List.mem_cons_of_mem _ List.mem_cons_self), SameA.cells hp (SameL.cons (SameV.int rfl) (SameL.cons (SameV.int rfl) (SameL.cons (SameV.int rfl) (SameL.cons (SameV.int rfl) (SameL.cons (SameV.int rfl) (SameL.cons (SameV.int rfl) SameL.nil))))))⟩
  · cases h
    exact ⟨_, viewA_mem 2000 _ 0 rfl _ (List.mem_cons_of_mem _ (List.mem_cons_of_mem _ List.mem_cons_self)), ho⟩
noncomputable def lstO (l : List Nat) : AObj := .cells (lMap iA (lMap litN l)) 3 true (extS l)
theorem lits_same {ρ ρ' : Rho} : ∀ l : List Nat, SameL ρ (lMap iA (lMap litN l)) ρ' (lMap iA (lMap litN l))
  | [] => SameL.nil
  | _ :: l => SameL.cons (SameV.int rfl) (lits_same l)
theorem heap4 {p p' : Par} {ρ ρ' : Rho} {o o' : AObj} (l : List Nat) (hp : p.P = p'.P) (ho : SameA p p' ρ o ρ' o') : SameH p p' ρ (viewA 2001 [(0, ro [li 1, li 20, li 0, li 50]), (1, ro [li 0, li 99, li 0, li 99, li 1, li 1200]), (1001, o), (2000, lstO l)]) ρ' (viewA 2001 [(0, ro [li 1, li 20, li 0, li 50]), (1, ro [li 0, li 99, li 0, li 99, li 1, li 1200]), (1001, o'), (2000, lstO l)]) := by
  refine ⟨by rw [viewA_next, viewA_next], fun j x g => ?_⟩
  have hm := viewA_get _ _ _ _ g
  simp only [List.mem_cons, List.not_mem_nil, or_false] at hm
  rcases hm with h | h | h | h
  · cases h
    exact ⟨_, viewA_mem 2001 _ 0 rfl _ List.mem_cons_self, SameA.cells hp (SameL.cons (SameV.int rfl) (SameL.cons (SameV.int rfl) (SameL.cons (SameV.int rfl) (SameL.cons (SameV.int rfl) SameL.nil))))⟩
  · cases h
    exact ⟨_, viewA_mem 2001 _ 0 rfl _ (List.mem_cons_of_mem _ List.mem_cons_self), SameA.cells hp (SameL.cons (SameV.int rfl) (SameL.cons (SameV.int rfl) (SameL.cons (SameV.int rfl) (SameL.cons (SameV.int rfl) (SameL.cons (SameV.int rfl) (SameL.cons (SameV.int rfl) SameL.nil))))))⟩
  · cases h
    exact ⟨_, viewA_mem 2001 _ 0 rfl _ (List.mem_cons_of_mem _ (List.mem_cons_of_mem _ List.mem_cons_self)), ho⟩
  · cases h
    exact ⟨_, viewA_mem 2001 _ 0 rfl _ (List.mem_cons_of_mem _ (List.mem_cons_of_mem _ (List.mem_cons_of_mem _ List.mem_cons_self))), SameA.cells hp (lits_same l)⟩
theorem film_nar {ρ : Rho} {L k : Nat} : SameV ρ (filmF L) (narF ρ L k) (filmF L) :=
  SameV.agg (SameL.cons (SameV.sliceX _ _ _ _) (SameL.cons (SameV.int (nar_iv (by omega) (by omega)).symm) (SameL.cons (SameV.int (nar_iv (by omega) (by omega)).symm) (SameL.cons (SameV.int (nar_iv (by omega) (by omega)).symm) (SameL.cons (SameV.int (nar_iv (by omega) (by omega)).symm) (SameL.cons (SameV.int (nar_iv (by omega) (by omega)).symm) SameL.nil))))))
/-! ## How many orders -/
theorem num_den {L : Nat} (h0 : 1 ≤ L) (hL : L ≤ 6) {ρ : Rho} (h : okO L ρ) : (mnyE (fullM L) (.lit 0) (.lit 100) (.lit 0)).den ρ = cntF ρ L (fullM L) 0 100 := by
  have := many_den h (fullM_lt0 (L := L)) (.lit 0) (.lit 100) (.lit 0)
  rw [fullM_cnt0 h0 hL] at this
  refine this.trans ((manyF_cnt ρ L (fullM L) 0 100 0 (Int.le_refl _) ?_).trans (Int.zero_add _))
  rcases six h0 hL with rfl | rfl | rfl | rfl | rfl | rfl <;> decide
section
variable {p : Par} (hP : p.P = Tryd.prog) {L k : Nat} (h0 : 1 ≤ L) (hL : L ≤ 6) (hk : k < L) (hok : ∀ ρ M, p.ok ρ M → okN0 L k ρ)
include hP h0 hL hok
theorem ordersF : CallOk p 11 [filmF L] (viewA 2000 (vK L)) (.ret (valE (.var 312), viewA 2000 (vK L))) := by
  refine CallOk.read (p0 := pQ L) (p := p) hP.symm (orders_said h0 hL) ?_
  intro ρ _ ⟨M, k1, k2⟩ Q kk
  obtain ⟨q1, q2, _, _, q5, _⟩ := hok ρ M k1
  have kk : Q (valE (.var 312), viewA 2000 (vK L)) := kk
  refine ⟨ρ, ⟨M, ⟨q2, (film_of_cs h0 hL q1).1⟩, k2⟩, SameL.refl _ _, heap3 (p := p) (p' := pQ L) hP (SameA.cells hP (SameL.refl _ _)), ⟨_, kk, ?_, heap3 (p := pQ L) (p' := p) hP.symm (SameA.cells hP.symm (SameL.refl _ _))⟩⟩
  exact SameV.tup (SameL.cons (SameV.int ((num_den h0 hL q2).trans q5.1.symm)) (SameL.cons (SameV.int rfl) SameL.nil))
include hk
theorem ordersX : CallOk p 11 [filmF L] (viewA 2000 (vX L k)) (.ret (valE (.var 313), viewA 2000 (vX L k))) := by
  refine CallOk.read (p0 := pQ L) (p := p) hP.symm (orders_said h0 hL) ?_
  intro ρ _ ⟨M, k1, k2⟩ Q kk
  obtain ⟨q1, q2, _, q4, q5, _⟩ := hok ρ M k1
  obtain ⟨n1, n2, n3⟩ := narX h0 hL hk q1 q4
  have kk : Q (valE (.var 313), viewA 2000 (vX L k)) := kk
  refine ⟨narF ρ L k, ⟨M, ⟨n1, n3⟩, k2⟩, SameL.cons film_nar SameL.nil, heap3 (p := p) (p' := pQ L) hP (SameA.cells hP (rows_nar _)), ⟨_, kk, ?_, heap3 (p := pQ L) (p' := p) hP.symm (SameA.cells hP.symm (SameL.symm (rows_nar _)))⟩⟩
  exact SameV.tup (SameL.cons (SameV.int ((num_den h0 hL n1).trans q5.2.symm)) (SameL.cons (SameV.int rfl) SameL.nil))
end
theorem vX_ro {L k : Nat} : ∀ g ∈ vX L k, g.1 < 2000 ∧ ownO g.2 = false ∧ idsO 0 g.2 = true := fun g hg => by
  simp only [vX, List.mem_cons, List.not_mem_nil, or_false] at hg
  rcases hg with rfl | rfl | rfl
  · exact ⟨by omega, rfl, rfl⟩
  · exact ⟨by omega, rfl, rfl⟩
  · refine ⟨by omega, rfl, ?_⟩
    have key : ∀ l : List Nat, idsLts 0 (lMap (cellX k) l) = true := by
      intro l
      induction l with
      | nil => rfl
      | cons a l ih =>
        have e : lMap (cellX k) (a :: l) = cellX k a :: lMap (cellX k) l := rfl
        rw [e]
        unfold idsLts
        rw [Bool.and_eq_true]
        refine ⟨?_, ih⟩
        unfold cellX
        cases Nat.beq a (11 + 6 * k) <;> cases Nat.beq a (12 + 6 * k) <;> rfl
    exact key _
theorem vX_at {L k c : Nat} {h : Heap} (h1 : lessAll h v2 = true) (h2 : lessO (rowsX L k) (h.get c) = true) : ∀ g ∈ vX L k, ∃ o, h.get (mvN 1001 c g.1) = some o ∧ Less g.2 o := fun g hg => by
  simp only [vX, List.mem_cons, List.not_mem_nil, or_false] at hg
  have hl := lessAll_ok h1
  rcases hg with rfl | rfl | rfl
  · exact hl _ List.mem_cons_self
  · exact hl _ (List.mem_cons_of_mem _ List.mem_cons_self)
  · have e : mvN 1001 c 1001 = c := if_pos rfl
    show ∃ o, h.get (mvN 1001 c 1001) = some o ∧ _
    rw [e]
    exact lessO_ok h2
/-! ## Places -/
noncomputable def nilN (l : List Nat) : Bool := @List.rec Nat (fun _ => Bool) true (fun _ _ _ => false) l
/-- forks, of which one at least is taken -/
noncomputable def forkN {α : Type} (c : Nat → BE) (leaf : List Nat → T α) (l : List Nat) : List Nat → T α := @List.rec Nat (fun _ => List Nat → T α) (fun acc => leaf acc) (fun j l' ih acc => cond (and (nilN l') (nilN acc)) (leaf [j]) (.br (c j) (ih (acc ++ [j])) (ih acc))) l
theorem forkN_leaf {α : Type} {ρ : Rho} {c : Nat → BE} {leaf : List Nat → T α} {Q : α → Prop} : ∀ (l acc : List Nat), (forkN c leaf l acc).Holds ρ Q → acc ++ l.filter (fun j => (c j).den ρ) ≠ [] → (leaf (acc ++ l.filter fun j => (c j).den ρ)).Holds ρ Q
  | [], acc, h, _ => by rw [List.filter_nil, List.append_nil]; exact h
  | j :: l, acc, h, hne => by
    have h : (cond (and (nilN l) (nilN acc)) (leaf [j]) (.br (c j) (forkN c leaf l (acc ++ [j])) (forkN c leaf l acc))).Holds ρ Q := h
    rw [List.filter_cons] at hne ⊢
    cases hn : and (nilN l) (nilN acc) with
    | true =>
      rw [hn, cond_true] at h
      rw [Bool.and_eq_true] at hn
      have e1 : l = [] := by cases l with | nil => rfl | cons a l => cases hn.1
      have e2 : acc = [] := by cases acc with | nil => rfl | cons a l => cases hn.2
      subst e1; subst e2
      split
      · exact h
      · rename_i hc
        rw [if_neg hc] at hne
        exact absurd rfl hne
    | false =>
      rw [hn, cond_false] at h
      simp only [T.Holds] at h
      split
      · rename_i hc
        rw [if_pos hc] at h hne
        have e : acc ++ j :: l.filter (fun j => (c j).den ρ) = acc ++ [j] ++ l.filter (fun j => (c j).den ρ) := by rw [List.append_assoc]; rfl
        rw [e] at hne ⊢
        exact forkN_leaf l (acc ++ [j]) h hne
      · rename_i hc
        rw [if_neg hc] at h hne
        exact forkN_leaf l acc h hne
theorem bt_high {s L j : Nat} (hs : s < 2 ^ L) (hj : L ≤ j) : bt s j = false := by
  have h : s < 2 ^ j := Nat.lt_of_lt_of_le hs (Nat.pow_le_pow_right (by omega) hj)
  unfold bt
  have e : Nat.div s (Nat.pow 2 j) = 0 := Nat.div_eq_of_lt h
  rw [e]; rfl
theorem filter_up {L : Nat} (h0 : 1 ≤ L) (hL : L ≤ 6) {P : Nat → Bool} (hP : ∀ j, L ≤ j → j < 6 → P j = false) : (upN 6 0).filter P = (upN L 0).filter P := by
  rcases six h0 hL with rfl | rfl | rfl | rfl | rfl | rfl
  · simp only [upN, List.filter_cons, List.filter_nil, hP 1 (by omega) (by omega), hP 2 (by omega) (by omega), hP 3 (by omega) (by omega), hP 4 (by omega) (by omega), hP 5 (by omega) (by omega), Bool.false_eq_true, if_false, Nat.zero_add, Nat.reduceAdd]
  · simp only [upN, List.filter_cons, List.filter_nil, hP 2 (by omega) (by omega), hP 3 (by omega) (by omega), hP 4 (by omega) (by omega), hP 5 (by omega) (by omega), Bool.false_eq_true, if_false, Nat.zero_add, Nat.reduceAdd]
  · simp only [upN, List.filter_cons, List.filter_nil, hP 3 (by omega) (by omega), hP 4 (by omega) (by omega), hP 5 (by omega) (by omega), Bool.false_eq_true, if_false, Nat.zero_add, Nat.reduceAdd]
  · simp only [upN, List.filter_cons, List.filter_nil, hP 4 (by omega) (by omega), hP 5 (by omega) (by omega), Bool.false_eq_true, if_false, Nat.zero_add, Nat.reduceAdd]
  · simp only [upN, List.filter_cons, List.filter_nil, hP 5 (by omega) (by omega), Bool.false_eq_true, if_false, Nat.zero_add, Nat.reduceAdd]
  · rfl
theorem mem_up {L j : Nat} (h : j ∈ upN L 0) : j < L := by have := (upN_lt _ _ _ h).2; omega
/-- those of a set that are meant -/
theorem rsOf_filter {L s : Nat} (h0 : 1 ≤ L) (hL : L ≤ 6) (hs : s < 2 ^ L) {γ β : Nat → Bool} (hg : ∀ j, j < L → γ j = β j) (hb : ∀ j, j < L → β j = true → bt s j = true) : (rsOf s).filter γ = (upN L 0).filter β := by
  unfold rsOf
  rw [lFilter_eq, List.filter_filter, filter_up h0 hL fun j h1 _ => by rw [bt_high hs h1, Bool.and_false]]
  refine List.filter_congr fun j hj => ?_
  have hj := mem_up hj
  rw [hg j hj]
  cases hβ : β j with
  | false => rfl
  | true => rw [hb j hj hβ]; rfl
theorem filter_ne {L : Nat} {β : Nat → Bool} (h : ∃ j, j < L ∧ β j = true) : (upN L 0).filter β ≠ [] := fun e => by
  obtain ⟨j, hj, hb⟩ := h
  have : j ∈ (upN L 0).filter β := List.mem_filter.2 ⟨mem_upN L 0 j (Nat.zero_le _) (by omega), hb⟩
  rw [e] at this; cases this
theorem bt_full {L k : Nat} (h0 : 1 ≤ L) (hL : L ≤ 6) (hk : k < L) : bt (fullM L) k = true := by
  have h : lAll (fun L => lAll (fun k => bt (Nat.pow 2 L - 1) k) (upN L 0)) (upN 6 1) = true := by kernel_rfl
  exact lAll_at (p := fun k => bt (Nat.pow 2 L - 1) k) (lAll_at (p := fun L => lAll (fun k => bt (Nat.pow 2 L - 1) k) (upN L 0)) h h0 (by omega)) (Nat.zero_le _) (by omega)
/-- where there are orders, each reel is somewhere -/
theorem some_at {L k : Nat} (h0 : 1 ≤ L) (hL : L ≤ 6) (hk : k < L) {ρ : Rho} (h : 1 ≤ cntF ρ L (fullM L) 0 100) : ∃ j, j < L ∧ atF ρ k L 0 (fullM L) 0 100 j = true := by
  obtain ⟨j, _, j2, j3⟩ := at_some (ρ := ρ) hL hk L 0 (fullM L) 0 100 fullM_lt0 (fullM_cnt0 h0 hL) (bt_full h0 hL hk) ((cntF_pos ρ L (fullM L) 0 100).1 h)
  exact ⟨j, by omega, j3⟩
theorem optL_some {l : List Nat} (h : l ≠ []) : optL l = some l := by
  cases l with
  | nil => exact absurd rfl h
  | cons a l => rfl
/-- a film's list of places, where it is known which ones there are -/
theorem pw_leaf {L k : Nat} (h0 : 1 ≤ L) (hL : L ≤ 6) {ρ : Rho} (h : okPl L k ρ) (hs : ∃ j, j < L ∧ atF ρ k L 0 (fullM L) 0 100 j = true) {R : AV × Heap → Prop} (hR : R (leafS L (some ((upN L 0).filter fun j => atF ρ k L 0 (fullM L) 0 100 j)))) : (saidPw L k).Holds ρ R := by
  unfold saidPw
  simp only [T.Holds]
  obtain ⟨j, hj, hb⟩ := hs
  rw [offE_den ⟨j, hj, (bP_den h0 hL h hj).trans hb⟩, if_neg (by simp)]
  refine forkT_holds _ _ ?_
  rw [List.nil_append]
  have e : ((upN L 0).filter fun j => (bP L k j).den ρ) = (upN L 0).filter fun j => atF ρ k L 0 (fullM L) 0 100 j := List.filter_congr fun j hj => bP_den h0 hL h (mem_up hj)
  rw [e]
  show R (leafS L (optL _))
  rw [optL_some (filter_ne ⟨j, hj, hb⟩)]
  exact hR
theorem hi_of {L : Nat} {ρ : Rho} (h : ∀ c ∈ csL L, c.den ρ = true) : Hi L ρ := fun r hr => by have := reelN h hr; omega
theorem valS_same {ρ ρ' : Rho} (l : List Nat) : SameV ρ (valS l) ρ' (valS l) := by
  cases l with
  | nil => exact fun _ _ _ _ _ _ => rfl
  | cons a l => exact fun _ _ _ _ _ _ => rfl
noncomputable def leafX (L k : Nat) (l : List Nat) : AV × Heap := (valS l, viewA 2001 (vX L k ++ [(2000, lstO l)]))
noncomputable def treeX (L k s : Nat) : T (AV × Heap) := forkN (fun j => bX (330 + j)) (fun l => .ret (leafX L k l)) (rsOf s) []
section
variable {p : Par} (hP : p.P = Tryd.prog) {L k s : Nat} (h0 : 1 ≤ L) (hL : L ≤ 6) (hk : k < L) (hok : ∀ ρ M, p.ok ρ M → okN L k s ρ)
include hP h0 hL hk hok
omit hP in
theorem at_both {ρ : Rho} {M : Nat → Obj → Prop} (h : p.ok ρ M) : (∃ j, j < L ∧ atF (narF ρ L k) k L 0 (fullM L) 0 100 j = true) ∧ ∀ j, j < L → atF (narF ρ L k) k L 0 (fullM L) 0 100 j = true → bt s j = true := by
  obtain ⟨⟨q1, q2, q3, q4, q5, _⟩, r1, r2, r3⟩ := hok ρ M h
  obtain ⟨n1, n2⟩ := nar_ok hk q1 q4
  refine ⟨some_at h0 hL hk (by have := q5.2; omega), fun j hj ha => ?_⟩
  rw [← r3 j hj]
  exact at_nar n2 hL (hi_of q1) k L 0 (fullM L) 0 100 0 100 j fullM_lt0 (Int.le_refl _) (Int.le_refl _) ha
theorem placesF : CallOk p 15 [filmF L, ln k] (viewA 2000 (vK L)) (.ret (leafS L (some (rsOf s)))) := by
  refine CallOk.read (p0 := pPw L k) (p := p) hP.symm (places_free h0 hL hk) ?_
  intro ρ _ ⟨M, k1, k2⟩ Q kk
  obtain ⟨⟨j, j1, j2⟩, jb⟩ := at_both h0 hL hk hok k1
  obtain ⟨⟨q1, q2, q3, _⟩, _, r2, r3⟩ := hok ρ M k1
  have kk : Q (leafS L (some (rsOf s))) := kk
  refine ⟨ρ, ⟨M, ⟨q3, (film_of_cs h0 hL q1).1⟩, k2⟩, SameL.refl _ _, heap3 (p := p) (p' := pPw L k) hP (SameA.cells hP (SameL.refl _ _)), ?_⟩
  refine pw_leaf h0 hL q3 ⟨j, j1, (r3 j j1).trans (jb j j1 j2)⟩ ?_
  have e : ((upN L 0).filter fun j => atF ρ k L 0 (fullM L) 0 100 j) = rsOf s := by
    have e2 : ((upN L 0).filter fun j => atF ρ k L 0 (fullM L) 0 100 j) = (upN L 0).filter (bt s) := List.filter_congr fun j hj => r3 j (mem_up hj)
    rw [e2]
    unfold rsOf
    rw [lFilter_eq]
    exact (filter_up h0 hL fun j h1 _ => bt_high r2 h1).symm
  rw [e]
  refine ⟨_, kk, SameV.refl _ _, ?_⟩
  exact heap4 (p := pPw L k) (p' := p) (rsOf s) hP.symm (SameA.cells hP.symm (SameL.refl _ _))
theorem placesX : CallOk p 15 [filmF L, ln k] (viewA 2000 (vX L k)) (treeX L k s) := by
  refine CallOk.read (p0 := pPw L k) (p := p) hP.symm (places_free h0 hL hk) ?_
  intro ρ _ ⟨M, k1, k2⟩ Q kk
  obtain ⟨j1, jb⟩ := at_both h0 hL hk hok k1
  obtain ⟨⟨q1, q2, q3, q4, _, _, q7⟩, _, r2, r3⟩ := hok ρ M k1
  obtain ⟨n1, n2, n3⟩ := narX h0 hL hk q1 q4
  refine ⟨narF ρ L k, ⟨M, ⟨n2, n3⟩, k2⟩, SameL.cons film_nar (SameL.cons (SameV.int rfl) SameL.nil), heap3 (p := p) (p' := pPw L k) hP (SameA.cells hP (rows_nar _)), ?_⟩
  refine pw_leaf h0 hL n2 j1 ?_
  have e : (rsOf s).filter (fun j => (bX (330 + j)).den ρ) = (upN L 0).filter fun j => atF (narF ρ L k) k L 0 (fullM L) 0 100 j := rsOf_filter h0 hL r2 (fun j hj => by
    have := q7 j hj
    cases hb : atF (narF ρ L k) k L 0 (fullM L) 0 100 j with
    | true =>
      rw [hb, if_pos rfl] at this
      exact BE.t_eql.2 this
    | false =>
      rw [hb, if_neg (by simp)] at this
      cases hd : (bX (330 + j)).den ρ with
      | false => rfl
      | true => have hd : ρ.iv (330 + j) = 1 := BE.t_eql.1 hd; omega) jb
  have kl := forkN_leaf _ _ kk (by rw [List.nil_append, e]; exact filter_ne j1)
  rw [List.nil_append, e] at kl
  have kl : Q (leafX L k ((upN L 0).filter fun j => atF (narF ρ L k) k L 0 (fullM L) 0 100 j)) := kl
  exact ⟨_, kl, valS_same _, heap4 (p := pPw L k) (p' := p) _ hP.symm (SameA.cells hP.symm (SameL.symm (rows_nar _)))⟩
end
end Go.Sx
