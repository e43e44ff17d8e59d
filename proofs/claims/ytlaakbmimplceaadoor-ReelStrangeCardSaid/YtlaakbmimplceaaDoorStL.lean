/- THE LAW OF STRANGE REELS: its run, for a valid film, what the search found, and what the number chooses. -/
import Derived.Test.YtlaakbmimplceaaDoorFiPe
import Derived.Test.YtlaakbmimplceaaDoorRyQ
import Derived.Test.YtlaakbmimplceaaDoorSxMoved
import Derived.Test.YtlaakbmimplceaaDoorFiTu
import Derived.Test.YtlaakbmimplceaaDoorRyPu
import Derived.Test.YtlaakbmimplceaaDoorRyP
/-! A FILM WITHOUT SOME OF ITS REELS: its search is the film's own, over fewer reels. -/
namespace Go.Sx
open Go.RowKit Go.Proofs
set_option maxRecDepth 100000
theorem fullM_lt0 {L : Nat} : fullM L < 2 ^ L := by
  have : 0 < 2 ^ L := Nat.two_pow_pos L
  show Nat.pow 2 L - 1 < 2 ^ L
  have e : Nat.pow 2 L = 2 ^ L := rfl
  omega
theorem fullM_cnt0 {L : Nat} (h0 : 1 ≤ L) (hL : L ≤ 6) : cnt (fullM L) = L := by
  rcases six h0 hL with rfl | rfl | rfl | rfl | rfl | rfl <;> rfl
theorem SameV.tup {ρ ρ' : Rho} {l l' : List AV} (h : SameL ρ l ρ' l') : SameV ρ (.tup l) ρ' (.tup l') := fun σ κ n m rc rc' => by simp only [conc, h σ κ n m rc rc']
theorem SameL.symm {ρ ρ' : Rho} {l l' : List AV} (h : SameL ρ l ρ' l') : SameL ρ' l' ρ l := fun σ κ n m rc rc' => (h σ κ m n rc' rc).symm
noncomputable def nthN (l : List Nat) : Nat → Nat := @List.rec Nat (fun _ => Nat → Nat) (fun _ => 0) (fun a _ ih i => @Nat.rec (fun _ => Nat) a (fun j _ => ih j) i) l
noncomputable def atM (m i : Nat) : Nat := nthN (rsOf m) i
noncomputable def piM (m M : Nat) : Nat := @List.rec Nat (fun _ => Nat) 0 (fun i _ ih => cond (bt M i) (Nat.pow 2 (atM m i) + ih) ih) (upN 6 0)
noncomputable def subI (m j : Nat) : Nat := cond (Nat.ble 10 j) (10 + 6 * atM m ((j - 10) / 6) + (j - 10) % 6) j
/-- what is so of all sets of reels, and all sets of those that are left -/
noncomputable def subCk (m : Nat) : Bool :=
  and (and (Nat.beq (lLen (rsOf m)) (cnt m)) (Nat.beq (piM m (Nat.pow 2 (cnt m) - 1)) m))
    (lAll (fun M => and (eqNs (rsOf (piM m M)) (lMap (atM m) (rsOf M))) (lAll (fun i => and (Nat.beq (del (piM m M) (atM m i)) (piM m (del M i))) (Nat.ble (del M i + 1) (Nat.pow 2 (cnt m)))) (rsOf M))) (upN (Nat.pow 2 (cnt m)) 0))
theorem subCk_all : lAll subCk (upN 64 0) = true := by kernel_rfl
noncomputable def subB (ρ : Rho) (m : Nat) : Rho := ⟨fun j => ρ.iv (subI m j), ρ.bv, ρ.fi, ρ.fb, ρ.ov⟩
noncomputable def subF (ρ : Rho) (m : Nat) : Rho := ⟨fun j => ρ.iv (subI m j), ρ.bv, fiW (subB ρ m), fbW (subB ρ m), ρ.ov⟩
theorem subI_at {m i t : Nat} (ht : t < 6) : subI m (10 + 6 * i + t) = 10 + 6 * atM m i + t := by
  unfold subI
  rw [ble_t.2 (by omega), cond_true, show (10 + 6 * i + t - 10) / 6 = i by omega, show (10 + 6 * i + t - 10) % 6 = t by omega]
theorem sub_iv {ρ : Rho} {m i t : Nat} (ht : t < 6) : (subF ρ m).iv (10 + 6 * i + t) = ρ.iv (10 + 6 * atM m i + t) := congrArg ρ.iv (subI_at ht)
theorem sub_low {ρ : Rho} {m j : Nat} (hj : j < 10) : (subF ρ m).iv j = ρ.iv j := by
  show ρ.iv (subI m j) = _
  unfold subI
  have : Nat.ble 10 j = false := by
    cases h : Nat.ble 10 j with
    | false => rfl
    | true => have := ble_t.1 h; omega
  rw [this, cond_false]
theorem aftF_sub {ρ : Rho} {m i : Nat} (a b : Int) : aftF (subF ρ m) i a b = aftF ρ (atM m i) a b := by
  have e0 : (subF ρ m).iv (10 + 6 * i) = ρ.iv (10 + 6 * atM m i) := sub_iv (t := 0) (by omega)
  have e1 : (subF ρ m).iv (11 + 6 * i) = ρ.iv (11 + 6 * atM m i) := by
    rw [show 11 + 6 * i = 10 + 6 * i + 1 by omega, sub_iv (by omega), show 11 + 6 * atM m i = 10 + 6 * atM m i + 1 by omega]
  have e2 : (subF ρ m).iv (12 + 6 * i) = ρ.iv (12 + 6 * atM m i) := by
    rw [show 12 + 6 * i = 10 + 6 * i + 2 by omega, sub_iv (by omega), show 12 + 6 * atM m i = 10 + 6 * atM m i + 2 by omega]
  have e3 : (subF ρ m).iv (13 + 6 * i) = ρ.iv (13 + 6 * atM m i) := by
    rw [show 13 + 6 * i = 10 + 6 * i + 3 by omega, sub_iv (by omega), show 13 + 6 * atM m i = 10 + 6 * atM m i + 3 by omega]
  unfold aftF
  rw [e0, e1, e2, e3]
theorem sub_facts {m : Nat} (hm : m < 64) : ((rsOf m).length = cnt m ∧ piM m (2 ^ cnt m - 1) = m) ∧ ∀ M, M < 2 ^ cnt m → rsOf (piM m M) = (rsOf M).map (atM m) ∧ ∀ i ∈ rsOf M, del (piM m M) (atM m i) = piM m (del M i) ∧ del M i < 2 ^ cnt m := by
  have k : subCk m = true := lAll_at subCk_all (Nat.zero_le m) (by omega)
  unfold subCk at k
  simp only [Bool.and_eq_true] at k
  obtain ⟨⟨k1, k2⟩, k3⟩ := k
  refine ⟨⟨by rw [← lLen_eq]; exact beq_t.1 k1, beq_t.1 k2⟩, fun M hM => ?_⟩
  have k := lAll_mem k3 M (mem_upN _ 0 M (Nat.zero_le _) (by rw [Nat.zero_add]; exact hM))
  simp only [Bool.and_eq_true] at k
  refine ⟨by rw [eqNs_eq _ _ k.1, lMap_eq], fun i hi => ?_⟩
  have q := lAll_mem k.2 i hi
  simp only [Bool.and_eq_true] at q
  exact ⟨beq_t.1 q.1, ble_t.1 q.2⟩
theorem manyF_sub {ρ : Rho} {m : Nat} (hm : m < 64) : ∀ (k M : Nat) (a b o : Int), M < 2 ^ cnt m → manyF (subF ρ m) k M a b o = manyF ρ k (piM m M) a b o
  | 0, _, _, _, _, _ => rfl
  | k + 1, M, a, b, o, hM => by
    obtain ⟨h1, h2⟩ := (sub_facts hm).2 M hM
    simp only [manyF]
    rw [h1, List.foldl_map]
    refine foldl_congr _ fun o i hi => ?_
    obtain ⟨h3, h4⟩ := h2 i hi
    rw [aftF_sub, manyF_sub hm k (del M i) _ _ _ h4, h3]
/-! ## A valid film -/
theorem csUp_mem {c : BE} : ∀ n b, c ∈ csUp n b ↔ (∃ r, r < n ∧ c ∈ reelC (b + 6 * r)) ∨ c ∈ restC
  | 0, b => ⟨.inr, fun h => by rcases h with ⟨r, h, _⟩ | h; omega; exact h⟩
  | n + 1, b => by
    simp only [csUp, List.mem_append, csUp_mem n (b + 6)]
    constructor
    · rintro (h | ⟨r, h1, h2⟩ | h)
      · exact .inl ⟨0, by omega, h⟩
      · exact .inl ⟨r + 1, by omega, by rw [show b + 6 * (r + 1) = b + 6 + 6 * r by omega]; exact h2⟩
      · exact .inr h
    · rintro (⟨r, h1, h2⟩ | h)
      · cases r with
        | zero => exact .inl h2
        | succ r => exact .inr (.inl ⟨r, by omega, by rw [show b + 6 + 6 * r = b + 6 * (r + 1) by omega]; exact h2⟩)
      · exact .inr (.inr h)
theorem reelC_den {ρ : Rho} {b : Nat} : (∀ c ∈ reelC b, c.den ρ = true) ↔ 0 ≤ ρ.iv b ∧ ρ.iv b ≤ ρ.iv (b + 1) ∧ ρ.iv (b + 1) ≤ 99 ∧ 0 ≤ ρ.iv (b + 2) ∧ ρ.iv (b + 2) ≤ ρ.iv (b + 3) ∧ ρ.iv (b + 3) ≤ 99 ∧ 1 ≤ ρ.iv (b + 4) ∧ ρ.iv (b + 4) ≤ ρ.iv (b + 5) ∧ ρ.iv (b + 5) ≤ 1200 ∧ ρ.iv b ≤ ρ.iv (b + 3) := by
  simp only [reelC, List.forall_mem_cons, le2, BE.t_leq, IE.den_lit, IE.den_var, List.not_mem_nil, false_implies, implies_true, and_true]
theorem restC_den {ρ : Rho} : (∀ c ∈ restC, c.den ρ = true) ↔ 1 ≤ ρ.iv 0 ∧ ρ.iv 0 ≤ ρ.iv 1 ∧ ρ.iv 1 ≤ 20 ∧ 0 ≤ ρ.iv 2 ∧ ρ.iv 2 ≤ ρ.iv 3 ∧ ρ.iv 3 ≤ 50 ∧ 1 ≤ ρ.iv 4 ∧ ρ.iv 4 ≤ 6000 := by
  simp only [restC, List.forall_mem_cons, le2, BE.t_leq, IE.den_lit, IE.den_var, List.not_mem_nil, false_implies, implies_true, and_true]
theorem nthN_mem : ∀ (l : List Nat) (i : Nat), i < l.length → nthN l i ∈ l
  | [], i, h => by simp at h
  | a :: l, 0, _ => List.mem_cons_self
  | a :: l, i + 1, h => List.mem_cons_of_mem _ (nthN_mem l i (by simpa using h))
theorem atM_lt {L m i : Nat} (hL : L ≤ 6) (hm : m < 2 ^ L) (hi : i < cnt m) : atM m i < L := by
  have h := (sub_facts (lt64 hL hm)).1.1
  exact ((facts_of hL hm).1 (atM m i) (nthN_mem _ i (by omega))).1
theorem csL_sub {L m : Nat} (hL : L ≤ 6) (hm : m < 2 ^ L) {ρ : Rho} (h : ∀ c ∈ csL L, c.den ρ = true) : ∀ c ∈ csL (cnt m), c.den (subF ρ m) = true := by
  have hr : ∀ r, r < L → ∀ c ∈ reelC (10 + 6 * r), c.den ρ = true := fun r hr c hc => h c ((csUp_mem L 10).2 (.inl ⟨r, hr, hc⟩))
  have h0 : ∀ c ∈ restC, c.den ρ = true := fun c hc => h c ((csUp_mem L 10).2 (.inr hc))
  intro c hc
  rcases (csUp_mem (cnt m) 10).1 hc with ⟨i, hi, hc⟩ | hc
  · refine reelC_den.2 ?_ c hc
    have q := reelC_den.1 (hr (atM m i) (atM_lt hL hm hi))
    have e0 : (subF ρ m).iv (10 + 6 * i) = ρ.iv (10 + 6 * atM m i) := sub_iv (t := 0) (by omega)
    rw [e0, sub_iv (by omega), sub_iv (by omega), sub_iv (by omega), sub_iv (by omega), sub_iv (by omega)]
    exact q
  · refine restC_den.2 ?_ c hc
    have q := restC_den.1 h0
    rw [sub_low (by omega), sub_low (by omega), sub_low (by omega), sub_low (by omega), sub_low (by omega)]
    exact q
/-- what is so of a valid film, in the search's words -/
theorem film_of_cs {L : Nat} (h0 : 1 ≤ L) (hL : L ≤ 6) {ρ : Rho} (h : ∀ c ∈ csL L, c.den ρ = true) : okFilm L ρ ∧ ∀ r, r < L → reelOk ρ r := by
  have R := restC_den.1 fun c hc => h c ((csUp_mem L 10).2 (.inr hc))
  have U : ∀ r, r < L → _ := fun r hr => reelC_den.1 fun c hc => h c ((csUp_mem L 10).2 (.inl ⟨r, hr, hc⟩))
  have reel : ∀ r, r < L → 0 ≤ ρ.iv (10 + 6 * r) ∧ ρ.iv (10 + 6 * r) ≤ ρ.iv (11 + 6 * r) ∧ ρ.iv (11 + 6 * r) ≤ 99 ∧ 0 ≤ ρ.iv (12 + 6 * r) ∧ ρ.iv (12 + 6 * r) ≤ ρ.iv (13 + 6 * r) ∧ ρ.iv (13 + 6 * r) ≤ 99 ∧ 1 ≤ ρ.iv (14 + 6 * r) ∧ ρ.iv (14 + 6 * r) ≤ ρ.iv (15 + 6 * r) ∧ ρ.iv (15 + 6 * r) ≤ 1200 ∧ ρ.iv (10 + 6 * r) ≤ ρ.iv (13 + 6 * r) := fun r hr => by
    obtain ⟨u1, u2, u3, u4, u5, u6, u7, u8, u9, u10⟩ := U r hr
    rw [show 10 + 6 * r + 1 = 11 + 6 * r by omega] at u2 u3
    rw [show 10 + 6 * r + 2 = 12 + 6 * r by omega] at u4 u5
    rw [show 10 + 6 * r + 3 = 13 + 6 * r by omega] at u5 u6 u10
    rw [show 10 + 6 * r + 4 = 14 + 6 * r by omega] at u7 u8
    rw [show 10 + 6 * r + 5 = 15 + 6 * r by omega] at u8 u9
    exact ⟨u1, u2, u3, u4, u5, u6, u7, u8, u9, u10⟩
  obtain ⟨r1, r2, r3, r4, r5, r6, r7, r8⟩ := R
  refine ⟨⟨?_, ?_⟩, fun r hr => ?_⟩
  · rcases six h0 hL with rfl | rfl | rfl | rfl | rfl | rfl
    all_goals
      have q0 := reel 0 (by omega)
      try have q1 := reel 1 (by omega)
      try have q2 := reel 2 (by omega)
      try have q3 := reel 3 (by omega)
      try have q4 := reel 4 (by omega)
      try have q5 := reel 5 (by omega)
      clear U reel h
      simp only [Nat.mul_zero, Nat.mul_one, Nat.reduceMul, Nat.reduceAdd, Nat.add_zero] at *
      simp only [filmQ, upN, ivC, List.forall_mem_cons, BE.t_leq, IE.den_lit, IE.den_var, List.not_mem_nil, false_implies, implies_true, and_true, Nat.reduceMul, Nat.reduceAdd]
      omega
  · rcases six h0 hL with rfl | rfl | rfl | rfl | rfl | rfl
    all_goals
      have q0 := reel 0 (by omega)
      try have q1 := reel 1 (by omega)
      try have q2 := reel 2 (by omega)
      try have q3 := reel 3 (by omega)
      try have q4 := reel 4 (by omega)
      try have q5 := reel 5 (by omega)
      clear U reel h
      simp only [Nat.mul_zero, Nat.mul_one, Nat.reduceMul, Nat.reduceAdd, Nat.add_zero] at *
      simp only [filmC, upN, leV, List.forall_mem_cons, BE.t_leq, IE.den_var, List.not_mem_nil, false_implies, implies_true, and_true, Nat.reduceMul, Nat.reduceAdd]
      omega
  · obtain ⟨a1, a2, a3, a4, a5, a6, _⟩ := reel r hr
    exact ⟨a1, a2, a3, a4, a5, a6⟩
/-! ## How many orders there are, of the reels that are left -/
noncomputable def rowsS (m : Nat) : AObj := .cells (lMap vj (lMap (subI m) (upN (6 * cnt m) 10))) 0 false false
noncomputable def vKm (m : Nat) : List (Nat × AObj) := [(0, ro [li 1, li 20, li 0, li 50]), (1, ro [li 0, li 99, li 0, li 99, li 1, li 1200]), (1001, rowsS m)]
noncomputable def valE (e : IE) : AV := .tup [.int .i64 e, ln 0]
theorem rows_sub {ρ : Rho} {m : Nat} : ∀ l : List Nat, SameL ρ (lMap vj (lMap (subI m) l)) (subF ρ m) (lMap vj l)
  | [] => SameL.nil
  | j :: l => by
    have e1 : lMap vj (lMap (subI m) (j :: l)) = vj (subI m j) :: lMap vj (lMap (subI m) l) := rfl
    have e2 : lMap vj (j :: l) = vj j :: lMap vj l := rfl
    rw [e1, e2]
    exact SameL.cons (SameV.int rfl) (rows_sub l)
theorem cnt_pos {m : Nat} (hm : m < 64) (h0 : m ≠ 0) : 1 ≤ cnt m := (facts_of (L := 6) (Nat.le_refl _) hm).2.2 h0
theorem orders_sub {p : Par} (hP : p.P = Tryd.prog) {L m : Nat} (hL : L ≤ 6) (hm : m < 2 ^ L) (h0 : m ≠ 0) (e : IE)
    (hok : ∀ ρ M, p.ok ρ M → (∀ c ∈ csL L, c.den ρ = true) ∧ e.den ρ = manyF ρ (cnt m) m 0 100 0) :
    CallOk p 11 [filmF (cnt m)] (viewA 2000 (vKm m)) (.ret (valE e, viewA 2000 (vKm m))) := by
  have h64 := lt64 hL hm
  have hc1 := cnt_pos h64 h0
  have hc6 : cnt m ≤ 6 := Nat.le_trans (cnt_le' hm) hL
  refine CallOk.read (p0 := pQ (cnt m)) hP.symm (orders_said hc1 hc6) fun ρ b ⟨M, k1, k2⟩ Q k => ?_
  obtain ⟨q1, q2⟩ := hok ρ M k1
  have cs := csL_sub hL hm q1
  obtain ⟨f1, f2⟩ := film_of_cs hc1 hc6 cs
  have oO : okO (cnt m) (subF ρ m) := okO_of hc6 (ρ0 := subB ρ m) (fun j _ => rfl) rfl rfl f2
  have low : ∀ j, j < 10 → SameV ρ (vj j) (subF ρ m) (vj j) := fun j hj => SameV.int (sub_low hj).symm
  have heap : ∀ {p p' : Par} {ρ ρ' : Rho} {o o' : AObj}, p.P = p'.P → SameA p p' ρ o ρ' o' → SameH p p' ρ (viewA 2000 [(0, ro [li 1, li 20, li 0, li 50]), (1, ro [li 0, li 99, li 0, li 99, li 1, li 1200]), (1001, o)]) ρ' (viewA 2000 [(0, ro [li 1, li 20, li 0, li 50]), (1, ro [li 0, li 99, li 0, li 99, li 1, li 1200]), (1001, o')]) := fun hp ho => by
    refine ⟨by rw [viewA_next, viewA_next], fun j x g => ?_⟩
    have hm := viewA_get _ _ _ _ g
    simp only [List.mem_cons, List.not_mem_nil, or_false] at hm
    rcases hm with h | h | h
    · cases h
      exact ⟨_, viewA_mem 2000 _ 0 rfl _ List.mem_cons_self, SameA.cells hp (SameL.cons (SameV.int rfl) (SameL.cons (SameV.int rfl) (SameL.cons (SameV.int rfl) (SameL.cons (SameV.int rfl) SameL.nil))))⟩
    · cases h
      exact ⟨_, viewA_mem 2000 _ 0 rfl _ (List.mem_cons_of_mem _ List.mem_cons_self), SameA.cells hp (SameL.cons (SameV.int rfl) (SameL.cons (SameV.int rfl) (SameL.cons (SameV.int rfl) (SameL.cons (SameV.int rfl) (SameL.cons (SameV.int rfl) (SameL.cons (SameV.int rfl) SameL.nil))))))⟩
    · cases h
      exact ⟨_, viewA_mem 2000 _ 0 rfl _ (List.mem_cons_of_mem _ (List.mem_cons_of_mem _ List.mem_cons_self)), ho⟩
  refine ⟨subF ρ m, ⟨M, ⟨oO, f1⟩, k2⟩, ?_, heap (p := p) (p' := pQ (cnt m)) hP (SameA.cells hP (rows_sub _)), ?_⟩
  · exact SameL.cons (SameV.agg (SameL.cons (SameV.sliceX _ _ _ _) (SameL.cons (low 0 (by omega)) (SameL.cons (low 1 (by omega)) (SameL.cons (low 2 (by omega)) (SameL.cons (low 3 (by omega)) (SameL.cons (low 4 (by omega)) SameL.nil))))))) SameL.nil
  · have k : Q (valE e, viewA 2000 (vKm m)) := k
    refine ⟨_, k, ?_, heap (p := pQ (cnt m)) (p' := p) hP.symm (SameA.cells hP.symm (SameL.symm (rows_sub _)))⟩
    refine SameV.tup (SameL.cons (SameV.int ?_) (SameL.cons (SameV.int rfl) SameL.nil))
    have hd := many_den oO (fullM_lt0 (L := cnt m)) (.lit 0) (.lit 100) (.lit 0)
    refine hd.trans (Eq.trans ?_ q2.symm)
    rw [fullM_cnt0 hc1 hc6]
    have hfl : fullM (cnt m) < 2 ^ cnt m := fullM_lt0
    have hpi : piM m (fullM (cnt m)) = m := (sub_facts h64).1.2
    have := manyF_sub (ρ := ρ) h64 (cnt m) (fullM (cnt m)) 0 100 0 hfl
    rw [hpi] at this
    exact this
/-- the film that lies elsewhere -/
noncomputable def filmAt (c K : Nat) : AV := .agg [.sliceX c 6 0 K, vj 0, vj 1, vj 2, vj 3, vj 4]
noncomputable def v2 : List (Nat × AObj) := [(0, ro [li 1, li 20, li 0, li 50]), (1, ro [li 0, li 99, li 0, li 99, li 1, li 1200])]
theorem orders_at {p : Par} (hP : p.P = Tryd.prog) {L m : Nat} (hL : L ≤ 6) (hm : m < 2 ^ L) (h0 : m ≠ 0) (e : IE) (hok : ∀ ρ M, p.ok ρ M → (∀ c ∈ csL L, c.den ρ = true) ∧ e.den ρ = manyF ρ (cnt m) m 0 100 0)
    {h : Heap} {c : Nat} (h1 : lessAll h v2 = true) (h2 : lessO (rowsS m) (h.get c) = true) : CallOk p 11 [filmAt c (cnt m)] h (.ret (valE e, h)) := by
  refine CallOk.moved (a := 1001) (c := c) (orders_sub hP hL hm h0 e hok) (by omega) (by omega) rfl (fun g hg => ?_) (fun g hg => ?_) (fun E => ?_)
  · simp only [vKm, List.mem_cons, List.not_mem_nil, or_false] at hg
    rcases hg with rfl | rfl | rfl
    · exact ⟨by omega, rfl, rfl⟩
    · exact ⟨by omega, rfl, rfl⟩
    · refine ⟨by omega, rfl, ?_⟩
      have key : ∀ l : List Nat, idsLts 0 (lMap vj l) = true := by
        intro l
        induction l with
        | nil => rfl
        | cons a l ih => exact ih
      exact key _
  · simp only [vKm, List.mem_cons, List.not_mem_nil, or_false] at hg
    have hl := lessAll_ok h1
    rcases hg with rfl | rfl | rfl
    · exact hl _ List.mem_cons_self
    · exact hl _ (List.mem_cons_of_mem _ List.mem_cons_self)
    · have e : mvN 1001 c 1001 = c := if_pos rfl
      show ∃ o, h.get (mvN 1001 c 1001) = some o ∧ _
      rw [e]
      exact lessO_ok h2
  · simp [filmF, filmAt, concL, conc, Env.mv, mvN, vj]
end Go.Sx
/-! THE LAW OF STRANGE REELS: its run, for a valid film, what the search found, and what the number chooses. -/
namespace Go.Sx
open Go.RowKit Go.Proofs
set_option maxRecDepth 100000
noncomputable def nthL (l : List (List Nat)) : Nat → List Nat := @List.rec (List Nat) (fun _ => Nat → List Nat) (fun _ => []) (fun a _ ih i => @Nat.rec (fun _ => List Nat) a (fun j _ => ih j) i) l
noncomputable def takeL (l : List (List Nat)) : Nat → List (List Nat) := @List.rec (List Nat) (fun _ => Nat → List (List Nat)) (fun _ => []) (fun a _ ih i => @Nat.rec (fun _ => List (List Nat)) [] (fun j _ => a :: ih j) i) l
/-- the reels that are left, of the i-th list -/
noncomputable def lsAt (L i : Nat) : List Nat := nthL (allS L) i
noncomputable def outs (L i : Nat) : List Nat := lMap (outM L) (takeL (allS L) i)
noncomputable def memZ (n : Nat) (l : List Nat) : Bool := @List.rec Nat (fun _ => Bool) false (fun a _ ih => cond (Nat.beq n a) true ih) l
theorem memZ_mem {n : Nat} : ∀ {l : List Nat}, memZ n l = true → n ∈ l
  | [], h => by cases h
  | a :: l, h => by
    have h : cond (Nat.beq n a) true (memZ n l) = true := h
    cases hb : Nat.beq n a with
    | true => rw [beq_t.1 hb]; exact List.mem_cons_self
    | false => rw [hb] at h; exact List.mem_cons_of_mem _ (memZ_mem h)
/-- a call that is said of a small heap -/
noncomputable def smallO (n : Nat) (args0 : List AV) (l : List (Nat × AObj)) (t : T (AV × Heap)) (nw : AV × Heap → List Nat) (args : List AV) (h : Heap) : Option (T (AV × Heap)) :=
  cond (and (eqAVs args args0) (and (lessAll h l) (Nat.ble n h.next))) (some (t.bind fun r => graftT n l h (nw r) r)) none
theorem smallO_ok {p : Par} {f : FuncId} {n : Nat} {args0 : List AV} {l : List (Nat × AObj)} {t : T (AV × Heap)} {nw : AV × Heap → List Nat} (hc : CallOk p f args0 (viewA n l) t) (hn : 1000 ≤ n) (ha : idsLts n args0 = true) (hv : viewOk n l = true)
    {args : List AV} {h : Heap} {u : T (AV × Heap)} (e : smallO n args0 l t nw args h = some u) : CallOk p f args h u := by
  unfold smallO at e
  obtain ⟨h1, e2⟩ := cond_some e
  clear e
  simp only [Bool.and_eq_true] at h1
  obtain ⟨i1, i2, i3⟩ := h1
  rw [eqAVs_eq _ _ i1]
  cases e2
  exact hc.frame (n := n) hn ha hv (lessAll_ok i2) (ble_t.1 i3) nw
noncomputable def maskC (cs : List AV) : Nat → Nat := @List.rec AV (fun _ => Nat → Nat) (fun _ => 0) (fun a _ ih j => @Nat.rec (fun _ => Nat) (Nat.add (match a with
  | .int _ (.var v) => Nat.pow 2 ((v - 10) / 6)
  | _ => 0) (ih 5)) (fun k _ => ih k) j) cs
noncomputable def orcOs (L : Nat) (es : Nat → Option IE) (args : List AV) (h : Heap) : Option (T (AV × Heap)) :=
  match args with
  | [.agg (.sliceX c _ _ _ :: _)] => (match h.get c with
    | some (.cells cs _ _ _) => (match es (maskC cs 0) with
      | some e => cond (and (and (eqAVs args [filmAt c (cnt (maskC cs 0))]) (and (ltP L (maskC cs 0)) (Bool.not (Nat.beq (maskC cs 0) 0)))) (and (lessAll h v2) (lessO (rowsS (maskC cs 0)) (h.get c)))) (some (.ret (valE e, h))) none
      | none => none)
    | _ => none)
  | _ => none
theorem orcOs_ok {p : Par} (hP : p.P = Tryd.prog) {L : Nat} (hL : L ≤ 6) {es : Nat → Option IE} (hok : ∀ ρ M, p.ok ρ M → (∀ c ∈ csL L, c.den ρ = true) ∧ ∀ m e, m < 2 ^ L → m ≠ 0 → es m = some e → e.den ρ = manyF ρ (cnt m) m 0 100 0)
    {args : List AV} {h : Heap} {t : T (AV × Heap)} (e : orcOs L es args h = some t) : CallOk p 11 args h t := by
  unfold orcOs at e
  split at e
  · split at e
    · rename_i c _ _ _ _ _ cs _ _ _ _
      split at e
      · rename_i x hx
        obtain ⟨hc, e2⟩ := cond_some e
        clear e
        simp only [Bool.and_eq_true] at hc
        obtain ⟨⟨i1, i2, i3⟩, i4, i5⟩ := hc
        rw [eqAVs_eq _ _ i1]
        cases e2
        have hm : maskC cs 0 < 2 ^ L := by have := ble_t.1 i2; exact this
        have h0 : maskC cs 0 ≠ 0 := fun hh => by rw [beq_t.2 hh] at i3; cases i3
        exact orders_at hP hL hm h0 x (fun ρ M k => ⟨(hok ρ M k).1, (hok ρ M k).2 _ _ hm h0 hx⟩) i4 i5
      · cases e
    · cases e
  · cases e
noncomputable def nwStr (r : AV × Heap) : List Nat :=
  match r.1 with
  | .tup [.nilslice, _] => []
  | _ => [2000]
noncomputable def esS (L i m : Nat) : Option IE := cond (Nat.beq m (outM L (lsAt L i))) (some (.var 300)) (cond (memZ m (outs L i)) (some (.lit 0)) none)
noncomputable def turnA (L : Nat) : List AV := [vi 301, .int .i64 (.lit (Int.ofNat (Nat.pow 2 L - 1)))]
noncomputable def orcSt (L i : Nat) (f : FuncId) (args : List AV) (h : Heap) : Option (T (AV × Heap)) :=
  cond (Nat.beq f 8) (closedOrc glV args h) (cond (Nat.beq f 7) (smallO 2000 [filmF L] (vK L) (saidSo L) (fun _ => []) args h)
    (cond (Nat.beq f 13) (smallO 2000 [filmF L] (vK L) (.ret (leafS L (some (lsAt L i)))) nwStr args h) (cond (Nat.beq f 18) (cond (eqAVs args (turnA L)) (some ((caseT 302 (Nat.pow 2 L - 2)).bind fun a => .ret (a, h))) none)
    (cond (Nat.beq f 11) (orcOs L (esS L i) args h) none))))
noncomputable def tbSt (L i : Nat) : Tabs := ⟨Sx.Tryd.ft.get, lFind Sx.Tryd.rt, 2000, orcSt L i⟩
noncomputable def lawSt (L i : Nat) : Bool := allK isTrueK (evalN (tbSt L i) 60 false 5 [filmV L, vi 301] (viewHeap 2000 (viewV L))) (knOf [(300, 1, 46656), (302, 0, Int.ofNat (Nat.pow 2 L - 2))] [])
theorem lawSt1 : lAll (lawSt 1) (upN 1 0) = true := by kernel_rfl
theorem lawSt2 : lAll (lawSt 2) (upN 3 0) = true := by kernel_rfl
theorem lawSt3 : lAll (lawSt 3) (upN 7 0) = true := by kernel_rfl
end Go.Sx
