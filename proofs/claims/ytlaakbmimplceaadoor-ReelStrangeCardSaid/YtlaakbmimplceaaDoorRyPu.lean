/- ORDERS, as numbers: the first one, how many, and what tells that there is none. -/
import Derived.Test.YtlaakbmimplceaaDoorRyG
import Derived.Test.YtlaakbmimplceaaDoorRyO
/-! WHETHER A LIST OF ALL REELS IS AN ORDER: the call, of lists of known numbers. -/
namespace Go.Sx
open Go.RowKit Go.Proofs
set_option maxRecDepth 100000
noncomputable def vI (B L : Nat) (xs : List IE) : List (Nat × AObj) := vK L ++ [(B, .cells (lMap iA xs) 3 true true)]
noncomputable def orcI (B L : Nat) (f : FuncId) (args : List AV) (h : Heap) : Option (T (AV × Heap)) :=
  cond (Nat.beq f 38) (orcK L args h) (cond (Nat.beq f 60) (orcA (B + 2) L args h) none)
noncomputable def tbI (B L : Nat) : Tabs := ⟨Sx.Tryd.ft.get, lFind Sx.Tryd.rt, 2000, orcI B L⟩
noncomputable def argsI (B L : Nat) : List AV := [filmF L, .sliceX B 1 0 L]
noncomputable def runI (B L : Nat) (l : List Nat) : T (AV × Heap) := (evalN (tbI B L) 100 false 10 (argsI B L) (viewA (B + 1) (vI B L (lMap litN l)))).bind fun r => graftT (B + 1) (vI B L (lMap litN l)) (viewA (B + 1) (vI B L (lMap litN l))) [] r
noncomputable def encI (B L : Nat) (l : List Nat) (q : AV × Heap) : AV := .tup [q.1, tag (and (allO q.2 (vI B L (lMap litN l))) (Nat.beq q.2.next (B + 1)))]
noncomputable def chainJ (l : List Nat) : IE → IE → T AV :=
  @List.rec Nat (fun _ => IE → IE → T AV) (fun _ _ => .ret (.tup [.tup [tag true, ln 0], tag true]))
    (fun r _ ih x1 x2 => .br (empE r x1 x2) (.ret (.tup [.tup [tag false, ln 0], tag true])) (ih (af1 r x1 x2) (af2 r x1 x2))) l
noncomputable def ckJ1 (B L : Nat) (l : List Nat) : Bool := eqTF ((runI B L l).bind fun q => .ret (encI B L l q)) (chainJ l (.lit 0) (.lit 100))
/-- all orders of a set's reels -/
noncomputable def permsM : Nat → Nat → List (List Nat)
  | 0, _ => [[]]
  | k + 1, m => (rsOf m).flatMap fun r => (permsM k (del m r)).map (r :: ·)
noncomputable def ckJr (B L r : Nat) : Bool := lAll (fun l => ckJ1 B L (r :: l)) (permsM (L - 1) (del (fullM L) r))
noncomputable def ckJ (B L : Nat) : Bool := lAll (ckJr B L) (upN L 0)
theorem ckJ2001_1 : ckJ 2001 1 = true := by kernel_rfl
theorem ckJ2001_2 : ckJ 2001 2 = true := by kernel_rfl
theorem ckJ2001_3 : ckJ 2001 3 = true := by kernel_rfl
theorem ckJ2003_1 : ckJ 2003 1 = true := by kernel_rfl
theorem ckJ2003_2 : ckJ 2003 2 = true := by kernel_rfl
theorem ckJ2003_3 : ckJ 2003 3 = true := by kernel_rfl
end Go.Sx
/-! A VALID FILM IS SOUND, as the law finds. -/
namespace Go.Sx
open Go.RowKit Go.Proofs
set_option maxRecDepth 100000
noncomputable def runSo (L : Nat) : T (AV × Heap) := (evalN tbA 100 false 7 [filmF L] (viewA 2000 (vK L))).bind fun r => graftT 2000 (vK L) (viewA 2000 (vK L)) [] r
noncomputable def endSo (L : Nat) (_ : Kn) (q : AV × Heap) : Bool := and (eqAV q.1 (tag true)) (and (allO q.2 (vK L)) (Nat.beq q.2.next 2000))
noncomputable def ckSo (L : Nat) : Bool := allW [] (endSo L) (runSo L) (knOf (filmQ L) (filmC L))
theorem ckSo1 : ckSo 1 = true := by kernel_rfl
theorem ckSo2 : ckSo 2 = true := by kernel_rfl
theorem ckSo3 : ckSo 3 = true := by kernel_rfl
theorem ckSo4 : ckSo 4 = true := by kernel_rfl
theorem ckSo5 : ckSo 5 = true := by kernel_rfl
theorem ckSo6 : ckSo 6 = true := by kernel_rfl
theorem ckSo_all {L : Nat} (h0 : 1 ≤ L) (hL : L ≤ 6) : ckSo L = true := by
  rcases six h0 hL with rfl | rfl | rfl | rfl | rfl | rfl
  · exact ckSo1
  · exact ckSo2
  · exact ckSo3
  · exact ckSo4
  · exact ckSo5
  · exact ckSo6
noncomputable def saidSo (L : Nat) : T (AV × Heap) := .ret (tag true, viewA 2000 (vK L))
theorem sound_said {L : Nat} (h0 : 1 ≤ L) (hL : L ≤ 6) : CallOk (pK L) 7 [filmF L] (viewA 2000 (vK L)) (saidSo L) := by
  have base := eval_ok (tabsK L) 100 7 [filmF L] (viewA 2000 (vK L))
  have up : upA 0 (vK L) = true := rfl
  have fr : CallOk (pK L) 7 [filmF L] (viewA 2000 (vK L)) (runSo L) := base.frame (n := 2000) (l := vK L) (by omega) rfl (viewK_ok h0 hL)
    (fun g hg => ⟨g.2, viewA_mem 2000 _ 0 up g hg, .refl _⟩) (by rw [viewA_next]; exact Nat.le_refl _) (fun _ => [])
  refine CallOk.read rfl fr fun ρ b hok Q k => ⟨ρ, hok, SameL.refl _ _, ⟨rfl, fun j o g => ⟨o, g, SameA.refl o⟩⟩, ?_⟩
  obtain ⟨_, hA, _⟩ := hok
  have k : Q (tag true, viewA 2000 (vK L)) := k
  refine allW_ok (rules_nil ρ) (fun K q _ hq => ?_) (runSo L) _ (okFilm_kn hA) (ckSo_all h0 hL)
  unfold endSo at hq
  simp only [Bool.and_eq_true] at hq
  obtain ⟨q1, q2, q3⟩ := hq
  exact ⟨_, k, by rw [eqAV_eq _ _ q1]; exact SameV.refl _ _, (beq_t.1 q3).trans (viewA_next _ _).symm, fun j o g => ⟨o, allO_get q2 (viewA_get _ _ _ _ g), SameA.refl o⟩⟩
end Go.Sx
/-! ORDERS, as numbers: the first one, how many, and what tells that there is none. -/
namespace Go.Sx
open Go.RowKit Go.Proofs
set_option maxRecDepth 100000
def chainF (ρ : Rho) : List Nat → Int → Int → Bool
  | [], _, _ => true
  | r :: l, a, b => !decide (aftF ρ r a b = (0, 0)) && chainF ρ l (aftF ρ r a b).1 (aftF ρ r a b).2
/-- does a list come before another one, compared element by element? -/
def ltL : List Nat → List Nat → Bool
  | a :: l, b :: m => if a = b then ltL l m else decide (a < b)
  | [], _ :: _ => true
  | _, [] => false
theorem ltL_irrefl : ∀ l, ltL l l = false
  | [] => rfl
  | a :: l => by simp only [ltL, if_true]; exact ltL_irrefl l
theorem noneF_of_chain (ρ : Rho) : ∀ (k m : Nat) (a b : Int) (l : List Nat), l ∈ permsM k m → chainF ρ l a b = true → noneF ρ k m a b = false
  | 0, _, _, _, _, _, _ => rfl
  | k + 1, m, a, b, l, hl, hc => by
    rw [permsM, List.mem_flatMap] at hl
    obtain ⟨r, hr, h⟩ := hl
    obtain ⟨l', h', rfl⟩ := List.mem_map.1 h
    simp only [chainF, Bool.and_eq_true, Bool.not_eq_true', decide_eq_false_iff_not] at hc
    have ih := noneF_of_chain ρ k _ _ _ l' h' hc.2
    rw [noneF]
    cases hA : (rsOf m).all (fun r => decide (aftF ρ r a b = (0, 0)) || noneF ρ k (del m r) (aftF ρ r a b).1 (aftF ρ r a b).2) with
    | false => rfl
    | true =>
      have := List.all_eq_true.1 hA r hr
      rw [decide_eq_false hc.1, ih] at this
      cases this
theorem lFilter_eq (p : Nat → Bool) : ∀ l, lFilter p l = l.filter p
  | [] => rfl
  | a :: l => by
    have e : lFilter p (a :: l) = cond (p a) (a :: lFilter p l) (lFilter p l) := rfl
    rw [e, lFilter_eq p l, List.filter_cons]
    cases p a <;> simp
theorem upN_sorted : ∀ (n k : Nat), (upN n k).Pairwise (· < ·)
  | 0, _ => List.Pairwise.nil
  | n + 1, k => by
    simp only [upN]
    exact List.Pairwise.cons (fun r hr => by have := upN_lt _ _ _ hr; omega) (upN_sorted n (k + 1))
theorem rsOf_sorted (m : Nat) : (rsOf m).Pairwise (· < ·) := by
  unfold rsOf
  rw [lFilter_eq]
  exact (upN_sorted 6 0).filter _
theorem find_least {p : Nat → Bool} : ∀ {l : List Nat}, l.Pairwise (· < ·) → ∀ {r : Nat}, l.find? p = some r → ∀ r' ∈ l, p r' = true → r ≤ r'
  | a :: l, hs, r, hf, r', hr', hp => by
    rw [List.find?_cons] at hf
    rcases List.mem_cons.1 hr' with rfl | hm
    · rw [hp] at hf; cases hf; exact Nat.le_refl _
    · cases ha : p a with
      | true => rw [ha] at hf; cases hf; exact Nat.le_of_lt ((List.pairwise_cons.1 hs).1 r' hm)
      | false => rw [ha] at hf; exact find_least (List.pairwise_cons.1 hs).2 hf r' hm hp
/-- THE FIRST ORDER is one of all reels, holds, and none that holds comes before it. -/
theorem ordF_first (ρ : Rho) : ∀ (k m : Nat) (a b : Int), noneF ρ k m a b = false → ∃ l ∈ permsM k m, ordF ρ k m a b = l.map Int.ofNat ∧ chainF ρ l a b = true ∧ ∀ l' ∈ permsM k m, chainF ρ l' a b = true → ltL l' l = false
  | 0, m, a, b, _ => ⟨[], by rw [permsM]; exact List.mem_singleton.2 rfl, rfl, rfl, fun l' h _ => by rw [permsM, List.mem_singleton] at h; rw [h]; rfl⟩
  | k + 1, m, a, b, hn => by
    let p : Nat → Bool := fun r => !(decide (aftF ρ r a b = (0, 0)) || noneF ρ k (del m r) (aftF ρ r a b).1 (aftF ρ r a b).2)
    cases hf : (rsOf m).find? p with
    | none =>
      exfalso
      rw [List.find?_eq_none] at hf
      have : noneF ρ (k + 1) m a b = true := by
        rw [noneF]
        refine List.all_eq_true.2 fun r hr => ?_
        have h9 := hf r hr
        cases hX : (decide (aftF ρ r a b = (0, 0)) || noneF ρ k (del m r) (aftF ρ r a b).1 (aftF ρ r a b).2) with
        | true => rfl
        | false => exact absurd (by show (!(decide (aftF ρ r a b = (0, 0)) || noneF ρ k (del m r) (aftF ρ r a b).1 (aftF ρ r a b).2)) = true; rw [hX]; rfl) h9
      rw [hn] at this; cases this
    | some r =>
      have hp : p r = true := List.find?_some hf
      have hr : r ∈ rsOf m := List.mem_of_find?_eq_some hf
      have hp2 : ¬ aftF ρ r a b = (0, 0) ∧ noneF ρ k (del m r) (aftF ρ r a b).1 (aftF ρ r a b).2 = false := by
        simpa [p] using hp
      obtain ⟨l, h1, h2, h3, h4⟩ := ordF_first ρ k (del m r) _ _ hp2.2
      refine ⟨r :: l, ?_, ?_, ?_, fun l' hl' hc' => ?_⟩
      · rw [permsM, List.mem_flatMap]
        exact ⟨r, hr, List.mem_map.2 ⟨l, h1, rfl⟩⟩
      · have hf' : (rsOf m).find? (fun r => !(decide (aftF ρ r a b = (0, 0)) || noneF ρ k (del m r) (aftF ρ r a b).1 (aftF ρ r a b).2)) = some r := hf
        rw [ordF]
        simp only [hf', h2]
        rfl
      · simp only [chainF, decide_eq_false hp2.1, Bool.not_false, Bool.true_and]; exact h3
      · rw [permsM, List.mem_flatMap] at hl'
        obtain ⟨r', hr', h⟩ := hl'
        obtain ⟨l1, h', rfl⟩ := List.mem_map.1 h
        simp only [chainF, Bool.and_eq_true, Bool.not_eq_true', decide_eq_false_iff_not] at hc'
        have hp' : p r' = true := by
          have := noneF_of_chain ρ k _ _ _ l1 h' hc'.2
          simp only [p, decide_eq_false hc'.1, this]; rfl
        have hle := find_least (rsOf_sorted m) hf r' hr' hp'
        simp only [ltL]
        split
        · rename_i e; subst e; exact h4 l1 h' hc'.2
        · rename_i e; exact decide_eq_false (by omega)
/-! ## How many -/
noncomputable def cntF (ρ : Rho) : Nat → Nat → Int → Int → Nat
  | 0, _, _, _ => 1
  | k + 1, m, a, b => (rsOf m).foldl (fun s r => if aftF ρ r a b = (0, 0) then s else s + cntF ρ k (del m r) (aftF ρ r a b).1 (aftF ρ r a b).2) 0
theorem foldl_cnt {q : Nat → Bool} {f : Nat → Nat} : ∀ (l : List Nat) (s : Nat), l.foldl (fun s r => if q r = true then s else s + f r) s = s + l.foldl (fun s r => if q r = true then s else s + f r) 0
  | [], s => rfl
  | r :: l, s => by
    simp only [List.foldl_cons]
    rw [foldl_cnt l, foldl_cnt l (if q r = true then 0 else 0 + f r)]
    split <;> omega
theorem foldl_pos {q : Nat → Bool} {f : Nat → Nat} : ∀ (l : List Nat), (0 < l.foldl (fun s r => if q r = true then s else s + f r) 0) ↔ ∃ r ∈ l, q r = false ∧ 0 < f r
  | [] => by simp
  | r :: l => by
    simp only [List.foldl_cons]
    rw [foldl_cnt l]
    have ih := foldl_pos (q := q) (f := f) l
    constructor
    · intro h
      by_cases h1 : q r = true
      · rw [if_pos h1] at h
        obtain ⟨r', hr', hq, hp⟩ := ih.1 (by omega)
        exact ⟨r', List.mem_cons_of_mem _ hr', hq, hp⟩
      · rw [if_neg h1] at h
        by_cases h2 : 0 < f r
        · exact ⟨r, List.mem_cons_self, by simpa using h1, h2⟩
        · obtain ⟨r', hr', hq, hp⟩ := ih.1 (by omega)
          exact ⟨r', List.mem_cons_of_mem _ hr', hq, hp⟩
    · rintro ⟨r', hr', hq, hp⟩
      rcases List.mem_cons.1 hr' with rfl | hm
      · rw [hq]; simp; omega
      · have := ih.2 ⟨r', hm, hq, hp⟩; omega
theorem foldl_le {q : Nat → Bool} {f : Nat → Nat} {n : Nat} : ∀ (l : List Nat), (∀ r ∈ l, f r ≤ n) → l.foldl (fun s r => if q r = true then s else s + f r) 0 ≤ l.length * n
  | [], _ => by simp
  | r :: l, h => by
    simp only [List.foldl_cons, List.length_cons]
    rw [foldl_cnt l]
    have := foldl_le (q := q) (f := f) l fun r hr => h r (List.mem_cons_of_mem _ hr)
    have := h r List.mem_cons_self
    rw [Nat.succ_mul]
    split <;> omega
theorem cntF_eq (ρ : Rho) (k m : Nat) (a b : Int) : cntF ρ (k + 1) m a b = (rsOf m).foldl (fun s r => if (decide (aftF ρ r a b = (0, 0))) = true then s else s + cntF ρ k (del m r) (aftF ρ r a b).1 (aftF ρ r a b).2) 0 := by
  rw [cntF]
  simp only [decide_eq_true_eq]
theorem cntF_pos (ρ : Rho) : ∀ (k m : Nat) (a b : Int), 0 < cntF ρ k m a b ↔ noneF ρ k m a b = false
  | 0, _, _, _ => by simp [cntF, noneF]
  | k + 1, m, a, b => by
    rw [cntF_eq, foldl_pos (q := fun r => decide (aftF ρ r a b = (0, 0))) (f := fun r => cntF ρ k (del m r) (aftF ρ r a b).1 (aftF ρ r a b).2), noneF]
    constructor
    · rintro ⟨r, hr, h1, h2⟩
      have h2 := (cntF_pos ρ k _ _ _).1 h2
      cases hA : (rsOf m).all (fun r => decide (aftF ρ r a b = (0, 0)) || noneF ρ k (del m r) (aftF ρ r a b).1 (aftF ρ r a b).2) with
      | false => rfl
      | true =>
        have := List.all_eq_true.1 hA r hr
        rw [h1, h2] at this
        cases this
    · intro h
      rw [List.all_eq_false] at h
      obtain ⟨r, hr, h⟩ := h
      simp only [Bool.or_eq_true, not_or, Bool.not_eq_true] at h
      exact ⟨r, hr, h.1, (cntF_pos ρ k _ _ _).2 h.2⟩
theorem rsOf_len (m : Nat) : (rsOf m).length ≤ 6 := by
  unfold rsOf
  rw [lFilter_eq]
  exact Nat.le_trans (List.length_filter_le _ _) (by decide)
theorem cntF_le (ρ : Rho) : ∀ (k m : Nat) (a b : Int), cntF ρ k m a b ≤ 6 ^ k
  | 0, _, _, _ => Nat.le_refl _
  | k + 1, m, a, b => by
    rw [cntF_eq]
    refine Nat.le_trans (foldl_le (q := fun r => decide (aftF ρ r a b = (0, 0))) (f := fun r => cntF ρ k (del m r) (aftF ρ r a b).1 (aftF ρ r a b).2) (n := 6 ^ k) (rsOf m) fun r _ => cntF_le ρ k _ _ _) ?_
    rw [Nat.pow_succ, Nat.mul_comm (6 ^ k) 6]
    exact Nat.mul_le_mul_right _ (rsOf_len m)
theorem manyF_fold (ρ : Rho) (k m : Nat) (a b : Int) (ih : ∀ (m : Nat) (a b o : Int), 0 ≤ o → o + 6 ^ k ≤ 1000000000 → manyF ρ k m a b o = o + cntF ρ k m a b) : ∀ (l : List Nat) (o : Int), 0 ≤ o → o + l.length * 6 ^ k ≤ 1000000000 →
    l.foldl (fun o r => if aftF ρ r a b = (0, 0) then o else manyF ρ k (del m r) (aftF ρ r a b).1 (aftF ρ r a b).2 o) o = o + ((l.foldl (fun s r => if (decide (aftF ρ r a b = (0, 0))) = true then s else s + cntF ρ k (del m r) (aftF ρ r a b).1 (aftF ρ r a b).2) 0 : Nat) : Int)
  | [], o, _, _ => by simp
  | r :: l, o, h0, hb => by
    simp only [List.foldl_cons, List.length_cons] at hb ⊢
    have hp : (0 : Int) ≤ 6 ^ k := Int.pow_nonneg (by omega)
    have hl : (0 : Int) ≤ (l.length : Int) * 6 ^ k := Int.mul_nonneg (by omega) hp
    have hm : ((l.length + 1 : Nat) : Int) * 6 ^ k = l.length * 6 ^ k + 6 ^ k := by rw [Int.natCast_add, Int.add_mul]; simp
    rw [hm] at hb
    rw [foldl_cnt (q := fun r => decide (aftF ρ r a b = (0, 0))) (f := fun r => cntF ρ k (del m r) (aftF ρ r a b).1 (aftF ρ r a b).2) l]
    by_cases he : aftF ρ r a b = (0, 0)
    · rw [if_pos he, if_pos (decide_eq_true he), manyF_fold ρ k m a b ih l o h0 (by omega)]
      simp
    · have hc := cntF_le ρ k (del m r) (aftF ρ r a b).1 (aftF ρ r a b).2
      have hc : (cntF ρ k (del m r) (aftF ρ r a b).1 (aftF ρ r a b).2 : Int) ≤ 6 ^ k := by exact_mod_cast hc
      rw [if_neg he, if_neg (by simpa using he), ih _ _ _ _ h0 (by omega), manyF_fold ρ k m a b ih l _ (by omega) (by omega)]
      push_cast
      omega
theorem manyF_cnt (ρ : Rho) : ∀ (k m : Nat) (a b o : Int), 0 ≤ o → o + 6 ^ k ≤ 1000000000 → manyF ρ k m a b o = o + cntF ρ k m a b
  | 0, _, _, _, o, h0, h1 => by
    have h1 : o + 1 ≤ 1000000000 := h1
    simp only [manyF, cntF]
    exact wrap_sm (by omega) (by omega)
  | k + 1, m, a, b, o, h0, h1 => by
    rw [manyF, cntF_eq]
    refine manyF_fold ρ k m a b (manyF_cnt ρ k) (rsOf m) o h0 ?_
    have hp : (0 : Int) ≤ 6 ^ k := Int.pow_nonneg (by omega)
    have hl : ((rsOf m).length : Int) ≤ 6 := by have := rsOf_len m; omega
    have := Int.mul_le_mul_of_nonneg_right hl hp
    have e : (6 : Int) ^ (k + 1) = 6 * 6 ^ k := by rw [Int.pow_succ, Int.mul_comm]
    omega
/-- each reel alone is an order -/
theorem single_ok {L : Nat} {ρ : Rho} (h : okA L ρ) {r : Nat} (hr : r < L) (hm : rsOf (2 ^ r) = [r]) (hv : ρ.iv (10 + 6 * r) ≤ ρ.iv (13 + 6 * r)) : noneF ρ 1 (2 ^ r) 0 100 = false := by
  have hk := (h r hr).1
  unfold reelOk at hk
  have : ¬ aftF ρ r 0 100 = (0, 0) := by
    rw [aftF_pos (by omega) (by omega)]
    intro e
    have := congrArg Prod.snd e
    simp only at this
    omega
  rw [noneF, hm]
  simp only [List.all_cons, List.all_nil, Bool.and_true, decide_eq_false this, Bool.false_or]
  rfl
end Go.Sx
