/- A VALID FILM, in the words of the search. -/
import Derived.Test.YtlaakbmimplceaaDoorRyO
import Derived.Test.YtlaakbmimplceaaDoorRyQ
import Derived.Test.YtlaakbmimplceaaDoorFiF
/-! ORDERS, as numbers: the first one, how many, and what tells that there is none. -/
namespace Go.Sx
open Go.RowKit Go.Proofs
set_option maxRecDepth 100000
/-- all orders of a set's reels -/
noncomputable def permsM : Nat → Nat → List (List Nat)
  | 0, _ => [[]]
  | k + 1, m => (rsOf m).flatMap fun r => (permsM k (del m r)).map (r :: ·)
def chainF (ρ : Rho) : List Nat → Int → Int → Bool
  | [], _, _ => true
  | r :: l, a, b => !decide (aftF ρ r a b = (0, 0)) && chainF ρ l (aftF ρ r a b).1 (aftF ρ r a b).2
/-- does a list come before another one, compared element by element? -/
def ltL : List Nat → List Nat → Bool
  | a :: l, b :: m => if a = b then ltL l m else decide (a < b)
  | [], _ :: _ => true
  | _, [] => false
theorem ltL_irrefl : ∀ l, ltL l l = false
  | [] => rfl
  | a :: l => by simp only [ltL, if_true]; exact ltL_irrefl l
theorem noneF_of_chain (ρ : Rho) : ∀ (k m : Nat) (a b : Int) (l : List Nat), l ∈ permsM k m → chainF ρ l a b = true → noneF ρ k m a b = false
  | 0, _, _, _, _, _, _ => rfl
  | k + 1, m, a, b, l, hl, hc => by
    rw [permsM, List.mem_flatMap] at hl
    obtain ⟨r, hr, h⟩ := hl
    obtain ⟨l', h', rfl⟩ := List.mem_map.1 h
    simp only [chainF, Bool.and_eq_true, Bool.not_eq_true', decide_eq_false_iff_not] at hc
    have ih := noneF_of_chain ρ k _ _ _ l' h' hc.2
    rw [noneF]
    cases hA : (rsOf m).all (fun r => decide (aftF ρ r a b = (0, 0)) || noneF ρ k (del m r) (aftF ρ r a b).1 (aftF ρ r a b).2) with
    | false => rfl
    | true =>
      have := List.all_eq_true.1 hA r hr
      rw [decide_eq_false hc.1, ih] at this
      cases this
theorem lFilter_eq (p : Nat → Bool) : ∀ l, lFilter p l = l.filter p
  | [] => rfl
  | a :: l => by
    have e : lFilter p (a :: l) = cond (p a) (a :: lFilter p l) (lFilter p l) := rfl
    rw [e, lFilter_eq p l, List.filter_cons]
    cases p a <;> simp
theorem upN_sorted : ∀ (n k : Nat), (upN n k).Pairwise (· < ·)
  | 0, _ => List.Pairwise.nil
  | n + 1, k => by
    simp only [upN]
    exact List.Pairwise.cons (fun r hr => by have := upN_lt _ _ _ hr; omega) (upN_sorted n (k + 1))
theorem rsOf_sorted (m : Nat) : (rsOf m).Pairwise (· < ·) := by
  unfold rsOf
  rw [lFilter_eq]
  exact (upN_sorted 6 0).filter _
theorem find_least {p : Nat → Bool} : ∀ {l : List Nat}, l.Pairwise (· < ·) → ∀ {r : Nat}, l.find? p = some r → ∀ r' ∈ l, p r' = true → r ≤ r'
  | a :: l, hs, r, hf, r', hr', hp => by
    rw [List.find?_cons] at hf
    rcases List.mem_cons.1 hr' with rfl | hm
    · rw [hp] at hf; cases hf; exact Nat.le_refl _
    · cases ha : p a with
      | true => rw [ha] at hf; cases hf; exact Nat.le_of_lt ((List.pairwise_cons.1 hs).1 r' hm)
      | false => rw [ha] at hf; exact find_least (List.pairwise_cons.1 hs).2 hf r' hm hp
/-- THE FIRST ORDER is one of all reels, holds, and none that holds comes before it. -/
theorem ordF_first (ρ : Rho) : ∀ (k m : Nat) (a b : Int), noneF ρ k m a b = false → ∃ l ∈ permsM k m, ordF ρ k m a b = l.map Int.ofNat ∧ chainF ρ l a b = true ∧ ∀ l' ∈ permsM k m, chainF ρ l' a b = true → ltL l' l = false
  | 0, m, a, b, _ => ⟨[], by rw [permsM]; exact List.mem_singleton.2 rfl, rfl, rfl, fun l' h _ => by rw [permsM, List.mem_singleton] at h; rw [h]; rfl⟩
  | k + 1, m, a, b, hn => by
    let p : Nat → Bool := fun r => !(decide (aftF ρ r a b = (0, 0)) || noneF ρ k (del m r) (aftF ρ r a b).1 (aftF ρ r a b).2)
    cases hf : (rsOf m).find? p with
    | none =>
      exfalso
      rw [List.find?_eq_none] at hf
      have : noneF ρ (k + 1) m a b = true := by
        rw [noneF]
        refine List.all_eq_true.2 fun r hr => ?_
        have h9 := hf r hr
        cases hX : (decide (aftF ρ r a b = (0, 0)) || noneF ρ k (del m r) (aftF ρ r a b).1 (aftF ρ r a b).2) with
        | true => rfl
        | false => exact absurd (by show (!(decide (aftF ρ r a b = (0, 0)) || noneF ρ k (del m r) (aftF ρ r a b).1 (aftF ρ r a b).2)) = true; rw [hX]; rfl) h9
      rw [hn] at this; cases this
    | some r =>
      have hp : p r = true := List.find?_some hf
      have hr : r ∈ rsOf m := List.mem_of_find?_eq_some hf
      have hp2 : ¬ aftF ρ r a b = (0, 0) ∧ noneF ρ k (del m r) (aftF ρ r a b).1 (aftF ρ r a b).2 = false := by
        simpa [p] using hp
      obtain ⟨l, h1, h2, h3, h4⟩ := ordF_first ρ k (del m r) _ _ hp2.2
      refine ⟨r :: l, ?_, ?_, ?_, fun l' hl' hc' => ?_⟩
      · rw [permsM, List.mem_flatMap]
        exact ⟨r, hr, List.mem_map.2 ⟨l, h1, rfl⟩⟩
      · have hf' : (rsOf m).find? (fun r => !(decide (aftF ρ r a b = (0, 0)) || noneF ρ k (del m r) (aftF ρ r a b).1 (aftF ρ r a b).2)) = some r := hf
        rw [ordF]
        simp only [hf', h2]
        rfl
      · simp only [chainF, decide_eq_false hp2.1, Bool.not_false, Bool.true_and]; exact h3
      · rw [permsM, List.mem_flatMap] at hl'
        obtain ⟨r', hr', h⟩ := hl'
        obtain ⟨l1, h', rfl⟩ := List.mem_map.1 h
        simp only [chainF, Bool.and_eq_true, Bool.not_eq_true', decide_eq_false_iff_not] at hc'
        have hp' : p r' = true := by
          have := noneF_of_chain ρ k _ _ _ l1 h' hc'.2
          simp only [p, decide_eq_false hc'.1, this]; rfl
        have hle := find_least (rsOf_sorted m) hf r' hr' hp'
        simp only [ltL]
        split
        · rename_i e; subst e; exact h4 l1 h' hc'.2
        · rename_i e; exact decide_eq_false (by omega)
/-! ## How many -/
noncomputable def cntF (ρ : Rho) : Nat → Nat → Int → Int → Nat
  | 0, _, _, _ => 1
  | k + 1, m, a, b => (rsOf m).foldl (fun s r => if aftF ρ r a b = (0, 0) then s else s + cntF ρ k (del m r) (aftF ρ r a b).1 (aftF ρ r a b).2) 0
theorem foldl_cnt {q : Nat → Bool} {f : Nat → Nat} : ∀ (l : List Nat) (s : Nat), l.foldl (fun s r => if q r = true then s else s + f r) s = s + l.foldl (fun s r => if q r = true then s else s + f r) 0
  | [], s => rfl
  | r :: l, s => by
    simp only [List.foldl_cons]
    rw [foldl_cnt l, foldl_cnt l (if q r = true then 0 else 0 + f r)]
    split <;> omega
theorem foldl_pos {q : Nat → Bool} {f : Nat → Nat} : ∀ (l : List Nat), (0 < l.foldl (fun s r => if q r = true then s else s + f r) 0) ↔ ∃ r ∈ l, q r = false ∧ 0 < f r
  | [] => by simp
  | r :: l => by
    simp only [List.foldl_cons]
    rw [foldl_cnt l]
    have ih := foldl_pos (q := q) (f := f) l
    constructor
    · intro h
      by_cases h1 : q r = true
      · rw [if_pos h1] at h
        obtain ⟨r', hr', hq, hp⟩ := ih.1 (by omega)
        exact ⟨r', List.mem_cons_of_mem _ hr', hq, hp⟩
      · rw [if_neg h1] at h
        by_cases h2 : 0 < f r
        · exact ⟨r, List.mem_cons_self, by simpa using h1, h2⟩
        · obtain ⟨r', hr', hq, hp⟩ := ih.1 (by omega)
          exact ⟨r', List.mem_cons_of_mem _ hr', hq, hp⟩
    · rintro ⟨r', hr', hq, hp⟩
      rcases List.mem_cons.1 hr' with rfl | hm
      · rw [hq]; simp; omega
      · have := ih.2 ⟨r', hm, hq, hp⟩; omega
theorem foldl_le {q : Nat → Bool} {f : Nat → Nat} {n : Nat} : ∀ (l : List Nat), (∀ r ∈ l, f r ≤ n) → l.foldl (fun s r => if q r = true then s else s + f r) 0 ≤ l.length * n
  | [], _ => by simp
  | r :: l, h => by
    simp only [List.foldl_cons, List.length_cons]
    rw [foldl_cnt l]
    have := foldl_le (q := q) (f := f) l fun r hr => h r (List.mem_cons_of_mem _ hr)
    have := h r List.mem_cons_self
    rw [Nat.succ_mul]
    split <;> omega
theorem cntF_eq (ρ : Rho) (k m : Nat) (a b : Int) : cntF ρ (k + 1) m a b = (rsOf m).foldl (fun s r => if (decide (aftF ρ r a b = (0, 0))) = true then s else s + cntF ρ k (del m r) (aftF ρ r a b).1 (aftF ρ r a b).2) 0 := by
  rw [cntF]
  simp only [decide_eq_true_eq]
theorem cntF_pos (ρ : Rho) : ∀ (k m : Nat) (a b : Int), 0 < cntF ρ k m a b ↔ noneF ρ k m a b = false
  | 0, _, _, _ => by simp [cntF, noneF]
  | k + 1, m, a, b => by
    rw [cntF_eq, foldl_pos (q := fun r => decide (aftF ρ r a b = (0, 0))) (f := fun r => cntF ρ k (del m r) (aftF ρ r a b).1 (aftF ρ r a b).2), noneF]
    constructor
    · rintro ⟨r, hr, h1, h2⟩
      have h2 := (cntF_pos ρ k _ _ _).1 h2
      cases hA : (rsOf m).all (fun r => decide (aftF ρ r a b = (0, 0)) || noneF ρ k (del m r) (aftF ρ r a b).1 (aftF ρ r a b).2) with
      | false => rfl
      | true =>
        have := List.all_eq_true.1 hA r hr
        rw [h1, h2] at this
        cases this
    · intro h
      rw [List.all_eq_false] at h
      obtain ⟨r, hr, h⟩ := h
      simp only [Bool.or_eq_true, not_or, Bool.not_eq_true] at h
      exact ⟨r, hr, h.1, (cntF_pos ρ k _ _ _).2 h.2⟩
theorem rsOf_len (m : Nat) : (rsOf m).length ≤ 6 := by
  unfold rsOf
  rw [lFilter_eq]
  exact Nat.le_trans (List.length_filter_le _ _) (by decide)
theorem cntF_le (ρ : Rho) : ∀ (k m : Nat) (a b : Int), cntF ρ k m a b ≤ 6 ^ k
  | 0, _, _, _ => Nat.le_refl _
  | k + 1, m, a, b => by
    rw [cntF_eq]
    refine Nat.le_trans (foldl_le (q := fun r => decide (aftF ρ r a b = (0, 0))) (f := fun r => cntF ρ k (del m r) (aftF ρ r a b).1 (aftF ρ r a b).2) (n := 6 ^ k) (rsOf m) fun r _ => cntF_le ρ k _ _ _) ?_
    rw [Nat.pow_succ, Nat.mul_comm (6 ^ k) 6]
    exact Nat.mul_le_mul_right _ (rsOf_len m)
theorem manyF_fold (ρ : Rho) (k m : Nat) (a b : Int) (ih : ∀ (m : Nat) (a b o : Int), 0 ≤ o → o + 6 ^ k ≤ 1000000000 → manyF ρ k m a b o = o + cntF ρ k m a b) : ∀ (l : List Nat) (o : Int), 0 ≤ o → o + l.length * 6 ^ k ≤ 1000000000 →
    l.foldl (fun o r => if aftF ρ r a b = (0, 0) then o else manyF ρ k (del m r) (aftF ρ r a b).1 (aftF ρ r a b).2 o) o = o + ((l.foldl (fun s r => if (decide (aftF ρ r a b = (0, 0))) = true then s else s + cntF ρ k (del m r) (aftF ρ r a b).1 (aftF ρ r a b).2) 0 : Nat) : Int)
  | [], o, _, _ => by simp
  | r :: l, o, h0, hb => by
    simp only [List.foldl_cons, List.length_cons] at hb ⊢
    have hp : (0 : Int) ≤ 6 ^ k := Int.pow_nonneg (by omega)
    have hl : (0 : Int) ≤ (l.length : Int) * 6 ^ k := Int.mul_nonneg (by omega) hp
    have hm : ((l.length + 1 : Nat) : Int) * 6 ^ k = l.length * 6 ^ k + 6 ^ k := by rw [Int.natCast_add, Int.add_mul]; simp
    rw [hm] at hb
    rw [foldl_cnt (q := fun r => decide (aftF ρ r a b = (0, 0))) (f := fun r => cntF ρ k (del m r) (aftF ρ r a b).1 (aftF ρ r a b).2) l]
    by_cases he : aftF ρ r a b = (0, 0)
    · rw [if_pos he, if_pos (decide_eq_true he), manyF_fold ρ k m a b ih l o h0 (by omega)]
      simp
    · have hc := cntF_le ρ k (del m r) (aftF ρ r a b).1 (aftF ρ r a b).2
      have hc : (cntF ρ k (del m r) (aftF ρ r a b).1 (aftF ρ r a b).2 : Int) ≤ 6 ^ k := by exact_mod_cast hc
      rw [if_neg he, if_neg (by simpa using he), ih _ _ _ _ h0 (by omega), manyF_fold ρ k m a b ih l _ (by omega) (by omega)]
      push_cast
      omega
theorem manyF_cnt (ρ : Rho) : ∀ (k m : Nat) (a b o : Int), 0 ≤ o → o + 6 ^ k ≤ 1000000000 → manyF ρ k m a b o = o + cntF ρ k m a b
  | 0, _, _, _, o, h0, h1 => by
    have h1 : o + 1 ≤ 1000000000 := h1
    simp only [manyF, cntF]
    exact wrap_sm (by omega) (by omega)
  | k + 1, m, a, b, o, h0, h1 => by
    rw [manyF, cntF_eq]
    refine manyF_fold ρ k m a b (manyF_cnt ρ k) (rsOf m) o h0 ?_
    have hp : (0 : Int) ≤ 6 ^ k := Int.pow_nonneg (by omega)
    have hl : ((rsOf m).length : Int) ≤ 6 := by have := rsOf_len m; omega
    have := Int.mul_le_mul_of_nonneg_right hl hp
    have e : (6 : Int) ^ (k + 1) = 6 * 6 ^ k := by rw [Int.pow_succ, Int.mul_comm]
    omega
/-- each reel alone is an order -/
theorem single_ok {L : Nat} {ρ : Rho} (h : okA L ρ) {r : Nat} (hr : r < L) (hm : rsOf (2 ^ r) = [r]) (hv : ρ.iv (10 + 6 * r) ≤ ρ.iv (13 + 6 * r)) : noneF ρ 1 (2 ^ r) 0 100 = false := by
  have hk := (h r hr).1
  unfold reelOk at hk
  have : ¬ aftF ρ r 0 100 = (0, 0) := by
    rw [aftF_pos (by omega) (by omega)]
    intro e
    have := congrArg Prod.snd e
    simp only at this
    omega
  rw [noneF, hm]
  simp only [List.all_cons, List.all_nil, Bool.and_true, decide_eq_false this, Bool.false_or]
  rfl
end Go.Sx
/-! THE NAMES OF THE SEARCH, chosen so that they mean what they must. -/
namespace Go.Sx
open Go.RowKit Go.Proofs
set_option maxRecDepth 100000
noncomputable def fiW (ρ : Rho) (f : Nat) (a b c : Int) : Int :=
  if f = 3001 then (aftF ρ a.toNat b c).1 else if f = 3002 then (aftF ρ a.toNat b c).2
  else if 4100 ≤ f ∧ f < 4612 then (ordF ρ (cnt ((f - 4100) / 8)) ((f - 4100) / 8) a b).getD ((f - 4100) % 8) 0
  else if 5000 ≤ f ∧ f < 9200 then leftF ρ (cnt ((f - 5000) % 600 / 8)) ((f - 5000) / 600 - cnt ((f - 5000) % 600 / 8)) ((f - 5000) % 600 / 8) ((f - 5000) % 600 % 8) a b c
  else if 9500 ≤ f ∧ f < 9564 then manyF ρ (cnt (f - 9500)) (f - 9500) a b c else ρ.fi f a b c
noncomputable def fbW (ρ : Rho) (f : Nat) (a b c : Int) : Bool := if 4000 ≤ f ∧ f < 4064 then noneF ρ (cnt (f - 4000)) (f - 4000) a b else ρ.fb f a b c
/-- the film's numbers are the same -/
def LikeF (ρ ρ' : Rho) : Prop := ∀ j, j < 60 → ρ.iv j = ρ'.iv j
theorem aftF_like {ρ ρ' : Rho} (h : LikeF ρ ρ') {r : Nat} (hr : r < 6) (a b : Int) : aftF ρ r a b = aftF ρ' r a b := by
  unfold aftF
  rw [h (10 + 6 * r) (by omega), h (11 + 6 * r) (by omega), h (12 + 6 * r) (by omega), h (13 + 6 * r) (by omega)]
theorem noneF_like {ρ ρ' : Rho} (h : LikeF ρ ρ') : ∀ (k m : Nat) (a b : Int), noneF ρ k m a b = noneF ρ' k m a b
  | 0, _, _, _ => rfl
  | k + 1, m, a, b => by
    simp only [noneF]
    refine all_congr fun r hr => ?_
    rw [aftF_like h (rsOf_lt hr), noneF_like h k]
theorem ordF_like {ρ ρ' : Rho} (h : LikeF ρ ρ') : ∀ (k m : Nat) (a b : Int), ordF ρ k m a b = ordF ρ' k m a b
  | 0, _, _, _ => rfl
  | k + 1, m, a, b => by
    simp only [ordF]
    rw [find_congr (q := fun r => !(decide (aftF ρ' r a b = (0, 0)) || noneF ρ' k (del m r) (aftF ρ' r a b).1 (aftF ρ' r a b).2)) fun r hr => by rw [aftF_like h (rsOf_lt hr), noneF_like h k]]
    cases hf : (rsOf m).find? fun r => !(decide (aftF ρ' r a b = (0, 0)) || noneF ρ' k (del m r) (aftF ρ' r a b).1 (aftF ρ' r a b).2) with
    | none => rfl
    | some r =>
      simp only
      rw [aftF_like h (rsOf_lt (List.mem_of_find?_eq_some hf)), ordF_like h k]
theorem leftF_like {ρ ρ' : Rho} (h : LikeF ρ ρ') : ∀ (k p m j : Nat) (a b o : Int), leftF ρ k p m j a b o = leftF ρ' k p m j a b o
  | 0, _, _, _, _, _, _ => rfl
  | k + 1, p, m, j, a, b, o => by
    simp only [leftF]
    refine foldl_congr _ fun o r hr => ?_
    rw [aftF_like h (rsOf_lt hr), leftF_like h k]
theorem manyF_like {ρ ρ' : Rho} (h : LikeF ρ ρ') : ∀ (k m : Nat) (a b o : Int), manyF ρ k m a b o = manyF ρ' k m a b o
  | 0, _, _, _, _ => rfl
  | k + 1, m, a, b, o => by
    simp only [manyF]
    refine foldl_congr _ fun o r hr => ?_
    rw [aftF_like h (rsOf_lt hr), manyF_like h k]
theorem chainF_like {ρ ρ' : Rho} (h : LikeF ρ ρ') : ∀ (l : List Nat) (a b : Int), (∀ r ∈ l, r < 6) → chainF ρ l a b = chainF ρ' l a b
  | [], _, _, _ => rfl
  | r :: l, a, b, hl => by
    simp only [chainF]
    rw [aftF_like h (hl r List.mem_cons_self), chainF_like h l _ _ fun r hr => hl r (List.mem_cons_of_mem _ hr)]
/-- THE NAMES MEAN WHAT THEY MUST. -/
theorem okO_of {L : Nat} (hL : L ≤ 6) {ρ ρ0 : Rho} (h : LikeF ρ ρ0) (hfi : ρ.fi = fiW ρ0) (hfb : ρ.fb = fbW ρ0) (hr : ∀ r, r < L → reelOk ρ r) : okO L ρ := by
  have m64 : ∀ m, m < 2 ^ L → m < 64 := fun m hm => lt64 hL hm
  refine ⟨⟨fun r hrL => ⟨hr r hrL, fun a b => ?_⟩, fun m hm => ⟨fun a b => ?_, fun j a b hj => ?_, fun K j a b o hK hj => ?_⟩⟩, fun m hm a b o => ?_⟩
  · rw [hfi, aftF_like h (by omega)]
    unfold fiW
    rw [if_pos rfl, if_neg (by omega), if_pos rfl, Int.toNat_natCast]
    exact ⟨rfl, rfl⟩
  · rw [hfb, noneF_like h]
    have := m64 m hm
    unfold fbW
    rw [if_pos (by omega), Nat.add_sub_cancel_left]
  · rw [hfi, ordF_like h]
    have := m64 m hm
    unfold fiW
    rw [if_neg (by omega), if_neg (by omega), if_pos (by omega), show 4100 + 8 * m + j - 4100 = 8 * m + j by omega, show (8 * m + j) / 8 = m by omega, show (8 * m + j) % 8 = j by omega]
  · rw [hfi, leftF_like h]
    have := m64 m hm
    unfold fiW
    rw [if_neg (by omega), if_neg (by omega), if_neg (by omega), if_pos (by omega), show 5000 + 600 * K + 8 * m + j - 5000 = 600 * K + (8 * m + j) by omega, show (600 * K + (8 * m + j)) % 600 = 8 * m + j by omega, show (600 * K + (8 * m + j)) / 600 = K by omega,
      show (8 * m + j) / 8 = m by omega, show (8 * m + j) % 8 = j by omega]
  · rw [hfi, manyF_like h]
    have := m64 m hm
    unfold fiW
    rw [if_neg (by omega), if_neg (by omega), if_neg (by omega), if_neg (by omega), if_pos (by omega), Nat.add_sub_cancel_left]
end Go.Sx
/-! A VALID FILM, in the words of the search. -/
namespace Go.Sx
open Go.RowKit Go.Proofs
set_option maxRecDepth 100000
theorem fullM_lt0 {L : Nat} : fullM L < 2 ^ L := by
  have : 0 < 2 ^ L := Nat.two_pow_pos L
  show Nat.pow 2 L - 1 < 2 ^ L
  have e : Nat.pow 2 L = 2 ^ L := rfl
  omega
theorem fullM_cnt0 {L : Nat} (h0 : 1 ≤ L) (hL : L ≤ 6) : cnt (fullM L) = L := by
  rcases six h0 hL with rfl | rfl | rfl | rfl | rfl | rfl <;> rfl
theorem SameV.tup {ρ ρ' : Rho} {l l' : List AV} (h : SameL ρ l ρ' l') : SameV ρ (.tup l) ρ' (.tup l') := fun σ κ n m rc rc' => by simp only [conc, h σ κ n m rc rc']
theorem SameL.symm {ρ ρ' : Rho} {l l' : List AV} (h : SameL ρ l ρ' l') : SameL ρ' l' ρ l := fun σ κ n m rc rc' => (h σ κ m n rc' rc).symm
theorem csUp_mem {c : BE} : ∀ n b, c ∈ csUp n b ↔ (∃ r, r < n ∧ c ∈ reelC (b + 6 * r)) ∨ c ∈ restC
  | 0, b => ⟨.inr, fun h => by rcases h with ⟨r, h, _⟩ | h; omega; exact h⟩
  | n + 1, b => by
    simp only [csUp, List.mem_append, csUp_mem n (b + 6)]
    constructor
    · rintro (h | ⟨r, h1, h2⟩ | h)
      · exact .inl ⟨0, by omega, h⟩
      · exact .inl ⟨r + 1, by omega, by rw [show b + 6 * (r + 1) = b + 6 + 6 * r by omega]; exact h2⟩
      · exact .inr h
    · rintro (⟨r, h1, h2⟩ | h)
      · cases r with
        | zero => exact .inl h2
        | succ r => exact .inr (.inl ⟨r, by omega, by rw [show b + 6 + 6 * r = b + 6 * (r + 1) by omega]; exact h2⟩)
      · exact .inr (.inr h)
theorem reelC_den {ρ : Rho} {b : Nat} : (∀ c ∈ reelC b, c.den ρ = true) ↔ 0 ≤ ρ.iv b ∧ ρ.iv b ≤ ρ.iv (b + 1) ∧ ρ.iv (b + 1) ≤ 99 ∧ 0 ≤ ρ.iv (b + 2) ∧ ρ.iv (b + 2) ≤ ρ.iv (b + 3) ∧ ρ.iv (b + 3) ≤ 99 ∧ 1 ≤ ρ.iv (b + 4) ∧ ρ.iv (b + 4) ≤ ρ.iv (b + 5) ∧ ρ.iv (b + 5) ≤ 1200 ∧ ρ.iv b ≤ ρ.iv (b + 3) := by
  simp only [reelC, List.forall_mem_cons, le2, BE.t_leq, IE.den_lit, IE.den_var, List.not_mem_nil, false_implies, implies_true, and_true]
theorem restC_den {ρ : Rho} : (∀ c ∈ restC, c.den ρ = true) ↔ 1 ≤ ρ.iv 0 ∧ ρ.iv 0 ≤ ρ.iv 1 ∧ ρ.iv 1 ≤ 20 ∧ 0 ≤ ρ.iv 2 ∧ ρ.iv 2 ≤ ρ.iv 3 ∧ ρ.iv 3 ≤ 50 ∧ 1 ≤ ρ.iv 4 ∧ ρ.iv 4 ≤ 6000 := by
  simp only [restC, List.forall_mem_cons, le2, BE.t_leq, IE.den_lit, IE.den_var, List.not_mem_nil, false_implies, implies_true, and_true]
/-- what is so of a valid film, in the search's words -/
theorem film_of_cs {L : Nat} (h0 : 1 ≤ L) (hL : L ≤ 6) {ρ : Rho} (h : ∀ c ∈ csL L, c.den ρ = true) : okFilm L ρ ∧ ∀ r, r < L → reelOk ρ r := by
  have R := restC_den.1 fun c hc => h c ((csUp_mem L 10).2 (.inr hc))
  have U : ∀ r, r < L → _ := fun r hr => reelC_den.1 fun c hc => h c ((csUp_mem L 10).2 (.inl ⟨r, hr, hc⟩))
  have reel : ∀ r, r < L → 0 ≤ ρ.iv (10 + 6 * r) ∧ ρ.iv (10 + 6 * r) ≤ ρ.iv (11 + 6 * r) ∧ ρ.iv (11 + 6 * r) ≤ 99 ∧ 0 ≤ ρ.iv (12 + 6 * r) ∧ ρ.iv (12 + 6 * r) ≤ ρ.iv (13 + 6 * r) ∧ ρ.iv (13 + 6 * r) ≤ 99 ∧ 1 ≤ ρ.iv (14 + 6 * r) ∧ ρ.iv (14 + 6 * r) ≤ ρ.iv (15 + 6 * r) ∧ ρ.iv (15 + 6 * r) ≤ 1200 ∧ ρ.iv (10 + 6 * r) ≤ ρ.iv (13 + 6 * r) := fun r hr => by
    obtain ⟨u1, u2, u3, u4, u5, u6, u7, u8, u9, u10⟩ := U r hr
    rw [show 10 + 6 * r + 1 = 11 + 6 * r by omega] at u2 u3
    rw [show 10 + 6 * r + 2 = 12 + 6 * r by omega] at u4 u5
    rw [show 10 + 6 * r + 3 = 13 + 6 * r by omega] at u5 u6 u10
    rw [show 10 + 6 * r + 4 = 14 + 6 * r by omega] at u7 u8
    rw [show 10 + 6 * r + 5 = 15 + 6 * r by omega] at u8 u9
    exact ⟨u1, u2, u3, u4, u5, u6, u7, u8, u9, u10⟩
  obtain ⟨r1, r2, r3, r4, r5, r6, r7, r8⟩ := R
  refine ⟨⟨?_, ?_⟩, fun r hr => ?_⟩
  · rcases six h0 hL with rfl | rfl | rfl | rfl | rfl | rfl
    all_goals
      have q0 := reel 0 (by omega)
      try have q1 := reel 1 (by omega)
      try have q2 := reel 2 (by omega)
      try have q3 := reel 3 (by omega)
      try have q4 := reel 4 (by omega)
      try have q5 := reel 5 (by omega)
      clear U reel h
      simp only [Nat.mul_zero, Nat.mul_one, Nat.reduceMul, Nat.reduceAdd, Nat.add_zero] at *
      simp only [filmQ, upN, ivC, List.forall_mem_cons, BE.t_leq, IE.den_lit, IE.den_var, List.not_mem_nil, false_implies, implies_true, and_true, Nat.reduceMul, Nat.reduceAdd]
      omega
  · rcases six h0 hL with rfl | rfl | rfl | rfl | rfl | rfl
    all_goals
      have q0 := reel 0 (by omega)
      try have q1 := reel 1 (by omega)
      try have q2 := reel 2 (by omega)
      try have q3 := reel 3 (by omega)
      try have q4 := reel 4 (by omega)
      try have q5 := reel 5 (by omega)
      clear U reel h
      simp only [Nat.mul_zero, Nat.mul_one, Nat.reduceMul, Nat.reduceAdd, Nat.add_zero] at *
      simp only [filmC, upN, leV, List.forall_mem_cons, BE.t_leq, IE.den_var, List.not_mem_nil, false_implies, implies_true, and_true, Nat.reduceMul, Nat.reduceAdd]
      omega
  · obtain ⟨a1, a2, a3, a4, a5, a6, _⟩ := reel r hr
    exact ⟨a1, a2, a3, a4, a5, a6⟩
noncomputable def valE (e : IE) : AV := .tup [.int .i64 e, ln 0]
/-- the film that lies elsewhere -/
noncomputable def filmAt (c K : Nat) : AV := .agg [.sliceX c 6 0 K, vj 0, vj 1, vj 2, vj 3, vj 4]
noncomputable def v2 : List (Nat × AObj) := [(0, ro [li 1, li 20, li 0, li 50]), (1, ro [li 0, li 99, li 0, li 99, li 1, li 1200])]
end Go.Sx
