/- AN ORDER OF ALL REELS is one of all orders. -/
import Derived.Test.YtlaakbmimplceaaDoorRyPu
import Derived.Test.YtlaakbmimplceaaDoorSxMoved
/-! THE NAMES OF THE SEARCH, chosen so that they mean what they must. -/
namespace Go.Sx
open Go.RowKit Go.Proofs
set_option maxRecDepth 100000
noncomputable def fiW (ρ : Rho) (f : Nat) (a b c : Int) : Int :=
  if f = 3001 then (aftF ρ a.toNat b c).1 else if f = 3002 then (aftF ρ a.toNat b c).2
  else if 4100 ≤ f ∧ f < 4612 then (ordF ρ (cnt ((f - 4100) / 8)) ((f - 4100) / 8) a b).getD ((f - 4100) % 8) 0
  else if 5000 ≤ f ∧ f < 9200 then leftF ρ (cnt ((f - 5000) % 600 / 8)) ((f - 5000) / 600 - cnt ((f - 5000) % 600 / 8)) ((f - 5000) % 600 / 8) ((f - 5000) % 600 % 8) a b c
  else if 9500 ≤ f ∧ f < 9564 then manyF ρ (cnt (f - 9500)) (f - 9500) a b c else ρ.fi f a b c
noncomputable def fbW (ρ : Rho) (f : Nat) (a b c : Int) : Bool := if 4000 ≤ f ∧ f < 4064 then noneF ρ (cnt (f - 4000)) (f - 4000) a b else ρ.fb f a b c
/-- the film's numbers are the same -/
def LikeF (ρ ρ' : Rho) : Prop := ∀ j, j < 60 → ρ.iv j = ρ'.iv j
theorem aftF_like {ρ ρ' : Rho} (h : LikeF ρ ρ') {r : Nat} (hr : r < 6) (a b : Int) : aftF ρ r a b = aftF ρ' r a b := by
  unfold aftF
  rw [h (10 + 6 * r) (by omega), h (11 + 6 * r) (by omega), h (12 + 6 * r) (by omega), h (13 + 6 * r) (by omega)]
theorem noneF_like {ρ ρ' : Rho} (h : LikeF ρ ρ') : ∀ (k m : Nat) (a b : Int), noneF ρ k m a b = noneF ρ' k m a b
  | 0, _, _, _ => rfl
  | k + 1, m, a, b => by
    simp only [noneF]
    refine all_congr fun r hr => ?_
    rw [aftF_like h (rsOf_lt hr), noneF_like h k]
theorem ordF_like {ρ ρ' : Rho} (h : LikeF ρ ρ') : ∀ (k m : Nat) (a b : Int), ordF ρ k m a b = ordF ρ' k m a b
  | 0, _, _, _ => rfl
  | k + 1, m, a, b => by
    simp only [ordF]
    rw [find_congr (q := fun r => !(decide (aftF ρ' r a b = (0, 0)) || noneF ρ' k (del m r) (aftF ρ' r a b).1 (aftF ρ' r a b).2)) fun r hr => by rw [aftF_like h (rsOf_lt hr), noneF_like h k]]
    cases hf : (rsOf m).find? fun r => !(decide (aftF ρ' r a b = (0, 0)) || noneF ρ' k (del m r) (aftF ρ' r a b).1 (aftF ρ' r a b).2) with
    | none => rfl
    | some r =>
      simp only
      rw [aftF_like h (rsOf_lt (List.mem_of_find?_eq_some hf)), ordF_like h k]
theorem leftF_like {ρ ρ' : Rho} (h : LikeF ρ ρ') : ∀ (k p m j : Nat) (a b o : Int), leftF ρ k p m j a b o = leftF ρ' k p m j a b o
  | 0, _, _, _, _, _, _ => rfl
  | k + 1, p, m, j, a, b, o => by
    simp only [leftF]
    refine foldl_congr _ fun o r hr => ?_
    rw [aftF_like h (rsOf_lt hr), leftF_like h k]
theorem manyF_like {ρ ρ' : Rho} (h : LikeF ρ ρ') : ∀ (k m : Nat) (a b o : Int), manyF ρ k m a b o = manyF ρ' k m a b o
  | 0, _, _, _, _ => rfl
  | k + 1, m, a, b, o => by
    simp only [manyF]
    refine foldl_congr _ fun o r hr => ?_
    rw [aftF_like h (rsOf_lt hr), manyF_like h k]
theorem chainF_like {ρ ρ' : Rho} (h : LikeF ρ ρ') : ∀ (l : List Nat) (a b : Int), (∀ r ∈ l, r < 6) → chainF ρ l a b = chainF ρ' l a b
  | [], _, _, _ => rfl
  | r :: l, a, b, hl => by
    simp only [chainF]
    rw [aftF_like h (hl r List.mem_cons_self), chainF_like h l _ _ fun r hr => hl r (List.mem_cons_of_mem _ hr)]
/-- THE NAMES MEAN WHAT THEY MUST. -/
theorem okO_of {L : Nat} (hL : L ≤ 6) {ρ ρ0 : Rho} (h : LikeF ρ ρ0) (hfi : ρ.fi = fiW ρ0) (hfb : ρ.fb = fbW ρ0) (hr : ∀ r, r < L → reelOk ρ r) : okO L ρ := by
  have m64 : ∀ m, m < 2 ^ L → m < 64 := fun m hm => lt64 hL hm
  refine ⟨⟨fun r hrL => ⟨hr r hrL, fun a b => ?_⟩, fun m hm => ⟨fun a b => ?_, fun j a b hj => ?_, fun K j a b o hK hj => ?_⟩⟩, fun m hm a b o => ?_⟩
  · rw [hfi, aftF_like h (by omega)]
    unfold fiW
    rw [if_pos rfl, if_neg (by omega), if_pos rfl, Int.toNat_natCast]
    exact ⟨rfl, rfl⟩
  · rw [hfb, noneF_like h]
    have := m64 m hm
    unfold fbW
    rw [if_pos (by omega), Nat.add_sub_cancel_left]
  · rw [hfi, ordF_like h]
    have := m64 m hm
    unfold fiW
    rw [if_neg (by omega), if_neg (by omega), if_pos (by omega), show 4100 + 8 * m + j - 4100 = 8 * m + j by omega, show (8 * m + j) / 8 = m by omega, show (8 * m + j) % 8 = j by omega]
  · rw [hfi, leftF_like h]
    have := m64 m hm
    unfold fiW
    rw [if_neg (by omega), if_neg (by omega), if_neg (by omega), if_pos (by omega), show 5000 + 600 * K + 8 * m + j - 5000 = 600 * K + (8 * m + j) by omega, show (600 * K + (8 * m + j)) % 600 = 8 * m + j by omega, show (600 * K + (8 * m + j)) / 600 = K by omega,
      show (8 * m + j) / 8 = m by omega, show (8 * m + j) % 8 = j by omega]
  · rw [hfi, manyF_like h]
    have := m64 m hm
    unfold fiW
    rw [if_neg (by omega), if_neg (by omega), if_neg (by omega), if_neg (by omega), if_pos (by omega), Nat.add_sub_cancel_left]
end Go.Sx
/-! AN ORDER OF ALL REELS is one of all orders. -/
namespace Go.Sx
open Go.RowKit Go.Proofs
set_option maxRecDepth 100000
noncomputable def delCk (m : Nat) : Bool := lAll (fun r => cond (bt m r) (lAll (fun s => cond (bt m s) (cond (Nat.beq s r) true (bt (del m r) s)) true) (upN 6 0)) true) (upN 6 0)
theorem delCk_all : lAll delCk (upN 64 0) = true := by kernel_rfl
theorem del_bt {m r s : Nat} (hm : m < 64) (hr : r < 6) (hs : s < 6) (br : bt m r = true) (bs : bt m s = true) (h : s ≠ r) : bt (del m r) s = true := by
  have k : delCk m = true := lAll_at delCk_all (Nat.zero_le m) (by omega)
  have k := lAll_at k (Nat.zero_le r) (show r < 0 + 6 by omega)
  rw [br, cond_true] at k
  have k := lAll_at k (Nat.zero_le s) (show s < 0 + 6 by omega)
  rw [bs, cond_true, beq_f.2 h, cond_false] at k
  exact k
theorem mem_lFilter {p : Nat → Bool} {l : List Nat} {a : Nat} (h : a ∈ l) (hp : p a = true) : a ∈ lFilter p l := by rw [lFilter_eq]; exact List.mem_filter.2 ⟨h, hp⟩
theorem permsM_mem : ∀ (k m : Nat) (l : List Nat), m < 64 → cnt m = k → l.length = k → l.Nodup → (∀ r ∈ l, r < 6 ∧ bt m r = true) → l ∈ permsM k m
  | 0, m, l, _, _, hl, _, _ => by
    rw [permsM, List.mem_singleton]
    exact List.length_eq_zero_iff.1 hl
  | k + 1, m, [], _, _, hl, _, _ => by simp at hl
  | k + 1, m, r :: l, hm, hc, hl, hn, hb => by
    obtain ⟨hr, br⟩ := hb r List.mem_cons_self
    have hr2 : r ∈ rsOf m := mem_lFilter (mem_upN 6 0 r (Nat.zero_le _) (by omega)) br
    have f := (facts_of (L := 6) (Nat.le_refl _) (show m < 2 ^ 6 from hm)).1 r hr2
    obtain ⟨n1, n2⟩ := List.nodup_cons.1 hn
    rw [permsM, List.mem_flatMap]
    refine ⟨r, hr2, List.mem_map.2 ⟨l, permsM_mem k (del m r) l f.2.1 (by omega) (by simpa using hl) n2 fun s hs => ?_, rfl⟩⟩
    obtain ⟨hs6, bs⟩ := hb s (List.mem_cons_of_mem _ hs)
    exact ⟨hs6, del_bt hm hr hs6 br bs fun e => n1 (e ▸ hs)⟩
theorem memA_eq (n : Nat) : ∀ l, memA n l = true ↔ n ∈ l
  | [] => by simp [memA]
  | m :: l => by
    simp only [memA, List.mem_cons]
    cases h : Nat.beq n m with
    | true => simp [beq_t.1 h]
    | false => have := beq_f.1 h; simp [this, memA_eq n l]
theorem permA_ok {L : Nat} : ∀ l, permA L l = true → l.Nodup ∧ ∀ r ∈ l, r < L
  | [], _ => ⟨List.nodup_nil, fun r h => by cases h⟩
  | n :: l, h => by
    simp only [permA, Bool.and_eq_true] at h
    obtain ⟨h1, h2, h3⟩ := h
    obtain ⟨i1, i2⟩ := permA_ok l h3
    have hm : ¬ n ∈ l := fun hh => by
      rw [(memA_eq n l).2 hh] at h2; cases h2
    refine ⟨List.nodup_cons.2 ⟨hm, i1⟩, fun r hr => ?_⟩
    rcases List.mem_cons.1 hr with rfl | hr
    · have := ble_t.1 h1; omega
    · exact i2 r hr
noncomputable def fullCk (L : Nat) : Bool := lAll (fun r => bt (Nat.pow 2 L - 1) r) (upN L 0)
theorem fullCk_all : lAll fullCk (upN 6 1) = true := by kernel_rfl
theorem perm_mem {L : Nat} (h0 : 1 ≤ L) (hL : L ≤ 6) {l : List Nat} (h : permA L l = true) (hl : l.length = L) : l ∈ permsM L (Nat.pow 2 L - 1) := by
  obtain ⟨h1, h2⟩ := permA_ok l h
  have hc : cnt (Nat.pow 2 L - 1) = L := by rcases six h0 hL with rfl | rfl | rfl | rfl | rfl | rfl <;> rfl
  have hf : fullCk L = true := lAll_at fullCk_all h0 (by omega)
  refine permsM_mem L _ l ?_ hc hl h1 fun r hr => ⟨by have := h2 r hr; omega, lAll_at (p := fun r => bt (Nat.pow 2 L - 1) r) hf (Nat.zero_le r) (by have := h2 r hr; omega)⟩
  rcases six h0 hL with rfl | rfl | rfl | rfl | rfl | rfl <;> decide
end Go.Sx
