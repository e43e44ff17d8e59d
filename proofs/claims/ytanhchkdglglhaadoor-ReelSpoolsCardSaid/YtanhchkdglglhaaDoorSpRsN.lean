/- THE LAW OF THE SPOOLS: its names. -/
import Derived.Test.YtanhchkdglglhaaDoorSpRsS1
import Derived.Test.YtanhchkdglglhaaDoorSpRsC3
import Derived.Test.YtanhchkdglglhaaDoorSpRtA7
import Derived.Test.YtanhchkdglglhaaDoorSpRtC2
import Derived.Test.YtanhchkdglglhaaDoorSpRtC3
/-! THE LAW OF THE SPOOLS: its names. -/
namespace Go.Sx
open Go.RowKit Go.Proofs
set_option maxRecDepth 100000
/-- feet that are left, as the names say -/
def wornF (had n torn : Int) : Int := if had - n * torn > 0 then had - n * torn else 0
def InL (L : Nat) : Prop := L = 1 ∨ L = 2 ∨ L = 3 ∨ L = 4 ∨ L = 5 ∨ L = 6
theorem shuf_all {L : Nat} (h : InL L) : shufCk L = true := by
  rcases h with rfl | rfl | rfl | rfl | rfl | rfl
  · exact shuf1
  · exact shuf2
  · exact shuf3
  · exact shuf4
  · exact shuf5
  · exact shuf6
theorem inL_le {L : Nat} (h : InL L) : 1 ≤ L ∧ L ≤ 6 := by
  rcases h with rfl | rfl | rfl | rfl | rfl | rfl <;> omega
theorem films_all {L : Nat} (h : InL L) : filmsCk L = true ∧ stE (reelsE L) = true := by
  rcases h with rfl | rfl | rfl | rfl | rfl | rfl
  · exact ⟨films1, reelsSt1⟩
  · exact ⟨films2, reelsSt2⟩
  · exact ⟨films3, reelsSt3⟩
  · exact ⟨films4, reelsSt4⟩
  · exact ⟨films5, reelsSt5⟩
  · exact ⟨films6, reelsSt6⟩
theorem sps_all {L : Nat} (h : InL L) : spsCk L = true ∧ eCk L = true := by
  rcases h with rfl | rfl | rfl | rfl | rfl | rfl
  · exact ⟨sps1, es1⟩
  · exact ⟨sps2, es2⟩
  · exact ⟨sps3, es3⟩
  · exact ⟨sps4, es4⟩
  · exact ⟨sps5, es5⟩
  · exact ⟨sps6, es6⟩
/-! ## Orders -/
theorem permsUp_mem {L : Nat} : ∀ l : List Nat, permA L l = true → l ∈ permsUp L l.length
  | [], _ => List.mem_singleton.2 rfl
  | n :: l, h => by
    simp only [permA, Bool.and_eq_true] at h
    obtain ⟨h1, h2, h3⟩ := h
    simp only [List.length_cons, permsUp, List.mem_flatMap, List.mem_map, List.mem_filter]
    exact ⟨n, (upTo_mem _ _).2 (ble_t.1 h1), l, ⟨permsUp_mem l h3, h2⟩, rfl⟩
theorem permA_lt {L : Nat} : ∀ l : List Nat, permA L l = true → ∀ n ∈ l, n < L
  | [], _, n, hn => (List.not_mem_nil hn).elim
  | m :: l, h, n, hn => by
    simp only [permA, Bool.and_eq_true] at h
    rcases List.mem_cons.1 hn with rfl | hn
    · exact ble_t.1 h.1
    · exact permA_lt l h.2.2 n hn
theorem reels_all {L : Nat} (h : InL L) {l : List Nat} (hl : l ∈ permsUp L L) : reelsCkP L l = true := by
  have six : L = 6 → reelsCkP L l = true := by
    rintro rfl
    have hd : ∃ k, k < 6 ∧ headQ k l = true := by
      simp only [permsUp, List.mem_flatMap, List.mem_map] at hl
      obtain ⟨k, hk, l', _, rfl⟩ := hl
      exact ⟨k, (upTo_mem _ _).1 hk, beq_t.2 rfl⟩
    obtain ⟨k, hk, hd⟩ := hd
    have hm : l ∈ (permsUp 6 6).filter (headQ k) := List.mem_filter.2 ⟨hl, hd⟩
    have hk' : k = 0 ∨ k = 1 ∨ k = 2 ∨ k = 3 ∨ k = 4 ∨ k = 5 := by omega
    rcases hk' with rfl | rfl | rfl | rfl | rfl | rfl
    · exact lAll_mem reels6_0 l hm
    · exact lAll_mem reels6_1 l hm
    · exact lAll_mem reels6_2 l hm
    · exact lAll_mem reels6_3 l hm
    · exact lAll_mem reels6_4 l hm
    · exact lAll_mem reels6_5 l hm
  rcases h with rfl | rfl | rfl | rfl | rfl | rfl
  · exact lAll_mem reels1 l hl
  · exact lAll_mem reels2 l hl
  · exact lAll_mem reels3 l hl
  · exact lAll_mem reels4 l hl
  · exact lAll_mem reels5 l hl
  · exact six rfl
/-- the order is one of all reels, each once -/
theorem order_ok {L : Nat} (h : InL L) {ρ : Rho} (hS : OkSh L ρ) : permA L (orderOf L ρ) = true ∧ (orderOf L ρ).length = L := by
  have hold : (shufRun L).Holds ρ (fun r => ∃ K, shufQ L K r = true) := allW_ok (R := []) (Q := shufQ L) (rules_nil ρ) (fun K a _ h => ⟨K, h⟩) _ _ (knOf_ok (fun c hc => by simp [ivC] at hc) (turnBd_ok hS)) (shuf_all h)
  obtain ⟨r1, hleaf, K, hq⟩ := T.holds_leaf _ hold
  unfold shufQ at hq
  split at hq
  · rename_i q hB
    split at hq
    · rename_i l hl
      obtain ⟨b1, cs⟩ := q
      obtain ⟨_, _, _, e4⟩ := shufB_some hB
      have ho : orderOf L ρ = l := by unfold orderOf; rw [hleaf]; simp only [hB, hl]
      rw [ho]
      refine ⟨hq, ?_⟩
      have : ∀ (cs : List AV) (l : List Nat), litsA cs = some l → l.length = cs.length := by
        intro cs
        induction cs with
        | nil => intro l h; simp only [litsA, Option.some.injEq] at h; subst h; rfl
        | cons a cs ih =>
          intro l h
          simp only [litsA] at h
          split at h
          · rename_i n m h1 h2; cases h; simp [ih m h2]
          · cases h
      rw [this cs l hl]; exact e4
    · cases hq
  · cases hq
theorem x_at {L : Nat} (h : InL L) {ρ : Rho} (hS : OkSh L ρ) {i : Nat} (hi : i < L) : ∃ k : Nat, k < L ∧ (orderOf L ρ)[i]? = some k ∧ ρ.iv (110 + i) = k := by
  obtain ⟨h1, h2⟩ := order_ok h hS
  have hlt : i < (orderOf L ρ).length := by rw [h2]; exact hi
  have he : (orderOf L ρ)[i]? = some ((orderOf L ρ)[i]) := List.getElem?_eq_getElem hlt
  exact ⟨_, permA_lt _ h1 _ (List.getElem_mem hlt), he, hS.names i _ he⟩
theorem xC_ok {L : Nat} (h : InL L) {ρ : Rho} (hS : OkSh L ρ) {i : Nat} (hi : i < L) : ∀ c ∈ xC L i, c.den ρ = true := by
  obtain ⟨k, hk, _, hx⟩ := x_at h hS hi
  intro c hc
  simp only [xC, List.mem_cons, List.not_mem_nil, or_false] at hc
  rcases hc with rfl | rfl
  · rw [BE.t_leq, IE.den_lit, IE.den_var, hx]; omega
  · rw [BE.t_leq, IE.den_lit, IE.den_var, hx]; simp only [Int.ofNat_eq_natCast]; omega
theorem pinQ_ok {ρ : Rho} : ∀ (l : List Nat) (i : Nat), (∀ (j n : Nat), l[j]? = some n → ρ.iv (i + j) = n) → ∀ c ∈ ivC (pinQ i l), c.den ρ = true
  | [], _, _, c, hc => by simp [pinQ, ivC] at hc
  | n :: l, i, hn, c, hc => by
    simp only [pinQ, ivC, List.mem_cons] at hc
    have h0 := hn 0 n rfl
    rcases hc with rfl | rfl | hc
    · rw [BE.t_leq, IE.den_lit, IE.den_var]; rw [show ρ.iv i = (n : Int) from h0]; exact Int.le_refl _
    · rw [BE.t_leq, IE.den_lit, IE.den_var]; rw [show ρ.iv i = (n : Int) from h0]; exact Int.le_refl _
    · exact pinQ_ok l (i + 1) (fun j n' hj => by
        have := hn (j + 1) n' (by simpa using hj)
        rw [show i + 1 + j = i + (j + 1) by omega]; exact this) c hc
theorem chain_leaf {ρ : Rho} {x : Nat} {e : Nat → AV} : ∀ (n k : Nat), k < n → ρ.iv x = k → (chainT x e n).leaf ρ = some (e k)
  | 0, k, h, _ => by omega
  | n + 1, k, h, hx => by
    simp only [chainT, T.leaf]
    split
    · rename_i hc
      rw [BE.t_leq, IE.den_lit, IE.den_var, hx] at hc
      simp only [Int.ofNat_eq_natCast] at hc
      rw [show k = n by omega]
    · rename_i hc
      rw [BE.t_leq, IE.den_lit, IE.den_var, hx] at hc
      simp only [Int.ofNat_eq_natCast] at hc
      exact chain_leaf n k (by omega) hx
theorem reelsX_all {L : Nat} (h : InL L) {l : List Nat} (hl : l ∈ permsUp L L) : reelsCkX L spX l = true := by
  have six : L = 6 → reelsCkX L spX l = true := by
    rintro rfl
    have hd : ∃ k, k < 6 ∧ headQ k l = true := by
      simp only [permsUp, List.mem_flatMap, List.mem_map] at hl
      obtain ⟨k, hk, l', _, rfl⟩ := hl
      exact ⟨k, (upTo_mem _ _).1 hk, beq_t.2 rfl⟩
    obtain ⟨k, hk, hd⟩ := hd
    have hm : l ∈ (permsUp 6 6).filter (headQ k) := List.mem_filter.2 ⟨hl, hd⟩
    have hk' : k = 0 ∨ k = 1 ∨ k = 2 ∨ k = 3 ∨ k = 4 ∨ k = 5 := by omega
    rcases hk' with rfl | rfl | rfl | rfl | rfl | rfl
    · exact lAll_mem reelsX6_0 l hm
    · exact lAll_mem reelsX6_1 l hm
    · exact lAll_mem reelsX6_2 l hm
    · exact lAll_mem reelsX6_3 l hm
    · exact lAll_mem reelsX6_4 l hm
    · exact lAll_mem reelsX6_5 l hm
  rcases h with rfl | rfl | rfl | rfl | rfl | rfl
  · exact lAll_mem reelsX1 l hl
  · exact lAll_mem reelsX2 l hl
  · exact lAll_mem reelsX3 l hl
  · exact lAll_mem reelsX4 l hl
  · exact lAll_mem reelsX5 l hl
  · exact six rfl
theorem csUp_mem {ρ : Rho} : ∀ (n b : Nat), (∀ c ∈ csUp n b, c.den ρ = true) → (∀ i, i < n → ∀ c ∈ reelC (b + 6 * i), c.den ρ = true) ∧ ∀ c ∈ restC, c.den ρ = true
  | 0, b, H => ⟨fun i hi => by omega, H⟩
  | n + 1, b, H => by
    simp only [csUp, List.mem_append] at H
    obtain ⟨h1, h2⟩ := csUp_mem n (b + 6) (fun c hc => H c (.inr hc))
    refine ⟨fun i hi c hc => ?_, h2⟩
    cases i with
    | zero => exact H c (.inl hc)
    | succ i => exact h1 i (by omega) c (by rw [show b + 6 + 6 * i = b + 6 * (i + 1) by omega]; exact hc)
/-- the numbers of a valid film -/
theorem film_facts {L : Nat} {ρ : Rho} (H : ∀ c ∈ csL L, c.den ρ = true) : (∀ k, k < L → 1 ≤ ρ.iv (hadV k 0) ∧ ρ.iv (hadV k 0) ≤ ρ.iv (hadV k 1) ∧ ρ.iv (hadV k 1) ≤ 1200) ∧ 1 ≤ ρ.iv 0 ∧ ρ.iv 0 ≤ ρ.iv 1 ∧ ρ.iv 1 ≤ 20 ∧ 0 ≤ ρ.iv 2 ∧ ρ.iv 2 ≤ ρ.iv 3 ∧ ρ.iv 3 ≤ 50 ∧ 1 ≤ ρ.iv 4 ∧ ρ.iv 4 ≤ 6000 := by
  obtain ⟨h1, h2⟩ := csUp_mem L 10 H
  simp only [restC, le2, List.mem_cons, List.not_mem_nil, or_false, forall_eq_or_imp, forall_eq, BE.t_leq, IE.den_lit, IE.den_var] at h2
  refine ⟨fun k hk => ?_, h2⟩
  have h1 := h1 k hk
  simp only [reelC, le2, List.mem_cons, List.not_mem_nil, or_false, forall_eq_or_imp, forall_eq, BE.t_leq, IE.den_lit, IE.den_var] at h1
  obtain ⟨_, _, _, _, _, _, a7, a8, a9, _⟩ := h1
  rw [show 10 + 6 * k + 4 = hadV k 0 by simp only [hadV]; omega] at a7 a8
  rw [show 10 + 6 * k + 5 = hadV k 1 by simp only [hadV]; omega] at a8 a9
  exact ⟨a7, a8, a9⟩
theorem wornF_le {a b n s t : Int} (h : a ≤ b) (hn : 0 ≤ n) (hst : t ≤ s) : wornF a n s ≤ wornF b n t := by
  have := Int.mul_le_mul_of_nonneg_left hst hn
  unfold wornF
  split <;> split <;> omega
theorem wornF_in {a n s : Int} (hn : 0 ≤ n) (hs : 0 ≤ s) (ha : 0 ≤ a) : 0 ≤ wornF a n s ∧ wornF a n s ≤ a := by
  have := Int.mul_nonneg hn hs
  unfold wornF
  split <;> omega
theorem prod_in {n s : Int} (hn : 0 ≤ n) (hn2 : n ≤ 199) (hs : 0 ≤ s) (hs2 : s ≤ 50) : 0 ≤ n * s ∧ n * s ≤ 9950 := by
  have h1 := Int.mul_nonneg hn hs
  have h2 : n * s ≤ 199 * 50 := Int.mul_le_mul hn2 hs2 hs (by omega)
  omega
/-- what the call of Spools ends with -/
def spForm (ok : Bool) (c : Nat) (r : AV × Heap) : Prop := match ok with
  | true => ∃ b cs, r.1 = .tup [.sliceX b 1 0 c, li 0] ∧ 2000 ≤ b ∧ r.2.get b = some (.cells cs 3 true true)
  | false => r.1 = .tup [.nilslice, li 4]
structure OkS (L : Nat) (bm bk : Bool) (ρ : Rho) (m : Nat → Obj → Prop) : Prop where
  pick : okPick ρ m
  sh : OkSh L ρ
  film : ∀ c ∈ csL L, c.den ρ = true
  n : ρ.iv 140 = turnF (ρ.iv 87) 200 ∧ ρ.iv 141 = turnF (ρ.iv 88) 900 ∧ ρ.iv 142 = turnF (ρ.iv 89) 60
  worn : ∀ i, i < L → ∀ k : Nat, k < L → ρ.iv (110 + i) = k → ρ.iv (120 + i) = wornF (ρ.iv (hadV k 0)) (ρ.iv 140) (ρ.iv 3) ∧ ρ.iv (130 + i) = wornF (ρ.iv (hadV k 1)) (ρ.iv 140) (ρ.iv 2) ∧
    ρ.iv (180 + i) = wornF (ρ.iv (hadV k 0)) (ρ.iv 140 + ρ.iv 142) (ρ.iv 3) ∧ ρ.iv (190 + i) = wornF (ρ.iv (hadV k 1)) (ρ.iv 140 + ρ.iv 142) (ρ.iv 2)
  bit : ∀ i, i < L → ρ.iv (200 + i) = turnF (ρ.fi 1000 i 0 0) 3
  cm : ρ.iv 97 = cntF ρ L spX 130
  ck : ρ.iv 98 = cntF ρ L (.var 4) 190
  rm : ∃ r, (spRun L spX (.var 140)).leaf ρ = some r ∧ spForm bm (cntF ρ L spX 130) r
  rk : ∃ r, (spRun L (.var 4) nK).leaf ρ = some r ∧ spForm bk (cntF ρ L (.var 4) 190) r
noncomputable def pS (L : Nat) (bm bk : Bool) : Par := ⟨Tryd.prog, rcOf Tryd.rows, OkS L bm bk⟩
/-- what is so of the names -/
structure Nums (L : Nat) (ρ : Rho) : Prop where
  film : 1 ≤ ρ.iv 4 ∧ ρ.iv 4 ≤ 6000 ∧ 0 ≤ ρ.iv 2 ∧ ρ.iv 2 ≤ ρ.iv 3 ∧ ρ.iv 3 ≤ 50
  n : (0 ≤ ρ.iv 140 ∧ ρ.iv 140 ≤ 199) ∧ (0 ≤ ρ.iv 141 ∧ ρ.iv 141 ≤ 899) ∧ (0 ≤ ρ.iv 142 ∧ ρ.iv 142 ≤ 59)
  w : ∀ i, i < L → 0 ≤ ρ.iv (120 + i) ∧ ρ.iv (120 + i) ≤ ρ.iv (130 + i) ∧ ρ.iv (130 + i) ≤ 1200
  w2 : ∀ i, i < L → 0 ≤ ρ.iv (190 + i) ∧ ρ.iv (190 + i) ≤ ρ.iv (130 + i)
  sp : spX.den ρ = (if ρ.iv 4 + ρ.iv 141 < 6000 then ρ.iv 4 + ρ.iv 141 else 6000)
  nk : nK.den ρ = ρ.iv 140 + ρ.iv 142
theorem nums_of {L : Nat} (hL : InL L) {ρ : Rho} (hsh : OkSh L ρ) (hfilm : ∀ c ∈ csL L, c.den ρ = true) (hn : ρ.iv 140 = turnF (ρ.iv 87) 200 ∧ ρ.iv 141 = turnF (ρ.iv 88) 900 ∧ ρ.iv 142 = turnF (ρ.iv 89) 60)
    (hw : ∀ i, i < L → ∀ k : Nat, k < L → ρ.iv (110 + i) = k → ρ.iv (120 + i) = wornF (ρ.iv (hadV k 0)) (ρ.iv 140) (ρ.iv 3) ∧ ρ.iv (130 + i) = wornF (ρ.iv (hadV k 1)) (ρ.iv 140) (ρ.iv 2) ∧
    ρ.iv (180 + i) = wornF (ρ.iv (hadV k 0)) (ρ.iv 140 + ρ.iv 142) (ρ.iv 3) ∧ ρ.iv (190 + i) = wornF (ρ.iv (hadV k 1)) (ρ.iv 140 + ρ.iv 142) (ρ.iv 2)) : Nums L ρ := by
  obtain ⟨f1, f2, f3, f4, f5, f6, f7, f8, f9⟩ := film_facts hfilm
  have n1 := turnF_in (n := ρ.iv 87) (m := 200) (by omega)
  have n2 := turnF_in (n := ρ.iv 88) (m := 900) (by omega)
  have n3 := turnF_in (n := ρ.iv 89) (m := 60) (by omega)
  rw [← hn.1] at n1; rw [← hn.2.1] at n2; rw [← hn.2.2] at n3
  refine ⟨⟨f8, f9, f5, f6, f7⟩, ⟨by omega, by omega, by omega⟩, fun i hi => ?_, fun i hi => ?_, ?_, ?_⟩
  · obtain ⟨k, hk, _, hx⟩ := x_at hL hsh hi
    obtain ⟨q1, q2, _, _⟩ := hw i hi k hk hx
    obtain ⟨g1, g2, g3⟩ := f1 k hk
    rw [q1, q2]
    have a1 := wornF_in (a := ρ.iv (hadV k 0)) (n := ρ.iv 140) n1.1 (s := ρ.iv 3) (by omega) (by omega)
    have a2 := wornF_in (a := ρ.iv (hadV k 1)) (n := ρ.iv 140) n1.1 (s := ρ.iv 2) (by omega) (by omega)
    have a3 := wornF_le (n := ρ.iv 140) g2 n1.1 f6
    omega
  · obtain ⟨k, hk, _, hx⟩ := x_at hL hsh hi
    obtain ⟨_, q2, _, q4⟩ := hw i hi k hk hx
    obtain ⟨g1, g2, g3⟩ := f1 k hk
    rw [q2, q4]
    have a2 := wornF_in (a := ρ.iv (hadV k 1)) (n := ρ.iv 140 + ρ.iv 142) (by omega) (s := ρ.iv 2) (by omega) (by omega)
    have a3 : (ρ.iv 140) * ρ.iv 2 ≤ (ρ.iv 140 + ρ.iv 142) * ρ.iv 2 := Int.mul_le_mul_of_nonneg_right (by omega) f5
    refine ⟨a2.1, ?_⟩
    unfold wornF
    split <;> split <;> omega
  · show (if IntKind.i64.wrap (ρ.iv 4 + ρ.iv 141) < 6000 then IntKind.i64.wrap (ρ.iv 4 + ρ.iv 141) else 6000) = _
    rw [IntWalk.i64_in _ (by omega)]
  · show IntKind.i64.wrap (ρ.iv 140 + ρ.iv 142) = _
    exact IntWalk.i64_in _ (by omega)
end Go.Sx
