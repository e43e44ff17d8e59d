/- MxX -/
import Derived.Test.YtlaakbmimplceaaDoorMxU
import Derived.Test.YtlaakbmimplceaaDoorMxT5
import Derived.Test.YtlaakbmimplceaaDoorMxT6
import Derived.Test.YtlaakbmimplceaaDoorMxW
namespace Go.Sx
noncomputable section
open Go.RowKit Go.Proofs
set_option maxRecDepth 100000
theorem lawMx_all {L lo n : Nat} (h0 : 1 ≤ L) (hL : L ≤ 6) (hn : 1 ≤ n) (hlo : lo + n ≤ L) : lawMx L lo n = true := by
 have row : lawMxL L lo = true → lawMx L lo n = true := fun h => lAll_at h hn (by omega)
 rcases six h0 hL with rfl | rfl | rfl | rfl | rfl | rfl
 ·exact row (lAll_at lawMx1 (Nat.zero_le _) (by omega))
 ·exact row (lAll_at lawMx2 (Nat.zero_le _) (by omega))
 ·have : lo = 0 ∨ lo = 1 ∨ lo = 2 := by omega
  rcases this with rfl | rfl | rfl
  ·exact row lawMx3_0
  ·exact row lawMx3_1
  ·exact row lawMx3_2
 ·have : lo = 0 ∨ lo = 1 ∨ lo = 2 ∨ lo = 3 := by omega
  rcases this with rfl | rfl | rfl | rfl
  ·exact row lawMx4_0
  ·exact row lawMx4_1
  ·exact row lawMx4_2
  ·exact row lawMx4_3
 ·have : lo = 0 ∨ lo = 1 ∨ lo = 2 ∨ lo = 3 ∨ lo = 4 := by omega
  rcases this with rfl | rfl | rfl | rfl | rfl
  ·exact row lawMx5_0
  ·exact row lawMx5_1
  ·exact row lawMx5_2
  ·exact row lawMx5_3
  ·exact row lawMx5_4
 ·have : lo = 0 ∨ lo = 1 ∨ lo = 2 ∨ lo = 3 ∨ lo = 4 ∨ lo = 5 := by omega
  rcases this with rfl | rfl | rfl | rfl | rfl | rfl
  ·exact row lawMx6_0
  ·exact row lawMx6_1
  ·exact row lawMx6_2
  ·exact row lawMx6_3
  ·exact row lawMx6_4
  ·exact row lawMx6_5
theorem ltM_at : ∀ (i : Nat) (l m : List Nat) (a b : Nat), (∀ j, j < i → l[j]? = m[j]?) → l[i]? = some a → m[i]? = some b → a < b → ltL l m = true
 | 0, x :: l, y :: m, a, b, _, h1, h2, hab => by
  simp only [List.getElem?_cons_zero, Option.some.injEq] at h1 h2
  subst h1; subst h2
  simp only [ltL]
  rw [if_neg (by omega)]
  exact decide_eq_true hab
 | i + 1, x :: l, y :: m, a, b, h, h1, h2, hab => by
  have := h 0 (by omega)
  simp only [List.getElem?_cons_zero, Option.some.injEq] at this
  simp only [ltL]
  rw [if_pos this]
  simp only [List.getElem?_cons_succ] at h1 h2
  exact ltM_at i l m a b (fun j hj => by have := h (j + 1) (by omega); simpa using this) h1 h2 hab
 | 0, [], _, _, _, _, h, _, _ => by simp at h
 | i + 1, [], _, _, _, _, h, _, _ => by simp at h
 | 0, _ :: _, [], _, _, _, _, h, _ => by simp at h
 | i + 1, _ :: _, [], _, _, _, _, h, _ => by simp at h
theorem befMx_ok {L : Nat} (h0 : 1 ≤ L) (hL : L ≤ 6) {ρ : Rho} (h : OkMx L ρ) : RulesOk ρ (befMx L) := by
 intro r hr hp
 exfalso
 unfold befMx at hr
 rw [lMap_eq] at hr
 obtain ⟨i, hi, rfl⟩ := List.mem_map.1 hr
 have hi := mem_up hi
 obtain ⟨l1, m1, m2, m3, m4⟩ := ordF_first (yF ρ [] L 0) L (fullM L) 0 100 (mx_some h0 hL h)
 obtain ⟨o1, o2⟩ := orderOk h0 hL h.sh
 have hperm := perm_mem h0 hL o1 o2
 have hch : chainF (yF ρ [] L 0) (orderOf L ρ) 0 100 = true := by
  have := true_chain hL h.row o1 0 L
  rw [List.drop_zero, List.take_of_length_le (by omega)] at this
  exact this
 have hlt := m4 (orderOf L ρ) hperm hch
 have len1 := permsM_len0 L _ l1 m1
 have ordAt : ∀ j, j < L → ∃ a, (orderOf L ρ)[j]? = some a ∧ ρ.iv (110 + j) = (a : Int) := fun j hj => by
  have hj' : j < (orderOf L ρ).length := by omega
  exact ⟨_, List.getElem?_eq_getElem hj', h.sh.names j _ (List.getElem?_eq_getElem hj')⟩
 have fstAt : ∀ j, j < L → ∃ b, l1[j]? = some b ∧ ρ.iv (320 + j) = (b : Int) := fun j hj => by
  have hj' : j < l1.length := by omega
  refine ⟨l1[j], List.getElem?_eq_getElem hj', ?_⟩
  rw [h.fst j hj, m2]
  simp [List.getD, List.getElem?_map, List.getElem?_eq_getElem hj']
 obtain ⟨a, a1, a2⟩ := ordAt i hi
 obtain ⟨b, b1, b2⟩ := fstAt i hi
 have c0 := hp _ List.mem_cons_self
 rw [BE.t_lss] at c0
 simp only [IE.den_var] at c0
 have := ltM_at i (orderOf L ρ) l1 a b (fun j hj => by
  obtain ⟨x, x1, x2⟩ := ordAt j (by omega)
  obtain ⟨y, y1, y2⟩ := fstAt j (by omega)
  have hmem : (BE.cmp .eql (.var (110 + j)) (.var (320 + j))) ∈ eqMx i := by
   unfold eqMx
   rw [lMap_eq]
   exact List.mem_map.2 ⟨j, mem_upN i 0 j (Nat.zero_le _) (by omega), rfl⟩
  have q := BE.t_eql.1 (hp _ (List.mem_cons_of_mem _ hmem))
  simp only [IE.den_var] at q
  rw [x1, y1]
  congr 1
  omega) a1 b1 (by omega)
 rw [this] at hlt
 cases hlt
theorem dom_of {L : Nat} {ρ : Rho} (h : ∀ j, KeyV L j → ρ.iv j = loI L ρ.fi ρ.iv j) (hL : L ≤ 6) : ∀ c ∈ (mixL L).dom, c.den ρ = true := by
 intro c hc
 have hc : c ∈ fixE 9003 0 312 :: (fixL 9002 5 0 ++ (fixL 9001 L 110 ++ fixL 9000 (6 * L) 350)) := hc
 have one : ∀ {f j v : Nat}, 1000 ≤ f → ρ.iv v = ρ.fi f (Int.ofNat j) 0 0 → (fixE f j v).den ρ = true := fun {f j v} hf e => by
  refine BE.t_eql.2 ?_
  simp only [IE.den, FI]
  rw [if_pos hf]
  exact e
 have mem : ∀ {f n v : Nat}, c ∈ fixL f n v → ∃ j, j < n ∧ c = fixE f j (v + j) := fun {f n v} hc => by
  unfold fixL at hc
  rw [lMap_eq] at hc
  obtain ⟨j, hj, rfl⟩ := List.mem_map.1 hc
  exact ⟨j, mem_up hj, rfl⟩
 rcases List.mem_cons.1 hc with rfl | hc
 ·refine one (by omega) ((h 312 (.inr (.inr (.inl rfl)))).trans ?_)
  unfold loI
  rw [if_neg (by omega), if_neg (by omega), if_pos rfl]; rfl
 rcases List.mem_append.1 hc with hc | hc
 ·obtain ⟨j, hj, rfl⟩ := mem hc
  refine one (by omega) ((h (0 + j) (.inl (by omega))).trans ?_)
  unfold loI
  rw [if_pos (by omega), Nat.zero_add]
 rcases List.mem_append.1 hc with hc | hc
 ·obtain ⟨j, hj, rfl⟩ := mem hc
  refine one (by omega) ((h (110 + j) (.inr (.inl (by omega)))).trans ?_)
  unfold loI
  rw [if_neg (by omega), if_pos (by omega), Nat.add_sub_cancel_left]
 ·obtain ⟨j, hj, rfl⟩ := mem hc
  refine one (by omega) ((h (350 + j) (.inr (.inr (.inr (by omega))))).trans ?_)
  unfold loI
  rw [if_neg (by omega), if_neg (by omega), if_neg (by omega), if_pos (by omega), Nat.add_sub_cancel_left]
section
variable {E : Env} {w : World} {vs : List Value}
theorem mix_valid {L lo n : Nat} (h0 : 1 ≤ L) (hL : L ≤ 6) (h1 : 1 ≤ n) (hlo : lo + n ≤ L) (hv : ∀ g ∈ viewV L, ViewIn w E g) (hf : ∀ b, 2000 ≤ b → E.σ b = none) (hg : ∀ b, b < 1000 → E.σ b = some (b, 0)) (hn : E.n ≤ 2000)
  (ha : concL E (argsMx L) = some vs) (hfix : ∀ j, KeyV L j → E.ρ.iv j = loI L E.ρ.fi E.ρ.iv j) (hok : (pMx L lo n).okB E.ρ (Base.of w)) : Calls Tryd.prog 3 vs.toArray w fun e w' => e = .returned (.bool true) ∧ Below w.heap.size w w' := by
 obtain ⟨m, hm, _⟩ := id hok
 have hm : OkM L lo n E.ρ m := hm
 have hmx := hm.mx
 have hfilm := (film_of_cs h0 hL hmx.film).1
 have c1 : 1 ≤ cntF (yF E.ρ [] L 0) L (fullM L) 0 100 := (cntF_pos _ L (fullM L) 0 100).2 (mx_some h0 hL hmx)
 have c2 := cntF_le (yF E.ρ [] L 0) L (fullM L) 0 100
 have hb6 : 6 ^ L ≤ 46656 := Nat.le_trans (Nat.pow_le_pow_right (by omega) hL) (by decide)
 have hcnt := hmx.cnt
 have hK : KnOk E.ρ (knMx L) := by
  refine knOf_ok (fun c hc => ?_) fun c hc => ?_
  ·have e : ∀ (q : Nat × Int × Int) (l : List (Nat × Int × Int)), ivC (q :: l) = .cmp .leq (.lit q.2.1) (.var q.1) :: .cmp .leq (.var q.1) (.lit q.2.2) :: ivC l := fun _ _ => rfl
   rw [e] at hc
   simp only [List.mem_cons] at hc
   rcases hc with rfl | rfl | hc
   ·rw [BE.t_leq, IE.den_var, IE.den_lit]; omega
   ·rw [BE.t_leq, IE.den_var, IE.den_lit]; omega
   ·exact hfilm.1 c hc
  ·rcases List.mem_append.1 hc with hc | hc
   ·exact hfilm.2 c hc
   ·exact dom_of hfix hL c hc
 have hu : (T.ret (AV.bool (.lit true)) : T AV).Holds E.ρ (fun b => b = .bool (.lit true)) := rfl
 have key := servesX_ok (befMx_ok h0 hL hmx) hu _ _ hK (lawMx_all h0 hL h1 hlo)
 rw [T.holds_bind] at key
 have HS : HeapOk (pMx L lo n) E (viewHeap 2000 (viewV L)) (Base.of w) w := view_ok hv hf hg hn hok
 obtain ⟨r1, r2⟩ := mix_call h0 hL vs E (Base.of w) w _ (fun cv w' => cv = .bool true ∧ Below w.heap.size w w') key HS ha
  (fun v h' E2 w' cv hq2 hle HH' hv2 => by
   obtain ⟨b, rfl, _, hs⟩ := hq2
   refine ⟨?_, Base.keeps_below HH'.below⟩
   have := hs E2 hle.ρ
   rw [hv2] at this
   simpa [conc, BE.den] using this)
 refine r2.mono ?_
 rintro e w' ⟨cv, rfl, rfl, hb⟩
 exact ⟨rfl, hb⟩
end
end
end Go.Sx
namespace Go.Sx
noncomputable section
open Go.RowKit Go.Proofs
set_option maxRecDepth 100000
theorem at_of_chain (ρ : Rho) (q : Nat) : ∀ (k p m : Nat) (a b : Int) (l : List Nat) (i : Nat), l ∈ permsM k m → l.Nodup → chainF ρ l a b = true → l[i]? = some q → atF ρ q k p m a b (p + i) = true
 | 0, p, m, a, b, l, i, hl, _, _, hi => by
  rw [permsM, List.mem_singleton] at hl
  subst hl
  simp at hi
 | k + 1, p, m, a, b, l, i, hl, hn, hc, hi => by
  rw [permsM, List.mem_flatMap] at hl
  obtain ⟨r, hr, hl⟩ := hl
  obtain ⟨l', hl', rfl⟩ := List.mem_map.1 hl
  obtain ⟨n1, n2⟩ := List.nodup_cons.1 hn
  simp only [chainF, Bool.and_eq_true, Bool.not_eq_true', decide_eq_false_iff_not] at hc
  obtain ⟨c1, c2⟩ := hc
  rw [atF, List.any_eq_true]
  refine ⟨r, hr, ?_⟩
  cases i with
  | zero =>
   simp only [List.getElem?_cons_zero, Option.some.injEq] at hi
   subst hi
   rw [decide_eq_false c1, if_pos rfl, noneF_of_chain ρ k _ _ _ l' hl' c2]
   simp
  | succ i =>
   simp only [List.getElem?_cons_succ] at hi
   have hne : r ≠ q := fun e => n1 (by rw [e]; exact List.mem_of_getElem? hi)
   rw [decide_eq_false c1, if_neg hne, show p + (i + 1) = p + 1 + i by omega, at_of_chain ρ q k (p + 1) (del m r) _ _ l' i hl' n2 c2 hi]
   rfl
theorem chain_of_at (ρ : Rho) (q : Nat) : ∀ (k p m : Nat) (a b : Int) (j : Nat), atF ρ q k p m a b j = true → ∃ l ∈ permsM k m, chainF ρ l a b = true ∧ p ≤ j ∧ l[j - p]? = some q
 | 0, p, m, a, b, j, h => by simp [atF] at h
 | k + 1, p, m, a, b, j, h => by
  rw [atF, List.any_eq_true] at h
  obtain ⟨r, hr, h⟩ := h
  rw [Bool.and_eq_true] at h
  obtain ⟨h1, h2⟩ := h
  have h1 : ¬ aftF ρ r a b = (0, 0) := by simpa using h1
  have cons : ∀ l', l' ∈ permsM k (del m r) → chainF ρ l' (aftF ρ r a b).1 (aftF ρ r a b).2 = true → (r :: l') ∈ permsM (k + 1) m ∧ chainF ρ (r :: l') a b = true := fun l' m1 m2 => by
   refine ⟨?_, ?_⟩
   ·rw [permsM, List.mem_flatMap]; exact ⟨r, hr, List.mem_map.2 ⟨l', m1, rfl⟩⟩
   ·simp only [chainF]; rw [decide_eq_false h1, m2]; rfl
  by_cases hq : r = q
  ·rw [if_pos hq, Bool.and_eq_true] at h2
   obtain ⟨g1, g2⟩ := h2
   have g1 := of_decide_eq_true g1
   have g2 : noneF ρ k (del m r) (aftF ρ r a b).1 (aftF ρ r a b).2 = false := by simpa using g2
   obtain ⟨l', m1, _, m3, _⟩ := ordF_first ρ k (del m r) _ _ g2
   obtain ⟨k1, k2⟩ := cons l' m1 m3
   exact ⟨r :: l', k1, k2, by omega, by rw [show j - p = 0 by omega, ← hq]; rfl⟩
  ·rw [if_neg hq] at h2
   obtain ⟨l', m1, m2, m3, m4⟩ := chain_of_at ρ q k (p + 1) (del m r) _ _ j h2
   obtain ⟨k1, k2⟩ := cons l' m1 m2
   exact ⟨r :: l', k1, k2, by omega, by rw [show j - p = j - (p + 1) + 1 by omega, List.getElem?_cons_succ]; exact m4⟩
section
variable {q : Nat → Bool} {f : Nat → Nat}
theorem fold_cons (a : Nat) (R : List Nat) : (a :: R).foldl (fun s r => if q r = true then s else s + f r) 0 = (if q a = true then 0 else f a) + R.foldl (fun s r => if q r = true then s else s + f r) 0 := by
 simp only [List.foldl_cons]
 rw [foldl_cnt R (if q a = true then 0 else 0 + f a)]
 by_cases h : q a = true
 ·rw [if_pos h, if_pos h]
 ·rw [if_neg h, if_neg h, Nat.zero_add]
theorem fold_one {r : Nat} (hq : ¬ q r = true) : ∀ R : List Nat, r ∈ R → f r ≤ R.foldl (fun s r => if q r = true then s else s + f r) 0
 | [], h => (List.not_mem_nil h).elim
 | a :: R, h => by
  rw [fold_cons]
  rcases List.mem_cons.1 h with rfl | h
  ·rw [if_neg hq]; omega
  ·have := fold_one hq R h; omega
theorem fold_two {r r' : Nat} (hq : ¬ q r = true) (hq' : ¬ q r' = true) (hne : r ≠ r') : ∀ R : List Nat, r ∈ R → r' ∈ R → f r + f r' ≤ R.foldl (fun s r => if q r = true then s else s + f r) 0
 | [], h, _ => (List.not_mem_nil h).elim
 | a :: R, h, h' => by
  rw [fold_cons]
  by_cases e : r = a
  ·subst e
   rw [if_neg hq]
   rcases List.mem_cons.1 h' with e | g'
   ·exact absurd e.symm hne
   ·have := fold_one (f := f) hq' R g'; omega
  ·have g : r ∈ R := (List.mem_cons.1 h).resolve_left e
   by_cases e' : r' = a
   ·subst e'
    rw [if_neg hq']; have := fold_one (f := f) hq R g; omega
   ·have g' : r' ∈ R := (List.mem_cons.1 h').resolve_left e'
    have := fold_two hq hq' hne R g g'; omega
end
theorem two_le (ρ : Rho) : ∀ (k m : Nat) (a b : Int) (l l' : List Nat), l ∈ permsM k m → l' ∈ permsM k m → chainF ρ l a b = true → chainF ρ l' a b = true → l ≠ l' → 2 ≤ cntF ρ k m a b
 | 0, m, a, b, l, l', hl, hl', _, _, hne => by
  rw [permsM, List.mem_singleton] at hl hl'
  exact absurd (hl.trans hl'.symm) hne
 | k + 1, m, a, b, l, l', hl, hl', hc, hc', hne => by
  rw [permsM, List.mem_flatMap] at hl hl'
  obtain ⟨r, hr, hl⟩ := hl
  obtain ⟨t, ht, rfl⟩ := List.mem_map.1 hl
  obtain ⟨r', hr', hl'⟩ := hl'
  obtain ⟨t', ht', rfl⟩ := List.mem_map.1 hl'
  simp only [chainF, Bool.and_eq_true, Bool.not_eq_true', decide_eq_false_iff_not] at hc hc'
  obtain ⟨c1, c2⟩ := hc
  obtain ⟨d1, d2⟩ := hc'
  rw [cntF_eq]
  have q1 : ¬ decide (aftF ρ r a b = (0, 0)) = true := by simpa using c1
  have q2 : ¬ decide (aftF ρ r' a b = (0, 0)) = true := by simpa using d1
  by_cases he : r = r'
  ·subst he
   have := two_le ρ k (del m r) _ _ t t' ht ht' c2 d2 fun e => hne (by rw [e])
   have h1 := fold_one (q := fun r => decide (aftF ρ r a b = (0, 0))) (f := fun r => cntF ρ k (del m r) (aftF ρ r a b).1 (aftF ρ r a b).2) q1 (rsOf m) hr
   exact Nat.le_trans this h1
  ·have p1 := (cntF_pos ρ k (del m r) (aftF ρ r a b).1 (aftF ρ r a b).2).2 (noneF_of_chain ρ k _ _ _ t ht c2)
   have p2 := (cntF_pos ρ k (del m r') (aftF ρ r' a b).1 (aftF ρ r' a b).2).2 (noneF_of_chain ρ k _ _ _ t' ht' d2)
   have h1 := fold_two (q := fun r => decide (aftF ρ r a b = (0, 0))) (f := fun r => cntF ρ k (del m r) (aftF ρ r a b).1 (aftF ρ r a b).2) q1 q2 he (rsOf m) hr hr'
   exact Nat.le_trans (by show 2 ≤ cntF ρ k (del m r) _ _ + cntF ρ k (del m r') _ _; omega) h1
def condP (c : BE) : Bool :=
 match c with
 | .cmp .leq (.lit _) (.var v) => Nat.ble (v + 1) 110
 | _ => false
def condsP {α : Type} (t : T α) : Bool := @T.rec α (fun _ => Bool) (fun _ => true) (fun c _ _ x y => and (condP c) (and x y)) (fun _ => true) t
theorem condP_den {ρ ρ' : Rho} (h : ∀ j, j < 110 → ρ'.iv j = ρ.iv j) {c : BE} (hc : condP c = true) : c.den ρ' = c.den ρ := by
 unfold condP at hc
 split at hc
 ·have := ble_t.1 hc
  simp only [BE.den, IE.den]
  rw [h _ (by omega)]
 ·cases hc
theorem condsP_leaf {α : Type} {ρ ρ' : Rho} (h : ∀ j, j < 110 → ρ'.iv j = ρ.iv j) : ∀ t : T α, condsP t = true → t.leaf ρ' = t.leaf ρ
 | .ret a, _ => rfl
 | .fail w, _ => rfl
 | .br c x y, k => by
  have k : and (condP c) (and (condsP x) (condsP y)) = true := k
  simp only [Bool.and_eq_true] at k
  simp only [T.leaf, condP_den h k.1, condsP_leaf h x k.2.1, condsP_leaf h y k.2.2]
theorem condsP1 : condsP (shufRun 1) = true := by kernel_rfl
theorem condsP2 : condsP (shufRun 2) = true := by kernel_rfl
theorem condsP3 : condsP (shufRun 3) = true := by kernel_rfl
theorem condsP4 : condsP (shufRun 4) = true := by kernel_rfl
section
variable {ρ ρ' : Rho} (h : ∀ a, ρ'.fi 1000 a 0 0 = ρ.fi 1000 a 0 0)
include h
theorem tE_fi (a m : Nat) : (tE a m).den ρ' = (tE a m).den ρ := by
 show turnF (ρ'.fi 1000 (Int.ofNat a) 0 0) (Int.ofNat m) = turnF (ρ.fi 1000 (Int.ofNat a) 0 0) (Int.ofNat m)
 rw [h]
theorem firstE_fi : ∀ i, (firstE i).den ρ' = (firstE i).den ρ
 | 0 => tE_fi h 1 10
 | i + 1 => by
  show (IE.mn (.lit 99) (.bin .add .i64 (.mn (.lit 99) (.bin .add .i64 (firstE i) (tE (3 * i + 1) 9))) (tE (3 * (i + 1)) 2))).den ρ' = (IE.mn (.lit 99) (.bin .add .i64 (.mn (.lit 99) (.bin .add .i64 (firstE i) (tE (3 * i + 1) 9))) (tE (3 * (i + 1)) 2))).den ρ
  simp only [IE.den_mn, IE.den_add, IE.den_lit, tE_fi h, firstE_fi i]
theorem pE_fi (i : Nat) : (p0E i).den ρ' = (p0E i).den ρ ∧ (p1E i).den ρ' = (p1E i).den ρ ∧ (p2E i).den ρ' = (p2E i).den ρ ∧ (p3E i).den ρ' = (p3E i).den ρ := by
 have l : (lastE i).den ρ' = (lastE i).den ρ := by
  unfold lastE
  simp only [IE.den_mn, IE.den_add, IE.den_lit, tE_fi h, firstE_fi h]
 unfold p0E p1E p2E p3E
 simp only [IE.den_mn, IE.den_mx, IE.den_add, IE.den_sub, IE.den_lit, tE_fi h, firstE_fi h, l]
 exact ⟨trivial, trivial, trivial, trivial⟩
end
end
end Go.Sx
