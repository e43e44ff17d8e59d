/- HOW MANY ORDERS A FILM HAS: as it is said. -/
import Derived.Test.YtlaakbmimplceaaDoorRyO5
import Derived.Test.YtlaakbmimplceaaDoorRyO6
import Derived.Test.YtlaakbmimplceaaDoorRyO7
import Derived.Test.YtlaakbmimplceaaDoorRyEn
/-! HOW MANY ORDERS: the search that counts them, as it is said. -/
namespace Go.Sx
open Go.RowKit Go.Proofs
set_option maxRecDepth 100000
theorem ckO_all {L m : Nat} (h0 : 1 ≤ L) (hL : L ≤ 6) (hm : m < 2 ^ L) : ckO L m = true := by
  rcases six h0 hL with rfl | rfl | rfl | rfl | rfl | rfl
  · exact lAll_at kO1 (Nat.zero_le _) (by omega)
  · exact lAll_at kO2 (Nat.zero_le _) (by omega)
  · exact lAll_at kO3 (Nat.zero_le _) (by omega)
  · exact lAll_at kO4 (Nat.zero_le _) (by omega)
  · have h : m < 8 ∧ 0 ≤ m ∨ m < 16 ∧ 8 ≤ m ∨ m < 24 ∧ 16 ≤ m ∨ m < 32 ∧ 24 ≤ m := by omega
    rcases h with h | h | h | h
    · exact lAll_at kO5_0 (by omega) (by omega)
    · exact lAll_at kO5_1 (by omega) (by omega)
    · exact lAll_at kO5_2 (by omega) (by omega)
    · exact lAll_at kO5_3 (by omega) (by omega)
  · have h : m < 8 ∧ 0 ≤ m ∨ m < 16 ∧ 8 ≤ m ∨ m < 24 ∧ 16 ≤ m ∨ m < 32 ∧ 24 ≤ m ∨ m < 40 ∧ 32 ≤ m ∨ m < 48 ∧ 40 ≤ m ∨ m < 56 ∧ 48 ≤ m ∨ m < 64 ∧ 56 ≤ m := by omega
    rcases h with h | h | h | h | h | h | h | h
    · exact lAll_at kO6_0 (by omega) (by omega)
    · exact lAll_at kO6_1 (by omega) (by omega)
    · exact lAll_at kO6_2 (by omega) (by omega)
    · exact lAll_at kO6_3 (by omega) (by omega)
    · exact lAll_at kO6_4 (by omega) (by omega)
    · exact lAll_at kO6_5 (by omega) (by omega)
    · exact lAll_at kO6_6 (by omega) (by omega)
    · exact lAll_at kO6_7 (by omega) (by omega)

noncomputable def pO (L : Nat) : Par := ⟨Tryd.prog, rcOf Tryd.rows, fun ρ _ => okO L ρ⟩
theorem manyF_over {ρ : Rho} (g : Nat → Int) : ∀ (k m : Nat) (a b o : Int), manyF (ρ.over g) k m a b o = manyF ρ k m a b o
  | 0, _, _, _, _ => rfl
  | k + 1, m, a, b, o => by
    simp only [manyF]
    refine foldl_congr _ fun o r hr => ?_
    rw [aftF_over (rsOf_lt hr), manyF_over g k]
theorem okO_over {L : Nat} (hL : L ≤ 6) {ρ : Rho} (g : Nat → Int) (h : okO L ρ) : okO L (ρ.over g) :=
  ⟨okT_over hL g h.1, fun m hm a b o => by rw [manyF_over]; exact h.2 m hm a b o⟩
theorem many_den {L : Nat} {ρ : Rho} (h : okO L ρ) {m : Nat} (hm : m < 2 ^ L) (x1 x2 o : IE) : (mnyE m x1 x2 o).den ρ = manyF ρ (cnt m) m (x1.den ρ) (x2.den ρ) (o.den ρ) := by
  rw [← h.2 m hm]
  unfold mnyE
  simp only [FI, IE.den]
  rw [if_pos (by omega)]
noncomputable def stepM (ρ : Rho) (k m : Nat) (a b o : Int) (r : Nat) : Int := if aftF ρ r a b = (0, 0) then o else manyF ρ k (del m r) (aftF ρ r a b).1 (aftF ρ r a b).2 o
theorem tN_cons (K m p r : Nat) (x1 x2 : IE) (l : List Nat) (cs : List IE) (o : IE) : tN K m p x1 x2 (r :: l) cs o = .br (empE r x1 x2) (tN K m p x1 x2 l cs o) (tN K m p x1 x2 l (updL K (del m r) p r (af1 r x1 x2) (af2 r x1 x2) cs) (mnyE (del m r) (af1 r x1 x2) (af2 r x1 x2) o)) := rfl
theorem tN_holds {L K : Nat} {ρ : Rho} (h : okO L ρ) {m k p : Nat} {x1 x2 : IE} (hp : K - (k + 1) = p) (hkL : k + 1 ≤ K) (hK : K ≤ 6) {R : AV → Prop} : ∀ (l : List Nat) (cs : List IE) (o : IE), (∀ r ∈ l, r < L ∧ del m r < 2 ^ L ∧ cnt (del m r) = k) → cs.length = 6 →
    (∀ cs' : List IE, ∀ o' : IE, cs'.length = 6 → dens ρ cs' = mapZ (fun j o => l.foldl (stepF ρ k p m (x1.den ρ) (x2.den ρ) j) o) (dens ρ cs) 0 → o'.den ρ = l.foldl (stepM ρ k m (x1.den ρ) (x2.den ρ)) (o.den ρ) → R (lfO cs' o')) → (tN K m p x1 x2 l cs o).Holds ρ R
  | [], cs, o, _, hc, hn => hn cs o hc (by simp only [List.foldl_nil]; exact (mapZ_id _ 0).symm) rfl
  | r :: l, cs, o, hl, hc, hn => by
    obtain ⟨hr, hd, hk⟩ := hl r List.mem_cons_self
    have hl' : ∀ r ∈ l, r < L ∧ del m r < 2 ^ L ∧ cnt (del m r) = k := fun r hr => hl r (List.mem_cons_of_mem _ hr)
    obtain ⟨d1, d2⟩ := af_den h.1.1 hr x1 x2
    rw [tN_cons]
    simp only [T.Holds]
    split
    · rename_i he
      have he := (emp_den h.1.1 hr x1 x2).1 he
      refine tN_holds h hp hkL hK l cs o hl' hc fun cs' o' hc' hd' ho' => hn cs' o' hc' ?_ ?_
      · rw [hd']
        refine mapZ_congr _ _ fun j o _ _ => ?_
        have : stepF ρ k p m (x1.den ρ) (x2.den ρ) j o r = o := by unfold stepF; rw [if_pos he]
        simp only [List.foldl_cons, this]
      · rw [ho', List.foldl_cons]
        have : stepM ρ k m (x1.den ρ) (x2.den ρ) (o.den ρ) r = o.den ρ := by unfold stepM; rw [if_pos he]
        rw [this]
    · rename_i he
      have he : ¬ aftF ρ r (x1.den ρ) (x2.den ρ) = (0, 0) := fun h' => he ((emp_den h.1.1 hr x1 x2).2 h')
      have hu : dens ρ (updL K (del m r) p r (af1 r x1 x2) (af2 r x1 x2) cs) = mapZ (fun j o => stepF ρ k p m (x1.den ρ) (x2.den ρ) j o r) (dens ρ cs) 0 := by
        unfold updL
        refine dens_mapI cs 0 fun j o _ hj => ?_
        rw [hc] at hj
        unfold stepF
        rw [if_neg he]
        by_cases h1 : p + 1 ≤ j
        · rw [ble_t.2 h1, cond_true, if_neg (by omega), if_neg (by omega), left_den h.1 hd hK _ _ (by omega), hk, d1, d2]
          have : K - k = p + 1 := by omega
          rw [this]
        · have : Nat.ble (p + 1) j = false := by
            cases hb : Nat.ble (p + 1) j with
            | false => rfl
            | true => exact absurd (ble_t.1 hb) h1
          rw [this, cond_false]
          by_cases h2 : j = p
          · rw [beq_t.2 h2, cond_true, if_neg (by omega), if_pos h2]; rfl
          · rw [beq_f.2 h2, cond_false, if_pos (by omega)]
      have hul : (updL K (del m r) p r (af1 r x1 x2) (af2 r x1 x2) cs).length = 6 := by unfold updL; rw [mapI_len]; exact hc
      refine tN_holds h hp hkL hK l _ _ hl' hul fun cs' o' hc' hd' ho' => hn cs' o' hc' ?_ ?_
      · rw [hd', hu, mapZ_comp]
        rfl
      · rw [ho', many_den h hd, hk, d1, d2, List.foldl_cons]
        have : stepM ρ k m (x1.den ρ) (x2.den ρ) (o.den ρ) r = manyF ρ k (del m r) (aftF ρ r (x1.den ρ) (x2.den ρ)).1 (aftF ρ r (x1.den ρ) (x2.den ρ)).2 (o.den ρ) := by unfold stepM; rw [if_neg he]
        rw [this]

theorem vO_mem {L : Nat} {xs : List IE} {o : IE} {b : Nat} {c : AObj} (h : (b, c) ∈ vO L xs o) : (b, c) ∈ preO L ∨ (b = 2013 ∧ c = .cells (lMap iA xs) 3 true false) ∨ (b = 2003 ∧ c = oneC o) := by
  unfold vO at h
  unfold preO
  simp only [List.mem_cons, List.not_mem_nil, or_false] at h ⊢
  rcases h with h | h | h | h | h | h | h | h | h
  · exact .inl (.inl h)
  · exact .inl (.inr (.inl h))
  · cases h; exact .inr (.inr ⟨rfl, rfl⟩)
  · exact .inl (.inr (.inr (.inl h)))
  · exact .inl (.inr (.inr (.inr (.inl h))))
  · exact .inl (.inr (.inr (.inr (.inr (.inl h)))))
  · cases h; exact .inr (.inl ⟨rfl, rfl⟩)
  · exact .inl (.inr (.inr (.inr (.inr (.inr (.inl h))))))
  · exact .inl (.inr (.inr (.inr (.inr (.inr (.inr h))))))
theorem vO_pre {L : Nat} {xs : List IE} {o : IE} {b : Nat} {c : AObj} (h : (b, c) ∈ preO L) : (b, c) ∈ vO L xs o := by
  unfold preO at h
  unfold vO
  simp only [List.mem_cons, List.not_mem_nil, or_false] at h ⊢
  rcases h with h | h | h | h | h | h | h
  · exact .inl h
  · exact .inr (.inl h)
  · exact .inr (.inr (.inr (.inl h)))
  · exact .inr (.inr (.inr (.inr (.inl h))))
  · exact .inr (.inr (.inr (.inr (.inr (.inl h)))))
  · exact .inr (.inr (.inr (.inr (.inr (.inr (.inr (.inl h)))))))
  · exact .inr (.inr (.inr (.inr (.inr (.inr (.inr (.inr h)))))))
theorem vO_arr {L : Nat} {xs : List IE} {o : IE} : (2013, AObj.cells (lMap iA xs) 3 true false) ∈ vO L xs o := by unfold vO; simp
theorem vO_one {L : Nat} {xs : List IE} {o : IE} : (2003, oneC o) ∈ vO L xs o := by unfold vO; simp
noncomputable def okG (g : Nat × AObj) : Bool := and (plO g.2) (and (Nat.ble (g.1 + 1) 2016) (idsO 2016 g.2))
theorem preO_ok {L : Nat} (h0 : 1 ≤ L) (hL : L ≤ 6) : lAll okG (preO L) = true := by
  rcases six h0 hL with rfl | rfl | rfl | rfl | rfl | rfl <;> kernel_rfl
theorem lAll_of {α : Type} {p : α → Bool} : ∀ {l : List α}, (∀ a ∈ l, p a = true) → lAll p l = true
  | [], _ => rfl
  | a :: _, h => lAll_cons (h a List.mem_cons_self) (lAll_of fun b hb => h b (List.mem_cons_of_mem _ hb))
theorem viewO_ok {L : Nat} (h0 : 1 ≤ L) (hL : L ≤ 6) (xs : List IE) (o : IE) : viewOk 2016 (vO L xs o) = true := by
  unfold viewOk
  rw [Bool.and_eq_true]
  refine ⟨rfl, lAll_of fun g hg => ?_⟩
  obtain ⟨b, c⟩ := g
  rcases vO_mem hg with hm | ⟨rfl, rfl⟩ | ⟨rfl, rfl⟩
  · have := lAll_mem (preO_ok h0 hL) (b, c) hm
    unfold okG at this
    rw [Bool.and_eq_true] at this
    exact this.2
  · rw [Bool.and_eq_true]; exact ⟨rfl, idsI 2016 xs⟩
  · rfl
theorem encO_eq {L : Nat} {q : AV × Heap} {cs : List IE} {o : IE} (h : encO L q = lfO cs o) : q.1 = tag true ∧ allO q.2 (preO L) = true ∧ q.2.next = 2016 ∧ q.2.get 2013 = some (.cells (lMap iA cs) 3 true false) ∧ q.2.get 2003 = some (oneC o) := by
  unfold encO lfO at h
  simp only [AV.tup.injEq, List.cons.injEq, and_true] at h
  obtain ⟨h1, h2, h3, h4⟩ := h
  simp only [tag, AV.bool.injEq, BE.lit.injEq, Bool.and_eq_true] at h2
  exact ⟨h1, h2.1, beq_t.1 h2.2, blkA_some h3, blkA_some h4⟩
theorem O_base {L m : Nat} (h0 : 1 ≤ L) (hL : L ≤ 6) (hm : m < 2 ^ L) (B : TabOk (pO L) Sx.Tryd.tt.get (tbO L (cnt m))) : CallOk (pO L) 76 (argsO L m (.var 500) (.var 501)) (viewA 2016 (vO L vs6 vv)) (.ret (leafO L m (.var 500) (.var 501) vs6 vv)) := by
  have base := eval_ok B 100 76 (argsO L m (.var 500) (.var 501)) (viewA 2016 (vO L vs6 vv))
  have up : upA 0 (vO L vs6 vv) = true := rfl
  have fr : CallOk (pO L) 76 (argsO L m (.var 500) (.var 501)) (viewA 2016 (vO L vs6 vv)) (runO L m) := base.frame (n := 2016) (l := vO L vs6 vv) (by omega) rfl (viewO_ok h0 hL vs6 vv)
    (fun g hg => ⟨g.2, viewA_mem 2016 _ 0 up g hg, .refl _⟩) (by rw [viewA_next]; exact Nat.le_refl _) (fun _ => [])
  have tree : ((runO L m).bind fun q => T.ret (encO L q)) = expO L m := eqTF_eq _ _ (ckO_all h0 hL hm)
  refine CallOk.read rfl fr fun ρ b hok Q k => ⟨ρ, hok, SameL.refl _ _, ⟨rfl, fun j o g => ⟨o, g, SameA.refl o⟩⟩, T.holds_enc tree ?_⟩
  obtain ⟨_, hT, _⟩ := hok
  have hT : okO L ρ := hT
  have k : Q (leafO L m (.var 500) (.var 501) vs6 vv) := k
  have hcl := cnt_le' hm
  obtain ⟨f1, f2, f3⟩ := facts_of hL hm
  have done : ∀ (cs : List IE) (o : IE), dens ρ cs = dens ρ (leftL L m (L - cnt m) (.var 500) (.var 501) vs6) → o.den ρ = (mnyE m (.var 500) (.var 501) vv).den ρ → ∀ r0, encO L r0 = lfO cs o → ∃ q, Q q ∧ SameV ρ r0.1 ρ q.1 ∧ SameH (pO L) (pO L) ρ r0.2 ρ q.2 := by
    intro cs o hd ho r0 he
    obtain ⟨h1, h2, h3, h4, h5⟩ := encO_eq he
    refine ⟨_, k, by rw [h1]; exact SameV.refl _ _, h3.trans (viewA_next _ _).symm, fun j c g => ?_⟩
    rcases vO_mem (viewA_get _ _ _ _ g) with hm | ⟨rfl, rfl⟩ | ⟨rfl, rfl⟩
    · exact ⟨c, allO_get h2 hm, SameA.refl c⟩
    · exact ⟨_, h4, SameA.cells rfl (same_ints hd)⟩
    · exact ⟨_, h5, SameA.cells rfl (SameL.cons (SameV.int ho) SameL.nil)⟩
  show (expO L m).Holds ρ _
  unfold expO
  cases hz : Nat.beq m 0 with
  | true =>
    rw [cond_true]
    have hm0 : m = 0 := beq_t.1 hz
    subst hm0
    refine done _ _ ?_ ?_
    · unfold leftL
      refine ((dens_mapI (g := fun _ o => o) vs6 0 fun j o _ hj => ?_).trans (mapZ_id _ 0)).symm
      have hj : j < 6 := by have e : vs6.length = 6 := rfl; rw [e] at hj; omega
      cases Nat.ble (L - cnt 0) j with
      | false => rfl
      | true => rw [cond_true, left_den hT.1 hm hL _ _ (by omega), f2 rfl]; rfl
    · rw [many_den hT hm, f2 rfl]; rfl
  | false =>
    rw [cond_false]
    have hm0 : m ≠ 0 := fun h => by rw [beq_t.2 h] at hz; cases hz
    obtain ⟨n, hn⟩ : ∃ n, cnt m = n + 1 := ⟨cnt m - 1, by have := f3 hm0; omega⟩
    rw [hn]
    refine tN_holds (k := n) (p := L - (n + 1)) hT rfl (by omega) hL (rsOf m) vs6 vv (fun r hr => ?_) rfl fun cs' o' hlen hd ho => done _ _ (hd.trans ?_) (ho.trans ?_)
    · obtain ⟨q1, q2, q3, q4⟩ := f1 r hr
      exact ⟨q1, q2, by omega⟩
    · unfold leftL
      rw [hn]
      refine (dens_mapI vs6 0 fun j o _ hj => ?_).symm
      have hj : j < 6 := by have e : vs6.length = 6 := rfl; rw [e] at hj; omega
      by_cases hp : L - (n + 1) ≤ j
      · rw [ble_t.2 hp, cond_true, left_den hT.1 hm hL _ _ (by omega), hn]
        rfl
      · have : Nat.ble (L - (n + 1)) j = false := by
          cases hb : Nat.ble (L - (n + 1)) j with
          | false => rfl
          | true => exact absurd (ble_t.1 hb) hp
        rw [this, cond_false]
        refine (foldl_id _ _ fun o r => ?_).symm
        unfold stepF
        split
        · rfl
        · rw [if_pos (by omega)]
    · rw [many_den hT hm, hn]
      rfl
theorem vO_same {L : Nat} (h0 : 1 ≤ L) (hL : L ≤ 6) {ρ ρ' : Rho} (hA : Alike ρ ρ') {xs ys : List IE} {o o' : IE} (h : xs.map (IE.den ρ) = ys.map (IE.den ρ')) (ho : o.den ρ = o'.den ρ') : SameH (pO L) (pO L) ρ (viewA 2016 (vO L xs o)) ρ' (viewA 2016 (vO L ys o')) := by
  refine ⟨by rw [viewA_next, viewA_next], fun j c g => ?_⟩
  have up : upA 0 (vO L xs o) = true := rfl
  have get : ∀ {b c}, (b, c) ∈ vO L xs o → (viewA 2016 (vO L xs o)).get b = some c := fun hm => viewA_mem 2016 _ 0 up _ hm
  rcases vO_mem (viewA_get _ _ _ _ g) with hm | ⟨rfl, rfl⟩ | ⟨rfl, rfl⟩
  · have := lAll_mem (preO_ok h0 hL) (j, c) hm
    unfold okG at this
    rw [Bool.and_eq_true] at this
    exact ⟨c, get (vO_pre hm), SameA.pl hA this.1⟩
  · exact ⟨_, get vO_arr, SameA.cells rfl (same_ints h)⟩
  · exact ⟨_, get vO_one, SameA.cells rfl (SameL.cons (SameV.int ho) SameL.nil)⟩
theorem O_said {L m : Nat} (h0 : 1 ≤ L) (hL : L ≤ 6) (hm : m < 2 ^ L) (B : TabOk (pO L) Sx.Tryd.tt.get (tbO L (cnt m))) (x1 x2 : IE) {xs : List IE} (hx : xs.length = 6) (o : IE) : CallOk (pO L) 76 (argsO L m x1 x2) (viewA 2016 (vO L xs o)) (.ret (leafO L m x1 x2 xs o)) := by
  refine CallOk.read (p0 := pO L) rfl (O_base h0 hL hm B) fun ρ b ⟨mm, k1, k2⟩ Q k => ?_
  let g : Nat → Int := fun j => if j = 500 then x1.den ρ else if j = 501 then x2.den ρ else if j = 520 then o.den ρ else ((xs.map (IE.den ρ))[j - 510]?).getD 0
  have hA : Alike ρ (ρ.over g) := Rho.over_alike ρ g
  have e1 : (IE.var 500).den (ρ.over g) = x1.den ρ := rfl
  have e2 : (IE.var 501).den (ρ.over g) = x2.den ρ := rfl
  have e3 : vv.den (ρ.over g) = o.den ρ := rfl
  have ex : vs6.map (IE.den (ρ.over g)) = xs.map (IE.den ρ) := six_list (xs.map (IE.den ρ)) (by rw [List.length_map]; exact hx) g fun i hi => by
    simp only [g, if_neg (show ¬ 510 + i = 500 by omega), if_neg (show ¬ 510 + i = 501 by omega), if_neg (show ¬ 510 + i = 520 by omega), Nat.add_sub_cancel_left]
  have eLeft : (leftL L m (L - cnt m) (.var 500) (.var 501) vs6).map (IE.den (ρ.over g)) = (leftL L m (L - cnt m) x1 x2 xs).map (IE.den ρ) := by
    have a1 := dens_mapI (ρ := ρ.over g) (f := fun j o => cond (Nat.ble (L - cnt m) j) (leftE L m (.var 500) (.var 501) j o) o) (g := fun j o => cond (Nat.ble (L - cnt m) j) (FI ρ.fi (5000 + 600 * L + 8 * m + j) (x1.den ρ) (x2.den ρ) o) o) vs6 0 fun i o _ _ => by
      cases Nat.ble (L - cnt m) i <;> rfl
    have a2 := dens_mapI (ρ := ρ) (f := fun j o => cond (Nat.ble (L - cnt m) j) (leftE L m x1 x2 j o) o) (g := fun j o => cond (Nat.ble (L - cnt m) j) (FI ρ.fi (5000 + 600 * L + 8 * m + j) (x1.den ρ) (x2.den ρ) o) o) xs 0 fun i o _ _ => by
      cases Nat.ble (L - cnt m) i <;> rfl
    unfold dens at a1 a2
    unfold leftL
    rw [a1, a2, ex]
  have eMany : (mnyE m (.var 500) (.var 501) vv).den (ρ.over g) = (mnyE m x1 x2 o).den ρ := by
    unfold mnyE
    simp only [IE.den, e3]
    rfl
  refine ⟨ρ.over g, ⟨mm, okO_over hL g k1, k2⟩, ?_, vO_same h0 hL hA ex.symm e3.symm, ?_⟩
  · unfold argsO
    have hb : SameV ρ (bitsA m) (ρ.over g) (bitsA m) := SameV.agg (SameL.cons (SameV.bool rfl) (SameL.cons (SameV.bool rfl) (SameL.cons (SameV.bool rfl) (SameL.cons (SameV.bool rfl) (SameL.cons (SameV.bool rfl) (SameL.cons (SameV.bool rfl) SameL.nil))))))
    exact SameL.cons (SameV.int rfl) (SameL.cons hb (SameL.cons (SameV.agg (SameL.cons (SameV.int e1.symm) (SameL.cons (SameV.int e2.symm) SameL.nil))) (SameL.pl hA ptrsO rfl)))
  · exact ⟨_, k, SameV.bool rfl, vO_same h0 hL hA.symm eLeft eMany⟩
theorem orcT2_ok {L k : Nat} (h0 : 1 ≤ L) (hL : L ≤ 6) (B : ∀ j, j < k → TabOk (pO L) Sx.Tryd.tt.get (tbO L j)) {args : List AV} {h : Heap} {t : T (AV × Heap)} (e : orcT2 L k args h = some t) : CallOk (pO L) 76 args h t := by
  unfold orcT2 at e
  split at e
  · split at e
    · rename_i m xs o _ _ _
      obtain ⟨hc, e2⟩ := cond_some e
      clear e
      simp only [Bool.and_eq_true] at hc
      obtain ⟨⟨i1, i2, i3⟩, ⟨i4, i5⟩, i6⟩ := hc
      have i1 := eqAVs_eq _ _ i1
      rw [i1]
      cases e2
      have hx : xs.length = 6 := by rw [← lLen_eq]; exact beq_t.1 i4
      exact (O_said h0 hL (ltP_t i2) (B _ (ble_t.1 i3)) _ _ hx o).frame (n := 2016) (by omega) rfl (viewO_ok h0 hL xs o) (lessAll_ok i5) (ble_t.1 i6) (fun _ => [])
    · cases e
  · cases e
/-- THE TABLES, with the calls of the search that counts taken as said. -/
theorem tabsO {L : Nat} (h0 : 1 ≤ L) (hL : L ≤ 6) (k : Nat) : TabOk (pO L) Sx.Tryd.tt.get (tbO L k) := by
  induction k using Nat.strongRecOn with
  | ind k ih =>
    refine Tryd.tab (orcL2 L k) (fun f args h t e => ?_) 2000
    unfold orcL2 at e
    cases h1 : Nat.beq f 60 with
    | true =>
      rw [h1, cond_true] at e
      rw [beq_t.1 h1]
      exact orcA_ok (p := pO L) rfl (.inl rfl) (fun ρ m h => h.1.1) h0 hL e
    | false =>
      rw [h1, cond_false] at e
      obtain ⟨h2, e⟩ := cond_some e
      rw [beq_t.1 h2]
      exact orcT2_ok h0 hL ih e
end Go.Sx
/-! HOW MANY ORDERS A FILM HAS: as it is said. -/
namespace Go.Sx
open Go.RowKit Go.Proofs
set_option maxRecDepth 100000
noncomputable def pQ (L : Nat) : Par := ⟨Tryd.prog, rcOf Tryd.rows, fun ρ _ => okO L ρ ∧ okFilm L ρ⟩
noncomputable def orcQ (L : Nat) (f : FuncId) (args : List AV) (h : Heap) : Option (T (AV × Heap)) :=
  cond (Nat.beq f 38) (orcK L args h) (orcL2 L 7 f args h)
noncomputable def tbQ (L : Nat) : Tabs := ⟨Sx.Tryd.ft.get, lFind Sx.Tryd.rt, 2000, orcQ L⟩
theorem tabsQ {L : Nat} (h0 : 1 ≤ L) (hL : L ≤ 6) : TabOk (pQ L) Sx.Tryd.tt.get (tbQ L) := by
  refine Tryd.tab (orcQ L) (fun f args h t e => ?_) 2000
  unfold orcQ at e
  cases h1 : Nat.beq f 38 with
  | true =>
    rw [h1, cond_true] at e
    rw [beq_t.1 h1]
    exact orcK_ok h0 hL (fun ρ m h => h.2) e
  | false =>
    rw [h1, cond_false] at e
    exact CallOk.weak (fun ρ m h => h.1) ((tabsO h0 hL 7).orc f args h t e)
noncomputable def runQ (L : Nat) : T (AV × Heap) := (evalN (tbQ L) 100 false 11 [filmF L] (viewA 2000 (vK L))).bind fun r => graftT 2000 (vK L) (viewA 2000 (vK L)) [] r
noncomputable def valQ (L : Nat) : AV := .tup [iA (mnyE (fullM L) (.lit 0) (.lit 100) (.lit 0)), ln 0]
noncomputable def expQ (L : Nat) : T AV := .ret (.tup [valQ L, tag true])
noncomputable def ckQ (L : Nat) : Bool := eqTF ((runQ L).bind fun q => .ret (.tup [q.1, tag (and (allO q.2 (vK L)) (Nat.beq q.2.next 2000))])) (expQ L)
theorem ckQ1 : ckQ 1 = true := by kernel_rfl
theorem ckQ2 : ckQ 2 = true := by kernel_rfl
theorem ckQ3 : ckQ 3 = true := by kernel_rfl
theorem ckQ4 : ckQ 4 = true := by kernel_rfl
theorem ckQ5 : ckQ 5 = true := by kernel_rfl
theorem ckQ6 : ckQ 6 = true := by kernel_rfl
theorem ckQ_all {L : Nat} (h0 : 1 ≤ L) (hL : L ≤ 6) : ((runQ L).bind fun q => T.ret (AV.tup [q.1, tag (and (allO q.2 (vK L)) (Nat.beq q.2.next 2000))])) = expQ L := by
  refine eqTF_eq _ _ ?_
  rcases six h0 hL with rfl | rfl | rfl | rfl | rfl | rfl
  · exact ckQ1
  · exact ckQ2
  · exact ckQ3
  · exact ckQ4
  · exact ckQ5
  · exact ckQ6
noncomputable def saidQ (L : Nat) : T (AV × Heap) := .ret (valQ L, viewA 2000 (vK L))
/-- WHAT 'Orders' HANDS BACK. -/
theorem orders_said {L : Nat} (h0 : 1 ≤ L) (hL : L ≤ 6) : CallOk (pQ L) 11 [filmF L] (viewA 2000 (vK L)) (saidQ L) := by
  have base := eval_ok (tabsQ h0 hL) 100 11 [filmF L] (viewA 2000 (vK L))
  have up : upA 0 (vK L) = true := rfl
  have fr : CallOk (pQ L) 11 [filmF L] (viewA 2000 (vK L)) (runQ L) := base.frame (n := 2000) (l := vK L) (by omega) rfl (viewK_ok h0 hL)
    (fun g hg => ⟨g.2, viewA_mem 2000 _ 0 up g hg, .refl _⟩) (by rw [viewA_next]; exact Nat.le_refl _) (fun _ => [])
  refine CallOk.read rfl fr fun ρ b hok Q k => ⟨ρ, hok, SameL.refl _ _, ⟨rfl, fun j o g => ⟨o, g, SameA.refl o⟩⟩, T.holds_enc (ckQ_all h0 hL) ?_⟩
  have k : Q (valQ L, viewA 2000 (vK L)) := k
  show ∀ r0 : AV × Heap, _ → _
  intro r0 he
  simp only [AV.tup.injEq, List.cons.injEq, and_true] at he
  obtain ⟨h1, h2⟩ := he
  simp only [tag, AV.bool.injEq, BE.lit.injEq, Bool.and_eq_true] at h2
  exact ⟨_, k, by rw [h1]; exact SameV.refl _ _, (beq_t.1 h2.2).trans (viewA_next _ _).symm, fun j o g => ⟨o, allO_get h2.1 (viewA_get _ _ _ _ g), SameA.refl o⟩⟩
end Go.Sx
