/- MxO -/
import Derived.Test.YtlaakbmimplceaaDoorRyO6
import Derived.Test.YtlaakbmimplceaaDoorRyO7
import Derived.Test.YtlaakbmimplceaaDoorRyG6
import Derived.Test.YtlaakbmimplceaaDoorFiPe
import Derived.Test.YtlaakbmimplceaaDoorRyI
import Derived.Test.YtlaakbmimplceaaDoorSxPlain
import Derived.Test.YtlaakbmimplceaaDoorFiTu
namespace Go.Sx
open Go.RowKit Go.Proofs
set_option maxRecDepth 100000
theorem ckO_all {L m : Nat} (h0 : 1 ≤ L) (hL : L ≤ 6) (hm : m < 2 ^ L) : ckO L m = true := by
 rcases six h0 hL with rfl | rfl | rfl | rfl | rfl | rfl
 ·exact lAll_at kO1 (Nat.zero_le _) (by omega)
 ·exact lAll_at kO2 (Nat.zero_le _) (by omega)
 ·exact lAll_at kO3 (Nat.zero_le _) (by omega)
 ·exact lAll_at kO4 (Nat.zero_le _) (by omega)
 ·have h : m < 8 ∧ 0 ≤ m ∨ m < 16 ∧ 8 ≤ m ∨ m < 24 ∧ 16 ≤ m ∨ m < 32 ∧ 24 ≤ m := by omega
  rcases h with h | h | h | h
  ·exact lAll_at kO5_0 (by omega) (by omega)
  ·exact lAll_at kO5_1 (by omega) (by omega)
  ·exact lAll_at kO5_2 (by omega) (by omega)
  ·exact lAll_at kO5_3 (by omega) (by omega)
 ·have h : m < 8 ∧ 0 ≤ m ∨ m < 16 ∧ 8 ≤ m ∨ m < 24 ∧ 16 ≤ m ∨ m < 32 ∧ 24 ≤ m ∨ m < 40 ∧ 32 ≤ m ∨ m < 48 ∧ 40 ≤ m ∨ m < 56 ∧ 48 ≤ m ∨ m < 64 ∧ 56 ≤ m := by omega
  rcases h with h | h | h | h | h | h | h | h
  ·exact lAll_at kO6_0 (by omega) (by omega)
  ·exact lAll_at kO6_1 (by omega) (by omega)
  ·exact lAll_at kO6_2 (by omega) (by omega)
  ·exact lAll_at kO6_3 (by omega) (by omega)
  ·exact lAll_at kO6_4 (by omega) (by omega)
  ·exact lAll_at kO6_5 (by omega) (by omega)
  ·exact lAll_at kO6_6 (by omega) (by omega)
  ·exact lAll_at kO6_7 (by omega) (by omega)
noncomputable def pO (L : Nat) : Par := ⟨Tryd.prog, rcOf Tryd.rows, fun ρ _ => okO L ρ⟩
theorem manyF_over {ρ : Rho} (g : Nat → Int) : ∀ (k m : Nat) (a b o : Int), manyF (ρ.over g) k m a b o = manyF ρ k m a b o
 | 0, _, _, _, _ => rfl
 | k + 1, m, a, b, o => by
  simp only [manyF]
  refine foldl_congr _ fun o r hr => ?_
  rw [aftF_over (rsOf_lt hr), manyF_over g k]
theorem okO_over {L : Nat} (hL : L ≤ 6) {ρ : Rho} (g : Nat → Int) (h : okO L ρ) : okO L (ρ.over g) :=
 ⟨okT_over hL g h.1, fun m hm a b o => by rw [manyF_over]; exact h.2 m hm a b o⟩
theorem many_den {L : Nat} {ρ : Rho} (h : okO L ρ) {m : Nat} (hm : m < 2 ^ L) (x1 x2 o : IE) : (mnyE m x1 x2 o).den ρ = manyF ρ (cnt m) m (x1.den ρ) (x2.den ρ) (o.den ρ) := by
 rw [← h.2 m hm]
 unfold mnyE
 simp only [FI, IE.den]
 rw [if_pos (by omega)]
noncomputable def stepM (ρ : Rho) (k m : Nat) (a b o : Int) (r : Nat) : Int := if aftF ρ r a b = (0, 0) then o else manyF ρ k (del m r) (aftF ρ r a b).1 (aftF ρ r a b).2 o
theorem tN_cons (K m p r : Nat) (x1 x2 : IE) (l : List Nat) (cs : List IE) (o : IE) : tN K m p x1 x2 (r :: l) cs o = .br (empE r x1 x2) (tN K m p x1 x2 l cs o) (tN K m p x1 x2 l (updL K (del m r) p r (af1 r x1 x2) (af2 r x1 x2) cs) (mnyE (del m r) (af1 r x1 x2) (af2 r x1 x2) o)) := rfl
theorem tN_holds {L K : Nat} {ρ : Rho} (h : okO L ρ) {m k p : Nat} {x1 x2 : IE} (hp : K - (k + 1) = p) (hkL : k + 1 ≤ K) (hK : K ≤ 6) {R : AV → Prop} : ∀ (l : List Nat) (cs : List IE) (o : IE), (∀ r ∈ l, r < L ∧ del m r < 2 ^ L ∧ cnt (del m r) = k) → cs.length = 6 →
  (∀ cs' : List IE, ∀ o' : IE, cs'.length = 6 → dens ρ cs' = mapZ (fun j o => l.foldl (stepF ρ k p m (x1.den ρ) (x2.den ρ) j) o) (dens ρ cs) 0 → o'.den ρ = l.foldl (stepM ρ k m (x1.den ρ) (x2.den ρ)) (o.den ρ) → R (lfO cs' o')) → (tN K m p x1 x2 l cs o).Holds ρ R
 | [], cs, o, _, hc, hn => hn cs o hc (by simp only [List.foldl_nil]; exact (mapZ_id _ 0).symm) rfl
 | r :: l, cs, o, hl, hc, hn => by
  obtain ⟨hr, hd, hk⟩ := hl r List.mem_cons_self
  have hl' : ∀ r ∈ l, r < L ∧ del m r < 2 ^ L ∧ cnt (del m r) = k := fun r hr => hl r (List.mem_cons_of_mem _ hr)
  obtain ⟨d1, d2⟩ := af_den h.1.1 hr x1 x2
  rw [tN_cons]
  simp only [T.Holds]
  split
  ·rename_i he
   have he := (emp_den h.1.1 hr x1 x2).1 he
   refine tN_holds h hp hkL hK l cs o hl' hc fun cs' o' hc' hd' ho' => hn cs' o' hc' ?_ ?_
   ·rw [hd']
    refine mapZ_congr _ _ fun j o _ _ => ?_
    have : stepF ρ k p m (x1.den ρ) (x2.den ρ) j o r = o := by unfold stepF; rw [if_pos he]
    simp only [List.foldl_cons, this]
   ·rw [ho', List.foldl_cons]
    have : stepM ρ k m (x1.den ρ) (x2.den ρ) (o.den ρ) r = o.den ρ := by unfold stepM; rw [if_pos he]
    rw [this]
  ·rename_i he
   have he : ¬ aftF ρ r (x1.den ρ) (x2.den ρ) = (0, 0) := fun h' => he ((emp_den h.1.1 hr x1 x2).2 h')
   have hu : dens ρ (updL K (del m r) p r (af1 r x1 x2) (af2 r x1 x2) cs) = mapZ (fun j o => stepF ρ k p m (x1.den ρ) (x2.den ρ) j o r) (dens ρ cs) 0 := by
    unfold updL
    refine dens_mapI cs 0 fun j o _ hj => ?_
    rw [hc] at hj
    unfold stepF
    rw [if_neg he]
    by_cases h1 : p + 1 ≤ j
    ·rw [ble_t.2 h1, cond_true, if_neg (by omega), if_neg (by omega), left_den h.1 hd hK _ _ (by omega), hk, d1, d2]
     have : K - k = p + 1 := by omega
     rw [this]
    ·have : Nat.ble (p + 1) j = false := by
      cases hb : Nat.ble (p + 1) j with
      | false => rfl
      | true => exact absurd (ble_t.1 hb) h1
     rw [this, cond_false]
     by_cases h2 : j = p
     ·rw [beq_t.2 h2, cond_true, if_neg (by omega), if_pos h2]; rfl
     ·rw [beq_f.2 h2, cond_false, if_pos (by omega)]
   have hul : (updL K (del m r) p r (af1 r x1 x2) (af2 r x1 x2) cs).length = 6 := by unfold updL; rw [mapI_len]; exact hc
   refine tN_holds h hp hkL hK l _ _ hl' hul fun cs' o' hc' hd' ho' => hn cs' o' hc' ?_ ?_
   ·rw [hd', hu, mapZ_comp]
    rfl
   ·rw [ho', many_den h hd, hk, d1, d2, List.foldl_cons]
    have : stepM ρ k m (x1.den ρ) (x2.den ρ) (o.den ρ) r = manyF ρ k (del m r) (aftF ρ r (x1.den ρ) (x2.den ρ)).1 (aftF ρ r (x1.den ρ) (x2.den ρ)).2 (o.den ρ) := by unfold stepM; rw [if_neg he]
    rw [this]
theorem vO_mem {L : Nat} {xs : List IE} {o : IE} {b : Nat} {c : AObj} (h : (b, c) ∈ vO L xs o) : (b, c) ∈ preO L ∨ (b = 2013 ∧ c = .cells (lMap iA xs) 3 true false) ∨ (b = 2003 ∧ c = oneC o) := by
 unfold vO at h
 unfold preO
 simp only [List.mem_cons, List.not_mem_nil, or_false] at h ⊢
 rcases h with h | h | h | h | h | h | h | h | h
 ·exact .inl (.inl h)
 ·exact .inl (.inr (.inl h))
 ·cases h; exact .inr (.inr ⟨rfl, rfl⟩)
 ·exact .inl (.inr (.inr (.inl h)))
 ·exact .inl (.inr (.inr (.inr (.inl h))))
 ·exact .inl (.inr (.inr (.inr (.inr (.inl h)))))
 ·cases h; exact .inr (.inl ⟨rfl, rfl⟩)
 ·exact .inl (.inr (.inr (.inr (.inr (.inr (.inl h))))))
 ·exact .inl (.inr (.inr (.inr (.inr (.inr (.inr h))))))
theorem vO_pre {L : Nat} {xs : List IE} {o : IE} {b : Nat} {c : AObj} (h : (b, c) ∈ preO L) : (b, c) ∈ vO L xs o := by
 unfold preO at h
 unfold vO
 simp only [List.mem_cons, List.not_mem_nil, or_false] at h ⊢
 rcases h with h | h | h | h | h | h | h
 ·exact .inl h
 ·exact .inr (.inl h)
 ·exact .inr (.inr (.inr (.inl h)))
 ·exact .inr (.inr (.inr (.inr (.inl h))))
 ·exact .inr (.inr (.inr (.inr (.inr (.inl h)))))
 ·exact .inr (.inr (.inr (.inr (.inr (.inr (.inr (.inl h)))))))
 ·exact .inr (.inr (.inr (.inr (.inr (.inr (.inr (.inr h)))))))
theorem vO_arr {L : Nat} {xs : List IE} {o : IE} : (2013, AObj.cells (lMap iA xs) 3 true false) ∈ vO L xs o := by unfold vO; simp
theorem vO_one {L : Nat} {xs : List IE} {o : IE} : (2003, oneC o) ∈ vO L xs o := by unfold vO; simp
noncomputable def okG (g : Nat × AObj) : Bool := and (plO g.2) (and (Nat.ble (g.1 + 1) 2016) (idsO 2016 g.2))
theorem preO_ok {L : Nat} (h0 : 1 ≤ L) (hL : L ≤ 6) : lAll okG (preO L) = true := by
 rcases six h0 hL with rfl | rfl | rfl | rfl | rfl | rfl <;> kernel_rfl
theorem lAll_of {α : Type} {p : α → Bool} : ∀ {l : List α}, (∀ a ∈ l, p a = true) → lAll p l = true
 | [], _ => rfl
 | a :: _, h => lAll_cons (h a List.mem_cons_self) (lAll_of fun b hb => h b (List.mem_cons_of_mem _ hb))
theorem viewO_ok {L : Nat} (h0 : 1 ≤ L) (hL : L ≤ 6) (xs : List IE) (o : IE) : viewOk 2016 (vO L xs o) = true := by
 unfold viewOk
 rw [Bool.and_eq_true]
 refine ⟨rfl, lAll_of fun g hg => ?_⟩
 obtain ⟨b, c⟩ := g
 rcases vO_mem hg with hm | ⟨rfl, rfl⟩ | ⟨rfl, rfl⟩
 ·have := lAll_mem (preO_ok h0 hL) (b, c) hm
  unfold okG at this
  rw [Bool.and_eq_true] at this
  exact this.2
 ·rw [Bool.and_eq_true]; exact ⟨rfl, idsI 2016 xs⟩
 ·rfl
theorem encO_eq {L : Nat} {q : AV × Heap} {cs : List IE} {o : IE} (h : encO L q = lfO cs o) : q.1 = tag true ∧ allO q.2 (preO L) = true ∧ q.2.next = 2016 ∧ q.2.get 2013 = some (.cells (lMap iA cs) 3 true false) ∧ q.2.get 2003 = some (oneC o) := by
 unfold encO lfO at h
 simp only [AV.tup.injEq, List.cons.injEq, and_true] at h
 obtain ⟨h1, h2, h3, h4⟩ := h
 simp only [tag, AV.bool.injEq, BE.lit.injEq, Bool.and_eq_true] at h2
 exact ⟨h1, h2.1, beq_t.1 h2.2, blkA_some h3, blkA_some h4⟩
theorem O_base {L m : Nat} (h0 : 1 ≤ L) (hL : L ≤ 6) (hm : m < 2 ^ L) (B : TabOk (pO L) Sx.Tryd.tt.get (tbO L (cnt m))) : CallOk (pO L) 76 (argsO L m (.var 500) (.var 501)) (viewA 2016 (vO L vs6 vv)) (.ret (leafO L m (.var 500) (.var 501) vs6 vv)) := by
 have base := eval_ok B 100 76 (argsO L m (.var 500) (.var 501)) (viewA 2016 (vO L vs6 vv))
 have up : upA 0 (vO L vs6 vv) = true := rfl
 have fr : CallOk (pO L) 76 (argsO L m (.var 500) (.var 501)) (viewA 2016 (vO L vs6 vv)) (runO L m) := base.frame (n := 2016) (l := vO L vs6 vv) (by omega) rfl (viewO_ok h0 hL vs6 vv)
  (fun g hg => ⟨g.2, viewA_mem 2016 _ 0 up g hg, .refl _⟩) (by rw [viewA_next]; exact Nat.le_refl _) (fun _ => [])
 have tree : ((runO L m).bind fun q => T.ret (encO L q)) = expO L m := eqTF_eq _ _ (ckO_all h0 hL hm)
 refine CallOk.read rfl fr fun ρ b hok Q k => ⟨ρ, hok, SameL.refl _ _, ⟨rfl, fun j o g => ⟨o, g, SameA.refl o⟩⟩, T.holds_enc tree ?_⟩
 obtain ⟨_, hT, _⟩ := hok
 have hT : okO L ρ := hT
 have k : Q (leafO L m (.var 500) (.var 501) vs6 vv) := k
 have hcl := cnt_le' hm
 obtain ⟨f1, f2, f3⟩ := facts_of hL hm
 have done : ∀ (cs : List IE) (o : IE), dens ρ cs = dens ρ (leftL L m (L - cnt m) (.var 500) (.var 501) vs6) → o.den ρ = (mnyE m (.var 500) (.var 501) vv).den ρ → ∀ r0, encO L r0 = lfO cs o → ∃ q, Q q ∧ SameV ρ r0.1 ρ q.1 ∧ SameH (pO L) (pO L) ρ r0.2 ρ q.2 := by
  intro cs o hd ho r0 he
  obtain ⟨h1, h2, h3, h4, h5⟩ := encO_eq he
  refine ⟨_, k, by rw [h1]; exact SameV.refl _ _, h3.trans (viewA_next _ _).symm, fun j c g => ?_⟩
  rcases vO_mem (viewA_get _ _ _ _ g) with hm | ⟨rfl, rfl⟩ | ⟨rfl, rfl⟩
  ·exact ⟨c, allO_get h2 hm, SameA.refl c⟩
  ·exact ⟨_, h4, SameA.cells rfl (same_ints hd)⟩
  ·exact ⟨_, h5, SameA.cells rfl (SameL.cons (SameV.int ho) SameL.nil)⟩
 show (expO L m).Holds ρ _
 unfold expO
 cases hz : Nat.beq m 0 with
 | true =>
  rw [cond_true]
  have hm0 : m = 0 := beq_t.1 hz
  subst hm0
  refine done _ _ ?_ ?_
  ·unfold leftL
   refine ((dens_mapI (g := fun _ o => o) vs6 0 fun j o _ hj => ?_).trans (mapZ_id _ 0)).symm
   have hj : j < 6 := by have e : vs6.length = 6 := rfl; rw [e] at hj; omega
   cases Nat.ble (L - cnt 0) j with
   | false => rfl
   | true => rw [cond_true, left_den hT.1 hm hL _ _ (by omega), f2 rfl]; rfl
  ·rw [many_den hT hm, f2 rfl]; rfl
 | false =>
  rw [cond_false]
  have hm0 : m ≠ 0 := fun h => by rw [beq_t.2 h] at hz; cases hz
  obtain ⟨n, hn⟩ : ∃ n, cnt m = n + 1 := ⟨cnt m - 1, by have := f3 hm0; omega⟩
  rw [hn]
  refine tN_holds (k := n) (p := L - (n + 1)) hT rfl (by omega) hL (rsOf m) vs6 vv (fun r hr => ?_) rfl fun cs' o' hlen hd ho => done _ _ (hd.trans ?_) (ho.trans ?_)
  ·obtain ⟨q1, q2, q3, q4⟩ := f1 r hr
   exact ⟨q1, q2, by omega⟩
  ·unfold leftL
   rw [hn]
   refine (dens_mapI vs6 0 fun j o _ hj => ?_).symm
   have hj : j < 6 := by have e : vs6.length = 6 := rfl; rw [e] at hj; omega
   by_cases hp : L - (n + 1) ≤ j
   ·rw [ble_t.2 hp, cond_true, left_den hT.1 hm hL _ _ (by omega), hn]
    rfl
   ·have : Nat.ble (L - (n + 1)) j = false := by
     cases hb : Nat.ble (L - (n + 1)) j with
     | false => rfl
     | true => exact absurd (ble_t.1 hb) hp
    rw [this, cond_false]
    refine (foldl_id _ _ fun o r => ?_).symm
    unfold stepF
    split
    ·rfl
    ·rw [if_pos (by omega)]
  ·rw [many_den hT hm, hn]
   rfl
theorem vO_same {L : Nat} (h0 : 1 ≤ L) (hL : L ≤ 6) {ρ ρ' : Rho} (hA : Alike ρ ρ') {xs ys : List IE} {o o' : IE} (h : xs.map (IE.den ρ) = ys.map (IE.den ρ')) (ho : o.den ρ = o'.den ρ') : SameH (pO L) (pO L) ρ (viewA 2016 (vO L xs o)) ρ' (viewA 2016 (vO L ys o')) := by
 refine ⟨by rw [viewA_next, viewA_next], fun j c g => ?_⟩
 have up : upA 0 (vO L xs o) = true := rfl
 have get : ∀ {b c}, (b, c) ∈ vO L xs o → (viewA 2016 (vO L xs o)).get b = some c := fun hm => viewA_mem 2016 _ 0 up _ hm
 rcases vO_mem (viewA_get _ _ _ _ g) with hm | ⟨rfl, rfl⟩ | ⟨rfl, rfl⟩
 ·have := lAll_mem (preO_ok h0 hL) (j, c) hm
  unfold okG at this
  rw [Bool.and_eq_true] at this
  exact ⟨c, get (vO_pre hm), SameA.pl hA this.1⟩
 ·exact ⟨_, get vO_arr, SameA.cells rfl (same_ints h)⟩
 ·exact ⟨_, get vO_one, SameA.cells rfl (SameL.cons (SameV.int ho) SameL.nil)⟩
theorem O_said {L m : Nat} (h0 : 1 ≤ L) (hL : L ≤ 6) (hm : m < 2 ^ L) (B : TabOk (pO L) Sx.Tryd.tt.get (tbO L (cnt m))) (x1 x2 : IE) {xs : List IE} (hx : xs.length = 6) (o : IE) : CallOk (pO L) 76 (argsO L m x1 x2) (viewA 2016 (vO L xs o)) (.ret (leafO L m x1 x2 xs o)) := by
 refine CallOk.read (p0 := pO L) rfl (O_base h0 hL hm B) fun ρ b ⟨mm, k1, k2⟩ Q k => ?_
 let g : Nat → Int := fun j => if j = 500 then x1.den ρ else if j = 501 then x2.den ρ else if j = 520 then o.den ρ else ((xs.map (IE.den ρ))[j - 510]?).getD 0
 have hA : Alike ρ (ρ.over g) := Rho.over_alike ρ g
 have e1 : (IE.var 500).den (ρ.over g) = x1.den ρ := rfl
 have e2 : (IE.var 501).den (ρ.over g) = x2.den ρ := rfl
 have e3 : vv.den (ρ.over g) = o.den ρ := rfl
 have ex : vs6.map (IE.den (ρ.over g)) = xs.map (IE.den ρ) := six_list (xs.map (IE.den ρ)) (by rw [List.length_map]; exact hx) g fun i hi => by
  simp only [g, if_neg (show ¬ 510 + i = 500 by omega), if_neg (show ¬ 510 + i = 501 by omega), if_neg (show ¬ 510 + i = 520 by omega), Nat.add_sub_cancel_left]
 have eLeft : (leftL L m (L - cnt m) (.var 500) (.var 501) vs6).map (IE.den (ρ.over g)) = (leftL L m (L - cnt m) x1 x2 xs).map (IE.den ρ) := by
  have a1 := dens_mapI (ρ := ρ.over g) (f := fun j o => cond (Nat.ble (L - cnt m) j) (leftE L m (.var 500) (.var 501) j o) o) (g := fun j o => cond (Nat.ble (L - cnt m) j) (FI ρ.fi (5000 + 600 * L + 8 * m + j) (x1.den ρ) (x2.den ρ) o) o) vs6 0 fun i o _ _ => by
   cases Nat.ble (L - cnt m) i <;> rfl
  have a2 := dens_mapI (ρ := ρ) (f := fun j o => cond (Nat.ble (L - cnt m) j) (leftE L m x1 x2 j o) o) (g := fun j o => cond (Nat.ble (L - cnt m) j) (FI ρ.fi (5000 + 600 * L + 8 * m + j) (x1.den ρ) (x2.den ρ) o) o) xs 0 fun i o _ _ => by
   cases Nat.ble (L - cnt m) i <;> rfl
  unfold dens at a1 a2
  unfold leftL
  rw [a1, a2, ex]
 have eMany : (mnyE m (.var 500) (.var 501) vv).den (ρ.over g) = (mnyE m x1 x2 o).den ρ := by
  unfold mnyE
  simp only [IE.den, e3]
  rfl
 refine ⟨ρ.over g, ⟨mm, okO_over hL g k1, k2⟩, ?_, vO_same h0 hL hA ex.symm e3.symm, ?_⟩
 ·unfold argsO
  have hb : SameV ρ (bitsA m) (ρ.over g) (bitsA m) := SameV.agg (SameL.cons (SameV.bool rfl) (SameL.cons (SameV.bool rfl) (SameL.cons (SameV.bool rfl) (SameL.cons (SameV.bool rfl) (SameL.cons (SameV.bool rfl) (SameL.cons (SameV.bool rfl) SameL.nil))))))
  exact SameL.cons (SameV.int rfl) (SameL.cons hb (SameL.cons (SameV.agg (SameL.cons (SameV.int e1.symm) (SameL.cons (SameV.int e2.symm) SameL.nil))) (SameL.pl hA ptrsO rfl)))
 ·exact ⟨_, k, SameV.bool rfl, vO_same h0 hL hA.symm eLeft eMany⟩
theorem orcT2_ok {L k : Nat} (h0 : 1 ≤ L) (hL : L ≤ 6) (B : ∀ j, j < k → TabOk (pO L) Sx.Tryd.tt.get (tbO L j)) {args : List AV} {h : Heap} {t : T (AV × Heap)} (e : orcT2 L k args h = some t) : CallOk (pO L) 76 args h t := by
 unfold orcT2 at e
 split at e
 ·split at e
  ·rename_i m xs o _ _ _
   obtain ⟨hc, e2⟩ := cond_some e
   clear e
   simp only [Bool.and_eq_true] at hc
   obtain ⟨⟨i1, i2, i3⟩, ⟨i4, i5⟩, i6⟩ := hc
   have i1 := eqAVs_eq _ _ i1
   rw [i1]
   cases e2
   have hx : xs.length = 6 := by rw [← lLen_eq]; exact beq_t.1 i4
   exact (O_said h0 hL (ltP_t i2) (B _ (ble_t.1 i3)) _ _ hx o).frame (n := 2016) (by omega) rfl (viewO_ok h0 hL xs o) (lessAll_ok i5) (ble_t.1 i6) (fun _ => [])
  ·cases e
 ·cases e
theorem tabsO {L : Nat} (h0 : 1 ≤ L) (hL : L ≤ 6) (k : Nat) : TabOk (pO L) Sx.Tryd.tt.get (tbO L k) := by
 induction k using Nat.strongRecOn with
 | ind k ih =>
  refine Tryd.tab (orcL2 L k) (fun f args h t e => ?_) 2000
  unfold orcL2 at e
  cases h1 : Nat.beq f 60 with
  | true =>
   rw [h1, cond_true] at e
   rw [beq_t.1 h1]
   exact orcA_ok (p := pO L) rfl (.inl rfl) (fun ρ m h => h.1.1) h0 hL e
  | false =>
   rw [h1, cond_false] at e
   obtain ⟨h2, e⟩ := cond_some e
   rw [beq_t.1 h2]
   exact orcT2_ok h0 hL ih e
end Go.Sx
namespace Go.Sx
noncomputable section
open Go.RowKit Go.Proofs
set_option maxRecDepth 100000
def orB (a b : BE) : BE :=
 match a with
 | .lit c => cond c (.lit true) b
 | _ => .not (.and (.not a) (.not b))
def atE (k m : Nat) (x1 x2 : IE) (j : Nat) : BE := .app (20000 + 512 * k + 8 * m + j) x1 x2 (.lit 0)
def atF (ρ : Rho) (k : Nat) : Nat → Nat → Nat → Int → Int → Nat → Bool
 | 0, _, _, _, _, _ => false
 | n + 1, p, m, a, b, j => (rsOf m).any fun r => !decide (aftF ρ r a b = (0, 0)) && (if r = k then decide (j = p) && !noneF ρ n (del m r) (aftF ρ r a b).1 (aftF ρ r a b).2 else atF ρ k n (p + 1) (del m r) (aftF ρ r a b).1 (aftF ρ r a b).2 j)
def okPl (L k : Nat) (ρ : Rho) : Prop := okT L ρ ∧ ∀ m j, m < 2 ^ L → j < 8 → ∀ a b, ρ.fb (20000 + 512 * k + 8 * m + j) a b 0 = atF ρ k (cnt m) (L - cnt m) m a b j
def loopL (L k : Nat) (st : LoopState) (x : Ex) : AObj := .loop st x 45 (treeOf [(0, filmK 2001 L), (1, ln k), (2, .ptr 2004 0), (3, .ptr 2005 0), (4, .ptr 2006 0), (5, .ptr 2007 0), (8, .func (.func 75) [] [.ptr 2013 0, .ptr 2012 0])]) [9] 45009 2014
def preL (L k : Nat) : List (Nat × AObj) := [(1001, rowsA L), (2001, .umap (mU false)), (2005, ro [ln k]), (2013, ro [.func (.func 60) [filmK 2001 L] []]), (2015, loopL L k .ready .norm), (2016, ro [.yieldF 2015]), (2018, ro [.slice 2017 0 6 6]), (2019, ro [.func (.func 76) [] ptrsP])]
def psO (ps : List BE) : AObj := .cells (lMap AV.bool ps) 84 true false
def vL (L k : Nat) (xs : List IE) (ps : List BE) : List (Nat × AObj) := [(1001, rowsA L), (2001, .umap (mU false)), (2005, ro [ln k]), (2007, psO ps), (2013, ro [.func (.func 60) [filmK 2001 L] []]), (2015, loopL L k .ready .norm), (2016, ro [.yieldF 2015]), (2017, .cells (lMap iA xs) 3 true false), (2018, ro [.slice 2017 0 6 6]), (2019, ro [.func (.func 76) [] ptrsP])]
def argsL (L m : Nat) (x1 x2 : IE) : List AV := ln (L - cnt m) :: bitsA m :: .agg [iA x1, iA x2] :: ptrsP
def mapB (f : Nat → BE → BE) : List BE → Nat → List BE := fun l => @List.rec BE (fun _ => Nat → List BE) (fun _ => []) (fun a _ ih j => f j a :: ih (j + 1)) l
def orT (m : Nat) (s : BE) (x1 x2 : IE) : BE := cond (Nat.beq m 0) (.lit true) (orB s (.not (noneE m x1 x2)))
def psF (L k m q : Nat) (x1 x2 : IE) (j : Nat) (s : BE) : BE := cond (bt m k) (cond (Nat.ble (j + 1) L) (orB s (atE k m x1 x2 j)) s) (cond (Nat.beq j q) (orT m s x1 x2) s)
def psL (L k m q : Nat) (x1 x2 : IE) (ps : List BE) : List BE := mapB (psF L k m q x1 x2) ps 0
def leafL (L k m q : Nat) (x1 x2 : IE) (xs : List IE) (ps : List BE) : AV × Heap := (tag true, viewA 2020 (vL L k (leftL L m (L - cnt m) x1 x2 xs) (psL L k m q x1 x2 ps)))
def boolsI : List AV → Option (List BE)
 | [] => some []
 | a :: l => (match a with
  | .bool x => (match boolsI l with
   | some xs => some (x :: xs)
   | none => none)
  | _ => none)
def boolsC (o : Option AObj) : Option (List BE) :=
 match o with
 | some (.cells cs _ _ _) => boolsI cs
 | _ => none
def isLitN (k : Nat) (x : IE) : Bool :=
 match x with
 | .lit (.ofNat n) => Nat.beq n k
 | _ => false
def posK (k : Nat) (xs : List IE) : Nat := @List.rec IE (fun _ => Nat) 0 (fun x _ ih => cond (isLitN k x) 0 (ih + 1)) xs
def notK (k kn : Nat) (x : IE) : Bool :=
 match x with
 | .lit (.ofNat n) => Bool.not (Nat.beq n k)
 | .var i => and (Nat.ble 510 i) (Nat.ble (i + 1) (510 + kn))
 | _ => false
def okX (k kn n : Nat) (xs : List IE) : Nat → Bool := @List.rec IE (fun _ => Nat → Bool) (fun _ => true) (fun x _ ih j => cond (Nat.ble (j + 1) n) (and (notK k kn x) (ih (j + 1))) true) xs
def nthI (xs : List IE) : Nat → IE := @List.rec IE (fun _ => Nat → IE) (fun _ => .lit 0) (fun x _ ih j => @Nat.rec (fun _ => IE) x (fun i _ => ih i) j) xs
def knX (L k kn m q : Nat) (xs : List IE) : Bool := cond (bt m k) (okX k kn (L - cnt m) xs 0) (and (okX k kn q xs 0) (and (Nat.ble (q + 1) (L - cnt m)) (isLitN k (nthI xs q))))
def lenB (ps : List BE) : Nat := @List.rec BE (fun _ => Nat) 0 (fun _ _ ih => ih + 1) ps
def orcT3 (L k kn c : Nat) (args : List AV) (h : Heap) : Option (T (AV × Heap)) :=
 match args with
 | (_ :: .agg bs :: .agg [.int _ x1, .int _ x2] :: _) => (match maskA bs 1, cellsI (h.get 2017), boolsC (h.get 2007) with
  | some m, some xs, some ps => cond (and (and (eqAVs args (argsL L m x1 x2)) (and (ltP L m) (Nat.ble (cnt m + 1) c))) (and (and (and (Nat.beq (lLen xs) 6) (Nat.beq (lenB ps) 6)) (and (knX L k kn m (posK k xs) xs) (lessAll h (vL L k xs ps)))) (Nat.ble 2020 h.next)))
    (some ((T.ret (leafL L k m (posK k xs) x1 x2 xs ps)).bind fun r => graftT 2020 (vL L k xs ps) h [] r)) none
  | _, _, _ => none)
 | _ => none
def orcL3 (L k kn c : Nat) (f : FuncId) (args : List AV) (h : Heap) : Option (T (AV × Heap)) := cond (Nat.beq f 60) (orcA 2001 L args h) (cond (Nat.beq f 76) (orcT3 L k kn c args h) none)
def tbL (L k kn c : Nat) : Tabs := ⟨Sx.Tryd.ft.get, lFind Sx.Tryd.rt, 2000, orcL3 L k kn c⟩
def knM (L k m q : Nat) : Nat := cond (bt m k) (L - cnt m) q
def vsQ (k m q : Nat) : List IE := mapI (fun j x => cond (bt m k) x (cond (Nat.beq j q) (.lit (Int.ofNat k)) x)) vs6 0
def bX (j : Nat) : BE := .cmp .eql (.var j) (.lit 1)
def bs6 : List BE := lMap bX (upN 6 530)
def runL (L k m q : Nat) : T (AV × Heap) := (evalN (tbL L k (knM L k m q) (cnt m)) 100 false 76 (argsL L m (.var 500) (.var 501)) (viewA 2020 (vL L k (vsQ k m q) bs6))).bind fun r => graftT 2020 (vL L k (vsQ k m q) bs6) (viewA 2020 (vL L k (vsQ k m q) bs6)) [] r
def encL (L k : Nat) (r : AV × Heap) : AV := .tup [r.1, tag (and (allO r.2 (preL L k)) (Nat.beq r.2.next 2020)), blkA (r.2.get 2017), blkA (r.2.get 2007)]
def boolB (ps : List BE) : AV := .tup [.tup (lMap AV.bool ps), ln 84, tag true, tag false]
def lfL (cs : List IE) (ps : List BE) : AV := .tup [tag true, tag true, cellsB cs false, boolB ps]
def tPl (L k m p q : Nat) (x1 x2 : IE) (l : List Nat) : List IE → List BE → T AV :=
 @List.rec Nat (fun _ => List IE → List BE → T AV) (fun cs ps => .ret (lfL cs ps))
  (fun r _ ih cs ps => .br (empE r x1 x2) (ih cs ps) (ih (updL L (del m r) p r (af1 r x1 x2) (af2 r x1 x2) cs) (psL L k (del m r) (cond (Nat.beq r k) p q) (af1 r x1 x2) (af2 r x1 x2) ps))) l
def chP (k q : Nat) (n : Nat) : Nat → T AV :=
 @Nat.rec (fun _ => Nat → T AV) (fun _ => .ret (lfL (vsQ k 0 q) (mapB (fun j s => cond (Nat.beq j q) (.lit true) s) bs6 0)))
  (fun _ ih i => .br (.cmp .eql (.lit (Int.ofNat k)) (.var (510 + i))) (.ret (lfL (vsQ k 0 q) (mapB (fun j s => cond (Nat.beq j i) (.lit true) s) bs6 0))) (ih (i + 1))) n
def expL (L k m q : Nat) : T AV := cond (Nat.beq m 0) (chP k q q 0) (tPl L k m (L - cnt m) q (.var 500) (.var 501) (rsOf m) (vsQ k m q) bs6)
def ckL (L k m q : Nat) : Bool := eqTF ((runL L k m q).bind fun r => .ret (encL L k r)) (expL L k m q)
def ckLs (L k m : Nat) : Bool := cond (bt m k) (ckL L k m 0) (lAll (ckL L k m) (upN (L - cnt m) 0))
def ckLk (L k : Nat) : Bool := lAll (ckLs L k) (upN (Nat.pow 2 L) 0)
theorem kL1 : lAll (ckLk 1) (upN 1 0) = true := by kernel_rfl
theorem kL2 : lAll (ckLk 2) (upN 2 0) = true := by kernel_rfl
theorem kL3 : lAll (ckLk 3) (upN 3 0) = true := by kernel_rfl
end
end Go.Sx
namespace Go.Sx
noncomputable section
open Go.RowKit Go.Proofs
set_option maxRecDepth 100000
theorem ckS_all {L : Nat} (h0 : 1 ≤ L) (hL : L ≤ 6) : ((runS L).bind fun q => T.ret (encS L q)) = chainS expLf L (allS L) := by
 refine eqTF_eq _ _ ?_
 rcases six h0 hL with rfl | rfl | rfl | rfl | rfl | rfl
 ·exact ckS1
 ·exact ckS2
 ·exact ckS3
 ·exact ckS4
 ·exact ckS5
 ·exact ckS6
theorem encS_none {L : Nat} {q : AV × Heap} (h : encS L q = expLf none) : q.1 = .tup [.nilslice, ln 0] ∧ allO q.2 (vK L) = true ∧ q.2.next = 2000 := by
 unfold encS expLf at h
 split at h
 ·rename_i e hv
  simp only [AV.tup.injEq, List.cons.injEq, and_true, true_and] at h
  obtain ⟨h1, h2⟩ := h
  simp only [tag, AV.bool.injEq, BE.lit.injEq, Bool.and_eq_true] at h2
  exact ⟨by rw [hv, h1], h2.1, beq_t.1 h2.2⟩
 ·simp at h
theorem encS_some {L : Nat} {q : AV × Heap} {l : List Nat} (h : encS L q = expLf (some l)) : q.1 = valS l ∧ allO q.2 (vK L) = true ∧ q.2.next = 2001 ∧ q.2.get 2000 = some (.cells (lMap iA (lMap litN l)) 3 true (extS l)) := by
 unfold encS expLf at h
 split at h
 ·simp at h
 ·simp only [AV.tup.injEq, List.cons.injEq, and_true, true_and] at h
  obtain ⟨h1, h2, h3⟩ := h
  simp only [tag, AV.bool.injEq, BE.lit.injEq, Bool.and_eq_true] at h2
  exact ⟨h1, h2.1, beq_t.1 h2.2, blkA_some h3⟩
theorem strange_said {L : Nat} (h0 : 1 ≤ L) (hL : L ≤ 6) : CallOk (pF L) 13 [filmF L] (viewA 2000 (vK L)) (saidS L) := by
 have base := eval_ok (tabsS h0 hL) 100 13 [filmF L] (viewA 2000 (vK L))
 have up : upA 0 (vK L) = true := rfl
 have fr : CallOk (pF L) 13 [filmF L] (viewA 2000 (vK L)) (runS L) := base.frame (n := 2000) (l := vK L) (by omega) rfl (viewK_ok h0 hL)
  (fun g hg => ⟨g.2, viewA_mem 2000 _ 0 up g hg, .refl _⟩) (by rw [viewA_next]; exact Nat.le_refl _) nwS
 refine CallOk.read rfl fr fun ρ b hok Q k => ⟨ρ, hok, SameL.refl _ _, ⟨rfl, fun j o g => ⟨o, g, SameA.refl o⟩⟩, T.holds_enc (ckS_all h0 hL) ?_⟩
 unfold saidS at k
 refine chainS_holds (fun o ko => ?_) L (allS L) k
 intro r0 he
 cases o with
 | none =>
  obtain ⟨h1, h2, h3⟩ := encS_none he
  exact ⟨_, ko, by rw [h1]; exact SameV.refl _ _, h3.trans (viewA_next _ _).symm, fun j o g => ⟨o, allO_get h2 (viewA_get _ _ _ _ g), SameA.refl o⟩⟩
 | some l =>
  obtain ⟨h1, h2, h3, h4⟩ := encS_some he
  refine ⟨_, ko, by rw [h1]; exact SameV.refl _ _, h3.trans (viewA_next _ _).symm, fun j o g => ?_⟩
  have hm := viewA_get _ _ _ _ g
  unfold vS at hm
  rcases List.mem_append.1 hm with hm | hm
  ·exact ⟨o, allO_get h2 hm, SameA.refl o⟩
  ·rw [List.mem_singleton] at hm
   cases hm
   exact ⟨_, h4, SameA.refl _⟩
end
end Go.Sx
namespace Go.Sx
open Go.RowKit Go.Proofs
set_option maxRecDepth 100000
noncomputable def pQ (L : Nat) : Par := ⟨Tryd.prog, rcOf Tryd.rows, fun ρ _ => okO L ρ ∧ okFilm L ρ⟩
noncomputable def orcQ (L : Nat) (f : FuncId) (args : List AV) (h : Heap) : Option (T (AV × Heap)) :=
 cond (Nat.beq f 38) (orcK L args h) (orcL2 L 7 f args h)
noncomputable def tbQ (L : Nat) : Tabs := ⟨Sx.Tryd.ft.get, lFind Sx.Tryd.rt, 2000, orcQ L⟩
theorem tabsQ {L : Nat} (h0 : 1 ≤ L) (hL : L ≤ 6) : TabOk (pQ L) Sx.Tryd.tt.get (tbQ L) := by
 refine Tryd.tab (orcQ L) (fun f args h t e => ?_) 2000
 unfold orcQ at e
 cases h1 : Nat.beq f 38 with
 | true =>
  rw [h1, cond_true] at e
  refine CallOk.weak (fun ρ m h => ⟨h.1.1, h.2⟩) ((tabsF h0 hL).orc f args h t ?_)
  show orcF L f args h = some t
  unfold orcF
  rw [h1, cond_true]
  exact e
 | false =>
  rw [h1, cond_false] at e
  exact CallOk.weak (fun ρ m h => h.1) ((tabsO h0 hL 7).orc f args h t e)
noncomputable def runQ (L : Nat) : T (AV × Heap) := (evalN (tbQ L) 100 false 11 [filmF L] (viewA 2000 (vK L))).bind fun r => graftT 2000 (vK L) (viewA 2000 (vK L)) [] r
noncomputable def valQ (L : Nat) : AV := .tup [iA (mnyE (fullM L) (.lit 0) (.lit 100) (.lit 0)), ln 0]
noncomputable def expQ (L : Nat) : T AV := .ret (.tup [valQ L, tag true])
noncomputable def ckQ (L : Nat) : Bool := eqTF ((runQ L).bind fun q => .ret (.tup [q.1, tag (and (allO q.2 (vK L)) (Nat.beq q.2.next 2000))])) (expQ L)
theorem ckQ1 : ckQ 1 = true := by kernel_rfl
theorem ckQ2 : ckQ 2 = true := by kernel_rfl
theorem ckQ3 : ckQ 3 = true := by kernel_rfl
theorem ckQ4 : ckQ 4 = true := by kernel_rfl
theorem ckQ5 : ckQ 5 = true := by kernel_rfl
theorem ckQ6 : ckQ 6 = true := by kernel_rfl
theorem ckQ_all {L : Nat} (h0 : 1 ≤ L) (hL : L ≤ 6) : ((runQ L).bind fun q => T.ret (AV.tup [q.1, tag (and (allO q.2 (vK L)) (Nat.beq q.2.next 2000))])) = expQ L := by
 refine eqTF_eq _ _ ?_
 rcases six h0 hL with rfl | rfl | rfl | rfl | rfl | rfl
 ·exact ckQ1
 ·exact ckQ2
 ·exact ckQ3
 ·exact ckQ4
 ·exact ckQ5
 ·exact ckQ6
noncomputable def saidQ (L : Nat) : T (AV × Heap) := .ret (valQ L, viewA 2000 (vK L))
theorem orders_said {L : Nat} (h0 : 1 ≤ L) (hL : L ≤ 6) : CallOk (pQ L) 11 [filmF L] (viewA 2000 (vK L)) (saidQ L) := by
 have base := eval_ok (tabsQ h0 hL) 100 11 [filmF L] (viewA 2000 (vK L))
 have up : upA 0 (vK L) = true := rfl
 have fr : CallOk (pQ L) 11 [filmF L] (viewA 2000 (vK L)) (runQ L) := base.frame (n := 2000) (l := vK L) (by omega) rfl (viewK_ok h0 hL)
  (fun g hg => ⟨g.2, viewA_mem 2000 _ 0 up g hg, .refl _⟩) (by rw [viewA_next]; exact Nat.le_refl _) (fun _ => [])
 refine CallOk.read rfl fr fun ρ b hok Q k => ⟨ρ, hok, SameL.refl _ _, ⟨rfl, fun j o g => ⟨o, g, SameA.refl o⟩⟩, T.holds_enc (ckQ_all h0 hL) ?_⟩
 have k : Q (valQ L, viewA 2000 (vK L)) := k
 show ∀ r0 : AV × Heap, _ → _
 intro r0 he
 simp only [AV.tup.injEq, List.cons.injEq, and_true] at he
 obtain ⟨h1, h2⟩ := he
 simp only [tag, AV.bool.injEq, BE.lit.injEq, Bool.and_eq_true] at h2
 exact ⟨_, k, by rw [h1]; exact SameV.refl _ _, (beq_t.1 h2.2).trans (viewA_next _ _).symm, fun j o g => ⟨o, allO_get h2.1 (viewA_get _ _ _ _ g), SameA.refl o⟩⟩
end Go.Sx
namespace Go.Sx
noncomputable section
open Go.RowKit Go.Proofs
set_option maxRecDepth 100000
theorem fullM_lt0 {L : Nat} : fullM L < 2 ^ L := by
 have : 0 < 2 ^ L := Nat.two_pow_pos L
 show Nat.pow 2 L - 1 < 2 ^ L
 have e : Nat.pow 2 L = 2 ^ L := rfl
 omega
theorem fullM_cnt0 {L : Nat} (h0 : 1 ≤ L) (hL : L ≤ 6) : cnt (fullM L) = L := by
 rcases six h0 hL with rfl | rfl | rfl | rfl | rfl | rfl <;> rfl
theorem SameV.tup {ρ ρ' : Rho} {l l' : List AV} (h : SameL ρ l ρ' l') : SameV ρ (.tup l) ρ' (.tup l') := fun σ κ n m rc rc' => by simp only [conc, h σ κ n m rc rc']
theorem SameL.symm {ρ ρ' : Rho} {l l' : List AV} (h : SameL ρ l ρ' l') : SameL ρ' l' ρ l := fun σ κ n m rc rc' => (h σ κ m n rc' rc).symm
theorem csUp_mem {c : BE} : ∀ n b, c ∈ csUp n b ↔ (∃ r, r < n ∧ c ∈ reelC (b + 6 * r)) ∨ c ∈ restC
 | 0, b => ⟨.inr, fun h => by rcases h with ⟨r, h, _⟩ | h; omega; exact h⟩
 | n + 1, b => by
  simp only [csUp, List.mem_append, csUp_mem n (b + 6)]
  constructor
  ·rintro (h | ⟨r, h1, h2⟩ | h)
   ·exact .inl ⟨0, by omega, h⟩
   ·exact .inl ⟨r + 1, by omega, by rw [show b + 6 * (r + 1) = b + 6 + 6 * r by omega]; exact h2⟩
   ·exact .inr h
  ·rintro (⟨r, h1, h2⟩ | h)
   ·cases r with
    | zero => exact .inl h2
    | succ r => exact .inr (.inl ⟨r, by omega, by rw [show b + 6 + 6 * r = b + 6 * (r + 1) by omega]; exact h2⟩)
   ·exact .inr (.inr h)
theorem reelC_den {ρ : Rho} {b : Nat} : (∀ c ∈ reelC b, c.den ρ = true) ↔ 0 ≤ ρ.iv b ∧ ρ.iv b ≤ ρ.iv (b + 1) ∧ ρ.iv (b + 1) ≤ 99 ∧ 0 ≤ ρ.iv (b + 2) ∧ ρ.iv (b + 2) ≤ ρ.iv (b + 3) ∧ ρ.iv (b + 3) ≤ 99 ∧ 1 ≤ ρ.iv (b + 4) ∧ ρ.iv (b + 4) ≤ ρ.iv (b + 5) ∧ ρ.iv (b + 5) ≤ 1200 ∧ ρ.iv b ≤ ρ.iv (b + 3) := by
 simp only [reelC, List.forall_mem_cons, le2, BE.t_leq, IE.den_lit, IE.den_var, List.not_mem_nil, false_implies, implies_true, and_true]
theorem restC_den {ρ : Rho} : (∀ c ∈ restC, c.den ρ = true) ↔ 1 ≤ ρ.iv 0 ∧ ρ.iv 0 ≤ ρ.iv 1 ∧ ρ.iv 1 ≤ 20 ∧ 0 ≤ ρ.iv 2 ∧ ρ.iv 2 ≤ ρ.iv 3 ∧ ρ.iv 3 ≤ 50 ∧ 1 ≤ ρ.iv 4 ∧ ρ.iv 4 ≤ 6000 := by
 simp only [restC, List.forall_mem_cons, le2, BE.t_leq, IE.den_lit, IE.den_var, List.not_mem_nil, false_implies, implies_true, and_true]
theorem film_of_cs {L : Nat} (h0 : 1 ≤ L) (hL : L ≤ 6) {ρ : Rho} (h : ∀ c ∈ csL L, c.den ρ = true) : okFilm L ρ ∧ ∀ r, r < L → reelOk ρ r := by
 have R := restC_den.1 fun c hc => h c ((csUp_mem L 10).2 (.inr hc))
 have U : ∀ r, r < L → _ := fun r hr => reelC_den.1 fun c hc => h c ((csUp_mem L 10).2 (.inl ⟨r, hr, hc⟩))
 have reel : ∀ r, r < L → 0 ≤ ρ.iv (10 + 6 * r) ∧ ρ.iv (10 + 6 * r) ≤ ρ.iv (11 + 6 * r) ∧ ρ.iv (11 + 6 * r) ≤ 99 ∧ 0 ≤ ρ.iv (12 + 6 * r) ∧ ρ.iv (12 + 6 * r) ≤ ρ.iv (13 + 6 * r) ∧ ρ.iv (13 + 6 * r) ≤ 99 ∧ 1 ≤ ρ.iv (14 + 6 * r) ∧ ρ.iv (14 + 6 * r) ≤ ρ.iv (15 + 6 * r) ∧ ρ.iv (15 + 6 * r) ≤ 1200 ∧ ρ.iv (10 + 6 * r) ≤ ρ.iv (13 + 6 * r) := fun r hr => by
  obtain ⟨u1, u2, u3, u4, u5, u6, u7, u8, u9, u10⟩ := U r hr
  rw [show 10 + 6 * r + 1 = 11 + 6 * r by omega] at u2 u3
  rw [show 10 + 6 * r + 2 = 12 + 6 * r by omega] at u4 u5
  rw [show 10 + 6 * r + 3 = 13 + 6 * r by omega] at u5 u6 u10
  rw [show 10 + 6 * r + 4 = 14 + 6 * r by omega] at u7 u8
  rw [show 10 + 6 * r + 5 = 15 + 6 * r by omega] at u8 u9
  exact ⟨u1, u2, u3, u4, u5, u6, u7, u8, u9, u10⟩
 obtain ⟨r1, r2, r3, r4, r5, r6, r7, r8⟩ := R
 refine ⟨⟨?_, ?_⟩, fun r hr => ?_⟩
 ·rcases six h0 hL with rfl | rfl | rfl | rfl | rfl | rfl
  all_goals
   have q0 := reel 0 (by omega)
   try have q1 := reel 1 (by omega)
   try have q2 := reel 2 (by omega)
   try have q3 := reel 3 (by omega)
   try have q4 := reel 4 (by omega)
   try have q5 := reel 5 (by omega)
   clear U reel h
   simp only [Nat.mul_zero, Nat.mul_one, Nat.reduceMul, Nat.reduceAdd, Nat.add_zero] at *
   simp only [filmQ, upN, ivC, List.forall_mem_cons, BE.t_leq, IE.den_lit, IE.den_var, List.not_mem_nil, false_implies, implies_true, and_true, Nat.reduceMul, Nat.reduceAdd]
   omega
 ·rcases six h0 hL with rfl | rfl | rfl | rfl | rfl | rfl
  all_goals
   have q0 := reel 0 (by omega)
   try have q1 := reel 1 (by omega)
   try have q2 := reel 2 (by omega)
   try have q3 := reel 3 (by omega)
   try have q4 := reel 4 (by omega)
   try have q5 := reel 5 (by omega)
   clear U reel h
   simp only [Nat.mul_zero, Nat.mul_one, Nat.reduceMul, Nat.reduceAdd, Nat.add_zero] at *
   simp only [filmC, upN, leV, List.forall_mem_cons, BE.t_leq, IE.den_var, List.not_mem_nil, false_implies, implies_true, and_true, Nat.reduceMul, Nat.reduceAdd]
   omega
 ·obtain ⟨a1, a2, a3, a4, a5, a6, _⟩ := reel r hr
  exact ⟨a1, a2, a3, a4, a5, a6⟩
def valE (e : IE) : AV := .tup [.int .i64 e, ln 0]
def filmAt (c K : Nat) : AV := .agg [.sliceX c 6 0 K, vj 0, vj 1, vj 2, vj 3, vj 4]
def v2 : List (Nat × AObj) := [(0, ro [li 1, li 20, li 0, li 50]), (1, ro [li 0, li 99, li 0, li 99, li 1, li 1200])]
end
end Go.Sx
namespace Go.Sx
open Go.RowKit Go.Proofs
set_option maxRecDepth 100000
theorem orB_den (ρ : Rho) (a b : BE) : (orB a b).den ρ = (a.den ρ || b.den ρ) := by
 have gen : (BE.not (.and (.not a) (.not b))).den ρ = (a.den ρ || b.den ρ) := by
  simp only [BE.den]
  cases a.den ρ <;> cases b.den ρ <;> rfl
 unfold orB
 cases a with
 | lit c => cases c <;> simp [BE.den]
 | _ => exact gen
def mapW (f : Nat → Bool → Bool) : List Bool → Nat → List Bool
 | [], _ => []
 | a :: l, j => f j a :: mapW f l (j + 1)
def densB (ρ : Rho) (l : List BE) : List Bool := l.map (BE.den ρ)
theorem mapW_comp (f g : Nat → Bool → Bool) : ∀ (l : List Bool) (j : Nat), mapW f (mapW g l j) j = mapW (fun j o => f j (g j o)) l j
 | [], _ => rfl
 | a :: l, j => by simp only [mapW, mapW_comp f g l]
theorem mapW_id : ∀ (l : List Bool) (j : Nat), mapW (fun _ o => o) l j = l
 | [], _ => rfl
 | a :: l, j => by simp only [mapW, mapW_id l]
theorem mapW_congr {f g : Nat → Bool → Bool} : ∀ (l : List Bool) (j : Nat), (∀ i o, f i o = g i o) → mapW f l j = mapW g l j
 | [], _, _ => rfl
 | a :: l, j, h => by simp only [mapW]; rw [h j a, mapW_congr l (j + 1) h]
theorem mapB_cons (f : Nat → BE → BE) (a : BE) (l : List BE) (j : Nat) : mapB f (a :: l) j = f j a :: mapB f l (j + 1) := rfl
theorem densB_mapB {ρ : Rho} {f : Nat → BE → BE} {g : Nat → Bool → Bool} : ∀ (l : List BE) (j : Nat), (∀ i o, i < j + l.length → (f i o).den ρ = g i (o.den ρ)) → densB ρ (mapB f l j) = mapW g (densB ρ l) j
 | [], _, _ => rfl
 | a :: l, j, h => by
  rw [mapB_cons]
  simp only [densB, List.map_cons, mapW, List.length_cons] at h ⊢
  rw [h j a (by omega)]
  have := densB_mapB (ρ := ρ) (f := f) (g := g) l (j + 1) fun i o h2 => h i o (by omega)
  simp only [densB] at this
  rw [this]
theorem mapB_len (f : Nat → BE → BE) : ∀ (l : List BE) (j : Nat), (mapB f l j).length = l.length
 | [], _ => rfl
 | a :: l, j => by rw [mapB_cons, List.length_cons, List.length_cons, mapB_len f l]
theorem same_bools {ρ ρ' : Rho} : ∀ {l l' : List BE}, l.map (BE.den ρ) = l'.map (BE.den ρ') → SameL ρ (lMap AV.bool l) ρ' (lMap AV.bool l')
 | [], [], _ => SameL.nil
 | [], _ :: _, h => by simp at h
 | _ :: _, [], h => by simp at h
 | a :: l, b :: l', h => by
  simp only [List.map_cons, List.cons.injEq] at h
  have e1 : lMap AV.bool (a :: l) = AV.bool a :: lMap AV.bool l := rfl
  have e2 : lMap AV.bool (b :: l') = AV.bool b :: lMap AV.bool l' := rfl
  rw [e1, e2]
  exact SameL.cons (SameV.bool h.1) (same_bools h.2)
theorem foldl_or {c : Nat → Bool} : ∀ (l : List Nat) (s : Bool), l.foldl (fun s r => s || c r) s = (s || l.any c)
 | [], s => by simp
 | r :: l, s => by simp only [List.foldl_cons, List.any_cons]; rw [foldl_or l, Bool.or_assoc]
theorem foldl_eq {f g : Bool → Nat → Bool} : ∀ {l : List Nat} (a : Bool), (∀ a, ∀ r ∈ l, f a r = g a r) → l.foldl f a = l.foldl g a
 | [], _, _ => rfl
 | b :: l, a, h => by
  rw [List.foldl_cons, List.foldl_cons, h a b List.mem_cons_self]
  exact foldl_eq _ fun a r hr => h a r (List.mem_cons_of_mem _ hr)
theorem at_den {L k : Nat} {ρ : Rho} (h : okPl L k ρ) {m : Nat} (hm : m < 2 ^ L) (x1 x2 : IE) {j : Nat} (hj : j < 8) : (atE k m x1 x2 j).den ρ = atF ρ k (cnt m) (L - cnt m) m (x1.den ρ) (x2.den ρ) j := by
 rw [← h.2 m j hm hj]
 unfold atE
 simp only [BE.den, FB, IE.den]
 rw [if_pos (by omega)]
noncomputable def psS (ρ : Rho) (L k m n p q : Nat) (a b : Int) (j : Nat) (s : Bool) : Bool := cond (bt m k) (cond (Nat.ble (j + 1) L) (s || atF ρ k n p m a b j) s) (cond (Nat.beq j q) (s || !noneF ρ n m a b) s)
theorem psF_den {L k : Nat} {ρ : Rho} (h : okPl L k ρ) (hL : L ≤ 6) {m : Nat} (hm : m < 2 ^ L) (q : Nat) (x1 x2 : IE) {j : Nat} (hj : j < 8) (s : BE) : (psF L k m q x1 x2 j s).den ρ = psS ρ L k m (cnt m) (L - cnt m) q (x1.den ρ) (x2.den ρ) j (s.den ρ) := by
 unfold psF psS
 cases bt m k with
 | true =>
  simp only [cond_true]
  cases Nat.ble (j + 1) L with
  | true => simp only [cond_true]; rw [orB_den, at_den h hm x1 x2 hj]
  | false => rfl
 | false =>
  simp only [cond_false]
  cases Nat.beq j q with
  | false => rfl
  | true =>
   simp only [cond_true]
   unfold orT
   cases hz : Nat.beq m 0 with
   | true =>
    rw [cond_true, (facts_of hL hm).2.1 (beq_t.1 hz)]
    simp [BE.den, noneF]
   | false =>
    rw [cond_false, orB_den, BE.den, none_den h.1 hm]
noncomputable def delK (m : Nat) : Bool := lAll (fun r => lAll (fun k => eqBool (bt (del m r) k) (and (bt m k) (Bool.not (Nat.beq k r)))) (upN 6 0)) (rsOf m)
theorem delK_all : lAll delK (upN 64 0) = true := by kernel_rfl
theorem del_k {m r k : Nat} (hm : m < 64) (hr : r ∈ rsOf m) (hk : k < 6) : bt (del m r) k = (bt m k && !(Nat.beq k r)) := by
 have h : delK m = true := lAll_at delK_all (Nat.zero_le m) (by omega)
 have h := lAll_mem h r hr
 have h := lAll_at (p := fun k => eqBool (bt (del m r) k) (and (bt m k) (Bool.not (Nat.beq k r)))) h (Nat.zero_le k) (show k < 0 + 6 by omega)
 have h : eqBool (bt (del m r) k) (and (bt m k) (Bool.not (Nat.beq k r))) = true := h
 cases h1 : bt (del m r) k <;> cases h2 : (bt m k && !(Nat.beq k r)) <;> rw [h1] at h <;> first | rfl | (have h2 : and (bt m k) (Bool.not (Nat.beq k r)) = _ := h2; rw [h2] at h; cases h)
noncomputable def conP (ρ : Rho) (L k n p m q : Nat) (a b : Int) (j : Nat) (s : Bool) (r : Nat) : Bool :=
 if aftF ρ r a b = (0, 0) then s else psS ρ L k (del m r) n (p + 1) (cond (Nat.beq r k) p q) (aftF ρ r a b).1 (aftF ρ r a b).2 j s
theorem conP_all (ρ : Rho) {L k n p m q : Nat} {a b : Int} (hm : m < 64) (hk : k < 6) (hp : p < L) (j : Nat) (s : Bool) : (rsOf m).foldl (conP ρ L k n p m q a b j) s = psS ρ L k m (n + 1) p q a b j s := by
 unfold psS
 cases hb : bt m k with
 | true =>
  rw [cond_true]
  cases hj : Nat.ble (j + 1) L with
  | false =>
   rw [cond_false]
   have : ∀ s, (rsOf m).foldl (conP ρ L k n p m q a b j) s = (rsOf m).foldl (fun s _ => s) s := fun s => foldl_eq _ fun s r hr => by
    have hjp : Nat.beq j p = false := by
     cases h : Nat.beq j p with
     | false => rfl
     | true => have := beq_t.1 h; have h2 := ble_t.2 (show j + 1 ≤ L by omega); rw [hj] at h2; cases h2
    unfold conP psS
    rw [del_k hm hr hk, hb, hj]
    by_cases hrk : r = k
    ·subst hrk
     rw [beq_t.2 rfl]
     simp only [cond_true, Bool.not_true, Bool.and_false, cond_false, hjp, ite_self]
    ·rw [beq_f.2 (fun h => hrk h.symm)]
     simp
   rw [this]
   exact foldl_id _ _ fun _ _ => rfl
  | true =>
   rw [cond_true, atF, ← foldl_or]
   refine foldl_eq _ fun s r hr => ?_
   unfold conP psS
   rw [del_k hm hr hk, hb, hj]
   by_cases h0 : aftF ρ r a b = (0, 0)
   ·rw [if_pos h0, h0]; simp
   ·rw [if_neg h0, decide_eq_false h0]
    by_cases hrk : r = k
    ·subst hrk
     rw [if_pos rfl, beq_t.2 rfl]
     simp only [cond_true, Bool.not_true, Bool.and_false, cond_false, Bool.not_false, Bool.true_and]
     by_cases hjp : j = p
     ·rw [beq_t.2 hjp, cond_true, decide_eq_true hjp, Bool.true_and]
     ·rw [beq_f.2 hjp, cond_false, decide_eq_false hjp]; simp
    ·rw [if_neg hrk, beq_f.2 (fun h => hrk h.symm)]
     simp
 | false =>
  rw [cond_false]
  have hne : ∀ r ∈ rsOf m, r ≠ k := fun r hr h => by
   have := (lFilter_mem hr).2
   rw [h, hb] at this; cases this
  cases hj : Nat.beq j q with
  | false =>
   rw [cond_false]
   have : ∀ s, (rsOf m).foldl (conP ρ L k n p m q a b j) s = (rsOf m).foldl (fun s _ => s) s := fun s => foldl_eq _ fun s r hr => by
    unfold conP psS
    rw [del_k hm hr hk, hb, beq_f.2 (hne r hr)]
    simp only [Bool.false_and, cond_false, hj, ite_self]
   rw [this]
   exact foldl_id _ _ fun _ _ => rfl
  | true =>
   rw [cond_true, noneF]
   have : ∀ s, (rsOf m).foldl (conP ρ L k n p m q a b j) s = (rsOf m).foldl (fun s r => s || (!decide (aftF ρ r a b = (0, 0)) && !noneF ρ n (del m r) (aftF ρ r a b).1 (aftF ρ r a b).2)) s := fun s => foldl_eq _ fun s r hr => by
    unfold conP psS
    rw [del_k hm hr hk, hb, beq_f.2 (hne r hr)]
    by_cases h0 : aftF ρ r a b = (0, 0)
    ·rw [if_pos h0, h0]; simp
    ·rw [if_neg h0, decide_eq_false h0]
     simp [hj]
   rw [this, foldl_or]
   congr 1
   rw [List.any_eq_not_all_not]
   congr 2
   funext r
   cases decide (aftF ρ r a b = (0, 0)) <;> cases noneF ρ n (del m r) (aftF ρ r a b).1 (aftF ρ r a b).2 <;> rfl
theorem tPl_cons (L k m p q r : Nat) (x1 x2 : IE) (l : List Nat) (cs : List IE) (ps : List BE) : tPl L k m p q x1 x2 (r :: l) cs ps = .br (empE r x1 x2) (tPl L k m p q x1 x2 l cs ps) (tPl L k m p q x1 x2 l (updL L (del m r) p r (af1 r x1 x2) (af2 r x1 x2) cs) (psL L k (del m r) (cond (Nat.beq r k) p q) (af1 r x1 x2) (af2 r x1 x2) ps)) := rfl
theorem tPl_holds {L k : Nat} {ρ : Rho} (h : okPl L k ρ) {m n p q : Nat} {x1 x2 : IE} (hp : L - (n + 1) = p) (hkL : n + 1 ≤ L) (hL : L ≤ 6) {R : AV → Prop} : ∀ (l : List Nat) (cs : List IE) (ps : List BE), (∀ r ∈ l, r < L ∧ del m r < 2 ^ L ∧ cnt (del m r) = n) → cs.length = 6 → ps.length = 6 →
  (∀ (cs' : List IE) (ps' : List BE), cs'.length = 6 → dens ρ cs' = mapZ (fun j o => l.foldl (stepF ρ n p m (x1.den ρ) (x2.den ρ) j) o) (dens ρ cs) 0 → densB ρ ps' = mapW (fun j s => l.foldl (conP ρ L k n p m q (x1.den ρ) (x2.den ρ) j) s) (densB ρ ps) 0 → R (lfL cs' ps')) → (tPl L k m p q x1 x2 l cs ps).Holds ρ R
 | [], cs, ps, _, hc, _, hn => hn cs ps hc (by simp only [List.foldl_nil]; exact (mapZ_id _ 0).symm) (by simp only [List.foldl_nil]; exact (mapW_id _ 0).symm)
 | r :: l, cs, ps, hl, hc, hs, hn => by
  obtain ⟨hr, hd, hk⟩ := hl r List.mem_cons_self
  have hl' : ∀ r ∈ l, r < L ∧ del m r < 2 ^ L ∧ cnt (del m r) = n := fun r hr => hl r (List.mem_cons_of_mem _ hr)
  obtain ⟨d1, d2⟩ := af_den h.1.1 hr x1 x2
  rw [tPl_cons]
  simp only [T.Holds]
  split
  ·rename_i he
   have he := (emp_den h.1.1 hr x1 x2).1 he
   refine tPl_holds h hp hkL hL l cs ps hl' hc hs fun cs' ps' hc' hd' hs' => hn cs' ps' hc' ?_ ?_
   ·rw [hd']
    refine mapZ_congr _ _ fun j o _ _ => ?_
    have : stepF ρ n p m (x1.den ρ) (x2.den ρ) j o r = o := by unfold stepF; rw [if_pos he]
    simp only [List.foldl_cons, this]
   ·rw [hs']
    refine mapW_congr _ _ fun j s => ?_
    have : conP ρ L k n p m q (x1.den ρ) (x2.den ρ) j s r = s := by unfold conP; rw [if_pos he]
    simp only [List.foldl_cons, this]
  ·rename_i he
   have he : ¬ aftF ρ r (x1.den ρ) (x2.den ρ) = (0, 0) := fun h' => he ((emp_den h.1.1 hr x1 x2).2 h')
   have hu : dens ρ (updL L (del m r) p r (af1 r x1 x2) (af2 r x1 x2) cs) = mapZ (fun j o => stepF ρ n p m (x1.den ρ) (x2.den ρ) j o r) (dens ρ cs) 0 := by
    unfold updL
    refine dens_mapI cs 0 fun j o _ hj => ?_
    rw [hc] at hj
    unfold stepF
    rw [if_neg he]
    by_cases h1 : p + 1 ≤ j
    ·rw [ble_t.2 h1, cond_true, if_neg (by omega), if_neg (by omega), left_den h.1 hd hL _ _ (by omega), hk, d1, d2]
     have : L - n = p + 1 := by omega
     rw [this]
    ·have : Nat.ble (p + 1) j = false := by
      cases hb : Nat.ble (p + 1) j with
      | false => rfl
      | true => exact absurd (ble_t.1 hb) h1
     rw [this, cond_false]
     by_cases h2 : j = p
     ·rw [beq_t.2 h2, cond_true, if_neg (by omega), if_pos h2]; rfl
     ·rw [beq_f.2 h2, cond_false, if_pos (by omega)]
   have hul : (updL L (del m r) p r (af1 r x1 x2) (af2 r x1 x2) cs).length = 6 := by unfold updL; rw [mapI_len]; exact hc
   have hw : densB ρ (psL L k (del m r) (cond (Nat.beq r k) p q) (af1 r x1 x2) (af2 r x1 x2) ps) = mapW (fun j s => conP ρ L k n p m q (x1.den ρ) (x2.den ρ) j s r) (densB ρ ps) 0 := by
    unfold psL
    refine densB_mapB ps 0 fun j s hj => ?_
    rw [psF_den h hL hd _ _ _ (by omega), hk, d1, d2]
    have : L - n = p + 1 := by omega
    rw [this]
    unfold conP
    rw [if_neg he]
   have hwl : (psL L k (del m r) (cond (Nat.beq r k) p q) (af1 r x1 x2) (af2 r x1 x2) ps).length = 6 := by unfold psL; rw [mapB_len]; exact hs
   refine tPl_holds h hp hkL hL l _ _ hl' hul hwl fun cs' ps' hc' hd' hs' => hn cs' ps' hc' ?_ ?_
   ·rw [hd', hu, mapZ_comp]
    rfl
   ·rw [hs', hw, mapW_comp]
    rfl
theorem vL_mem {L k : Nat} {xs : List IE} {ps : List BE} {b : Nat} {c : AObj} (h : (b, c) ∈ vL L k xs ps) : (b, c) ∈ preL L k ∨ (b = 2017 ∧ c = .cells (lMap iA xs) 3 true false) ∨ (b = 2007 ∧ c = psO ps) := by
 unfold vL at h
 unfold preL
 simp only [List.mem_cons, List.not_mem_nil, or_false] at h ⊢
 rcases h with h | h | h | h | h | h | h | h | h | h
 ·exact .inl (.inl h)
 ·exact .inl (.inr (.inl h))
 ·exact .inl (.inr (.inr (.inl h)))
 ·cases h; exact .inr (.inr ⟨rfl, rfl⟩)
 ·exact .inl (.inr (.inr (.inr (.inl h))))
 ·exact .inl (.inr (.inr (.inr (.inr (.inl h)))))
 ·exact .inl (.inr (.inr (.inr (.inr (.inr (.inl h))))))
 ·cases h; exact .inr (.inl ⟨rfl, rfl⟩)
 ·exact .inl (.inr (.inr (.inr (.inr (.inr (.inr (.inl h)))))))
 ·exact .inl (.inr (.inr (.inr (.inr (.inr (.inr (.inr h)))))))
theorem vL_pre {L k : Nat} {xs : List IE} {ps : List BE} {b : Nat} {c : AObj} (h : (b, c) ∈ preL L k) : (b, c) ∈ vL L k xs ps := by
 unfold preL at h
 unfold vL
 simp only [List.mem_cons, List.not_mem_nil, or_false] at h ⊢
 rcases h with h | h | h | h | h | h | h | h
 ·exact .inl h
 ·exact .inr (.inl h)
 ·exact .inr (.inr (.inl h))
 ·exact .inr (.inr (.inr (.inr (.inl h))))
 ·exact .inr (.inr (.inr (.inr (.inr (.inl h)))))
 ·exact .inr (.inr (.inr (.inr (.inr (.inr (.inl h))))))
 ·exact .inr (.inr (.inr (.inr (.inr (.inr (.inr (.inr (.inl h))))))))
 ·exact .inr (.inr (.inr (.inr (.inr (.inr (.inr (.inr (.inr h))))))))
theorem vL_arr {L k : Nat} {xs : List IE} {ps : List BE} : (2017, AObj.cells (lMap iA xs) 3 true false) ∈ vL L k xs ps := by unfold vL; simp
theorem vL_ps {L k : Nat} {xs : List IE} {ps : List BE} : (2007, psO ps) ∈ vL L k xs ps := by unfold vL; simp
noncomputable def okH (g : Nat × AObj) : Bool := and (plO g.2) (and (Nat.ble (g.1 + 1) 2020) (idsO 2020 g.2))
theorem preL_all : lAll (fun L => lAll (fun k => lAll okH (preL L k)) (upN 6 0)) (upN 6 1) = true := by kernel_rfl
theorem preL_ok {L k : Nat} (h0 : 1 ≤ L) (hL : L ≤ 6) (hk : k < 6) : lAll okH (preL L k) = true := lAll_at (p := fun k => lAll okH (preL L k)) (lAll_at (p := fun L => lAll (fun k => lAll okH (preL L k)) (upN 6 0)) preL_all h0 (by omega)) (Nat.zero_le _) (by omega)
theorem idsB (n : Nat) : ∀ xs : List BE, idsLts n (lMap AV.bool xs) = true
 | [] => rfl
 | _ :: l => idsB n l
theorem viewL_ok {L k : Nat} (h0 : 1 ≤ L) (hL : L ≤ 6) (hk : k < 6) (xs : List IE) (ps : List BE) : viewOk 2020 (vL L k xs ps) = true := by
 unfold viewOk
 rw [Bool.and_eq_true]
 refine ⟨rfl, lAll_of fun g hg => ?_⟩
 obtain ⟨b, c⟩ := g
 rcases vL_mem hg with hm | ⟨rfl, rfl⟩ | ⟨rfl, rfl⟩
 ·have := lAll_mem (preL_ok h0 hL hk) (b, c) hm
  unfold okH at this
  rw [Bool.and_eq_true] at this
  exact this.2
 ·rw [Bool.and_eq_true]; exact ⟨rfl, idsI 2020 xs⟩
 ·rw [Bool.and_eq_true]; exact ⟨rfl, idsB 2020 ps⟩
theorem encL_eq {L k : Nat} {r : AV × Heap} {cs : List IE} {ps : List BE} (h : encL L k r = lfL cs ps) : r.1 = tag true ∧ allO r.2 (preL L k) = true ∧ r.2.next = 2020 ∧ r.2.get 2017 = some (.cells (lMap iA cs) 3 true false) ∧ r.2.get 2007 = some (psO ps) := by
 unfold encL lfL at h
 simp only [AV.tup.injEq, List.cons.injEq, and_true] at h
 obtain ⟨h1, h2, h3, h4⟩ := h
 simp only [tag, AV.bool.injEq, BE.lit.injEq, Bool.and_eq_true] at h2
 exact ⟨h1, h2.1, beq_t.1 h2.2, blkA_some h3, blkA_some h4⟩
noncomputable def pL (L k kn : Nat) : Par := ⟨Tryd.prog, rcOf Tryd.rows, fun ρ _ => okPl L k ρ ∧ ∀ j, j < kn → ρ.iv (510 + j) ≠ (k : Int)⟩
theorem vsQ_len (k m q : Nat) : (vsQ k m q).length = 6 := by unfold vsQ; rw [mapI_len]; rfl
theorem chP_holds {k q : Nat} {ρ : Rho} {R : AV → Prop} (hn : ∀ j, j < q → ρ.iv (510 + j) ≠ (k : Int)) (hr : R (lfL (vsQ k 0 q) (mapB (fun j s => cond (Nat.beq j q) (.lit true) s) bs6 0))) : ∀ (n i : Nat), n + i = q → (chP k q n i).Holds ρ R
 | 0, i, _ => hr
 | n + 1, i, hi => by
  have e : chP k q (n + 1) i = .br (.cmp .eql (.lit (Int.ofNat k)) (.var (510 + i))) (.ret (lfL (vsQ k 0 q) (mapB (fun j s => cond (Nat.beq j i) (.lit true) s) bs6 0))) (chP k q n (i + 1)) := rfl
  rw [e]
  simp only [T.Holds]
  split
  ·rename_i hc
   have hc := BE.t_eql.1 hc
   exact absurd hc.symm (hn i (by omega))
  ·exact chP_holds hn hr n (i + 1) (by omega)
end Go.Sx
namespace Go.Sx
noncomputable section
open Go.RowKit Go.Proofs
set_option maxRecDepth 100000
def smallO (n : Nat) (args0 : List AV) (l : List (Nat × AObj)) (t : T (AV × Heap)) (nw : AV × Heap → List Nat) (args : List AV) (h : Heap) : Option (T (AV × Heap)) :=
 cond (and (eqAVs args args0) (and (lessAll h l) (Nat.ble n h.next))) (some (t.bind fun r => graftT n l h (nw r) r)) none
theorem smallO_ok {p : Par} {f : FuncId} {n : Nat} {args0 : List AV} {l : List (Nat × AObj)} {t : T (AV × Heap)} {nw : AV × Heap → List Nat} (hc : CallOk p f args0 (viewA n l) t) (hn : 1000 ≤ n) (ha : idsLts n args0 = true) (hv : viewOk n l = true)
  {args : List AV} {h : Heap} {u : T (AV × Heap)} (e : smallO n args0 l t nw args h = some u) : CallOk p f args h u := by
 unfold smallO at e
 obtain ⟨h1, e2⟩ := cond_some e
 clear e
 simp only [Bool.and_eq_true] at h1
 obtain ⟨i1, i2, i3⟩ := h1
 rw [eqAVs_eq _ _ i1]
 cases e2
 exact hc.frame (n := n) hn ha hv (lessAll_ok i2) (ble_t.1 i3) nw
end
end Go.Sx
namespace Go.Sx
noncomputable section
open Go.RowKit Go.Proofs
set_option maxRecDepth 100000
def litR (r : Nat) : IE := .lit (Int.ofNat r)
def vAr (xs : List IE) : List (Nat × AObj) := [(2001, ro (lMap iA xs))]
def argsAr (L j : Nat) : List AV := [filmK 2003 L, .sliceX 2001 1 0 j]
def runAr (L : Nat) (l : List Nat) : T (AV × Heap) := (evalN tbA 60 false 55 (argsAr L (lLen l)) (viewA 2004 (vAr (lMap litR l)))).bind fun r => graftT 2004 (vAr (lMap litR l)) (viewA 2004 (vAr (lMap litR l))) [] r
def ckAr1 (L : Nat) (l : List Nat) : Bool := eqTF ((runAr L l).bind fun q => .ret (.tup [q.1, tag (and (allO q.2 (vAr (lMap litR l))) (Nat.beq q.2.next 2004))])) (.ret (.tup [tag true, tag true]))
def ckAr (L j r : Nat) : Bool := lAll (fun l => ckAr1 L (r :: l)) (permsM (j - 1) (del (fullM L) r))
def ckArL (L j : Nat) : Bool := lAll (ckAr L j) (upN L 0)
theorem ckAr1_1 : ckArL 1 1 = true := by kernel_rfl
theorem ckAr2 : lAll (ckArL 2) (upN 2 1) = true := by kernel_rfl
theorem ckAr3 : lAll (ckArL 3) (upN 3 1) = true := by kernel_rfl
theorem ckAr4 : lAll (ckArL 4) (upN 4 1) = true := by kernel_rfl
end
end Go.Sx
