/- AT WHICH PLACES A REEL CAN BE: the search that marks them, whatever is asked; calls of it, taken as said. -/
import Derived.Test.YtlaakbmimplceaaDoorRyPb
import Derived.Test.YtlaakbmimplceaaDoorRyPc4
import Derived.Test.YtlaakbmimplceaaDoorRyPc5a
import Derived.Test.YtlaakbmimplceaaDoorRyPc5b
import Derived.Test.YtlaakbmimplceaaDoorRyPc60
import Derived.Test.YtlaakbmimplceaaDoorRyPc61
import Derived.Test.YtlaakbmimplceaaDoorRyPc62
import Derived.Test.YtlaakbmimplceaaDoorRyPc63
import Derived.Test.YtlaakbmimplceaaDoorRyPc64
import Derived.Test.YtlaakbmimplceaaDoorRyPc65
/-! AT WHICH PLACES A REEL CAN BE: the search that marks them, as it is said. -/
namespace Go.Sx
open Go.RowKit Go.Proofs
set_option maxRecDepth 100000
theorem orB_den (ρ : Rho) (a b : BE) : (orB a b).den ρ = (a.den ρ || b.den ρ) := by
  have gen : (BE.not (.and (.not a) (.not b))).den ρ = (a.den ρ || b.den ρ) := by
    simp only [BE.den]
    cases a.den ρ <;> cases b.den ρ <;> rfl
  unfold orB
  cases a with
  | lit c => cases c <;> simp [BE.den]
  | _ => exact gen
/-! ## Lists of truth values -/
def mapW (f : Nat → Bool → Bool) : List Bool → Nat → List Bool
  | [], _ => []
  | a :: l, j => f j a :: mapW f l (j + 1)
def densB (ρ : Rho) (l : List BE) : List Bool := l.map (BE.den ρ)
theorem mapW_comp (f g : Nat → Bool → Bool) : ∀ (l : List Bool) (j : Nat), mapW f (mapW g l j) j = mapW (fun j o => f j (g j o)) l j
  | [], _ => rfl
  | a :: l, j => by simp only [mapW, mapW_comp f g l]
theorem mapW_id : ∀ (l : List Bool) (j : Nat), mapW (fun _ o => o) l j = l
  | [], _ => rfl
  | a :: l, j => by simp only [mapW, mapW_id l]
theorem mapW_congr {f g : Nat → Bool → Bool} : ∀ (l : List Bool) (j : Nat), (∀ i o, f i o = g i o) → mapW f l j = mapW g l j
  | [], _, _ => rfl
  | a :: l, j, h => by simp only [mapW]; rw [h j a, mapW_congr l (j + 1) h]
theorem mapB_cons (f : Nat → BE → BE) (a : BE) (l : List BE) (j : Nat) : mapB f (a :: l) j = f j a :: mapB f l (j + 1) := rfl
theorem densB_mapB {ρ : Rho} {f : Nat → BE → BE} {g : Nat → Bool → Bool} : ∀ (l : List BE) (j : Nat), (∀ i o, i < j + l.length → (f i o).den ρ = g i (o.den ρ)) → densB ρ (mapB f l j) = mapW g (densB ρ l) j
  | [], _, _ => rfl
  | a :: l, j, h => by
    rw [mapB_cons]
    simp only [densB, List.map_cons, mapW, List.length_cons] at h ⊢
    rw [h j a (by omega)]
    have := densB_mapB (ρ := ρ) (f := f) (g := g) l (j + 1) fun i o h2 => h i o (by omega)
    simp only [densB] at this
    rw [this]
theorem mapB_len (f : Nat → BE → BE) : ∀ (l : List BE) (j : Nat), (mapB f l j).length = l.length
  | [], _ => rfl
  | a :: l, j => by rw [mapB_cons, List.length_cons, List.length_cons, mapB_len f l]
theorem same_bools {ρ ρ' : Rho} : ∀ {l l' : List BE}, l.map (BE.den ρ) = l'.map (BE.den ρ') → SameL ρ (lMap AV.bool l) ρ' (lMap AV.bool l')
  | [], [], _ => SameL.nil
  | [], _ :: _, h => by simp at h
  | _ :: _, [], h => by simp at h
  | a :: l, b :: l', h => by
    simp only [List.map_cons, List.cons.injEq] at h
    have e1 : lMap AV.bool (a :: l) = AV.bool a :: lMap AV.bool l := rfl
    have e2 : lMap AV.bool (b :: l') = AV.bool b :: lMap AV.bool l' := rfl
    rw [e1, e2]
    exact SameL.cons (SameV.bool h.1) (same_bools h.2)
theorem foldl_mapW (s : Nat → Bool → Nat → Bool) : ∀ (l : List Nat) (ds : List Bool), l.foldl (fun ds r => mapW (fun j o => s j o r) ds 0) ds = mapW (fun j o => l.foldl (s j) o) ds 0
  | [], ds => by simp only [List.foldl_nil]; exact (mapW_id ds 0).symm
  | r :: l, ds => by
    simp only [List.foldl_cons]
    rw [foldl_mapW s l, mapW_comp]
theorem foldl_or {c : Nat → Bool} : ∀ (l : List Nat) (s : Bool), l.foldl (fun s r => s || c r) s = (s || l.any c)
  | [], s => by simp
  | r :: l, s => by simp only [List.foldl_cons, List.any_cons]; rw [foldl_or l, Bool.or_assoc]
theorem foldl_eq {f g : Bool → Nat → Bool} : ∀ {l : List Nat} (a : Bool), (∀ a, ∀ r ∈ l, f a r = g a r) → l.foldl f a = l.foldl g a
  | [], _, _ => rfl
  | b :: l, a, h => by
    rw [List.foldl_cons, List.foldl_cons, h a b List.mem_cons_self]
    exact foldl_eq _ fun a r hr => h a r (List.mem_cons_of_mem _ hr)
/-! ## What the names mean -/
theorem at_den {L k : Nat} {ρ : Rho} (h : okPl L k ρ) {m : Nat} (hm : m < 2 ^ L) (x1 x2 : IE) {j : Nat} (hj : j < 8) : (atE k m x1 x2 j).den ρ = atF ρ k (cnt m) (L - cnt m) m (x1.den ρ) (x2.den ρ) j := by
  rw [← h.2 m j hm hj]
  unfold atE
  simp only [BE.den, FB, IE.den]
  rw [if_pos (by omega)]
noncomputable def psS (ρ : Rho) (L k m n p q : Nat) (a b : Int) (j : Nat) (s : Bool) : Bool := cond (bt m k) (cond (Nat.ble (j + 1) L) (s || atF ρ k n p m a b j) s) (cond (Nat.beq j q) (s || !noneF ρ n m a b) s)
theorem psF_den {L k : Nat} {ρ : Rho} (h : okPl L k ρ) (hL : L ≤ 6) {m : Nat} (hm : m < 2 ^ L) (q : Nat) (x1 x2 : IE) {j : Nat} (hj : j < 8) (s : BE) : (psF L k m q x1 x2 j s).den ρ = psS ρ L k m (cnt m) (L - cnt m) q (x1.den ρ) (x2.den ρ) j (s.den ρ) := by
  unfold psF psS
  cases bt m k with
  | true =>
    simp only [cond_true]
    cases Nat.ble (j + 1) L with
    | true => simp only [cond_true]; rw [orB_den, at_den h hm x1 x2 hj]
    | false => rfl
  | false =>
    simp only [cond_false]
    cases Nat.beq j q with
    | false => rfl
    | true =>
      simp only [cond_true]
      unfold orT
      cases hz : Nat.beq m 0 with
      | true =>
        rw [cond_true, (facts_of hL hm).2.1 (beq_t.1 hz)]
        simp [BE.den, noneF]
      | false =>
        rw [cond_false, orB_den, BE.den, none_den h.1 hm]
noncomputable def delK (m : Nat) : Bool := lAll (fun r => lAll (fun k => eqBool (bt (del m r) k) (and (bt m k) (Bool.not (Nat.beq k r)))) (upN 6 0)) (rsOf m)
theorem delK_all : lAll delK (upN 64 0) = true := by kernel_rfl
theorem del_k {m r k : Nat} (hm : m < 64) (hr : r ∈ rsOf m) (hk : k < 6) : bt (del m r) k = (bt m k && !(Nat.beq k r)) := by
  have h : delK m = true := lAll_at delK_all (Nat.zero_le m) (by omega)
  have h := lAll_mem h r hr
  have h := lAll_at (p := fun k => eqBool (bt (del m r) k) (and (bt m k) (Bool.not (Nat.beq k r)))) h (Nat.zero_le k) (show k < 0 + 6 by omega)
  have h : eqBool (bt (del m r) k) (and (bt m k) (Bool.not (Nat.beq k r))) = true := h
  cases h1 : bt (del m r) k <;> cases h2 : (bt m k && !(Nat.beq k r)) <;> rw [h1] at h <;> first | rfl | (have h2 : and (bt m k) (Bool.not (Nat.beq k r)) = _ := h2; rw [h2] at h; cases h)
/-- what the reels of a set mark, one after another -/
noncomputable def conP (ρ : Rho) (L k n p m q : Nat) (a b : Int) (j : Nat) (s : Bool) (r : Nat) : Bool :=
  if aftF ρ r a b = (0, 0) then s else psS ρ L k (del m r) n (p + 1) (cond (Nat.beq r k) p q) (aftF ρ r a b).1 (aftF ρ r a b).2 j s
theorem conP_all (ρ : Rho) {L k n p m q : Nat} {a b : Int} (hm : m < 64) (hk : k < 6) (hp : p < L) (j : Nat) (s : Bool) : (rsOf m).foldl (conP ρ L k n p m q a b j) s = psS ρ L k m (n + 1) p q a b j s := by
  unfold psS
  cases hb : bt m k with
  | true =>
    rw [cond_true]
    cases hj : Nat.ble (j + 1) L with
    | false =>
      rw [cond_false]
      have : ∀ s, (rsOf m).foldl (conP ρ L k n p m q a b j) s = (rsOf m).foldl (fun s _ => s) s := fun s => foldl_eq _ fun s r hr => by
        have hjp : Nat.beq j p = false := by
          cases h : Nat.beq j p with
          | false => rfl
          | true => have := beq_t.1 h; have h2 := ble_t.2 (show j + 1 ≤ L by omega); rw [hj] at h2; cases h2
        unfold conP psS
        rw [del_k hm hr hk, hb, hj]
        by_cases hrk : r = k
        · subst hrk
          rw [beq_t.2 rfl]
          simp only [cond_true, Bool.not_true, Bool.and_false, cond_false, hjp, ite_self]
        · rw [beq_f.2 (fun h => hrk h.symm)]
          simp
      rw [this]
      exact foldl_id _ _ fun _ _ => rfl
    | true =>
      rw [cond_true, atF, ← foldl_or]
      refine foldl_eq _ fun s r hr => ?_
      unfold conP psS
      rw [del_k hm hr hk, hb, hj]
      by_cases h0 : aftF ρ r a b = (0, 0)
      · rw [if_pos h0, h0]; simp
      · rw [if_neg h0, decide_eq_false h0]
        by_cases hrk : r = k
        · subst hrk
          rw [if_pos rfl, beq_t.2 rfl]
          simp only [cond_true, Bool.not_true, Bool.and_false, cond_false, Bool.not_false, Bool.true_and]
          by_cases hjp : j = p
          · rw [beq_t.2 hjp, cond_true, decide_eq_true hjp, Bool.true_and]
          · rw [beq_f.2 hjp, cond_false, decide_eq_false hjp]; simp
        · rw [if_neg hrk, beq_f.2 (fun h => hrk h.symm)]
          simp
  | false =>
    rw [cond_false]
    have hne : ∀ r ∈ rsOf m, r ≠ k := fun r hr h => by
      have := (lFilter_mem hr).2
      rw [h, hb] at this; cases this
    cases hj : Nat.beq j q with
    | false =>
      rw [cond_false]
      have : ∀ s, (rsOf m).foldl (conP ρ L k n p m q a b j) s = (rsOf m).foldl (fun s _ => s) s := fun s => foldl_eq _ fun s r hr => by
        unfold conP psS
        rw [del_k hm hr hk, hb, beq_f.2 (hne r hr)]
        simp only [Bool.false_and, cond_false, hj, ite_self]
      rw [this]
      exact foldl_id _ _ fun _ _ => rfl
    | true =>
      rw [cond_true, noneF]
      have : ∀ s, (rsOf m).foldl (conP ρ L k n p m q a b j) s = (rsOf m).foldl (fun s r => s || (!decide (aftF ρ r a b = (0, 0)) && !noneF ρ n (del m r) (aftF ρ r a b).1 (aftF ρ r a b).2)) s := fun s => foldl_eq _ fun s r hr => by
        unfold conP psS
        rw [del_k hm hr hk, hb, beq_f.2 (hne r hr)]
        by_cases h0 : aftF ρ r a b = (0, 0)
        · rw [if_pos h0, h0]; simp
        · rw [if_neg h0, decide_eq_false h0]
          simp [hj]
      rw [this, foldl_or]
      congr 1
      rw [List.any_eq_not_all_not]
      congr 2
      funext r
      cases decide (aftF ρ r a b = (0, 0)) <;> cases noneF ρ n (del m r) (aftF ρ r a b).1 (aftF ρ r a b).2 <;> rfl

/-! ## The tree of a search -/
theorem tPl_cons (L k m p q r : Nat) (x1 x2 : IE) (l : List Nat) (cs : List IE) (ps : List BE) : tPl L k m p q x1 x2 (r :: l) cs ps = .br (empE r x1 x2) (tPl L k m p q x1 x2 l cs ps) (tPl L k m p q x1 x2 l (updL L (del m r) p r (af1 r x1 x2) (af2 r x1 x2) cs) (psL L k (del m r) (cond (Nat.beq r k) p q) (af1 r x1 x2) (af2 r x1 x2) ps)) := rfl
theorem tPl_holds {L k : Nat} {ρ : Rho} (h : okPl L k ρ) {m n p q : Nat} {x1 x2 : IE} (hp : L - (n + 1) = p) (hkL : n + 1 ≤ L) (hL : L ≤ 6) {R : AV → Prop} : ∀ (l : List Nat) (cs : List IE) (ps : List BE), (∀ r ∈ l, r < L ∧ del m r < 2 ^ L ∧ cnt (del m r) = n) → cs.length = 6 → ps.length = 6 →
    (∀ (cs' : List IE) (ps' : List BE), cs'.length = 6 → dens ρ cs' = mapZ (fun j o => l.foldl (stepF ρ n p m (x1.den ρ) (x2.den ρ) j) o) (dens ρ cs) 0 → densB ρ ps' = mapW (fun j s => l.foldl (conP ρ L k n p m q (x1.den ρ) (x2.den ρ) j) s) (densB ρ ps) 0 → R (lfL cs' ps')) → (tPl L k m p q x1 x2 l cs ps).Holds ρ R
  | [], cs, ps, _, hc, _, hn => hn cs ps hc (by simp only [List.foldl_nil]; exact (mapZ_id _ 0).symm) (by simp only [List.foldl_nil]; exact (mapW_id _ 0).symm)
  | r :: l, cs, ps, hl, hc, hs, hn => by
    obtain ⟨hr, hd, hk⟩ := hl r List.mem_cons_self
    have hl' : ∀ r ∈ l, r < L ∧ del m r < 2 ^ L ∧ cnt (del m r) = n := fun r hr => hl r (List.mem_cons_of_mem _ hr)
    obtain ⟨d1, d2⟩ := af_den h.1.1 hr x1 x2
    rw [tPl_cons]
    simp only [T.Holds]
    split
    · rename_i he
      have he := (emp_den h.1.1 hr x1 x2).1 he
      refine tPl_holds h hp hkL hL l cs ps hl' hc hs fun cs' ps' hc' hd' hs' => hn cs' ps' hc' ?_ ?_
      · rw [hd']
        refine mapZ_congr _ _ fun j o _ _ => ?_
        have : stepF ρ n p m (x1.den ρ) (x2.den ρ) j o r = o := by unfold stepF; rw [if_pos he]
        simp only [List.foldl_cons, this]
      · rw [hs']
        refine mapW_congr _ _ fun j s => ?_
        have : conP ρ L k n p m q (x1.den ρ) (x2.den ρ) j s r = s := by unfold conP; rw [if_pos he]
        simp only [List.foldl_cons, this]
    · rename_i he
      have he : ¬ aftF ρ r (x1.den ρ) (x2.den ρ) = (0, 0) := fun h' => he ((emp_den h.1.1 hr x1 x2).2 h')
      have hu : dens ρ (updL L (del m r) p r (af1 r x1 x2) (af2 r x1 x2) cs) = mapZ (fun j o => stepF ρ n p m (x1.den ρ) (x2.den ρ) j o r) (dens ρ cs) 0 := by
        unfold updL
        refine dens_mapI cs 0 fun j o _ hj => ?_
        rw [hc] at hj
        unfold stepF
        rw [if_neg he]
        by_cases h1 : p + 1 ≤ j
        · rw [ble_t.2 h1, cond_true, if_neg (by omega), if_neg (by omega), left_den h.1 hd hL _ _ (by omega), hk, d1, d2]
          have : L - n = p + 1 := by omega
          rw [this]
        · have : Nat.ble (p + 1) j = false := by
            cases hb : Nat.ble (p + 1) j with
            | false => rfl
            | true => exact absurd (ble_t.1 hb) h1
          rw [this, cond_false]
          by_cases h2 : j = p
          · rw [beq_t.2 h2, cond_true, if_neg (by omega), if_pos h2]; rfl
          · rw [beq_f.2 h2, cond_false, if_pos (by omega)]
      have hul : (updL L (del m r) p r (af1 r x1 x2) (af2 r x1 x2) cs).length = 6 := by unfold updL; rw [mapI_len]; exact hc
      have hw : densB ρ (psL L k (del m r) (cond (Nat.beq r k) p q) (af1 r x1 x2) (af2 r x1 x2) ps) = mapW (fun j s => conP ρ L k n p m q (x1.den ρ) (x2.den ρ) j s r) (densB ρ ps) 0 := by
        unfold psL
        refine densB_mapB ps 0 fun j s hj => ?_
        rw [psF_den h hL hd _ _ _ (by omega), hk, d1, d2]
        have : L - n = p + 1 := by omega
        rw [this]
        unfold conP
        rw [if_neg he]
      have hwl : (psL L k (del m r) (cond (Nat.beq r k) p q) (af1 r x1 x2) (af2 r x1 x2) ps).length = 6 := by unfold psL; rw [mapB_len]; exact hs
      refine tPl_holds h hp hkL hL l _ _ hl' hul hwl fun cs' ps' hc' hd' hs' => hn cs' ps' hc' ?_ ?_
      · rw [hd', hu, mapZ_comp]
        rfl
      · rw [hs', hw, mapW_comp]
        rfl
/-! ## The heap -/
theorem vL_mem {L k : Nat} {xs : List IE} {ps : List BE} {b : Nat} {c : AObj} (h : (b, c) ∈ vL L k xs ps) : (b, c) ∈ preL L k ∨ (b = 2017 ∧ c = .cells (lMap iA xs) 3 true false) ∨ (b = 2007 ∧ c = psO ps) := by
  unfold vL at h
  unfold preL
  simp only [List.mem_cons, List.not_mem_nil, or_false] at h ⊢
  rcases h with h | h | h | h | h | h | h | h | h | h
  · exact .inl (.inl h)
  · exact .inl (.inr (.inl h))
  · exact .inl (.inr (.inr (.inl h)))
  · cases h; exact .inr (.inr ⟨rfl, rfl⟩)
  · exact .inl (.inr (.inr (.inr (.inl h))))
  · exact .inl (.inr (.inr (.inr (.inr (.inl h)))))
  · exact .inl (.inr (.inr (.inr (.inr (.inr (.inl h))))))
  · cases h; exact .inr (.inl ⟨rfl, rfl⟩)
  · exact .inl (.inr (.inr (.inr (.inr (.inr (.inr (.inl h)))))))
  · exact .inl (.inr (.inr (.inr (.inr (.inr (.inr (.inr h)))))))
theorem vL_pre {L k : Nat} {xs : List IE} {ps : List BE} {b : Nat} {c : AObj} (h : (b, c) ∈ preL L k) : (b, c) ∈ vL L k xs ps := by
  unfold preL at h
  unfold vL
  simp only [List.mem_cons, List.not_mem_nil, or_false] at h ⊢
  rcases h with h | h | h | h | h | h | h | h
  · exact .inl h
  · exact .inr (.inl h)
  · exact .inr (.inr (.inl h))
  · exact .inr (.inr (.inr (.inr (.inl h))))
  · exact .inr (.inr (.inr (.inr (.inr (.inl h)))))
  · exact .inr (.inr (.inr (.inr (.inr (.inr (.inl h))))))
  · exact .inr (.inr (.inr (.inr (.inr (.inr (.inr (.inr (.inl h))))))))
  · exact .inr (.inr (.inr (.inr (.inr (.inr (.inr (.inr (.inr h))))))))
theorem vL_arr {L k : Nat} {xs : List IE} {ps : List BE} : (2017, AObj.cells (lMap iA xs) 3 true false) ∈ vL L k xs ps := by unfold vL; simp
theorem vL_ps {L k : Nat} {xs : List IE} {ps : List BE} : (2007, psO ps) ∈ vL L k xs ps := by unfold vL; simp
noncomputable def okH (g : Nat × AObj) : Bool := and (plO g.2) (and (Nat.ble (g.1 + 1) 2020) (idsO 2020 g.2))
theorem preL_all : lAll (fun L => lAll (fun k => lAll okH (preL L k)) (upN 6 0)) (upN 6 1) = true := by kernel_rfl
theorem preL_ok {L k : Nat} (h0 : 1 ≤ L) (hL : L ≤ 6) (hk : k < 6) : lAll okH (preL L k) = true := lAll_at (p := fun k => lAll okH (preL L k)) (lAll_at (p := fun L => lAll (fun k => lAll okH (preL L k)) (upN 6 0)) preL_all h0 (by omega)) (Nat.zero_le _) (by omega)
theorem idsB (n : Nat) : ∀ xs : List BE, idsLts n (lMap AV.bool xs) = true
  | [] => rfl
  | _ :: l => idsB n l
theorem viewL_ok {L k : Nat} (h0 : 1 ≤ L) (hL : L ≤ 6) (hk : k < 6) (xs : List IE) (ps : List BE) : viewOk 2020 (vL L k xs ps) = true := by
  unfold viewOk
  rw [Bool.and_eq_true]
  refine ⟨rfl, lAll_of fun g hg => ?_⟩
  obtain ⟨b, c⟩ := g
  rcases vL_mem hg with hm | ⟨rfl, rfl⟩ | ⟨rfl, rfl⟩
  · have := lAll_mem (preL_ok h0 hL hk) (b, c) hm
    unfold okH at this
    rw [Bool.and_eq_true] at this
    exact this.2
  · rw [Bool.and_eq_true]; exact ⟨rfl, idsI 2020 xs⟩
  · rw [Bool.and_eq_true]; exact ⟨rfl, idsB 2020 ps⟩
theorem encL_eq {L k : Nat} {r : AV × Heap} {cs : List IE} {ps : List BE} (h : encL L k r = lfL cs ps) : r.1 = tag true ∧ allO r.2 (preL L k) = true ∧ r.2.next = 2020 ∧ r.2.get 2017 = some (.cells (lMap iA cs) 3 true false) ∧ r.2.get 2007 = some (psO ps) := by
  unfold encL lfL at h
  simp only [AV.tup.injEq, List.cons.injEq, and_true] at h
  obtain ⟨h1, h2, h3, h4⟩ := h
  simp only [tag, AV.bool.injEq, BE.lit.injEq, Bool.and_eq_true] at h2
  exact ⟨h1, h2.1, beq_t.1 h2.2, blkA_some h3, blkA_some h4⟩
noncomputable def pL (L k kn : Nat) : Par := ⟨Tryd.prog, rcOf Tryd.rows, fun ρ _ => okPl L k ρ ∧ ∀ j, j < kn → ρ.iv (510 + j) ≠ (k : Int)⟩
theorem vsQ_len (k m q : Nat) : (vsQ k m q).length = 6 := by unfold vsQ; rw [mapI_len]; rfl
theorem chP_holds {k q : Nat} {ρ : Rho} {R : AV → Prop} (hn : ∀ j, j < q → ρ.iv (510 + j) ≠ (k : Int)) (hr : R (lfL (vsQ k 0 q) (mapB (fun j s => cond (Nat.beq j q) (.lit true) s) bs6 0))) : ∀ (n i : Nat), n + i = q → (chP k q n i).Holds ρ R
  | 0, i, _ => hr
  | n + 1, i, hi => by
    have e : chP k q (n + 1) i = .br (.cmp .eql (.lit (Int.ofNat k)) (.var (510 + i))) (.ret (lfL (vsQ k 0 q) (mapB (fun j s => cond (Nat.beq j i) (.lit true) s) bs6 0))) (chP k q n (i + 1)) := rfl
    rw [e]
    simp only [T.Holds]
    split
    · rename_i hc
      have hc := BE.t_eql.1 hc
      exact absurd hc.symm (hn i (by omega))
    · exact chP_holds hn hr n (i + 1) (by omega)
end Go.Sx
/-! AT WHICH PLACES A REEL CAN BE: the search that marks them, whatever is asked; calls of it, taken as said. -/
namespace Go.Sx
open Go.RowKit Go.Proofs
set_option maxRecDepth 100000
theorem ckLs_all {L k m : Nat} (h0 : 1 ≤ L) (hL : L ≤ 6) (hk : k < L) (hm : m < 2 ^ L) : ckLs L k m = true := by
  rcases six h0 hL with rfl | rfl | rfl | rfl | rfl | rfl
  · exact lAll_at (p := ckLs 1 k) (lAll_at (p := ckLk 1) kL1 (Nat.zero_le k) (by omega)) (Nat.zero_le m) (by have e : Nat.pow 2 1 = 2 ^ 1 := rfl; omega)
  · exact lAll_at (p := ckLs 2 k) (lAll_at (p := ckLk 2) kL2 (Nat.zero_le k) (by omega)) (Nat.zero_le m) (by have e : Nat.pow 2 2 = 2 ^ 2 := rfl; omega)
  · exact lAll_at (p := ckLs 3 k) (lAll_at (p := ckLk 3) kL3 (Nat.zero_le k) (by omega)) (Nat.zero_le m) (by have e : Nat.pow 2 3 = 2 ^ 3 := rfl; omega)
  · have : k = 0 ∨ k = 1 ∨ k = 2 ∨ k = 3 := by omega
    have hc : m < 8 ∧ 0 ≤ m ∨ m < 16 ∧ 8 ≤ m := by omega
    rcases this with rfl | rfl | rfl | rfl
    · rcases hc with h | h
      · exact lAll_at kL4_0_0 (by omega) (by omega)
      · exact lAll_at kL4_0_8 (by omega) (by omega)
    · rcases hc with h | h
      · exact lAll_at kL4_1_0 (by omega) (by omega)
      · exact lAll_at kL4_1_8 (by omega) (by omega)
    · rcases hc with h | h
      · exact lAll_at kL4_2_0 (by omega) (by omega)
      · exact lAll_at kL4_2_8 (by omega) (by omega)
    · rcases hc with h | h
      · exact lAll_at kL4_3_0 (by omega) (by omega)
      · exact lAll_at kL4_3_8 (by omega) (by omega)
  · have : k = 0 ∨ k = 1 ∨ k = 2 ∨ k = 3 ∨ k = 4 := by omega
    have hc : m < 8 ∧ 0 ≤ m ∨ m < 16 ∧ 8 ≤ m ∨ m < 24 ∧ 16 ≤ m ∨ m < 32 ∧ 24 ≤ m := by omega
    rcases this with rfl | rfl | rfl | rfl | rfl
    · rcases hc with h | h | h | h
      · exact lAll_at kL5_0_0 (by omega) (by omega)
      · exact lAll_at kL5_0_8 (by omega) (by omega)
      · exact lAll_at kL5_0_16 (by omega) (by omega)
      · exact lAll_at kL5_0_24 (by omega) (by omega)
    · rcases hc with h | h | h | h
      · exact lAll_at kL5_1_0 (by omega) (by omega)
      · exact lAll_at kL5_1_8 (by omega) (by omega)
      · exact lAll_at kL5_1_16 (by omega) (by omega)
      · exact lAll_at kL5_1_24 (by omega) (by omega)
    · rcases hc with h | h | h | h
      · exact lAll_at kL5_2_0 (by omega) (by omega)
      · exact lAll_at kL5_2_8 (by omega) (by omega)
      · exact lAll_at kL5_2_16 (by omega) (by omega)
      · exact lAll_at kL5_2_24 (by omega) (by omega)
    · rcases hc with h | h | h | h
      · exact lAll_at kL5_3_0 (by omega) (by omega)
      · exact lAll_at kL5_3_8 (by omega) (by omega)
      · exact lAll_at kL5_3_16 (by omega) (by omega)
      · exact lAll_at kL5_3_24 (by omega) (by omega)
    · rcases hc with h | h | h | h
      · exact lAll_at kL5_4_0 (by omega) (by omega)
      · exact lAll_at kL5_4_8 (by omega) (by omega)
      · exact lAll_at kL5_4_16 (by omega) (by omega)
      · exact lAll_at kL5_4_24 (by omega) (by omega)
  · have : k = 0 ∨ k = 1 ∨ k = 2 ∨ k = 3 ∨ k = 4 ∨ k = 5 := by omega
    have hc : m < 8 ∧ 0 ≤ m ∨ m < 16 ∧ 8 ≤ m ∨ m < 24 ∧ 16 ≤ m ∨ m < 32 ∧ 24 ≤ m ∨ m < 40 ∧ 32 ≤ m ∨ m < 48 ∧ 40 ≤ m ∨ m < 56 ∧ 48 ≤ m ∨ m < 64 ∧ 56 ≤ m := by omega
    rcases this with rfl | rfl | rfl | rfl | rfl | rfl
    · rcases hc with h | h | h | h | h | h | h | h
      · exact lAll_at kL6_0_0 (by omega) (by omega)
      · exact lAll_at kL6_0_8 (by omega) (by omega)
      · exact lAll_at kL6_0_16 (by omega) (by omega)
      · exact lAll_at kL6_0_24 (by omega) (by omega)
      · exact lAll_at kL6_0_32 (by omega) (by omega)
      · exact lAll_at kL6_0_40 (by omega) (by omega)
      · exact lAll_at kL6_0_48 (by omega) (by omega)
      · exact lAll_at kL6_0_56 (by omega) (by omega)
    · rcases hc with h | h | h | h | h | h | h | h
      · exact lAll_at kL6_1_0 (by omega) (by omega)
      · exact lAll_at kL6_1_8 (by omega) (by omega)
      · exact lAll_at kL6_1_16 (by omega) (by omega)
      · exact lAll_at kL6_1_24 (by omega) (by omega)
      · exact lAll_at kL6_1_32 (by omega) (by omega)
      · exact lAll_at kL6_1_40 (by omega) (by omega)
      · exact lAll_at kL6_1_48 (by omega) (by omega)
      · exact lAll_at kL6_1_56 (by omega) (by omega)
    · rcases hc with h | h | h | h | h | h | h | h
      · exact lAll_at kL6_2_0 (by omega) (by omega)
      · exact lAll_at kL6_2_8 (by omega) (by omega)
      · exact lAll_at kL6_2_16 (by omega) (by omega)
      · exact lAll_at kL6_2_24 (by omega) (by omega)
      · exact lAll_at kL6_2_32 (by omega) (by omega)
      · exact lAll_at kL6_2_40 (by omega) (by omega)
      · exact lAll_at kL6_2_48 (by omega) (by omega)
      · exact lAll_at kL6_2_56 (by omega) (by omega)
    · rcases hc with h | h | h | h | h | h | h | h
      · exact lAll_at kL6_3_0 (by omega) (by omega)
      · exact lAll_at kL6_3_8 (by omega) (by omega)
      · exact lAll_at kL6_3_16 (by omega) (by omega)
      · exact lAll_at kL6_3_24 (by omega) (by omega)
      · exact lAll_at kL6_3_32 (by omega) (by omega)
      · exact lAll_at kL6_3_40 (by omega) (by omega)
      · exact lAll_at kL6_3_48 (by omega) (by omega)
      · exact lAll_at kL6_3_56 (by omega) (by omega)
    · rcases hc with h | h | h | h | h | h | h | h
      · exact lAll_at kL6_4_0 (by omega) (by omega)
      · exact lAll_at kL6_4_8 (by omega) (by omega)
      · exact lAll_at kL6_4_16 (by omega) (by omega)
      · exact lAll_at kL6_4_24 (by omega) (by omega)
      · exact lAll_at kL6_4_32 (by omega) (by omega)
      · exact lAll_at kL6_4_40 (by omega) (by omega)
      · exact lAll_at kL6_4_48 (by omega) (by omega)
      · exact lAll_at kL6_4_56 (by omega) (by omega)
    · rcases hc with h | h | h | h | h | h | h | h
      · exact lAll_at kL6_5_0 (by omega) (by omega)
      · exact lAll_at kL6_5_8 (by omega) (by omega)
      · exact lAll_at kL6_5_16 (by omega) (by omega)
      · exact lAll_at kL6_5_24 (by omega) (by omega)
      · exact lAll_at kL6_5_32 (by omega) (by omega)
      · exact lAll_at kL6_5_40 (by omega) (by omega)
      · exact lAll_at kL6_5_48 (by omega) (by omega)
      · exact lAll_at kL6_5_56 (by omega) (by omega)
theorem ckL_at {L k m q : Nat} (h0 : 1 ≤ L) (hL : L ≤ 6) (hk : k < L) (hm : m < 2 ^ L) (hq : cond (bt m k) (q = 0) (q < L - cnt m)) : ckL L k m q = true := by
  have h : ckLs L k m = true := ckLs_all h0 hL hk hm
  unfold ckLs at h
  cases hb : bt m k with
  | true => rw [hb] at h hq; have hq : q = 0 := hq; subst hq; exact h
  | false => rw [hb] at h hq; exact lAll_at (p := ckL L k m) h (Nat.zero_le _) (by have hq : q < L - cnt m := hq; omega)
theorem atF_over {ρ : Rho} (g : Nat → Int) (k : Nat) : ∀ (n p m : Nat) (a b : Int) (j : Nat), atF (ρ.over g) k n p m a b j = atF ρ k n p m a b j
  | 0, _, _, _, _, _ => rfl
  | n + 1, p, m, a, b, j => by
    simp only [atF]
    have key : ∀ l : List Nat, (∀ r ∈ l, r < 6) → (l.any fun r => !decide (aftF (ρ.over g) r a b = (0, 0)) && (if r = k then decide (j = p) && !noneF (ρ.over g) n (del m r) (aftF (ρ.over g) r a b).1 (aftF (ρ.over g) r a b).2 else atF (ρ.over g) k n (p + 1) (del m r) (aftF (ρ.over g) r a b).1 (aftF (ρ.over g) r a b).2 j)) =
        l.any fun r => !decide (aftF ρ r a b = (0, 0)) && (if r = k then decide (j = p) && !noneF ρ n (del m r) (aftF ρ r a b).1 (aftF ρ r a b).2 else atF ρ k n (p + 1) (del m r) (aftF ρ r a b).1 (aftF ρ r a b).2 j) := by
      intro l
      induction l with
      | nil => intro _; rfl
      | cons r l ih =>
        intro hl
        rw [List.any_cons, List.any_cons, ih fun r hr => hl r (List.mem_cons_of_mem _ hr), aftF_over (hl r List.mem_cons_self), noneF_over, atF_over g k n]
    exact key _ fun r hr => rsOf_lt hr
theorem okPl_over {L k : Nat} (hL : L ≤ 6) {ρ : Rho} (g : Nat → Int) (h : okPl L k ρ) : okPl L k (ρ.over g) :=
  ⟨okT_over hL g h.1, fun m j hm hj a b => by rw [atF_over]; exact h.2 m j hm hj a b⟩
theorem leftL_zero {L : Nat} {ρ : Rho} (h : okT L ρ) (hL : L ≤ 6) (x1 x2 : IE) (xs : List IE) (hx : xs.length = 6) : dens ρ (leftL L 0 (L - cnt 0) x1 x2 xs) = dens ρ xs := by
  unfold leftL
  refine (dens_mapI (g := fun _ o => o) xs 0 fun j o _ hj => ?_).trans (mapZ_id _ 0)
  have hm : (0 : Nat) < 2 ^ L := Nat.two_pow_pos L
  cases Nat.ble (L - cnt 0) j with
  | false => rfl
  | true => rw [cond_true, left_den h hm hL _ _ (by omega), (facts_of hL hm).2.1 rfl]; rfl
theorem P_base {L k m q : Nat} (h0 : 1 ≤ L) (hL : L ≤ 6) (hk : k < L) (hm : m < 2 ^ L) (hq : cond (bt m k) (q = 0) (q < L - cnt m)) (B : TabOk (pL L k (knM L k m q)) Sx.Tryd.tt.get (tbL L k (knM L k m q) (cnt m))) :
    CallOk (pL L k (knM L k m q)) 76 (argsL L m (.var 500) (.var 501)) (viewA 2020 (vL L k (vsQ k m q) bs6)) (.ret (leafL L k m q (.var 500) (.var 501) (vsQ k m q) bs6)) := by
  have base := eval_ok B 100 76 (argsL L m (.var 500) (.var 501)) (viewA 2020 (vL L k (vsQ k m q) bs6))
  have up : upA 0 (vL L k (vsQ k m q) bs6) = true := rfl
  have fr : CallOk (pL L k (knM L k m q)) 76 (argsL L m (.var 500) (.var 501)) (viewA 2020 (vL L k (vsQ k m q) bs6)) (runL L k m q) := base.frame (n := 2020) (l := vL L k (vsQ k m q) bs6) (by omega) rfl (viewL_ok h0 hL (by omega) _ _)
    (fun g hg => ⟨g.2, viewA_mem 2020 _ 0 up g hg, .refl _⟩) (by rw [viewA_next]; exact Nat.le_refl _) (fun _ => [])
  have tree : ((runL L k m q).bind fun r => T.ret (encL L k r)) = expL L k m q := eqTF_eq _ _ (ckL_at h0 hL hk hm hq)
  refine CallOk.read rfl fr fun ρ b hok Q kk => ⟨ρ, hok, SameL.refl _ _, ⟨rfl, fun _ o g => ⟨o, g, SameA.refl o⟩⟩, T.holds_enc tree ?_⟩
  obtain ⟨_, hT, _⟩ := hok
  have hT : okPl L k ρ ∧ ∀ j, j < knM L k m q → ρ.iv (510 + j) ≠ (k : Int) := hT
  have kk : Q (leafL L k m q (.var 500) (.var 501) (vsQ k m q) bs6) := kk
  have h64 := lt64 hL hm
  have hcl := cnt_le' hm
  obtain ⟨f1, f2, f3⟩ := facts_of hL hm
  have done : ∀ (cs : List IE) (ps : List BE), dens ρ cs = dens ρ (leftL L m (L - cnt m) (.var 500) (.var 501) (vsQ k m q)) → densB ρ ps = densB ρ (psL L k m q (.var 500) (.var 501) bs6) → ∀ r0, encL L k r0 = lfL cs ps → ∃ q0, Q q0 ∧ SameV ρ r0.1 ρ q0.1 ∧ SameH (pL L k (knM L k m q)) (pL L k (knM L k m q)) ρ r0.2 ρ q0.2 := by
    intro cs ps hd hs r0 he
    obtain ⟨h1, h2, h3, h4, h5⟩ := encL_eq he
    refine ⟨_, kk, by rw [h1]; exact SameV.refl _ _, h3.trans (viewA_next _ _).symm, fun j c g => ?_⟩
    rcases vL_mem (viewA_get _ _ _ _ g) with hm | ⟨rfl, rfl⟩ | ⟨rfl, rfl⟩
    · exact ⟨c, allO_get h2 hm, SameA.refl c⟩
    · exact ⟨_, h4, SameA.cells rfl (same_ints hd)⟩
    · exact ⟨_, h5, SameA.cells rfl (same_bools hs)⟩
  show (expL L k m q).Holds ρ _
  unfold expL
  cases hz : Nat.beq m 0 with
  | true =>
    rw [cond_true]
    have hm0 : m = 0 := beq_t.1 hz
    subst hm0
    have hb : bt 0 k = false := by
      have : k = 0 ∨ k = 1 ∨ k = 2 ∨ k = 3 ∨ k = 4 ∨ k = 5 := by omega
      rcases this with rfl | rfl | rfl | rfl | rfl | rfl <;> rfl
    have hkn : knM L k 0 q = q := by unfold knM; rw [hb]; rfl
    refine chP_holds (fun j hj => hT.2 j (by rw [hkn]; exact hj)) (done _ _ (leftL_zero hT.1.1 hL _ _ _ (vsQ_len k 0 q)).symm ?_) q 0 rfl
    have e : psL L k 0 q (.var 500) (.var 501) bs6 = mapB (fun j s => cond (Nat.beq j q) (.lit true) s) bs6 0 := by
      unfold psL
      congr 1
      funext j s
      unfold psF
      rw [hb]
      rfl
    rw [e]
  | false =>
    rw [cond_false]
    have hm0 : m ≠ 0 := fun h => by rw [beq_t.2 h] at hz; cases hz
    obtain ⟨n, hn⟩ : ∃ n, cnt m = n + 1 := ⟨cnt m - 1, by have := f3 hm0; omega⟩
    rw [hn]
    refine tPl_holds (n := n) (p := L - (n + 1)) hT.1 rfl (by omega) hL (rsOf m) (vsQ k m q) bs6 (fun r hr => ?_) (vsQ_len k m q) rfl fun cs' ps' hlen hd hs => done _ _ (hd.trans ?_) (hs.trans ?_)
    · obtain ⟨q1, q2, q3, q4⟩ := f1 r hr
      exact ⟨q1, q2, by omega⟩
    · unfold leftL
      rw [hn]
      refine (dens_mapI (vsQ k m q) 0 fun j o _ hj => ?_).symm
      have hj : j < 6 := by rw [vsQ_len] at hj; omega
      by_cases hp : L - (n + 1) ≤ j
      · rw [ble_t.2 hp, cond_true, left_den hT.1.1 hm hL _ _ (by omega), hn]
        rfl
      · have : Nat.ble (L - (n + 1)) j = false := by
          cases hb : Nat.ble (L - (n + 1)) j with
          | false => rfl
          | true => exact absurd (ble_t.1 hb) hp
        rw [this, cond_false]
        refine (foldl_id _ _ fun o r => ?_).symm
        unfold stepF
        split
        · rfl
        · rw [if_pos (by omega)]
    · unfold psL
      refine (densB_mapB bs6 0 fun j s hj => ?_).symm
      have hj : j < 6 := by have e : bs6.length = 6 := rfl; rw [e] at hj; omega
      rw [psF_den hT.1 hL hm q _ _ (by omega), hn, ← conP_all ρ h64 (show k < 6 by omega) (show L - (n + 1) < L by omega)]
theorem vL_same {L k kn kn' : Nat} (h0 : 1 ≤ L) (hL : L ≤ 6) (hk : k < 6) {ρ ρ' : Rho} (hA : Alike ρ ρ') {xs ys : List IE} {ps qs : List BE} (h : xs.map (IE.den ρ) = ys.map (IE.den ρ')) (ho : ps.map (BE.den ρ) = qs.map (BE.den ρ')) : SameH (pL L k kn) (pL L k kn') ρ (viewA 2020 (vL L k xs ps)) ρ' (viewA 2020 (vL L k ys qs)) := by
  refine ⟨by rw [viewA_next, viewA_next], fun j c g => ?_⟩
  have up : upA 0 (vL L k xs ps) = true := rfl
  have get : ∀ {b c}, (b, c) ∈ vL L k xs ps → (viewA 2020 (vL L k xs ps)).get b = some c := fun hm => viewA_mem 2020 _ 0 up _ hm
  rcases vL_mem (viewA_get _ _ _ _ g) with hm | ⟨rfl, rfl⟩ | ⟨rfl, rfl⟩
  · have := lAll_mem (preL_ok h0 hL hk) (j, c) hm
    unfold okH at this
    rw [Bool.and_eq_true] at this
    exact ⟨c, get (vL_pre hm), SameA.pl hA this.1⟩
  · exact ⟨_, get vL_arr, SameA.cells rfl (same_ints h)⟩
  · exact ⟨_, get vL_ps, SameA.cells rfl (same_bools ho)⟩
theorem psF_same {ρ ρ' : Rho} (hb : ρ'.fb = ρ.fb) (L k m q : Nat) {x1 x2 y1 y2 : IE} (e1 : y1.den ρ' = x1.den ρ) (e2 : y2.den ρ' = x2.den ρ) (j : Nat) {s s' : BE} (hs : s'.den ρ' = s.den ρ) : (psF L k m q y1 y2 j s').den ρ' = (psF L k m q x1 x2 j s).den ρ := by
  have hat : (atE k m y1 y2 j).den ρ' = (atE k m x1 x2 j).den ρ := by unfold atE; simp only [BE.den, hb, e1, e2, IE.den]
  have hno : (noneE m y1 y2).den ρ' = (noneE m x1 x2).den ρ := by unfold noneE; simp only [BE.den, hb, e1, e2, IE.den]
  unfold psF orT
  cases bt m k <;> cases Nat.ble (j + 1) L <;> cases Nat.beq j q <;> cases Nat.beq m 0 <;> simp only [cond_true, cond_false, orB_den, BE.den, hs, hat, hno]
theorem psL_same {ρ ρ' : Rho} (hb : ρ'.fb = ρ.fb) (L k m q : Nat) {x1 x2 y1 y2 : IE} (e1 : y1.den ρ' = x1.den ρ) (e2 : y2.den ρ' = x2.den ρ) : ∀ (ps qs : List BE) (j : Nat), qs.map (BE.den ρ') = ps.map (BE.den ρ) → (mapB (psF L k m q y1 y2) qs j).map (BE.den ρ') = (mapB (psF L k m q x1 x2) ps j).map (BE.den ρ)
  | [], [], _, _ => rfl
  | [], _ :: _, _, h => by simp at h
  | _ :: _, [], _, h => by simp at h
  | s :: ps, s' :: qs, j, h => by
    simp only [List.map_cons, List.cons.injEq] at h
    rw [mapB_cons, mapB_cons, List.map_cons, List.map_cons, psF_same hb L k m q e1 e2 j h.1, psL_same hb L k m q e1 e2 ps qs (j + 1) h.2]
theorem six_bools {ρ : Rho} {f : Nat → Int} : ∀ (ps : List BE), ps.length = 6 → (∀ i s, ps[i]? = some s → f (530 + i) = if s.den ρ then 1 else 0) → [decide (f 530 = 1), decide (f 531 = 1), decide (f 532 = 1), decide (f 533 = 1), decide (f 534 = 1), decide (f 535 = 1)] = ps.map (BE.den ρ)
  | [s0, s1, s2, s3, s4, s5], _, h => by
    have b : ∀ s : BE, decide ((if s.den ρ = true then (1 : Int) else 0) = 1) = s.den ρ := fun s => by cases s.den ρ <;> rfl
    rw [show f 530 = _ from h 0 s0 rfl, show f 531 = _ from h 1 s1 rfl, show f 532 = _ from h 2 s2 rfl, show f 533 = _ from h 3 s3 rfl, show f 534 = _ from h 4 s4 rfl, show f 535 = _ from h 5 s5 rfl]
    simp only [b, List.map_cons, List.map_nil]
theorem P_said {L k m q kn : Nat} (h0 : 1 ≤ L) (hL : L ≤ 6) (hk : k < L) (hm : m < 2 ^ L) (hq : bt m k = false → q < L - cnt m) (B : ∀ kn, TabOk (pL L k kn) Sx.Tryd.tt.get (tbL L k kn (cnt m))) (x1 x2 : IE) {xs : List IE} {ps : List BE} (hx : xs.length = 6) (hs : ps.length = 6)
    (hX : ∀ ρ : Rho, (∀ j, j < kn → ρ.iv (510 + j) ≠ (k : Int)) → (∀ j x, j < knM L k m q → xs[j]? = some x → x.den ρ ≠ (k : Int)) ∧ (bt m k = false → ∀ x, xs[q]? = some x → x.den ρ = (k : Int))) :
    CallOk (pL L k kn) 76 (argsL L m x1 x2) (viewA 2020 (vL L k xs ps)) (.ret (leafL L k m q x1 x2 xs ps)) := by
  let q0 := cond (bt m k) 0 q
  have hq0 : cond (bt m k) (q0 = 0) (q0 < L - cnt m) := by
    show cond (bt m k) (cond (bt m k) 0 q = 0) (cond (bt m k) 0 q < L - cnt m)
    cases hb : bt m k with
    | true => rfl
    | false => exact hq hb
  have hkn : knM L k m q0 = knM L k m q := by
    unfold knM
    show cond (bt m k) _ (cond (bt m k) 0 q) = _
    cases bt m k <;> rfl
  have hps : ∀ y1 y2 l, psL L k m q0 y1 y2 l = psL L k m q y1 y2 l := fun y1 y2 l => by
    unfold psL
    congr 1
    funext j s
    unfold psF
    show cond (bt m k) _ (cond (Nat.beq j (cond (bt m k) 0 q)) _ _) = _
    cases bt m k <;> rfl
  refine CallOk.read (p0 := pL L k (knM L k m q0)) (p := pL L k kn) rfl (P_base h0 hL hk hm hq0 (B _)) ?_
  intro ρ _ ⟨mm, k1, k2⟩ Q kk
  obtain ⟨k1, k3⟩ := k1
  obtain ⟨X1, X2⟩ := hX ρ k3
  let g : Nat → Int := fun j => if j = 500 then x1.den ρ else if j = 501 then x2.den ρ else if j < 530 then ((xs.map (IE.den ρ))[j - 510]?).getD 0 else if ((ps.map (BE.den ρ))[j - 530]?).getD false then 1 else 0
  have hA : Alike ρ (ρ.over g) := Rho.over_alike ρ g
  have e1 : (IE.var 500).den (ρ.over g) = x1.den ρ := rfl
  have e2 : (IE.var 501).den (ρ.over g) = x2.den ρ := rfl
  have g510 : ∀ i, i < 6 → (ρ.over g).iv (510 + i) = ((xs.map (IE.den ρ))[i]?).getD 0 := fun i hi => by
    rw [over_ge (by omega)]
    simp only [g, if_neg (show ¬ 510 + i = 500 by omega), if_neg (show ¬ 510 + i = 501 by omega), if_pos (show 510 + i < 530 by omega), Nat.add_sub_cancel_left]
  have xat : ∀ i, i < 6 → ∃ x, xs[i]? = some x ∧ (ρ.over g).iv (510 + i) = x.den ρ := fun i hi => by
    have hi' : i < xs.length := by omega
    refine ⟨xs[i], List.getElem?_eq_getElem hi', ?_⟩
    rw [g510 i hi, List.getElem?_map, List.getElem?_eq_getElem hi']
    rfl
  have ev : vs6.map (IE.den (ρ.over g)) = xs.map (IE.den ρ) := six_list (xs.map (IE.den ρ)) (by rw [List.length_map]; exact hx) g fun i hi => by
    simp only [g, if_neg (show ¬ 510 + i = 500 by omega), if_neg (show ¬ 510 + i = 501 by omega), if_pos (show 510 + i < 530 by omega), Nat.add_sub_cancel_left]
  have ex : (vsQ k m q0).map (IE.den (ρ.over g)) = xs.map (IE.den ρ) := by
    rw [← ev]
    have key : ∀ j, j < 6 → (cond (bt m k) (IE.var (510 + j)) (cond (Nat.beq j q0) (.lit (Int.ofNat k)) (.var (510 + j)))).den (ρ.over g) = (IE.var (510 + j)).den (ρ.over g) := fun j hj => by
      cases hb : bt m k with
      | true => rfl
      | false =>
        rw [cond_false]
        cases hj2 : Nat.beq j q0 with
        | false => rfl
        | true =>
          rw [cond_true]
          have : q0 = q := by show cond (bt m k) 0 q = q; rw [hb]; rfl
          have hjq : j = q := (beq_t.1 hj2).trans this
          obtain ⟨x, hx1, hx2⟩ := xat j hj
          show (k : Int) = (ρ.over g).iv (510 + j)
          rw [hx2]
          exact (X2 hb x (hjq ▸ hx1)).symm
    have e : vsQ k m q0 = [0, 1, 2, 3, 4, 5].map fun j => cond (bt m k) (IE.var (510 + j)) (cond (Nat.beq j q0) (.lit (Int.ofNat k)) (.var (510 + j))) := rfl
    have e6 : vs6 = [0, 1, 2, 3, 4, 5].map fun j => IE.var (510 + j) := rfl
    rw [e, e6, List.map_map, List.map_map]
    refine List.map_congr_left fun j hj => ?_
    simp only [List.mem_cons, List.not_mem_nil, or_false] at hj
    exact key j (by omega)
  have eb : bs6.map (BE.den (ρ.over g)) = ps.map (BE.den ρ) := six_bools (f := fun j => (ρ.over g).iv j) ps hs fun i s his => by
    have hi : i < ps.length := (List.getElem?_eq_some_iff.1 his).1
    show (ρ.over g).iv (530 + i) = _
    rw [over_ge (by omega)]
    simp only [g, if_neg (show ¬ 530 + i = 500 by omega), if_neg (show ¬ 530 + i = 501 by omega), if_neg (show ¬ 530 + i < 530 by omega), Nat.add_sub_cancel_left]
    rw [List.getElem?_map, his]
    rfl
  have eLeft : (leftL L m (L - cnt m) (.var 500) (.var 501) (vsQ k m q0)).map (IE.den (ρ.over g)) = (leftL L m (L - cnt m) x1 x2 xs).map (IE.den ρ) := by
    have a1 := dens_mapI (ρ := ρ.over g) (f := fun j o => cond (Nat.ble (L - cnt m) j) (leftE L m (.var 500) (.var 501) j o) o) (g := fun j o => cond (Nat.ble (L - cnt m) j) (FI ρ.fi (5000 + 600 * L + 8 * m + j) (x1.den ρ) (x2.den ρ) o) o) (vsQ k m q0) 0 fun i o _ _ => by
      cases Nat.ble (L - cnt m) i <;> rfl
    have a2 := dens_mapI (ρ := ρ) (f := fun j o => cond (Nat.ble (L - cnt m) j) (leftE L m x1 x2 j o) o) (g := fun j o => cond (Nat.ble (L - cnt m) j) (FI ρ.fi (5000 + 600 * L + 8 * m + j) (x1.den ρ) (x2.den ρ) o) o) xs 0 fun i o _ _ => by
      cases Nat.ble (L - cnt m) i <;> rfl
    unfold dens at a1 a2
    unfold leftL
    rw [a1, a2, ex]
  have ePs : (psL L k m q0 (.var 500) (.var 501) bs6).map (BE.den (ρ.over g)) = (psL L k m q x1 x2 ps).map (BE.den ρ) := by
    rw [hps]
    exact psL_same (ρ := ρ) (ρ' := ρ.over g) rfl L k m q e1 e2 ps bs6 0 eb
  refine ⟨ρ.over g, ⟨mm, ⟨okPl_over hL g k1, fun j hj => ?_⟩, k2⟩, ?_, vL_same h0 hL (by omega) hA ex.symm eb.symm, ?_⟩
  · have hcl := cnt_le' hm
    have hj6 : j < 6 := by
      rw [hkn] at hj
      unfold knM at hj
      cases hb : bt m k with
      | true => rw [hb] at hj; have hj : j < L - cnt m := hj; omega
      | false => rw [hb] at hj; have hj : j < q := hj; have := hq hb; omega
    obtain ⟨x, hx1, hx2⟩ := xat j hj6
    rw [hx2]
    exact X1 j x (by rw [← hkn]; exact hj) hx1
  · unfold argsL
    have hb : SameV ρ (bitsA m) (ρ.over g) (bitsA m) := SameV.agg (SameL.cons (SameV.bool rfl) (SameL.cons (SameV.bool rfl) (SameL.cons (SameV.bool rfl) (SameL.cons (SameV.bool rfl) (SameL.cons (SameV.bool rfl) (SameL.cons (SameV.bool rfl) SameL.nil))))))
    exact SameL.cons (SameV.int rfl) (SameL.cons hb (SameL.cons (SameV.agg (SameL.cons (SameV.int e1.symm) (SameL.cons (SameV.int e2.symm) SameL.nil))) (SameL.pl hA ptrsP rfl)))
  · exact ⟨_, kk, SameV.bool rfl, vL_same h0 hL (by omega) hA.symm eLeft ePs⟩
/-! ## What the cells of the order tell -/
theorem isLitN_den {k : Nat} {x : IE} (h : isLitN k x = true) (ρ : Rho) : x.den ρ = (k : Int) := by
  unfold isLitN at h
  split at h
  · rw [← beq_t.1 h]; rfl
  · cases h
theorem notK_den {k kn : Nat} {x : IE} (h : notK k kn x = true) {ρ : Rho} (hf : ∀ j, j < kn → ρ.iv (510 + j) ≠ (k : Int)) : x.den ρ ≠ (k : Int) := by
  unfold notK at h
  split at h
  · rename_i n
    intro e
    have e : (n : Int) = k := e
    have : n = k := by omega
    rw [beq_t.2 this] at h; cases h
  · rename_i i
    rw [Bool.and_eq_true] at h
    have h1 := ble_t.1 h.1
    have h2 := ble_t.1 h.2
    have := hf (i - 510) (by omega)
    rw [show 510 + (i - 510) = i by omega] at this
    exact this
  · cases h
theorem okX_ok {k kn n : Nat} {ρ : Rho} (hf : ∀ j, j < kn → ρ.iv (510 + j) ≠ (k : Int)) : ∀ (xs : List IE) (i : Nat), okX k kn n xs i = true → ∀ j x, i + j < n → xs[j]? = some x → x.den ρ ≠ (k : Int)
  | [], _, _, j, x, _, h => by simp at h
  | a :: l, i, h, j, x, hj, hx => by
    have h : cond (Nat.ble (i + 1) n) (and (notK k kn a) (okX k kn n l (i + 1))) true = true := h
    rw [ble_t.2 (by omega), cond_true, Bool.and_eq_true] at h
    cases j with
    | zero => simp only [List.getElem?_cons_zero, Option.some.injEq] at hx; subst hx; exact notK_den h.1 hf
    | succ j => exact okX_ok hf l (i + 1) h.2 j x (by omega) (by simpa using hx)
theorem nthI_get : ∀ (xs : List IE) (j : Nat) (x : IE), xs[j]? = some x → nthI xs j = x
  | [], j, x, h => by simp at h
  | a :: l, 0, x, h => by simp only [List.getElem?_cons_zero, Option.some.injEq] at h; exact h
  | a :: l, j + 1, x, h => nthI_get l j x (by simpa using h)
theorem lenB_eq : ∀ l : List BE, lenB l = l.length
  | [] => rfl
  | a :: l => by
    have e : lenB (a :: l) = lenB l + 1 := rfl
    rw [e, lenB_eq l]; rfl
theorem orcT3_ok {L k kn c : Nat} (h0 : 1 ≤ L) (hL : L ≤ 6) (hk : k < L) (B : ∀ c', c' < c → ∀ kn, TabOk (pL L k kn) Sx.Tryd.tt.get (tbL L k kn c')) {args : List AV} {h : Heap} {t : T (AV × Heap)} (e : orcT3 L k kn c args h = some t) : CallOk (pL L k kn) 76 args h t := by
  unfold orcT3 at e
  split at e
  · split at e
    · rename_i m xs ps _ _ _
      obtain ⟨hc, e2⟩ := cond_some e
      clear e
      simp only [Bool.and_eq_true] at hc
      obtain ⟨⟨i1, i2, i3⟩, ⟨⟨i4, i5⟩, i6, i7⟩, i8⟩ := hc
      rw [eqAVs_eq _ _ i1]
      cases e2
      have hx : xs.length = 6 := by rw [← lLen_eq]; exact beq_t.1 i4
      have hs : ps.length = 6 := by rw [← lenB_eq]; exact beq_t.1 i5
      have hm := ltP_t i2
      refine (P_said h0 hL hk hm (fun hb => ?_) (B _ (ble_t.1 i3)) _ _ hx hs fun ρ hf => ⟨fun j x hj hjx => ?_, fun hb x hqx => ?_⟩).frame (n := 2020) (by omega) rfl (viewL_ok h0 hL (by omega) xs ps) (lessAll_ok i7) (ble_t.1 i8) (fun _ => [])
      · unfold knX at i6
        rw [hb, cond_false] at i6
        simp only [Bool.and_eq_true] at i6
        exact ble_t.1 i6.2.1
      · unfold knX at i6
        unfold knM at hj
        cases hb : bt m k with
        | true => rw [hb] at i6 hj; exact okX_ok hf xs 0 i6 j x (by rw [Nat.zero_add]; exact hj) hjx
        | false =>
          rw [hb, cond_false] at i6
          rw [hb] at hj
          simp only [Bool.and_eq_true] at i6
          exact okX_ok hf xs 0 i6.1 j x (by rw [Nat.zero_add]; exact hj) hjx
      · unfold knX at i6
        rw [hb, cond_false] at i6
        simp only [Bool.and_eq_true] at i6
        have := isLitN_den i6.2.2 ρ
        rw [nthI_get xs _ x hqx] at this
        exact this
    · cases e
  · cases e
/-- THE TABLES, with the calls of the search that marks places taken as said. -/
theorem tabsL {L k : Nat} (h0 : 1 ≤ L) (hL : L ≤ 6) (hk : k < L) (c : Nat) : ∀ kn, TabOk (pL L k kn) Sx.Tryd.tt.get (tbL L k kn c) := by
  induction c using Nat.strongRecOn with
  | ind c ih =>
    intro kn
    refine Tryd.tab (orcL3 L k kn c) (fun f args h t e => ?_) 2000
    unfold orcL3 at e
    cases h1 : Nat.beq f 60 with
    | true =>
      rw [h1, cond_true] at e
      rw [beq_t.1 h1]
      exact orcA_ok (p := pL L k kn) rfl (.inl rfl) (fun ρ m h => h.1.1.1) h0 hL e
    | false =>
      rw [h1, cond_false] at e
      obtain ⟨h2, e⟩ := cond_some e
      rw [beq_t.1 h2]
      exact orcT3_ok h0 hL hk ih e
end Go.Sx
