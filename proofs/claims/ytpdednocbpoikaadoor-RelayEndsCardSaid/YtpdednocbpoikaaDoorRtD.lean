/- RtD -/
import Derived.Test.YtpdednocbpoikaaDoorRtC
namespace Go.Sx
open Go.RowKit Go.Proofs
set_option maxRecDepth 100000
theorem okBook_like {ρ ρ' : Rho} (h : ∀ j, j < 100 → ρ'.iv j = ρ.iv j) (hb : okBook ρ) : okBook ρ' := by
  have e0 := h 60 (by omega); have e1 := h 61 (by omega); have e2 := h 62 (by omega); have e3 := h 63 (by omega); have e4 := h 64 (by omega); have e5 := h 65 (by omega)
  obtain ⟨h1, h2⟩ := hb
  refine ⟨?_, ?_⟩
  · simp only [bookQ, ivC, List.forall_mem_cons, BE.t_leq, IE.den_lit, IE.den_var, List.not_mem_nil, false_implies, implies_true, and_true] at h1 ⊢
    omega
  · simp only [bookLe, leV, List.forall_mem_cons, BE.t_leq, IE.den_var, List.not_mem_nil, false_implies, implies_true, and_true] at h2 ⊢
    omega
theorem okBN_over {L : Nat} (hL : L ≤ 6) {ρ : Rho} (g : Nat → Int) (h : okBN L ρ) : okBN L (ρ.over g) := by
  obtain ⟨⟨h1, h2, h3, h4⟩, h5, h6⟩ := h
  have e : ∀ i, i < 500 → (ρ.over g).iv i = ρ.iv i := fun i hi => over_lt hi
  refine ⟨⟨okT_over hL g h1, ofilm_over hL g h2, h3, okBook_like (fun j hj => e j (by omega)) h4⟩, fun j t hj ht => ?_, fun r i hr hi => ?_⟩
  · have k := h5 j t hj ht
    have ho : (oB L j).den (ρ.over g) = (oB L j).den ρ := rfl
    rw [e (100 + 4 * j + 2 * t) (by omega), e (101 + 4 * j + 2 * t) (by omega), e 60 (by omega), ho, k.1, k.2]
    have hr : ∀ o, loZ (ρ.over g) o (ρ.iv 60 + t) = loZ ρ o (ρ.iv 60 + t) ∧ hiZ (ρ.over g) o (ρ.iv 60 + t) = hiZ ρ o (ρ.iv 60 + t) ∨ ¬ o < 6 := fun o => by
      by_cases ho : o < 6
      · left
        unfold loZ hiZ
        rw [e (14 + 6 * o) (by omega), e (15 + 6 * o) (by omega), e 0 (by omega), e 1 (by omega), e 2 (by omega), e 3 (by omega)]
        exact ⟨rfl, rfl⟩
      · exact .inr ho
    have hb := oB_in (L := L) (by omega) hL h1 hj
    rcases hr ((oB L j).den ρ).toNat with hr | hr
    · rw [hr.1, hr.2]; exact ⟨rfl, rfl⟩
    · omega
  · rw [e 60 (by omega), e (100 + 4 * r + i) (by omega)]
    exact h6 r i hr hi
theorem carry_over {plan : List Nat} {ρ : Rho} (g : Nat → Int) (h : ∀ c ∈ carryC plan, c.den ρ = true) : ∀ c ∈ carryC plan, c.den (ρ.over g) = true := fun c hc => by
  have k := h c hc
  unfold carryC at hc
  rw [lMap_eq, List.mem_map] at hc
  obtain ⟨p, _, rfl⟩ := hc
  rw [BE.t_leq, IE.den_lit, IE.den_var] at k ⊢
  rw [over_lt (by omega)]; exact k
theorem vars_over {e : IE} {ρ : Rho} (g : Nat → Int) (h : varsI 500 e = true) : e.den (ρ.over g) = e.den ρ := varsI_den (n := 500) (fun _ hi => over_lt hi) ⟨rfl, rfl⟩ e h
noncomputable def pOv (L : Nat) (plan : List Nat) : Par := pOk fun ρ _ => (okBN L ρ ∧ ∀ c ∈ carryC plan, c.den ρ = true) ∧ 0 ≤ ρ.iv 500 ∧ ρ.iv 500 ≤ 99999
theorem over_var {L : Nat} (h0 : 1 ≤ L) (hL : L ≤ 6) {plan : List Nat} (hck : ckOv L plan = true) : CallOk (pOv L plan) 12 (argsOv 2000 L plan (.var 500)) (viewA 2001 (vP L plan)) (.ret (lastV (ovE 0 plan (.var 500)) (ovE 1 plan (.var 500)), viewA 2001 (vP L plan))) := by
  have base := eval_ok (tabsTP (b := 2006) (.inr rfl) h0 hL) 200 12 (argsOv 2000 L plan (.var 500)) (viewA 2001 (vP L plan))
  have up : upA 0 (vP L plan) = true := rfl
  have fr : CallOk (pBN L) 12 (argsOv 2000 L plan (.var 500)) (viewA 2001 (vP L plan)) (runOv L plan) := base.frame (n := 2001) (l := vP L plan) (by omega) rfl (viewP_ok h0 hL plan)
    (fun g hg => ⟨g.2, viewA_mem 2001 _ 0 up g hg, .refl _⟩) (by rw [viewA_next]; exact Nat.le_refl _) (fun _ => [])
  have fr' : CallOk (pOv L plan) 12 (argsOv 2000 L plan (.var 500)) (viewA 2001 (vP L plan)) (runOv L plan) := CallOk.weak (ok0 := fun ρ _ => okBN L ρ) (fun ρ m k => k.1.1) fr
  refine CallOk.read (p0 := pOv L plan) (p := pOv L plan) rfl fr' fun ρ b hok Q k => ⟨ρ, hok, SameL.refl _ _, ⟨rfl, fun j o g => ⟨o, g, SameA.refl o⟩⟩, ?_⟩
  obtain ⟨_, hA, _⟩ := hok
  have hA : (okBN L ρ ∧ ∀ c ∈ carryC plan, c.den ρ = true) ∧ 0 ≤ ρ.iv 500 ∧ ρ.iv 500 ≤ 99999 := hA
  have k : Q (lastV (ovE 0 plan (.var 500)) (ovE 1 plan (.var 500)), viewA 2001 (vP L plan)) := k
  refine allW_ok (rules_nil ρ) (fun K q _ hq => ?_) (runOv L plan) _ (knOf_ok (fun c hc => ?_) hA.1.2) hck
  · unfold endOv at hq
    simp only [Bool.and_eq_true] at hq
    obtain ⟨q1, q2, q3⟩ := hq
    exact ⟨_, k, by rw [eqAV_eq _ _ q1]; exact SameV.refl _ _, (beq_t.1 q3).trans (viewA_next _ _).symm, fun j o g => ⟨o, allO_get q2 (viewA_get _ _ _ _ g), SameA.refl o⟩⟩
  · simp only [ivC, List.mem_cons, List.not_mem_nil, or_false] at hc
    rcases hc with rfl | rfl
    · rw [BE.t_leq]; exact hA.2.1
    · rw [BE.t_leq]; exact hA.2.2
theorem overE_cons (e : Nat) (a : IE) (l : List IE) (i : Nat) (acc : IE) : overE e (a :: l) i acc = overE e l (i + 1) (adE (.mx acc a) (aV 1 e i)) := rfl
theorem overE_congr {ρ ρ' : Rho} {e : Nat} : ∀ (l : List IE) (i : Nat) (acc acc' : IE), (∀ a ∈ l, a.den ρ' = a.den ρ) → (∀ j, j < i + l.length → ρ'.iv (100 + 4 * j + 2 * 1 + e) = ρ.iv (100 + 4 * j + 2 * 1 + e)) → acc.den ρ' = acc'.den ρ → (overE e l i acc).den ρ' = (overE e l i acc').den ρ
  | [], _, _, _, _, _, h => h
  | a :: l, i, acc, acc', hl, hj, h => by
    rw [overE_cons, overE_cons]
    refine overE_congr l (i + 1) _ _ (fun b hb => hl b (List.mem_cons_of_mem _ hb)) (fun j hj' => hj j (by simp only [List.length_cons]; omega)) ?_
    unfold adE
    rw [IE.den_add, IE.den_add, IE.den_mx, IE.den_mx, h, hl a List.mem_cons_self]
    show IntKind.i64.wrap (_ + ρ'.iv (100 + 4 * i + 2 * 1 + e)) = IntKind.i64.wrap (_ + ρ.iv (100 + 4 * i + 2 * 1 + e))
    rw [hj i (by simp only [List.length_cons]; omega)]
theorem varsI_mono {m n : Nat} (h : m ≤ n) : ∀ e : IE, varsI m e = true → varsI n e = true
  | .lit _, _ => rfl
  | .var i, k => ble_t.2 (by have := ble_t.1 (show Nat.ble (i + 1) m = true from k); omega)
  | .bin _ _ a b, k => by
    simp only [varsI, Bool.and_eq_true] at k ⊢
    exact ⟨varsI_mono h a k.1, varsI_mono h b k.2⟩
  | .conv _ a, k => by
    simp only [varsI] at k ⊢
    exact varsI_mono h a k
  | .mx a b, k => by
    simp only [varsI, Bool.and_eq_true] at k ⊢
    exact ⟨varsI_mono h a k.1, varsI_mono h b k.2⟩
  | .mn a b, k => by
    simp only [varsI, Bool.and_eq_true] at k ⊢
    exact ⟨varsI_mono h a k.1, varsI_mono h b k.2⟩
  | .app _ a b c, k => by
    simp only [varsI, Bool.and_eq_true] at k ⊢
    exact ⟨varsI_mono h a k.1, varsI_mono h b k.2.1, varsI_mono h c k.2.2⟩
noncomputable def varsP2 (L : Nat) (plan : List Nat) : Bool := and (and (lAll (varsI 200) (thereE 0 plan)) (and (lAll (varsI 200) (thereE 1 plan)) (and (varsI 200 (surelyE plan)) (varsI 200 (perhapsE plan))))) (and (lAll (varsI 400) (trE plan)) (lAll (fun q : Nat × Nat × Nat => and (Nat.ble (q.1 + 1) 60) (and (Nat.ble (q.2.1 + 1) 200) (Nat.ble (q.2.2 + 1) 200))) (chsL L plan)))
theorem varsP2_all : lAll (fun L => lAll (varsP2 L) (plansL L)) [1, 2, 3, 4, 5, 6] = true := by kernel_rfl
theorem mem6 {L : Nat} (h0 : 1 ≤ L) (hL : L ≤ 6) : L ∈ [1, 2, 3, 4, 5, 6] := by
  rcases six h0 hL with rfl | rfl | rfl | rfl | rfl | rfl <;> decide
structure VarsOk (L : Nat) (plan : List Nat) : Prop where
  t0 : ∀ a ∈ thereE 0 plan, varsI 200 a = true
  t1 : ∀ a ∈ thereE 1 plan, varsI 200 a = true
  sure : varsI 200 (surelyE plan) = true
  may : varsI 200 (perhapsE plan) = true
  tr : ∀ a ∈ trE plan, varsI 400 a = true
  ch : ∀ q ∈ chsL L plan, q.1 < 60 ∧ q.2.1 < 200 ∧ q.2.2 < 200
theorem vars_ok {L : Nat} (h0 : 1 ≤ L) (hL : L ≤ 6) {plan : List Nat} (hp : plan ∈ plansL L) : VarsOk L plan := by
  have hv := lAll_mem (lAll_mem varsP2_all L (mem6 h0 hL)) plan hp
  unfold varsP2 at hv
  simp only [Bool.and_eq_true] at hv
  obtain ⟨⟨v1, v2, v3, v4⟩, v5, v6⟩ := hv
  refine ⟨fun a ha => lAll_mem v1 a ha, fun a ha => lAll_mem v2 a ha, v3, v4, fun a ha => lAll_mem v5 a ha, fun q hq => ?_⟩
  have := lAll_mem v6 q hq
  simp only [Bool.and_eq_true] at this
  exact ⟨ble_t.1 this.1, ble_t.1 this.2.1, ble_t.1 this.2.2⟩
theorem ten_congr {ρ ρ' : Rho} {a b : IE} (h : a.den ρ' = b.den ρ) : (tenE a).den ρ' = (tenE b).den ρ := by
  unfold tenE
  rw [IE.den_mul, IE.den_mul, IE.den_lit, h]; rfl
theorem ovE_over {L : Nat} (hL : L ≤ 6) {plan : List Nat} (hV : VarsOk L plan) (hl : ∀ e, (thereE e plan).length = L) {ρ : Rho} (g : Nat → Int) {x : IE} (hx : g 500 = x.den ρ) {e : Nat} (he : e < 2) : (ovE e plan (.var 500)).den (ρ.over g) = (ovE e plan x).den ρ := by
  unfold ovE
  refine overE_congr _ _ _ _ (fun a ha => ?_) (fun j hj => ?_) (ten_congr ?_)
  · rcases (by omega : e = 0 ∨ e = 1) with rfl | rfl
    · exact vars_over g (varsI_mono (by omega) _ (hV.t0 a ha))
    · exact vars_over g (varsI_mono (by omega) _ (hV.t1 a ha))
  · rw [hl] at hj; exact over_lt (by omega)
  · rw [IE.den_var, over_ge (by omega), hx]
theorem over_said {L : Nat} (h0 : 1 ≤ L) (hL : L ≤ 6) {plan : List Nat} (hp : plan ∈ plansL L) (hck : ckOv L plan = true) {x a b : IE} {ok : Rho → (Nat → Obj → Prop) → Prop}
    (hok : ∀ ρ m, ok ρ m → (okBN L ρ ∧ ∀ c ∈ carryC plan, c.den ρ = true) ∧ 0 ≤ x.den ρ ∧ x.den ρ ≤ 99999 ∧ a.den ρ = (ovE 0 plan x).den ρ ∧ b.den ρ = (ovE 1 plan x).den ρ) :
    CallOk (pOk ok) 12 (argsOv 2000 L plan x) (viewA 2001 (vP L plan)) (.ret (lastV a b, viewA 2001 (vP L plan))) := by
  have hV := vars_ok h0 hL hp
  have hl : ∀ e, (thereE e plan).length = L := fun e => by unfold thereE; rw [atsE_len, (plansN_mem _ _ _ hp).2]
  refine CallOk.read (p0 := pOv L plan) (p := pOk ok) rfl (over_var h0 hL hck) fun ρ c ⟨m, k1, k2⟩ Q k => ?_
  obtain ⟨⟨a1, a2⟩, a3, a4, a5, a6⟩ := hok ρ m k1
  have k : Q (lastV a b, viewA 2001 (vP L plan)) := k
  let g : Nat → Int := fun _ => x.den ρ
  have al : Alike ρ (ρ.over g) := Rho.over_alike ρ g
  have iv : ∀ i, i < 500 → ρ.iv i = (ρ.over g).iv i := fun i hi => (over_lt hi).symm
  have hvp : ∀ (ρ ρ' : Rho), (∀ j, j < 500 → ρ.iv j = ρ'.iv j) → ∀ {j o}, (j, o) ∈ vP L plan → SameA (pOv L plan) (pOv L plan) ρ o ρ' o := fun ρ ρ' h j o hm => by
    unfold vP at hm
    rcases List.mem_append.1 hm with hm | hm
    · exact vR_same (p0 := pOv L plan) (p := pOv L plan) rfl hL h hm
    · rw [List.mem_singleton] at hm
      cases hm
      have lits : ∀ (l : List Nat), SameL ρ (litsN l) ρ' (litsN l) := by
        intro l
        induction l with
        | nil => exact SameL.nil
        | cons n l ih => exact SameL.cons (SameV.int rfl) ih
      exact SameA.cells rfl (lits plan)
  refine ⟨ρ.over g, ⟨m, ⟨⟨okBN_over hL g a1, carry_over g a2⟩, a3, a4⟩, k2⟩, ?_, ⟨rfl, fun j o hg => ⟨o, hg, hvp _ _ iv (viewA_get _ _ _ _ hg)⟩⟩, _, k, ?_, rfl, fun j o hg => ⟨o, hg, hvp _ _ (fun j hj => (iv j hj).symm) (viewA_get _ _ _ _ hg)⟩⟩
  · exact SameL.cons (SameV.agg (SameL.cons (SameV.sliceX _ _ _ _) (SameL.cons (SameV.int (iv 0 (by omega))) (SameL.cons (SameV.int (iv 1 (by omega))) (SameL.cons (SameV.int (iv 2 (by omega))) (SameL.cons (SameV.int (iv 3 (by omega))) (SameL.cons (SameV.int (iv 4 (by omega))) (SameL.cons (SameV.int (iv 60 (by omega))) (SameL.cons (SameV.int (iv 61 (by omega))) (SameL.cons (SameV.int (iv 62 (by omega))) (SameL.cons (SameV.int (iv 63 (by omega))) (SameL.cons (SameV.int (iv 64 (by omega))) (SameL.cons (SameV.int (iv 65 (by omega))) SameL.nil))))))))))))) (SameL.cons (SameV.sliceX _ _ _ _) (SameL.cons (SameV.int rfl) SameL.nil))
  · exact SameV.tup (SameL.cons (SameV.agg (SameL.cons (SameV.int ((ovE_over hL hV hl g rfl (by omega)).trans a5.symm)) (SameL.cons (SameV.int ((ovE_over hL hV hl g rfl (by omega)).trans a6.symm)) SameL.nil))) (SameL.cons (SameV.int rfl) SameL.nil))
theorem argsOv_mv {c L : Nat} {plan : List Nat} {x : IE} {E : Env} : concL (E.mv 2000 c 2001) (argsOv 2000 L plan x) = concL E (argsOv c L plan x) := by simp [argsOv, bookF, bookC, iA, concL, conc, Env.mv, mvN, vj]
theorem over_at {L : Nat} (h0 : 1 ≤ L) (hL : L ≤ 6) {plan : List Nat} (hp : plan ∈ plansL L) (hck : ckOv L plan = true) {x a b : IE} {ok : Rho → (Nat → Obj → Prop) → Prop}
    (hok : ∀ ρ m, ok ρ m → (okBN L ρ ∧ ∀ c ∈ carryC plan, c.den ρ = true) ∧ 0 ≤ x.den ρ ∧ x.den ρ ≤ 99999 ∧ a.den ρ = (ovE 0 plan x).den ρ ∧ b.den ρ = (ovE 1 plan x).den ρ) {c : Nat} {h : Heap} (h1 : lessAll h (vR L) = true) (h2 : lessO (ro (litsN plan)) (h.get c) = true) :
    CallOk (pOk ok) 12 (argsOv c L plan x) h (.ret (lastV a b, h)) :=
  CallOk.moved (a := 2000) (c := c) (over_said h0 hL hp hck hok) (by omega) (by omega) rfl vP_ro (vP_at h1 h2) fun E => argsOv_mv
end Go.Sx
