/- RtE -/
import Derived.Test.YtpdednocbpoikaaDoorRtD
namespace Go.Sx
open Go.RowKit Go.Proofs
set_option maxRecDepth 100000
theorem pruneT_holds {ρ : Rho} {K : Kn} (H : KnOk ρ K) {R : AV × Heap → Prop} : ∀ t : T (AV × Heap), (pruneT t K).Holds ρ R → t.Holds ρ R
  | .ret _, h => h
  | .fail _, h => h
  | .br c x y, h => by
    have h : (match decK K c with
      | some b => cond b (pruneT x K) (pruneT y K)
      | none => .br c (pruneT x K) (pruneT y K)).Holds ρ R := h
    cases hd : decK K c with
    | none =>
      rw [hd] at h
      simp only [T.Holds] at h ⊢
      split
      · rename_i hc; rw [if_pos hc] at h; exact pruneT_holds H x h
      · rename_i hc; rw [if_neg hc] at h; exact pruneT_holds H y h
    | some b =>
      rw [hd] at h
      have hc := decK_ok H c b hd
      simp only [T.Holds]
      cases b with
      | true => rw [if_pos hc]; exact pruneT_holds H x h
      | false => rw [if_neg (by rw [hc]; exact Bool.false_ne_true)]; exact pruneT_holds H y h
noncomputable def hapI (ρ : Rho) (nx : Nat) : List IE → Nat → IE → Nat → IE × Nat
  | [], _, now, cnt => (now, cnt)
  | a :: l, i, now, cnt => if now.den ρ < a.den ρ then hapI ρ nx l (i + 1) (adE a (.var (340 + (nx + i)))) (cnt + 1) else hapI ρ nx l (i + 1) (adE now (.var (340 + (nx + i)))) cnt
theorem hapT_holds {ρ : Rho} {nx : Nat} {R : AV → Prop} : ∀ (l : List IE) (i : Nat) (now : IE) (cnt : Nat), R (.tup [iA (hapI ρ nx l i now cnt).1, ln (hapI ρ nx l i now cnt).2, tag true]) → (hapT nx l i now cnt).Holds ρ R
  | [], _, _, _, h => h
  | a :: l, i, now, cnt, h => by
    have e : hapT nx (a :: l) i now cnt = .br (.cmp .gtr a now) (hapT nx l (i + 1) (adE a (.var (340 + (nx + i)))) (cnt + 1)) (hapT nx l (i + 1) (adE now (.var (340 + (nx + i)))) cnt) := rfl
    rw [e]
    simp only [T.Holds]
    unfold hapI at h
    split
    · rename_i hc
      rw [BE.t_gtr] at hc
      rw [if_pos hc] at h
      exact hapT_holds l (i + 1) _ _ h
    · rename_i hc
      rw [BE.t_gtr] at hc
      rw [if_neg hc] at h
      exact hapT_holds l (i + 1) _ _ h
theorem hapI_congr {ρ ρ' : Rho} {nx : Nat} : ∀ (l : List IE) (i : Nat) (now now' : IE) (cnt : Nat), (∀ a ∈ l, a.den ρ' = a.den ρ) → (∀ j, j < 500 → ρ'.iv j = ρ.iv j) → nx + i + l.length ≤ 100 → now.den ρ' = now'.den ρ →
    (hapI ρ' nx l i now cnt).1.den ρ' = (hapI ρ nx l i now' cnt).1.den ρ ∧ (hapI ρ' nx l i now cnt).2 = (hapI ρ nx l i now' cnt).2
  | [], _, _, _, _, _, _, _, h => ⟨h, rfl⟩
  | a :: l, i, now, now', cnt, hl, hj, hn, h => by
    have ha := hl a List.mem_cons_self
    simp only [List.length_cons] at hn
    have add : ∀ x y : IE, x.den ρ' = y.den ρ → (adE x (.var (340 + (nx + i)))).den ρ' = (adE y (.var (340 + (nx + i)))).den ρ := fun x y hxy => by
      unfold adE
      rw [IE.den_add, IE.den_add, hxy, IE.den_var, IE.den_var, hj _ (by omega)]
    unfold hapI
    rw [h, ha]
    split
    · exact hapI_congr l (i + 1) _ _ _ (fun b hb => hl b (List.mem_cons_of_mem _ hb)) hj (by omega) (add _ _ ha)
    · exact hapI_congr l (i + 1) _ _ _ (fun b hb => hl b (List.mem_cons_of_mem _ hb)) hj (by omega) (add _ _ h)
def okHb (L : Nat) (plan : List Nat) (ρ : Rho) (m : Nat → Obj → Prop) : Prop := okBN L ρ ∧ OkCh L plan ρ ∧ okPick ρ m
noncomputable def pH (L : Nat) (plan : List Nat) : Par := pOk (okHb L plan)
theorem tabsH {L : Nat} (h0 : 1 ≤ L) (hL : L ≤ 6) (plan : List Nat) : TabOk (pH L plan) Sx.Tryd.tt.get (tbH L plan) := by
  refine Tryd.tab (orcH L plan) (fun f args h t e => ?_) 2000
  unfold orcH at e
  have dec : ∀ {n : Nat} {a b : Option (T (AV × Heap))}, cond (Nat.beq f n) a b = some t → (f = n ∧ a = some t) ∨ b = some t := fun {n a b} e => by
    cases hf : Nat.beq f n with
    | true => rw [hf, cond_true] at e; exact .inl ⟨beq_t.1 hf, e⟩
    | false => rw [hf, cond_false] at e; exact .inr e
  rcases dec e with ⟨rfl, e⟩ | e
  · exact pick_orc (p := pH L plan) rfl (fun ρ m h => h.2.2) e
  rcases dec e with ⟨rfl, e⟩ | e
  · exact orcChoose_ok (ok := okHb L plan) (fun ρ m h => h.2.1) e
  rcases dec e with ⟨rfl, e⟩ | e
  · exact orcFirst_ok (fun ρ m h => h.1.1) h0 hL e
  rcases dec e with ⟨rfl, e⟩ | e
  · exact orcLs_ok h0 hL (fun ρ m h => ⟨h.1.1, h.1.2.1⟩) e
  · cases e
theorem viewH_ok {L : Nat} (h0 : 1 ≤ L) (hL : L ≤ 6) (plan : List Nat) : viewOk 2002 (vH L plan) = true := by
  unfold viewOk
  rw [Bool.and_eq_true]
  refine ⟨rfl, ?_⟩
  unfold vH
  have hr : lAll (fun g : Nat × AObj => and (Nat.ble (g.1 + 1) 2002) (idsO 2002 g.2)) (vR L) = true := by
    rcases six h0 hL with rfl | rfl | rfl | rfl | rfl | rfl <;> rfl
  refine lAll_app hr (lAll_cons ?_ rfl)
  show and (Nat.ble 2002 2002) (idsLts 2002 (litsN plan)) = true
  rw [idsN]; rfl
theorem kn_last {L : Nat} {ρ : Rho} (H : LastZ L ρ) : KnOk ρ (knOf (lastQ L) (lastLe2 L)) := by
  refine knOf_ok (fun c hc => ?_) fun c hc => ?_
  · have key : ∀ (l : List (Nat × Int × Int)), (∀ q ∈ l, q.2.1 ≤ ρ.iv q.1 ∧ ρ.iv q.1 ≤ q.2.2) → ∀ c ∈ ivC l, c.den ρ = true := by
      intro l
      induction l with
      | nil => intro _ c hc; cases hc
      | cons a l ih =>
        intro hl c hc
        have ha := hl a List.mem_cons_self
        simp only [ivC, List.mem_cons] at hc
        rcases hc with rfl | rfl | hc
        · exact BE.t_leq.2 ha.1
        · exact BE.t_leq.2 ha.2
        · exact ih (fun q hq => hl q (List.mem_cons_of_mem _ hq)) c hc
    refine key _ (fun q hq => ?_) c hc
    unfold lastQ at hq
    rw [lMap_eq, List.mem_map] at hq
    obtain ⟨j, hj, rfl⟩ := hq
    have hj := upN_lt _ _ _ hj
    have a := H.a (t := j % 4 / 2) (e := j % 2) (j := j / 4) (by omega) (by omega) (by omega)
    rw [show 100 + 4 * (j / 4) + 2 * (j % 4 / 2) + j % 2 = 100 + j by omega] at a
    exact a
  · unfold lastLe2 at hc
    rw [lApp_eq] at hc
    rcases List.mem_append.1 hc with hc | hc
    · rw [lMap_eq, List.mem_map] at hc
      obtain ⟨i, hi, rfl⟩ := hc
      have hi := upN_lt _ _ _ hi
      unfold leV
      rw [BE.t_leq, IE.den_var, IE.den_var]
      exact (H.t0 i (by omega)).2.1
    · unfold lastLe at hc
      rw [lMap_eq, List.mem_map] at hc
      obtain ⟨i, hi, rfl⟩ := hc
      have hi := upN_lt _ _ _ hi
      unfold leV
      rw [BE.t_leq, IE.den_var, IE.den_var]
      exact (H.t1 i (by omega)).2.1
noncomputable def namesT (L : Nat) : AObj := .cells (lMap vj (upN L 270)) 3 true true
noncomputable def hapV (L : Nat) (w : AV) (i : Nat) : AV := .tup [.agg [.sliceX 2002 1 0 L, w, vj (290 + i)], tag true]
noncomputable def saidH (L : Nat) (plan : List Nat) (i : Nat) : T (AV × Heap) := .br (.cmp .eql (.var (260 + i)) (.lit 0)) (.ret (hapV L .nilslice i, viewA 2003 (vH L plan ++ [(2002, namesT L)]))) (.ret (hapV L (.sliceV 2003 (260 + i)) i, viewA 2004 (vH L plan ++ [(2002, namesT L), (2003, .cells [] 3 true true)])))
structure OkHp (L : Nat) (plan : List Nat) (i : Nat) (x : IE) (ρ : Rho) : Prop where
  tr : (trE plan).map (IE.den ρ) = (upN L 270).map ρ.iv
  over : ρ.iv (290 + i) = (hapI ρ (nxE L plan) (trE plan) 0 (tenE x) 0).1.den ρ
  cnt : ρ.iv (260 + i) = ((hapI ρ (nxE L plan) (trE plan) 0 (tenE x) 0).2 : Int)
theorem encH_some {L : Nat} {plan : List Nat} {q : AV × Heap} {ov : IE} {c : Nat} (h : encH L plan q = .tup [iA ov, ln c, tag true]) : ∃ w nx, q.1 = .tup [.agg [.sliceX 2002 1 0 L, w, iA ov], tag true] ∧ encW q.2 w = some (c, nx) ∧ q.2.get 2002 = some (trO plan) ∧ allO q.2 (vH L plan) = true ∧ q.2.next = nx := by
  unfold encH at h
  split at h
  · rename_i n w ov' hv
    split at h
    · rename_i c' nx hw
      simp only [AV.tup.injEq, List.cons.injEq, and_true] at h
      obtain ⟨h1, h2, h3⟩ := h
      simp only [tag, AV.bool.injEq, BE.lit.injEq, Bool.and_eq_true] at h3
      obtain ⟨g1, g2, g3, g4⟩ := h3
      have hc : c' = c := by
        simp only [ln, AV.int.injEq, IE.lit.injEq, true_and] at h2
        exact Int.ofNat.inj h2
      refine ⟨w, nx, ?_, by rw [hw, hc], isO_eq g2, g3, beq_t.1 g4⟩
      rw [hv, h1, beq_t.1 g1]; rfl
    · cases h
  · cases h
theorem grown_some {o : Option AObj} (h : isGrown o = true) : ∃ cs, o = some (.cells cs 3 true true) := by
  unfold isGrown at h
  split at h
  · rename_i cs el own ext
    simp only [Bool.and_eq_true] at h
    obtain ⟨h1, h2, h3⟩ := h
    exact ⟨cs, by rw [beq_t.1 h1, h2, h3]⟩
  · cases h
theorem SameA.shrink {P : Program} {RC : Nat → Nat → List Nat → Code → Code → Prop} {ok ok' : Rho → (Nat → Obj → Prop) → Prop} {ρ0 ρ : Rho} {cs : List AV} {el : TypeId} : SameA ⟨P, RC, ok⟩ ⟨P, RC, ok'⟩ ρ0 (.cells cs el true true) ρ (.cells [] el true true) :=
  ⟨fun h => h, fun h => h, fun _ _ _ _ _ _ ⟨c, base, vs, cells, el', fz, k1, _, k3, _, k5⟩ => ⟨c, base, [], cells, el', fz, k1, rfl, k3, fun i hi => absurd hi (Nat.not_lt_zero i), fun h => by
    obtain ⟨q1, q2, _, q4⟩ := k5 h
    exact ⟨q1, q2, fun h => (by cases h), q4⟩⟩⟩
theorem encW_cases {h : Heap} {w : AV} {c nx : Nat} (e : encW h w = some (c, nx)) : (w = .nilslice ∧ c = 0 ∧ nx = 2003) ∨ (w = .sliceX 2003 1 0 c ∧ 1 ≤ c ∧ nx = 2004 ∧ ∃ cs, h.get 2003 = some (.cells cs 3 true true)) := by
  unfold encW at e
  split at e
  · cases e; exact .inl ⟨rfl, rfl, rfl⟩
  · obtain ⟨h1, h2⟩ := cond_some e
    cases h2
    rw [Bool.and_eq_true] at h1
    exact .inr ⟨rfl, ble_t.1 h1.1, rfl, grown_some h1.2⟩
  · cases e
theorem OkCh.over {L : Nat} {plan : List Nat} (hV : VarsOk L plan) {ρ : Rho} (g : Nat → Int) (h : OkCh L plan ρ) : OkCh L plan (ρ.over g) := fun q hq => by
  obtain ⟨v1, v2, v3⟩ := hV.ch q hq
  obtain ⟨h1, h2, h3, h4⟩ := h q hq
  have e : ∀ i, i < 500 → (ρ.over g).iv i = ρ.iv i := fun i hi => over_lt hi
  have en : (nameC q).den (ρ.over g) = (nameC q).den ρ := vars_over g (by
    unfold nameC
    simp only [varsI, Bool.and_eq_true]
    exact ⟨ble_t.2 (by omega), ble_t.2 (by omega), trivial, trivial, trivial⟩)
  rw [e _ (by omega), e q.2.1 (by omega), e q.2.2 (by omega), en]
  exact ⟨h1, h2, h3, h4⟩
theorem happened_said {L : Nat} (h0 : 1 ≤ L) (hL : L ≤ 6) {plan : List Nat} (hp : plan ∈ plansL L) (hck : ckH L plan = true) {i : Nat} {x : IE} {ok : Rho → (Nat → Obj → Prop) → Prop}
    (hok : ∀ ρ m, ok ρ m → okHb L plan ρ m ∧ OkHp L plan i x ρ) : CallOk (pOk ok) 13 (argsH L plan x) (viewA 2002 (vH L plan)) (saidH L plan i) := by
  have hV := vars_ok h0 hL hp
  obtain ⟨p1, p2⟩ := plansN_mem _ _ _ hp
  have pl := sum_len plan p1
  have base := eval_ok (tabsH h0 hL plan) 100 13 (argsH L plan (.var 500)) (viewA 2002 (vH L plan))
  have up : upA 0 (vH L plan) = true := rfl
  have fr : CallOk (pH L plan) 13 (argsH L plan (.var 500)) (viewA 2002 (vH L plan)) (runH L plan) := base.frame (n := 2002) (l := vH L plan) (by omega) rfl (viewH_ok h0 hL plan)
    (fun g hg => ⟨g.2, viewA_mem 2002 _ 0 up g hg, .refl _⟩) (by rw [viewA_next]; exact Nat.le_refl _) nwH
  refine CallOk.read (p0 := pH L plan) (p := pOk ok) rfl fr fun ρ c ⟨m, k1, k2⟩ Q k => ?_
  obtain ⟨⟨a1, a2, a3⟩, a4⟩ := hok ρ m k1
  let g : Nat → Int := fun _ => x.den ρ
  have iv : ∀ i, i < 500 → ρ.iv i = (ρ.over g).iv i := fun i hi => (over_lt hi).symm
  have hvp : ∀ (ρ ρ' : Rho), (∀ j, j < 500 → ρ.iv j = ρ'.iv j) → ∀ {j o}, (j, o) ∈ vH L plan → SameA (pH L plan) (pH L plan) ρ o ρ' o := fun ρ ρ' h j o hm => by
    unfold vH at hm
    rcases List.mem_append.1 hm with hm | hm
    · exact vR_same (p0 := pH L plan) (p := pH L plan) rfl hL h hm
    · rw [List.mem_singleton] at hm
      cases hm
      have lits : ∀ (l : List Nat), SameL ρ (litsN l) ρ' (litsN l) := by
        intro l
        induction l with
        | nil => exact SameL.nil
        | cons n l ih => exact SameL.cons (SameV.int rfl) ih
      exact SameA.cells rfl (lits plan)
  have hPk : okPick (ρ.over g) m := by
    obtain ⟨b, len, cap, h1, h2, h3, h4, h5, h6⟩ := a3
    exact ⟨b, len, cap, h1, by rw [← iv 96 (by omega)]; exact h2, h3, h4, h5, h6⟩
  refine ⟨ρ.over g, ⟨m, ⟨okBN_over hL g a1, a2.over hV g, hPk⟩, k2⟩, ?_, ⟨rfl, fun j o hg => ⟨o, hg, hvp _ _ iv (viewA_get _ _ _ _ hg)⟩⟩, ?_⟩
  · refine SameL.cons (SameV.agg (SameL.cons (SameV.sliceX _ _ _ _) (SameL.cons (SameV.int (iv 0 (by omega))) (SameL.cons (SameV.int (iv 1 (by omega))) (SameL.cons (SameV.int (iv 2 (by omega))) (SameL.cons (SameV.int (iv 3 (by omega))) (SameL.cons (SameV.int (iv 4 (by omega))) (SameL.cons (SameV.int (iv 60 (by omega))) (SameL.cons (SameV.int (iv 61 (by omega))) (SameL.cons (SameV.int (iv 62 (by omega))) (SameL.cons (SameV.int (iv 63 (by omega))) (SameL.cons (SameV.int (iv 64 (by omega))) (SameL.cons (SameV.int (iv 65 (by omega))) SameL.nil))))))))))))) (SameL.cons (SameV.sliceX _ _ _ _) (SameL.cons (SameV.int rfl) (SameL.cons (fun σ κ n m' rc rc' => ?_) SameL.nil)))
    simp only [conc]
    rw [iv 96 (by omega)]; rfl
  · have hH := okBN_over hL g a1
    have hck' : ((pruneT (runH L plan) (knOf (lastQ L) (lastLe2 L))).bind fun q => T.ret (encH L plan q)) = hapT (nxE L plan) (trE plan) 0 (tenE (.var 500)) 0 := eqTF_eq _ _ hck
    refine pruneT_holds (kn_last (lastZ_of h0 hL hH)) _ (T.holds_enc hck' (hapT_holds _ _ _ _ fun r0 he => ?_))
    obtain ⟨w, nx, e1, e2, e3, e4, e5⟩ := encH_some he
    have den : ∀ a ∈ trE plan, a.den (ρ.over g) = a.den ρ := fun a ha => vars_over g (varsI_mono (by omega) a (hV.tr a ha))
    have trl : (trE plan).length = L := by
      have := congrArg List.length a4.tr
      rw [List.length_map, List.length_map] at this
      rw [this]
      have key : ∀ n k, (upN n k).length = n := by
        intro n
        induction n with
        | zero => intro k; rfl
        | succ n ih => intro k; simp only [upN, List.length_cons, ih]
      exact key _ _
    have hc := hapI_congr (ρ := ρ) (ρ' := ρ.over g) (nx := nxE L plan) (trE plan) 0 (tenE (.var 500)) (tenE x) 0 den (fun j hj => (iv j hj).symm) (by unfold nxE; rw [lLen_eq, trl]; omega) (ten_congr (by rw [IE.den_var, over_ge (by omega)]))
    have hov := hc.1.trans a4.over.symm
    have hcn : ρ.iv (260 + i) = ((hapI (ρ.over g) (nxE L plan) (trE plan) 0 (tenE (.var 500)) 0).2 : Int) := by rw [hc.2]; exact a4.cnt
    have htr : SameA (pH L plan) (pH L plan) (ρ.over g) (trO plan) ρ (namesT L) := by
      unfold trO namesT
      rw [vj_eq]
      refine SameA.cells rfl (same_ints ?_)
      rw [List.map_congr_left den, a4.tr, lMap_eq, List.map_map]; rfl
    unfold saidH at k
    simp only [T.Holds] at k
    have heap : ∀ {j o}, (j, o) ∈ vH L plan → ∃ o', r0.2.get j = some o' ∧ SameA (pH L plan) (pH L plan) (ρ.over g) o' ρ o := fun {j o} hm => ⟨o, allO_get e4 hm, hvp _ _ (fun j hj => (iv j hj).symm) hm⟩
    rcases encW_cases e2 with ⟨rfl, hc0, rfl⟩ | ⟨rfl, hc1, rfl, cs, hcs⟩
    · rw [if_pos (by rw [BE.t_eql, IE.den_var, IE.den_lit, hcn, hc0]; rfl)] at k
      refine ⟨_, k, ?_, e5.trans (viewA_next _ _).symm, fun j o hg => ?_⟩
      · rw [e1]
        exact SameV.tup (SameL.cons (SameV.agg (SameL.cons (SameV.sliceX _ _ _ _) (SameL.cons SameV.nilslice (SameL.cons (SameV.int hov) SameL.nil)))) (SameL.cons (SameV.bool rfl) SameL.nil))
      · rcases List.mem_append.1 (viewA_get _ _ _ _ hg) with hm | hm
        · exact heap hm
        · rw [List.mem_singleton] at hm
          cases hm
          exact ⟨_, e3, htr⟩
    · rw [if_neg (by rw [BE.t_eql, IE.den_var, IE.den_lit, hcn]; omega)] at k
      refine ⟨_, k, ?_, e5.trans (viewA_next _ _).symm, fun j o hg => ?_⟩
      · rw [e1]
        refine SameV.tup (SameL.cons (SameV.agg (SameL.cons (SameV.sliceX _ _ _ _) (SameL.cons ?_ (SameL.cons (SameV.int hov) SameL.nil)))) (SameL.cons (SameV.bool rfl) SameL.nil))
        intro σ κ n m' rc rc'
        simp only [conc, hcn]
        generalize (hapI (ρ.over g) (nxE L plan) (trE plan) 0 (tenE (.var 500)) 0).2 = cc at *
        by_cases hk : cc ≤ κ 2003
        · have hk2 : (0 : Int) ≤ (cc : Int) ∧ (cc : Int) ≤ (κ 2003 : Int) := by omega
          rw [if_pos (show 0 + cc ≤ κ 2003 by omega), if_pos hk2]
          simp
        · have hk2 : ¬ ((0 : Int) ≤ (cc : Int) ∧ (cc : Int) ≤ (κ 2003 : Int)) := by omega
          rw [if_neg (show ¬ 0 + cc ≤ κ 2003 by omega), if_neg hk2]
      · rcases List.mem_append.1 (viewA_get _ _ _ _ hg) with hm | hm
        · exact heap hm
        · simp only [List.mem_cons, List.not_mem_nil, or_false] at hm
          rcases hm with hm | hm
          · cases hm; exact ⟨_, e3, htr⟩
          · cases hm; exact ⟨_, hcs, SameA.shrink⟩
end Go.Sx
