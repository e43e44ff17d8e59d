/- RlB -/
import Derived.Test.YtpdednocbpoikaaDoorRlM
namespace Go.Sx
open Go.RowKit Go.Proofs
set_option maxRecDepth 100000
noncomputable def vB (b L : Nat) (live : Bool) : List (Nat × AObj) := vR L ++ [(b, ordB L), (b + 1, .umap (mR live))]
def okM (L : Nat) (ρ : Rho) : Prop := ∀ r i : Nat, r < L → i < 4 → ρ.fi (3101 + i) r (ρ.iv 60) 0 = ρ.iv (100 + 4 * r + i)
def okBN (L : Nat) (ρ : Rho) : Prop := okB L ρ ∧ okN L ρ ∧ okM L ρ
noncomputable def pBN (L : Nat) : Par := pOk fun ρ _ => okBN L ρ
noncomputable def orcBL (L : Nat) (f : FuncId) (args : List AV) (h : Heap) : Option (T (AV × Heap)) := cond (Nat.beq f 41) (orcLs L args h) none
noncomputable def tbBL (L : Nat) : Tabs := ⟨Sx.Tryd.ft.get, lFind Sx.Tryd.rt, 2000, orcBL L⟩
theorem tabsBL {L : Nat} (h0 : 1 ≤ L) (hL : L ≤ 6) : TabOk (pBN L) Sx.Tryd.tt.get (tbBL L) := by
  refine Tryd.tab (orcBL L) (fun f args h t e => ?_) 2000
  unfold orcBL at e
  obtain ⟨h1, e⟩ := cond_some e
  rw [beq_t.1 h1]
  exact orcLs_ok h0 hL (fun ρ m k => ⟨k.1, k.2.1⟩) e
noncomputable def argsBL (b L r : Nat) : List AV := [kV L b (b + 1), .agg [ln r, vj 60]]
noncomputable def fiM (r i : Nat) : IE := .app (3101 + i) (.lit (Int.ofNat r)) (.var 60) (.lit 0)
noncomputable def fourV (g : Nat → IE) : AV := .agg [iA (g 0), iA (g 1), iA (g 2), iA (g 3)]
noncomputable def valBL (r : Nat) : AV := fourV fun i => .var (100 + 4 * r + i)
noncomputable def runBL (b L r : Nat) : T (AV × Heap) := (evalN (tbBL L) 100 false 76 (argsBL b L r) (viewA (b + 2) (vB b L true))).bind fun q => graftT (b + 2) (vB b L true) (viewA (b + 2) (vB b L true)) [] q
noncomputable def endBL (b L r : Nat) (_ : Kn) (q : AV × Heap) : Bool := and (cond (eqAV q.1 (fourV (fiM r))) true (eqAV q.1 (valBL r))) (and (lessO (.umap (mR false)) (q.2.get (b + 1))) (and (isO (q.2.get b) (ordB L)) (and (allO q.2 (vR L)) (Nat.beq q.2.next (b + 2)))))
noncomputable def factM4 (r : Nat) : List BE := lMap (fun i => .cmp .eql (.var (100 + 4 * r + i)) (fiM r i)) (upN 4 0)
noncomputable def ckBL (b L : Nat) : Bool := and (viewOk (b + 2) (vB b L true)) (and (viewOk (b + 2) (vB b L false)) (lAll (fun r => allW [] (endBL b L r) (runBL b L r) (knOf [] (factM4 r))) (upN L 0)))
theorem ckBL2004_1 : ckBL 2004 1 = true := by kernel_rfl
theorem ckBL2004_2 : ckBL 2004 2 = true := by kernel_rfl
theorem ckBL2004_3 : ckBL 2004 3 = true := by kernel_rfl
theorem ckBL2004_4 : ckBL 2004 4 = true := by kernel_rfl
theorem ckBL2004_5 : ckBL 2004 5 = true := by kernel_rfl
theorem ckBL2004_6 : ckBL 2004 6 = true := by kernel_rfl
theorem ckBL2006_1 : ckBL 2006 1 = true := by kernel_rfl
theorem ckBL2006_2 : ckBL 2006 2 = true := by kernel_rfl
theorem ckBL2006_3 : ckBL 2006 3 = true := by kernel_rfl
theorem ckBL2006_4 : ckBL 2006 4 = true := by kernel_rfl
theorem ckBL2006_5 : ckBL 2006 5 = true := by kernel_rfl
theorem ckBL2006_6 : ckBL 2006 6 = true := by kernel_rfl
theorem ckBL_all {b L : Nat} (hb : b = 2004 ∨ b = 2006) (h0 : 1 ≤ L) (hL : L ≤ 6) : viewOk (b + 2) (vB b L true) = true ∧ viewOk (b + 2) (vB b L false) = true ∧ ∀ r, r < L → allW [] (endBL b L r) (runBL b L r) (knOf [] (factM4 r)) = true := by
  have h : ckBL b L = true := by
    rcases hb with rfl | rfl
    · rcases six h0 hL with rfl | rfl | rfl | rfl | rfl | rfl
      · exact ckBL2004_1
      · exact ckBL2004_2
      · exact ckBL2004_3
      · exact ckBL2004_4
      · exact ckBL2004_5
      · exact ckBL2004_6
    · rcases six h0 hL with rfl | rfl | rfl | rfl | rfl | rfl
      · exact ckBL2006_1
      · exact ckBL2006_2
      · exact ckBL2006_3
      · exact ckBL2006_4
      · exact ckBL2006_5
      · exact ckBL2006_6
  unfold ckBL at h
  simp only [Bool.and_eq_true] at h
  exact ⟨h.1, h.2.1, fun r hr => lAll_at h.2.2 (Nat.zero_le _) (by omega)⟩
theorem fiM_den {L : Nat} {ρ : Rho} (h : okM L ρ) {r i : Nat} (hr : r < L) (hi : i < 4) : (fiM r i).den ρ = ρ.iv (100 + 4 * r + i) := by
  rw [← h r i hr hi]
  unfold fiM
  simp only [IE.den, FI]
  rw [if_pos (by omega)]; rfl
theorem factM4_ok {L : Nat} {ρ : Rho} (h : okM L ρ) {r : Nat} (hr : r < L) : KnOk ρ (knOf [] (factM4 r)) := by
  refine knOf_ok (fun c hc => by cases hc) fun c hc => ?_
  unfold factM4 at hc
  rw [lMap_eq, List.mem_map] at hc
  obtain ⟨i, hi, rfl⟩ := hc
  have := upN_lt _ _ _ hi
  rw [BE.t_eql, IE.den_var, fiM_den h hr (by omega)]
theorem ordB_same {p0 p : Par} (hP : p0.P = p.P) {L : Nat} {ρ ρ' : Rho} (h : ρ.fi = ρ'.fi) : SameA p0 p ρ (ordB L) ρ' (ordB L) := by
  refine SameA.cells hP (same_ints ?_)
  refine List.map_congr_left fun e he => ?_
  unfold ordL at he
  rw [lMap_eq, List.mem_map] at he
  obtain ⟨j, _, rfl⟩ := he
  unfold ordE
  simp only [IE.den, h]
theorem lastsB_var {b L r : Nat} (hb : b = 2004 ∨ b = 2006) (h0 : 1 ≤ L) (hL : L ≤ 6) (hr : r < L) : CallOk (pBN L) 76 (argsBL b L r) (viewA (b + 2) (vB b L true)) (.ret (valBL r, viewA (b + 2) (vB b L false))) := by
  obtain ⟨hv, _, hck⟩ := ckBL_all hb h0 hL
  have base := eval_ok (tabsBL h0 hL) 100 76 (argsBL b L r) (viewA (b + 2) (vB b L true))
  have up : upA 0 (vB b L true) = true := by rcases hb with rfl | rfl <;> rfl
  have fr : CallOk (pBN L) 76 (argsBL b L r) (viewA (b + 2) (vB b L true)) (runBL b L r) := base.frame (n := b + 2) (l := vB b L true) (by omega) (by rcases hb with rfl | rfl <;> rfl) hv
    (fun g hg => ⟨g.2, viewA_mem (b + 2) _ 0 up g hg, .refl _⟩) (by rw [viewA_next]; exact Nat.le_refl _) (fun _ => [])
  refine CallOk.read (p0 := pBN L) (p := pBN L) rfl fr fun ρ b' hok Q k => ⟨ρ, hok, SameL.refl _ _, ⟨rfl, fun j o g => ⟨o, g, SameA.refl o⟩⟩, ?_⟩
  obtain ⟨_, hA, _⟩ := hok
  have hA : okBN L ρ := hA
  have k : Q (valBL r, viewA (b + 2) (vB b L false)) := k
  refine allW_ok (rules_nil ρ) (fun K q _ hq => ?_) (runBL b L r) _ (factM4_ok hA.2.2 hr) (hck r hr)
  unfold endBL at hq
  simp only [Bool.and_eq_true] at hq
  obtain ⟨q1, q2, q3, q4, q5⟩ := hq
  refine ⟨_, k, ?_, (beq_t.1 q5).trans (viewA_next _ _).symm, fun j o g => ?_⟩
  · cases h1 : eqAV q.1 (fourV (fiM r)) with
    | true =>
      rw [eqAV_eq _ _ h1]
      have d := fun i hi => fiM_den hA.2.2 (r := r) (i := i) hr hi
      exact SameV.agg (SameL.cons (SameV.int (d 0 (by omega))) (SameL.cons (SameV.int (d 1 (by omega))) (SameL.cons (SameV.int (d 2 (by omega))) (SameL.cons (SameV.int (d 3 (by omega))) SameL.nil))))
    | false =>
      rw [h1, cond_false] at q1
      rw [eqAV_eq _ _ q1]; exact SameV.refl _ _
  · have hm := viewA_get _ _ _ _ g
    unfold vB at hm
    rcases List.mem_append.1 hm with hm | hm
    · exact ⟨o, allO_get q4 hm, SameA.refl o⟩
    · simp only [List.mem_cons, List.not_mem_nil, or_false] at hm
      rcases hm with h | h
      · cases h; exact ⟨_, isO_eq q3, SameA.refl _⟩
      · cases h
        obtain ⟨x, hx, hl⟩ := lessO_ok q2
        exact ⟨x, hx, SameA.dull hl rfl⟩
theorem vR_same {p0 p : Par} (hP : p0.P = p.P) {L : Nat} (hL : L ≤ 6) {ρ ρ' : Rho} (h : ∀ j, j < 500 → ρ.iv j = ρ'.iv j) {j : Nat} {o : AObj} (hm : (j, o) ∈ vR L) : SameA p0 p ρ o ρ' o := by
  simp only [vR, List.mem_cons, List.not_mem_nil, or_false] at hm
  have lits : ∀ (l : List Int), SameL ρ (l.map li) ρ' (l.map li) := by
    intro l
    induction l with
    | nil => exact SameL.nil
    | cons a l ih => exact SameL.cons (SameV.int rfl) ih
  rcases hm with h | h | h | h | h
  · cases h; exact SameA.cells hP (lits [1, 20, 0, 50])
  · cases h; exact SameA.cells hP (lits [0, 998, 1, 6])
  · cases h; exact SameA.cells hP (lits [0, 3600, 0, 3600])
  · cases h; exact SameA.cells hP (lits [0, 99, 0, 99, 1, 1200])
  · cases h; exact rowsA_same hP hL h
theorem aftF_setB {ρ : Rho} (i : Nat) (B : Int → Int → Int → Bool) (r : Nat) (a b : Int) : aftF (ρ.setB i B) r a b = aftF ρ r a b := rfl
theorem noneF_setB {ρ : Rho} (i : Nat) (B : Int → Int → Int → Bool) : ∀ (k m : Nat) (a b : Int), noneF (ρ.setB i B) k m a b = noneF ρ k m a b
  | 0, _, _, _ => rfl
  | k + 1, m, a, b => by
    simp only [noneF]
    refine all_congr fun r hr => ?_
    rw [aftF_setB, noneF_setB i B k]
theorem ordF_setB {ρ : Rho} (i : Nat) (B : Int → Int → Int → Bool) : ∀ (k m : Nat) (a b : Int), ordF (ρ.setB i B) k m a b = ordF ρ k m a b
  | 0, _, _, _ => rfl
  | k + 1, m, a, b => by
    simp only [ordF]
    rw [find_congr (q := fun r => !(decide (aftF ρ r a b = (0, 0)) || noneF ρ k (del m r) (aftF ρ r a b).1 (aftF ρ r a b).2)) fun r hr => by rw [aftF_setB, noneF_setB i B k]]
    cases hf : (rsOf m).find? fun r => !(decide (aftF ρ r a b = (0, 0)) || noneF ρ k (del m r) (aftF ρ r a b).1 (aftF ρ r a b).2) with
    | none => rfl
    | some r =>
      simp only
      rw [aftF_setB, ordF_setB i B k]
theorem leftF_setB {ρ : Rho} (i : Nat) (B : Int → Int → Int → Bool) : ∀ (k p m j : Nat) (a b o : Int), leftF (ρ.setB i B) k p m j a b o = leftF ρ k p m j a b o
  | 0, _, _, _, _, _, _ => rfl
  | k + 1, p, m, j, a, b, o => by
    simp only [leftF]
    refine foldl_congr _ fun o r hr => ?_
    rw [aftF_setB, leftF_setB i B k]
theorem ivC_iv {ρ ρ' : Rho} (e : ρ.iv = ρ'.iv) : ∀ {l : List (Nat × Int × Int)} {c : BE}, c ∈ ivC l → c.den ρ = c.den ρ'
  | [], _, h => by cases h
  | q :: l, c, h => by
    simp only [ivC, List.mem_cons] at h
    rcases h with rfl | rfl | h
    · simp only [BE.den, IE.den, e]
    · simp only [BE.den, IE.den, e]
    · exact ivC_iv e h
theorem filmC_le {L : Nat} : ∀ c ∈ filmC L, ∃ i j, c = leV i j := by
  intro c hc
  simp only [filmC, List.mem_cons] at hc
  rcases hc with rfl | rfl | hc
  · exact ⟨0, 1, rfl⟩
  · exact ⟨2, 3, rfl⟩
  · have key : ∀ (l : List Nat), c ∈ (@List.rec Nat (fun _ => List BE) [] (fun r _ ih => leV (10 + 6 * r) (11 + 6 * r) :: leV (12 + 6 * r) (13 + 6 * r) :: leV (14 + 6 * r) (15 + 6 * r) :: leV (10 + 6 * r) (13 + 6 * r) :: ih) l) → ∃ i j, c = leV i j := by
      intro l
      induction l with
      | nil => intro h; cases h
      | cons a l ih =>
        intro hc
        simp only [List.mem_cons] at hc
        rcases hc with rfl | rfl | rfl | rfl | hc
        · exact ⟨_, _, rfl⟩
        · exact ⟨_, _, rfl⟩
        · exact ⟨_, _, rfl⟩
        · exact ⟨_, _, rfl⟩
        · exact ih hc
    exact key _ hc
theorem leV_iv {ρ ρ' : Rho} (e : ρ.iv = ρ'.iv) (i j : Nat) : (leV i j).den ρ = (leV i j).den ρ' := by simp only [leV, BE.den, IE.den, e]
theorem okFilm_iv {L : Nat} {ρ ρ' : Rho} (e : ρ.iv = ρ'.iv) (h : okFilm L ρ) : okFilm L ρ' :=
  ⟨fun c hc => (ivC_iv e hc).symm.trans (h.1 c hc), fun c hc => by
    obtain ⟨i, j, rfl⟩ := filmC_le c hc
    exact (leV_iv e i j).symm.trans (h.2 _ hc)⟩
theorem okBook_iv {ρ ρ' : Rho} (e : ρ.iv = ρ'.iv) (h : okBook ρ) : okBook ρ' :=
  ⟨fun c hc => (ivC_iv e hc).symm.trans (h.1 c hc), fun c hc => by
    have := h.2 c hc
    simp only [bookLe, List.mem_cons, List.not_mem_nil, or_false] at hc
    rcases hc with rfl | rfl
    · exact (leV_iv e _ _).symm.trans this
    · exact (leV_iv e _ _).symm.trans this⟩
theorem okBN_setB {L : Nat} {ρ : Rho} (B : Int → Int → Int → Bool) (h : okBN L ρ) : okBN L (ρ.setB 3100 B) := by
  obtain ⟨⟨⟨h1, h2⟩, h3, h4, h5⟩, h6, h7⟩ := h
  refine ⟨⟨⟨h1, fun m hm => ?_⟩, okFilm_iv (ρ := ρ) (ρ' := ρ.setB 3100 B) rfl h3, ?_, okBook_iv (ρ := ρ) (ρ' := ρ.setB 3100 B) rfl h5⟩, h6, h7⟩
  · obtain ⟨q1, q2, q3⟩ := h2 m hm
    refine ⟨fun a b => ?_, fun j a b hj => ?_, fun K j a b o hK hj => ?_⟩
    · rw [noneF_setB]
      show (if 4000 + m = 3100 then B else ρ.fb (4000 + m)) a b 0 = _
      rw [if_neg (by omega)]; exact q1 a b
    · rw [ordF_setB]; exact q2 j a b hj
    · rw [leftF_setB]; exact q3 K j a b o hK hj
  · rw [← h4]
    unfold noneB noneE
    simp only [BE.den, FB]
    rw [if_pos (by omega), if_pos (by omega)]
    show (if 4000 + fullM L = 3100 then B else ρ.fb (4000 + fullM L)) _ _ _ = _
    rw [if_neg (by omega)]; rfl
theorem lastsB_dull {b L r : Nat} (hb : b = 2004 ∨ b = 2006) (h0 : 1 ≤ L) (hL : L ≤ 6) (hr : r < L) : CallOk (pBN L) 76 (argsBL b L r) (viewA (b + 2) (vB b L false)) (.ret (valBL r, viewA (b + 2) (vB b L false))) := by
  have hv := lastsB_var hb h0 hL hr
  let h0' : Heap := viewA (b + 2) (vR L ++ [(b, ordB L)])
  have hb1 : b + 1 ≠ 0 ∧ b + 1 ≠ 1 ∧ b + 1 ≠ 2 ∧ b + 1 ≠ 3 ∧ b + 1 ≠ 1001 ∧ b + 1 ≠ b := by omega
  have get : ∀ (t : Bool) (j : Nat), (h0'.put (b + 1) (.umap (mR t))).get j = (viewA (b + 2) (vB b L t)).get j := fun t j => by
    have e : ∀ (l : List (Nat × AObj)) (hl : ∀ g ∈ l, g.1 ≠ b + 1), ((viewA (b + 2) l).put (b + 1) (.umap (mR t))).get j = (viewA (b + 2) (l ++ [(b + 1, .umap (mR t))])).get j := by
      intro l
      induction l with
      | nil => intro _; rfl
      | cons g l ih =>
        intro hl
        have hg := hl g List.mem_cons_self
        have := ih fun g' hg' => hl g' (List.mem_cons_of_mem _ hg')
        show (((viewA (b + 2) l).put g.1 g.2).put (b + 1) _).get j = ((viewA (b + 2) (l ++ [(b + 1, AObj.umap (mR t))])).put g.1 g.2).get j
        simp only [Heap.get_put] at this ⊢
        by_cases h1 : j = g.1
        · subst h1; rw [if_neg hg, if_pos rfl, if_pos rfl]
        · rw [if_neg h1, if_neg h1]; exact this
    have := e (vR L ++ [(b, ordB L)]) (fun g hg => by
      simp only [vR, List.cons_append, List.nil_append, List.mem_cons, List.not_mem_nil, or_false] at hg
      rcases hg with rfl | rfl | rfl | rfl | rfl | rfl <;> simp only [ne_eq] <;> omega)
    rw [List.append_assoc] at this
    exact this
  have hc : CallOk (pBN L) 76 (argsBL b L r) (h0'.put (b + 1) (.umap (mR true))) (.ret (valBL r, viewA (b + 2) (vB b L false))) := hv.congr (get true) rfl
  have fsame : ∀ ρ : Rho, SameL ρ (argsBL b L r) ρ (argsBL b L r) := fun ρ => SameL.refl _ _
  have hd := CallOk.live (p := pBN L) (b := b + 1) (m := mR true) (by simp [mR]) (by
      intro q hq
      simp only [mR, List.mem_cons, List.not_mem_nil, or_false] at hq
      rcases hq with rfl | rfl | rfl | rfl <;> simp [mR]) hc
    (fun ρ B c ⟨m, k1, k2⟩ => ⟨m, okBN_setB B k1, k2⟩)
    (fun ρ B => ?_)
    (fun ρ B j o hj hg => ?_)
    (fun ρ B Q k => ⟨_, k, ?_, rfl, fun j o g => ⟨o, g, ?_⟩⟩)
  · exact hd.congr (fun j => (get false j).symm) rfl
  · exact SameL.cons (SameV.agg (SameL.cons (SameV.sliceX _ _ _ _) (SameL.cons (SameV.int rfl) (SameL.cons (SameV.int rfl) (SameL.cons (SameV.int rfl) (SameL.cons (SameV.int rfl) (SameL.cons (SameV.int rfl) (SameL.cons (SameV.int rfl) (SameL.cons (SameV.int rfl) (SameL.cons (SameV.int rfl) (SameL.cons (SameV.int rfl) (SameL.cons (SameV.int rfl) (SameL.cons (SameV.int rfl) (SameL.cons (SameV.sliceX _ _ _ _) (SameL.cons (SameV.map _) SameL.nil))))))))))))))) (SameL.cons (SameV.agg (SameL.cons (SameV.int rfl) (SameL.cons (SameV.int rfl) SameL.nil))) SameL.nil)
  · have hm := viewA_get _ _ _ _ hg
    rcases List.mem_append.1 hm with hm | hm
    · exact vR_same (p0 := pBN L) (p := pBN L) (ρ := ρ) (ρ' := ρ.setB (mR true).fb B) rfl hL (fun _ _ => rfl) hm
    · rw [List.mem_singleton] at hm; cases hm; exact ordB_same rfl rfl
  · exact SameV.agg (SameL.cons (SameV.int rfl) (SameL.cons (SameV.int rfl) (SameL.cons (SameV.int rfl) (SameL.cons (SameV.int rfl) SameL.nil))))
  · have hm := viewA_get _ _ _ _ g
    unfold vB at hm
    rcases List.mem_append.1 hm with hm | hm
    · exact vR_same (p0 := pBN L) (p := pBN L) (ρ := ρ.setB (mR true).fb B) (ρ' := ρ) rfl hL (fun _ _ => rfl) hm
    · simp only [List.mem_cons, List.not_mem_nil, or_false] at hm
      rcases hm with h | h
      · cases h; exact ordB_same rfl rfl
      · cases h; exact SameA.umap rfl rfl (mR_nb false)
end Go.Sx
