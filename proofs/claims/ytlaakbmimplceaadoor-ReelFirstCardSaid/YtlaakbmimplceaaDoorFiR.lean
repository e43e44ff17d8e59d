/- THE LAW OF THE FIRST ORDER: what its rules say is so. -/
import Derived.Test.YtlaakbmimplceaaDoorSxMoved
import Derived.Test.YtlaakbmimplceaaDoorRyP
import Derived.Test.YtlaakbmimplceaaDoorRyQ
import Derived.Test.YtlaakbmimplceaaDoorRyPu
import Derived.Test.YtlaakbmimplceaaDoorRyJV
/-! THE LAW OF THE FIRST ORDER: its run, for a valid film. -/
namespace Go.Sx
open Go.RowKit Go.Proofs
set_option maxRecDepth 100000
/-- a call that is said of a small heap -/
noncomputable def smallOrc (n : Nat) (args0 : List AV) (l : List (Nat × AObj)) (t : T (AV × Heap)) (nw : AV × Heap → List Nat) (args : List AV) (h : Heap) : Option (T (AV × Heap)) :=
  cond (and (eqAVs args args0) (and (lessAll h l) (Nat.ble n h.next))) (some (t.bind fun r => graftT n l h (nw r) r)) none
theorem smallOrc_ok {p : Par} {f : FuncId} {n : Nat} {args0 : List AV} {l : List (Nat × AObj)} {t : T (AV × Heap)} {nw : AV × Heap → List Nat} (hc : CallOk p f args0 (viewA n l) t) (hn : 1000 ≤ n) (ha : idsLts n args0 = true) (hv : viewOk n l = true)
    {args : List AV} {h : Heap} {u : T (AV × Heap)} (e : smallOrc n args0 l t nw args h = some u) : CallOk p f args h u := by
  unfold smallOrc at e
  obtain ⟨h1, e2⟩ := cond_some e
  clear e
  simp only [Bool.and_eq_true] at h1
  obtain ⟨i1, i2, i3⟩ := h1
  rw [eqAVs_eq _ _ i1]
  cases e2
  exact hc.frame (n := n) hn ha hv (lessAll_ok i2) (ble_t.1 i3) nw
noncomputable def nw0 (_ : AV × Heap) : List Nat := []
noncomputable def nw1 (_ : AV × Heap) : List Nat := [2000]
noncomputable def nwSt (r : AV × Heap) : List Nat :=
  match r.1 with
  | .tup [.nilslice, _] => []
  | _ => [2000]
/-- whether the shuffled list is an order -/
noncomputable def soE : BE := .cmp .eql (.var 200) (.lit 1)
noncomputable def othL (L : Nat) : List IE := lMap IE.var (upN L 110)
noncomputable def nonE (L : Nat) : BE := noneE (fullM L) (.lit 0) (.lit 100)
noncomputable def numE (L : Nat) : IE := mnyE (fullM L) (.lit 0) (.lit 100) (.lit 0)
noncomputable def fstL (L : Nat) : List IE := ordL (fullM L) (.lit 0) (.lit 100)
noncomputable def orcW (L : Nat) (f : FuncId) (args : List AV) (h : Heap) : Option (T (AV × Heap)) :=
  cond (Nat.beq f 8) (closedOrc glV args h) (cond (Nat.beq f 37) (pickOrc args h) (cond (Nat.beq f 19) (shufOrc L args h)
  (cond (Nat.beq f 7) (smallOrc 2000 [filmF L] (vK L) (saidSo L) nw0 args h) (cond (Nat.beq f 12) (smallOrc 2000 [filmF L] (vK L) (saidF L) nw1 args h) (cond (Nat.beq f 11) (smallOrc 2000 [filmF L] (vK L) (saidQ L) nw0 args h)
  (cond (Nat.beq f 13) (smallOrc 2000 [filmF L] (vK L) (saidS L) nwSt args h) (cond (Nat.beq f 15) (smallOrc 2000 [filmF L, ln 0] (vK L) (saidPl L) nw0 args h)
  (cond (Nat.beq f 10) (match smallOrc 2004 (argsI 2003 L) (vI 2003 L (othL L)) (.br (.lit false) (.fail 8) (.ret (.tup [.bool soE, ln 0], viewA 2004 (vI 2003 L (othL L))))) nw0 args h with
    | some t => some t
    | none => smallOrc 2002 (argsI 2001 L) (vI 2001 L (fstL L)) (.br (nonE L) (.fail 8) (.ret (.tup [.bool (.lit true), ln 0], viewA 2002 (vI 2001 L (fstL L))))) nw0 args h) none))))))))
noncomputable def tbW (L : Nat) : Tabs := ⟨Sx.Tryd.ft.get, lFind Sx.Tryd.rt, 2000, orcW L⟩
noncomputable def lawRun (L : Nat) : T (AV × Heap) := evalN (tbW L) 60 false 4 [filmV L, .sliceU 96] (viewHeap 2000 (viewV L))
noncomputable def singC (L : Nat) : List BE := lMap (fun r => .not (noneE (Nat.pow 2 r) (.lit 0) (.lit 100))) (upN L 0)
noncomputable def eqC (L i : Nat) : List BE := lMap (fun j => .cmp .eql (.var (110 + j)) (ordE (fullM L) (.lit 0) (.lit 100) j)) (upN i 0)
noncomputable def befR (L : Nat) : Rules := lMap (fun i => (soE :: .not (nonE L) :: .cmp .lss (.var (110 + i)) (ordE (fullM L) (.lit 0) (.lit 100) i) :: eqC L i, (.lit false : BE))) (upN L 0)
noncomputable def lawR (L : Nat) : Rules := ([.cmp .lss (numE L) (.lit 0)], .lit false) :: ([nonE L, .cmp .gtr (numE L) (.lit 0)], .lit false) :: ([.not (nonE L), .not (.cmp .gtr (numE L) (.lit 0))], .lit false) :: ([soE, nonE L], .lit false) :: ([soE, .cmp .eql (numE L) (.lit 0)], .lit false) :: befR L
noncomputable def lawCk (L : Nat) : Bool := servesX (lawR L) (.ret (.bool (.lit true))) (only (lawRun L)) (knOf (filmQ L) (filmC L ++ singC L))
end Go.Sx
/-! THE LAW OF THE FIRST ORDER: what its rules say is so. -/
namespace Go.Sx
open Go.RowKit Go.Proofs
set_option maxRecDepth 100000
/-- what the names of the law mean -/
def okW (L : Nat) (ρ : Rho) : Prop := okO L ρ ∧ okFilm L ρ ∧ ∃ l ∈ permsM L (fullM L), (othL L).map (IE.den ρ) = l.map Int.ofNat ∧ soE.den ρ = chainF ρ l 0 100
theorem nonE_den {L : Nat} (h0 : 1 ≤ L) (hL : L ≤ 6) {ρ : Rho} (h : okT L ρ) : (nonE L).den ρ = noneF ρ L (fullM L) 0 100 := by
  have := none_den h (fullM_lt (L := L)) (.lit 0) (.lit 100)
  rw [fullM_cnt h0 hL] at this
  exact this
theorem numE_den {L : Nat} (h0 : 1 ≤ L) (hL : L ≤ 6) {ρ : Rho} (h : okO L ρ) : (numE L).den ρ = cntF ρ L (fullM L) 0 100 := by
  have := many_den h (fullM_lt (L := L)) (.lit 0) (.lit 100) (.lit 0)
  rw [fullM_cnt h0 hL] at this
  refine this.trans ((manyF_cnt ρ L (fullM L) 0 100 0 (Int.le_refl _) ?_).trans (Int.zero_add _))
  rcases six h0 hL with rfl | rfl | rfl | rfl | rfl | rfl <;> decide
theorem ltL_at : ∀ (i : Nat) (l m : List Nat) (a b : Nat), (∀ j, j < i → l[j]? = m[j]?) → l[i]? = some a → m[i]? = some b → a < b → ltL l m = true
  | 0, x :: l, y :: m, a, b, _, h1, h2, hab => by
    simp only [List.getElem?_cons_zero, Option.some.injEq] at h1 h2
    subst h1; subst h2
    simp only [ltL]
    rw [if_neg (by omega)]
    exact decide_eq_true hab
  | i + 1, x :: l, y :: m, a, b, h, h1, h2, hab => by
    have := h 0 (by omega)
    simp only [List.getElem?_cons_zero, Option.some.injEq] at this
    simp only [ltL]
    rw [if_pos this]
    simp only [List.getElem?_cons_succ] at h1 h2
    exact ltL_at i l m a b (fun j hj => by have := h (j + 1) (by omega); simpa using this) h1 h2 hab
  | 0, [], _, _, _, _, h, _, _ => by simp at h
  | i + 1, [], _, _, _, _, h, _, _ => by simp at h
  | 0, _ :: _, [], _, _, _, _, h, _ => by simp at h
  | i + 1, _ :: _, [], _, _, _, _, h, _ => by simp at h
theorem othL_at {L i : Nat} {ρ : Rho} {l : List Nat} (h : (othL L).map (IE.den ρ) = l.map Int.ofNat) (hi : i < L) (hl : l.length = L) : ∃ a, l[i]? = some a ∧ ρ.iv (110 + i) = (a : Int) := by
  have hi' : i < l.length := by omega
  refine ⟨l[i], List.getElem?_eq_getElem hi', ?_⟩
  have e : ((othL L).map (IE.den ρ))[i]? = (l.map Int.ofNat)[i]? := by rw [h]
  have up : ∀ (n k i : Nat), i < n → (upN n k)[i]? = some (k + i) := by
    intro n
    induction n with
    | zero => intro k i h; omega
    | succ n ih =>
      intro k i h
      cases i with
      | zero => rfl
      | succ i =>
        simp only [upN, List.getElem?_cons_succ]
        rw [ih (k + 1) i (by omega)]
        congr 1; omega
  unfold othL at e
  rw [lMap_eq, List.map_map, List.getElem?_map, List.getElem?_map, up L 110 i hi, List.getElem?_eq_getElem hi'] at e
  simpa [IE.den] using e
theorem ordE_at {L i : Nat} (h0 : 1 ≤ L) (hL : L ≤ 6) {ρ : Rho} (h : okT L ρ) {l : List Nat} (e : ordF ρ L (fullM L) 0 100 = l.map Int.ofNat) (hl : l.length = L) (hi : i < L) : ∃ a, l[i]? = some a ∧ (ordE (fullM L) (.lit 0) (.lit 100) i).den ρ = (a : Int) := by
  have hi' : i < l.length := by omega
  refine ⟨l[i], List.getElem?_eq_getElem hi', ?_⟩
  have := ord_den h (fullM_lt (L := L)) (.lit 0) (.lit 100) (show i < 8 by omega)
  rw [fullM_cnt h0 hL] at this
  refine this.trans ?_
  show (ordF ρ L (fullM L) 0 100).getD i 0 = _
  rw [e, List.getD_eq_getElem?_getD, List.getElem?_map, List.getElem?_eq_getElem hi']
  rfl
theorem lMap_mem {α β : Type} {f : α → β} {l : List α} {b : β} (h : b ∈ lMap f l) : ∃ a ∈ l, f a = b := by rw [lMap_eq] at h; exact List.mem_map.1 h
theorem mem_lMap {α β : Type} {f : α → β} {l : List α} {a : α} (h : a ∈ l) : f a ∈ lMap f l := by rw [lMap_eq]; exact List.mem_map.2 ⟨a, h, rfl⟩
theorem lawR_ok {L : Nat} (h0 : 1 ≤ L) (hL : L ≤ 6) {ρ : Rho} (h : okW L ρ) : RulesOk ρ (lawR L) := by
  obtain ⟨hO, hF, l, hl, hx, h7⟩ := h
  have hT := hO.1
  have hn := nonE_den h0 hL hT
  have hN := numE_den h0 hL hO
  have hc := cntF_pos ρ L (fullM L) 0 100
  have h7n : soE.den ρ = true → noneF ρ L (fullM L) 0 100 = false := fun h => noneF_of_chain ρ L _ 0 100 l hl (h7.symm.trans h)
  intro r hr hp
  exfalso
  unfold lawR at hr
  simp only [List.mem_cons] at hr
  rcases hr with rfl | rfl | rfl | rfl | rfl | hr
  · have := BE.t_lss.1 (hp _ List.mem_cons_self)
    rw [hN] at this
    have e : (IE.lit 0).den ρ = 0 := rfl
    omega
  · have a := hp _ List.mem_cons_self
    have b := BE.t_gtr.1 (hp _ (List.mem_cons_of_mem _ List.mem_cons_self))
    rw [hn] at a
    rw [hN] at b
    have e : (IE.lit 0).den ρ = 0 := rfl
    have := hc.1 (by omega)
    rw [a] at this; cases this
  · have a := hp _ List.mem_cons_self
    have b := hp _ (List.mem_cons_of_mem _ List.mem_cons_self)
    simp only [BE.den, Bool.not_eq_true'] at a
    rw [hn] at a
    have := hc.2 a
    have k : (BE.cmp .gtr (numE L) (.lit 0)).den ρ = true := BE.t_gtr.2 (by rw [hN]; have e : (IE.lit 0).den ρ = 0 := rfl; omega)
    rw [BE.den, k] at b
    cases b
  · have a := hp _ List.mem_cons_self
    have b := hp _ (List.mem_cons_of_mem _ List.mem_cons_self)
    rw [hn, h7n a] at b
    cases b
  · have a := hp _ List.mem_cons_self
    have b := BE.t_eql.1 (hp _ (List.mem_cons_of_mem _ List.mem_cons_self))
    rw [hN] at b
    have e : (IE.lit 0).den ρ = 0 := rfl
    have := hc.2 (h7n a)
    omega
  · unfold befR at hr
    obtain ⟨i, hi, rfl⟩ := lMap_mem hr
    have hi := (upN_lt _ _ _ hi).2
    have hi : i < L := by omega
    have a := hp _ List.mem_cons_self
    have b := BE.t_lss.1 (hp _ (List.mem_cons_of_mem _ (List.mem_cons_of_mem _ List.mem_cons_self)))
    have q : ∀ j, j < i → ρ.iv (110 + j) = (ordE (fullM L) (.lit 0) (.lit 100) j).den ρ := fun j hj =>
      BE.t_eql.1 (hp _ (List.mem_cons_of_mem _ (List.mem_cons_of_mem _ (List.mem_cons_of_mem _ (mem_lMap (f := fun j => BE.cmp .eql (.var (110 + j)) (ordE (fullM L) (.lit 0) (.lit 100) j)) (mem_upN i 0 j (Nat.zero_le _) (by omega)))))))
    obtain ⟨l0, m0, e0, c0, first⟩ := ordF_first ρ L (fullM L) 0 100 (h7n a)
    have len := permsM_len L _ l hl
    have len0 := permsM_len L _ l0 m0
    have no := first l hl (h7.symm.trans a)
    obtain ⟨x, x1, x2⟩ := othL_at hx hi len
    obtain ⟨y, y1, y2⟩ := ordE_at h0 hL hT e0 len0 hi
    have b : ρ.iv (110 + i) < (ordE (fullM L) (.lit 0) (.lit 100) i).den ρ := b
    have := ltL_at i l l0 x y (fun j hj => by
      obtain ⟨u, u1, u2⟩ := othL_at hx (show j < L by omega) len
      obtain ⟨v, v1, v2⟩ := ordE_at h0 hL hT e0 len0 (show j < L by omega)
      have := q j hj
      rw [u1, v1]
      congr 1
      omega) x1 y1 (by omega)
    rw [no] at this
    cases this
theorem filmC_mem {L r : Nat} (hr : r < L) : leV (10 + 6 * r) (13 + 6 * r) ∈ filmC L := by
  unfold filmC
  refine List.mem_cons_of_mem _ (List.mem_cons_of_mem _ ?_)
  have key : ∀ l : List Nat, r ∈ l → leV (10 + 6 * r) (13 + 6 * r) ∈ (@List.rec Nat (fun _ => List BE) [] (fun r _ ih => leV (10 + 6 * r) (11 + 6 * r) :: leV (12 + 6 * r) (13 + 6 * r) :: leV (14 + 6 * r) (15 + 6 * r) :: leV (10 + 6 * r) (13 + 6 * r) :: ih) l) := by
    intro l
    induction l with
    | nil => intro h; cases h
    | cons a l ih =>
      intro h
      rcases List.mem_cons.1 h with rfl | h
      · exact List.mem_cons_of_mem _ (List.mem_cons_of_mem _ (List.mem_cons_of_mem _ List.mem_cons_self))
      · exact List.mem_cons_of_mem _ (List.mem_cons_of_mem _ (List.mem_cons_of_mem _ (List.mem_cons_of_mem _ (ih h))))
  exact key _ (mem_upN L 0 r (Nat.zero_le _) (by omega))
theorem rsOf_one {r : Nat} (h : r < 6) : rsOf (2 ^ r) = [r] ∧ cnt (2 ^ r) = 1 := by
  have : r = 0 ∨ r = 1 ∨ r = 2 ∨ r = 3 ∨ r = 4 ∨ r = 5 := by omega
  rcases this with rfl | rfl | rfl | rfl | rfl | rfl <;> exact ⟨rfl, rfl⟩
theorem singC_ok {L : Nat} (hL : L ≤ 6) {ρ : Rho} (hT : okT L ρ) (hF : okFilm L ρ) : ∀ c ∈ singC L, c.den ρ = true := by
  intro c hc
  unfold singC at hc
  obtain ⟨r, hr, rfl⟩ := lMap_mem hc
  have hr : r < L := by have := (upN_lt _ _ _ hr).2; omega
  obtain ⟨e1, e2⟩ := rsOf_one (show r < 6 by omega)
  have hlt : 2 ^ r < 2 ^ L := (Nat.pow_lt_pow_iff_right (by omega)).2 hr
  have hd := none_den hT hlt (.lit 0) (.lit 100)
  rw [e2] at hd
  have hv := BE.t_leq.1 (hF.2 _ (filmC_mem hr))
  have := single_ok hT.1 hr e1 hv
  show (!(noneE (2 ^ r) (.lit 0) (.lit 100)).den ρ) = true
  rw [hd]
  have this : noneF ρ 1 (2 ^ r) ((IE.lit 0).den ρ) ((IE.lit 100).den ρ) = false := this
  rw [this]; rfl
end Go.Sx
