/- THE OPERATIONS, ON: stores; numbers; truth values; parts of values. -/
import Derived.Test.YtaapomafjjikhaaGreatDoorSxOps
import Derived.IntWalk
/-! THE OPERATIONS, ON: stores; numbers; truth values; parts of values. -/
namespace Go.Sx
open Go.RowKit

/-! ## Stores -/
theorem HeapOk.storeCells {p : Par} {E : Env} {h : Heap} {w0 : Base} {w : World} (H : HeapOk p E h w0 w) {b off : Nat} {cs cs' as : List AV} {vs : List Value} {e : TypeId} {x : Bool}
    (hg : h.get b = some (.cells cs e true x)) (hv : concL E as = some vs) (ok : allOk as = true) (hp : listPut cs off as = some cs') {q : Nat × Nat} (hq : E.σ b = some q) :
    ∃ w', (storeCells ⟨q.1, q.2 + off, none⟩ vs).run p.P w = .ok () w' ∧ HeapOk p E (h.put b (.cells cs' e true x)) w0 w' := by
  obtain ⟨hle, rfl⟩ := listPut_eq hp
  obtain ⟨c, base, us, cells, el, fz, h1, h2, h3, h4, h5⟩ := H.obj b _ hg
  rw [hq] at h1; cases h1
  obtain ⟨rfl, rfl, h6, h7⟩ := h5 rfl
  have hlen := concL_len h2
  have hal := concL_len hv
  have hsize : us.length ≤ cells.size := by
    by_cases hz : us.length = 0
    · omega
    · have := h4 (us.length - 1) (by omega)
      rw [List.getElem?_eq_getElem (by omega)] at this
      have := (Array.getElem?_eq_some_iff.1 this).1
      omega
  simp only [Nat.zero_add]
  refine ⟨_, run_storeCells_at p.P c off el vs 0 cells w h3 (by omega) (allOk_one hv ok), ?_⟩
  have hnew := setRow_heap w c cells (cells.toList.take (off + 0) ++ vs ++ cells.toList.drop (off + 0 + vs.length)).toArray el (0, 0) h3
  refine H.turn hg rfl hq rfl ⟨c, 0, us.take off ++ (vs ++ us.drop (off + vs.length)), _, el, (0, 0), hq, ?_, hnew, ?_, ?_⟩ (fun i hi => setRow_other w c i _ hi) rfl rfl rfl (by simp)
  · rw [hal]; exact concL_app (concL_take h2 off) (concL_app hv (concL_drop h2 _))
  · intro i hi
    have hi' : i < us.length := by simp at hi; omega
    simp only [Nat.zero_add, Nat.add_zero, List.getElem?_toArray]
    have h4' : ∀ j, j < us.length → cells.toList[j]? = us[j]? := fun j hj => by have := h4 j hj; simpa using this
    by_cases c1 : i < off
    · rw [List.append_assoc, List.getElem?_append_left (by simp; omega), List.getElem?_append_left (by simp; omega), List.getElem?_take, List.getElem?_take, if_pos c1, if_pos c1, h4' i hi']
    · have lt1 : (cells.toList.take off).length = off := by simp; omega
      have lt2 : (us.take off).length = off := by simp; omega
      rw [List.append_assoc, List.getElem?_append_right (l₁ := cells.toList.take off) (by omega), lt1, List.getElem?_append_right (l₁ := us.take off) (by omega), lt2]
      by_cases c2 : i - off < vs.length
      · rw [List.getElem?_append_left c2, List.getElem?_append_left c2]
      · rw [List.getElem?_append_right (l₁ := vs) (l₂ := cells.toList.drop _) (by omega), List.getElem?_append_right (l₁ := vs) (l₂ := us.drop _) (by omega), List.getElem?_drop, List.getElem?_drop]
        have : off + vs.length + (i - off - vs.length) = i := by omega
        rw [this, h4' i hi']
  · intro _
    refine ⟨rfl, rfl, fun hx => ?_, fun hx => ?_⟩
    · have := h6 hx
      simp; omega
    · obtain ⟨j, hj, hk⟩ := h7 hx
      refine ⟨j, hj, ?_⟩
      simp; omega

theorem astoreC_some {n : Nat} {h h' : Heap} {b off : Nat} {vs : List AV} (k : astoreC n h b off vs = some h') :
    ∃ cs e x cs', h.get b = some (.cells cs e true x) ∧ vs.length = n ∧ allOk vs = true ∧ listPut cs off vs = some cs' ∧ h' = h.put b (.cells cs' e true x) := by
  unfold astoreC at k
  cases hg : h.get b with
  | none => rw [hg] at k; cases k
  | some o =>
    rw [hg] at k
    cases o with
    | cells cs e own x =>
      simp only at k
      cases hc : and own (and (Nat.beq (lLen vs) n) (allOk vs)) with
      | false => rw [hc] at k; cases k
      | true =>
        rw [hc, cond_true] at k
        have hc1 := Bool.and_eq_true_iff.1 hc
        have hc2 := Bool.and_eq_true_iff.1 hc1.2
        have hown := hc1.1
        subst hown
        rw [lLen_eq] at hc2
        cases hp : listPut cs off vs with
        | none => rw [hp] at k; cases k
        | some cs' => rw [hp] at k; cases k; exact ⟨cs, e, x, cs', rfl, beq_t.1 hc2.1, hc2.2, hp, rfl⟩
    | _ => cases k

theorem store_ok {p : Par} {ty : Nat → Option TI} (T : TyOk p.P ty) {t : Nat} {i : TI} (ht : ty t = some i) {x1 x2 : Operand} {y1 y2 : Opd} (h1 : cOpd x1 = some y1) (h2 : cOpd x2 = some y2) {o : Oper} (ho : o.op = .store t x1 x2) :
    InsOk p (iStore i.size y1 y2) o := by
  intro cx n keep E w0 tm h a w Q K _ HT HH k P
  have hex : execOp a.eval o = (do Instr.storeAt t (a.eval x1) (a.eval x2); pure Next.skip) := by unfold execOp; rw [ho]
  rw [hex]
  simp only [iStore, rStore] at k
  cases hst : astore i.size h (ev tm y1) (ev tm y2) with
  | none => rw [hst] at k; exact k.elim
  | some h' =>
    rw [hst] at k
    cases he : ev tm y1 with
    | ptr b off =>
      rw [he] at hst
      simp only [astore] at hst
      obtain ⟨cs, e, x, cs', hg, hlen, hok, hp, rfl⟩ := astoreC_some hst
      have hv1 := opd_some HT h1 (by rw [he]; rfl) HH.glob
      rw [he] at hv1
      obtain ⟨q, hq, hv1'⟩ := ptr_conc hv1
      have hv2 := opd_some HT h2 (cells_bad hok) HH.glob
      have hcs := conc_cells hv2 hok
      obtain ⟨w', hrun, H'⟩ := HH.storeCells hg hcs hok hp hq
      refine does_unit (w' := w') ?_ ?_
      · rw [hv1']
        unfold Instr.storeAt Instr.sureAddr storeVar
        have hsz : (a.eval x2).cells.size = i.size := by
          have := concL_len hcs
          simp at this
          omega
        simp only [Sem.run_bind, pure, Sem.run, Result.andThen_ok, run_size T ht, hsz, ne_eq, not_true_eq_false, if_false]
        exact hrun
      · exact P _ _ E w' undef k (Env.le.refl E) H' rfl
    | _ => rw [he] at hst; simp [astore] at hst

/-! ## Numbers -/
theorem wrapL_eq (k : IntKind) (n : Int) : wrapL k n = k.wrap n := by
  unfold wrapL
  cases hb : and (isI64 k) (inI64 n) with
  | false => rfl
  | true =>
    obtain ⟨hk, hn⟩ := Bool.and_eq_true_iff.1 hb
    rw [cond_true]
    cases k with
    | i64 =>
      have hb : -9223372036854775808 ≤ n ∧ n ≤ 9223372036854775807 := by
        unfold inI64 at hn
        cases n with
        | ofNat m => have := ble_t.1 hn; constructor <;> simp only [Int.ofNat_eq_natCast] <;> omega
        | negSucc m => have := ble_t.1 hn; constructor <;> omega
      rw [IntKind.wrap_i64]
      omega
    | _ => cases hk

theorem ilt_eq (x y : Int) : ilt x y = decide (x < y) := by
  cases x with
  | ofNat m =>
    cases y with
    | ofNat n =>
      simp only [ilt, Int.ofNat_eq_natCast]
      by_cases h : m < n
      · rw [ble_t.2 (by omega), decide_eq_true (by omega)]
      · rw [show Nat.ble (Nat.succ m) n = false from Bool.eq_false_iff.2 (fun hb => h (by have := ble_t.1 hb; omega)), decide_eq_false (by omega)]
    | negSucc n => simp only [ilt, Int.ofNat_eq_natCast]; rw [decide_eq_false (by omega)]
  | negSucc m =>
    cases y with
    | ofNat n => simp only [ilt, Int.ofNat_eq_natCast]; rw [decide_eq_true (by omega)]
    | negSucc n =>
      simp only [ilt]
      by_cases h : n < m
      · rw [ble_t.2 (by omega), decide_eq_true (by omega)]
      · rw [show Nat.ble (Nat.succ n) m = false from Bool.eq_false_iff.2 (fun hb => h (by have := ble_t.1 hb; omega)), decide_eq_false (by omega)]

theorem ieq_eq (x y : Int) : ieq x y = (x == y) := by
  cases x with
  | ofNat m =>
    cases y with
    | ofNat n =>
      simp only [ieq]
      by_cases h : m = n
      · subst h; simp
      · rw [beq_f.2 h]; symm; rw [beq_eq_false_iff_ne]; intro e; cases e; exact h rfl
    | negSucc n => simp only [ieq]; rfl
  | negSucc m =>
    cases y with
    | ofNat n => simp only [ieq]; rfl
    | negSucc n =>
      simp only [ieq]
      by_cases h : m = n
      · subst h; simp
      · rw [beq_f.2 h]; symm; rw [beq_eq_false_iff_ne]; intro e; cases e; exact h rfl

theorem kindEq_eq {j k : IntKind} (h : kindEq j k = true) : j = k := by
  cases j <;> cases k <;> first | rfl | cases h

theorem litCmp_den {op : BinOp} {x y : Int} {b : Bool} (h : litCmp op x y = some b) : isCmp op = true ∧ cmpDen op x y = b := by
  unfold litCmp at h
  cases op <;> simp only [Option.some.injEq] at h <;> first | (cases h; done) | (refine ⟨rfl, ?_⟩; subst h; simp only [cmpDen, ieq_eq, ilt_eq]; first | rfl | skip)
  all_goals (rw [Bool.eq_iff_iff]; simp; try omega)

theorem mkCmp_den {op : BinOp} {a b : IE} {c : BE} {ρ : Rho} (h : mkCmp op a b = some c) : isCmp op = true ∧ c.den ρ = cmpDen op (a.den ρ) (b.den ρ) := by
  unfold mkCmp at h
  split at h
  · simp only [Option.map_eq_some_iff] at h
    obtain ⟨r, hr, rfl⟩ := h
    obtain ⟨h1, h2⟩ := litCmp_den hr
    exact ⟨h1, by simp [BE.den, IE.den, h2]⟩
  · cases hc : isCmp op with
    | false => rw [hc] at h; cases h
    | true => rw [hc] at h; cases h; exact ⟨rfl, rfl⟩

theorem run_intCmp {P : Program} {op : BinOp} (h : isCmp op = true) (x y : Int) (w : World) : (Op.intCmp op x y).run P w = .ok (.bool (cmpDen op x y)) w := by
  cases op <;> first | rfl | cases h

theorem run_binOp_cmp {P : Program} {op : BinOp} (h : isCmp op = true) (t : TypeId) (k : IntKind) (x y : Int) (w : World) : (binOp op t (.int k x) (.int k y)).run P w = .ok (.bool (cmpDen op x y)) w := by
  cases op <;> first | (cases h; done) | (simp only [binOp, ne_eq, not_true_eq_false, if_false]; exact run_intCmp (by rfl) x y w)

theorem run_eqGuard_int {P : Program} (op : BinOp) (t : TypeId) (x y : Operand) (k k' : IntKind) (a b : Int) (w : World) : (eqGuard op t x y (.int k a) (.int k' b)).run P w = .ok () w := by
  unfold eqGuard
  cases op <;> rfl

theorem int_conc {E : Env} {k : IntKind} {e : IE} : conc E (.int k e) = some (.int k (e.den E.ρ)) := rfl

theorem cmp_ok {p : Par} {op : BinOp} {t t' : TypeId} {x1 x2 : Operand} {y1 y2 : Opd} (h1 : cOpd x1 = some y1) (h2 : cOpd x2 = some y2) {o : Oper} (ho : o.op = .binOp op t x1 x2 t') : InsOk p (iCmp op y1 y2) o := by
  intro cx n keep E w0 tm h a w Q K _ HT HH k P
  obtain ⟨r, hr, q⟩ := holds_mk2 k
  have hex : execOp a.eval o = (do let x ← (do eqGuard op t x1 x2 (a.eval x1) (a.eval x2); binOp op t (a.eval x1) (a.eval x2)); pure (Next.value x)) := by unfold execOp; rw [ho]
  rw [hex]
  unfold acmp at hr
  split at hr
  · rename_i j u k' u' he1 he2
    cases hk : kindEq j k' with
    | false => rw [hk] at hr; cases hr
    | true =>
      have := kindEq_eq hk
      subst this
      rw [hk, cond_true] at hr
      cases hm : mkCmp op u u' with
      | none => rw [hm] at hr; cases hr
      | some c =>
        rw [hm] at hr; cases hr
        obtain ⟨hc, hd⟩ := mkCmp_den (ρ := E.ρ) hm
        have e1 := opd_ok HT h1 (v := .int j (u.den E.ρ)) (by rw [he1]; rfl) HH.glob
        have e2 := opd_ok HT h2 (v := .int j (u'.den E.ρ)) (by rw [he2]; rfl) HH.glob
        rw [e1, e2]
        refine does_value (v := .bool (cmpDen op (u.den E.ρ) (u'.den E.ρ))) (w' := w) ?_ (P.same HH q (by simp [conc, hd]))
        simp only [Sem.run_bind, run_eqGuard_int, Result.andThen_ok, run_binOp_cmp hc]
  · cases hr

theorem litBin_den {op : BinOp} {k : IntKind} {x y n : Int} {P : Program} (h : litBin op k x y = some n) (t : TypeId) (w : World) : (binOp op t (.int k x) (.int k y)).run P w = .ok (.int k n) w := by
  unfold litBin at h
  split at h
  · cases h; rw [wrapL_eq]; simp only [binOp, ne_eq, not_true_eq_false, if_false]; rfl
  · cases h; rw [wrapL_eq]; simp only [binOp, ne_eq, not_true_eq_false, if_false]; rfl
  · cases h; rw [wrapL_eq]; simp only [binOp, ne_eq, not_true_eq_false, if_false]; rfl
  · cases hy : ieq y 0 with
    | true => rw [hy] at h; cases h
    | false =>
      rw [hy] at h; cases h
      rw [ieq_eq] at hy
      have hy0 : ¬ y = 0 := by simpa using hy
      rw [wrapL_eq]; simp only [binOp, ne_eq, not_true_eq_false, if_false, Op.intDiv, if_neg hy0]; rfl
  · cases hy : ieq y 0 with
    | true => rw [hy] at h; cases h
    | false =>
      rw [hy] at h; cases h
      rw [ieq_eq] at hy
      have hy0 : ¬ y = 0 := by simpa using hy
      simp only [binOp, ne_eq, not_true_eq_false, if_false, Op.intDiv, if_neg hy0]; rfl
  · unfold litBits at h
    split at h <;> first | (cases h; done) | (cases h; simp only [binOp, ne_eq, not_true_eq_false, if_false]; rfl)

theorem mkBin_den {op : BinOp} {k : IntKind} {a b c : IE} {P : Program} {ρ : Rho} (h : mkBin op k a b = some c) (t : TypeId) (w : World) :
    (binOp op t (.int k (a.den ρ)) (.int k (b.den ρ))).run P w = .ok (.int k (c.den ρ)) w := by
  unfold mkBin at h
  split at h
  · simp only [Option.map_eq_some_iff] at h
    obtain ⟨r, hr, rfl⟩ := h
    exact litBin_den hr t w
  · cases ha : isArith op with
    | true =>
      rw [ha, cond_true] at h; cases h
      simp only [IE.den]
      cases op <;> first | (cases ha; done) | (simp only [binOp, ne_eq, not_true_eq_false, if_false]; rfl)
    | false =>
      rw [ha, cond_false] at h
      cases hd : and (isDiv op) (nonZero b) with
      | false => rw [hd] at h; cases h
      | true =>
        rw [hd, cond_true] at h; cases h
        obtain ⟨h1, h2⟩ := Bool.and_eq_true_iff.1 hd
        simp only [IE.den]
        have hy0 : ¬ b.den ρ = 0 := by
          unfold nonZero at h2
          split at h2
          · rw [ieq_eq] at h2; simpa [IE.den] using h2
          · cases h2
        cases op <;> first | (cases h1; done) | (simp only [binOp, ne_eq, not_true_eq_false, if_false, Op.intDiv, if_neg hy0]; rfl)

theorem arith_guard {P : Program} {op : BinOp} (t : TypeId) (x y : Operand) (u v : Value) (w : World) (h : isCmp op = false) : (eqGuard op t x y u v).run P w = .ok () w := by
  unfold eqGuard
  cases op <;> first | rfl | cases h

theorem div_den {op : BinOp} {k : IntKind} {a b : IE} {P : Program} {ρ : Rho} (h : isDiv op = true) (hb : ¬ b.den ρ = 0) (t : TypeId) (w : World) :
    (binOp op t (.int k (a.den ρ)) (.int k (b.den ρ))).run P w = .ok (.int k ((IE.bin op k a b).den ρ)) w := by
  simp only [IE.den]
  cases op <;> first | (cases h; done) | (simp only [binOp, ne_eq, not_true_eq_false, if_false, Op.intDiv, if_neg hb]; rfl)

theorem arith_ok {p : Par} {op : BinOp} (hop : isCmp op = false) {t t' : TypeId} {x1 x2 : Operand} {y1 y2 : Opd} (h1 : cOpd x1 = some y1) (h2 : cOpd x2 = some y2) {o : Oper} (ho : o.op = .binOp op t x1 x2 t') : InsOk p (iArith op y1 y2) o := by
  intro cx n keep E w0 tm h a w Q K _ HT HH k P
  have hex : execOp a.eval o = (do let x ← (do eqGuard op t x1 x2 (a.eval x1) (a.eval x2); binOp op t (a.eval x1) (a.eval x2)); pure (Next.value x)) := by unfold execOp; rw [ho]
  rw [hex]
  unfold iArith rArith at k
  split at k
  · rename_i r hr
    have q : Q (r, h) := k
    unfold aarith at hr
    split at hr
    · rename_i j u k' u' he1 he2
      cases hk : kindEq j k' with
      | false => rw [hk] at hr; cases hr
      | true =>
        have := kindEq_eq hk
        subst this
        rw [hk, cond_true] at hr
        cases hm : mkBin op j u u' with
        | none => rw [hm] at hr; cases hr
        | some c =>
          rw [hm] at hr; cases hr
          have e1 := opd_ok HT h1 (v := .int j (u.den E.ρ)) (by rw [he1]; rfl) HH.glob
          have e2 := opd_ok HT h2 (v := .int j (u'.den E.ρ)) (by rw [he2]; rfl) HH.glob
          rw [e1, e2]
          refine does_value (v := .int j (c.den E.ρ)) (w' := w) ?_ (P.same HH q rfl)
          simp only [Sem.run_bind, arith_guard _ _ _ _ _ _ hop, Result.andThen_ok, mkBin_den hm]
    · cases hr
  · unfold rDiv at k
    split at k
    · rename_i j u k' u' he1 he2
      cases hk : (kindEq j k' && isDiv op) with
      | false => rw [hk] at k; exact absurd k id
      | true =>
        rw [hk, cond_true] at k
        obtain ⟨hk1, hk2⟩ := Bool.and_eq_true_iff.1 hk
        have := kindEq_eq hk1
        subst this
        simp only [T.Holds] at k
        split at k
        · rename_i hb
          have hb0 : ¬ u'.den E.ρ = 0 := by
            simp only [BE.den, cmpDen, IE.den] at hb
            simpa using hb
          have e1 := opd_ok HT h1 (v := .int j (u.den E.ρ)) (by rw [he1]; rfl) HH.glob
          have e2 := opd_ok HT h2 (v := .int j (u'.den E.ρ)) (by rw [he2]; rfl) HH.glob
          rw [e1, e2]
          refine does_value (v := .int j ((IE.bin op j u u').den E.ρ)) (w' := w) ?_ (P.same HH k rfl)
          simp only [Sem.run_bind, arith_guard _ _ _ _ _ _ hop, Result.andThen_ok, div_den hk2 hb0]
        · exact absurd k id
    · exact absurd k id

theorem shift_ok {p : Par} {op : BinOp} (hop : op = .shl ∨ op = .shr) {t t' : TypeId} {x1 x2 : Operand} {y1 y2 : Opd} (h1 : cOpd x1 = some y1) (h2 : cOpd x2 = some y2) {o : Oper} (ho : o.op = .binOp op t x1 x2 t') : InsOk p (iShift op y1 y2) o := by
  intro cx n keep E w0 tm h a w Q K _ HT HH k P
  obtain ⟨r, hr, q⟩ := holds_mk2 k
  have hex : execOp a.eval o = (do let x ← (do eqGuard op t x1 x2 (a.eval x1) (a.eval x2); binOp op t (a.eval x1) (a.eval x2)); pure (Next.value x)) := by unfold execOp; rw [ho]
  rw [hex]
  unfold ashift at hr
  split at hr
  · rename_i j x k' y he1 he2
    cases hm : litShift op j x y with
    | none => rw [hm] at hr; cases hr
    | some c =>
      rw [hm] at hr; cases hr
      have e1 := opd_ok HT h1 (v := .int j x) (by rw [he1]; rfl) HH.glob
      have e2 := opd_ok HT h2 (v := .int k' y) (by rw [he2]; rfl) HH.glob
      rw [e1, e2]
      have hg : isCmp op = false := by rcases hop with rfl | rfl <;> rfl
      refine does_value (v := .int j c) (w' := w) ?_ (P.same HH q rfl)
      simp only [Sem.run_bind, arith_guard _ _ _ _ _ _ hg, Result.andThen_ok]
      unfold litShift at hm
      cases hy : ilt y 0 with
      | true => rw [hy] at hm; cases hm
      | false =>
        rw [hy, cond_false] at hm
        rw [ilt_eq] at hy
        have hy0 : ¬ y < 0 := by simpa using hy
        rcases hop with rfl | rfl
        · simp only [Option.some.injEq] at hm
          subst hm
          simp only [binOp, Op.shift, if_neg hy0]; rfl
        · simp only [Option.some.injEq] at hm
          subst hm
          simp only [binOp, Op.shift, if_neg hy0]; rfl
  · cases hr

/-! ## One operand -/
theorem mkNot_den (ρ : Rho) (b : BE) : b.mkNot.den ρ = !(b.den ρ) := by
  unfold BE.mkNot
  split <;> rfl

theorem not_ok {p : Par} {t : TypeId} {x : Operand} {y : Opd} (hx : cOpd x = some y) {o : Oper} (ho : o.op = .unOp .not t x) : InsOk p (iNot y) o := by
  intro cx n keep E w0 tm h a w Q K _ HT HH k P
  obtain ⟨r, hr, q⟩ := holds_mk2 k
  have hex : execOp a.eval o = (do let x ← Op.unary .not (a.eval x); pure (Next.value x)) := by unfold execOp; rw [ho]
  rw [hex]
  unfold anot at hr
  split at hr
  · rename_i b he
    cases hr
    rw [opd_ok HT hx (v := .bool (b.den E.ρ)) (by rw [he]; rfl) HH.glob]
    exact does_value rfl (P.same HH q (by simp [conc, mkNot_den]))
  · cases hr

theorem neg_ok {p : Par} {t : TypeId} {x : Operand} {y : Opd} (hx : cOpd x = some y) {o : Oper} (ho : o.op = .unOp .neg t x) : InsOk p (iNeg y) o := by
  intro cx n keep E w0 tm h a w Q K _ HT HH k P
  obtain ⟨r, hr, q⟩ := holds_mk2 k
  have hex : execOp a.eval o = (do let x ← Op.unary .neg (a.eval x); pure (Next.value x)) := by unfold execOp; rw [ho]
  rw [hex]
  unfold aneg at hr
  split at hr
  · rename_i j u he
    cases hm : mkBin .sub j (.lit 0) u with
    | none => rw [hm] at hr; cases hr
    | some c =>
      rw [hm] at hr; cases hr
      rw [opd_ok HT hx (v := .int j (u.den E.ρ)) (by rw [he]; rfl) HH.glob]
      refine does_value (v := .int j (c.den E.ρ)) (w' := w) ?_ (P.same HH q rfl)
      have := mkBin_den (P := p.P) (ρ := E.ρ) hm 0 w
      simp only [binOp, ne_eq, not_true_eq_false, if_false, IE.den] at this
      exact this
  · cases hr

theorem conv_ok {p : Par} {ty : Nat → Option TI} (T : TyOk p.P ty) {s d : TypeId} {k : IntKind} (hk : convKind ty d = some k) {x : Operand} {y : Opd} (hx : cOpd x = some y) (hs : ∃ u, p.P.underlying s = some u) {o : Oper} (ho : o.op = .convert s d x) : InsOk p (iConv k y) o := by
  intro cx n keep E w0 tm h a w Q K _ HT HH kk P
  obtain ⟨r, hr, q⟩ := holds_mk2 kk
  have hex : execOp a.eval o = (do let x ← convert s d (a.eval x); pure (Next.value x)) := by unfold execOp; rw [ho]
  rw [hex]
  unfold aconv at hr
  split at hr
  · rename_i j u he
    cases hr
    rw [opd_ok HT hx (v := .int j (u.den E.ρ)) (by rw [he]; rfl) HH.glob]
    unfold convKind at hk
    cases hd : ty d with
    | none => rw [hd] at hk; cases hk
    | some i =>
      rw [hd] at hk
      simp only at hk
      split at hk
      · rename_i k' hdesc
        cases hk
        have hu := T.und d i hd
        rw [hdesc] at hu
        obtain ⟨us, hus⟩ := hs
        refine does_value (v := .int k (k.wrap (u.den E.ρ))) (w' := w) ?_ (P.same HH q ?_)
        · unfold convert
          simp only [Sem.run_bind, run_underlying hus, run_underlying hu, Result.andThen_ok]
          rfl
        · simp only [conc, Option.some.injEq, Value.int.injEq, true_and]
          unfold mkConv
          split
          · simp [IE.den, wrapL_eq]
          · rfl
      · cases hk
  · cases hr

end Go.Sx
