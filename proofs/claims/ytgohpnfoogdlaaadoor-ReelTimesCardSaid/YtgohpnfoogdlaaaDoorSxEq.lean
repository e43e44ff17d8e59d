/- EQUALITY, cell by cell. -/
import Derived.Test.YtgohpnfoogdlaaaDoorSxOps
import Derived.IntWalk
import Derived.Laws.Tables
import Derived.Laws.StructEq
/-! THE OPERATIONS, ON: stores; numbers; truth values; parts of values. -/
namespace Go.Sx
open Go.RowKit

/-! ## Stores -/
theorem HeapOk.storeCells {p : Par} {E : Env} {h : Heap} {w0 : Base} {w : World} (H : HeapOk p E h w0 w) {b off : Nat} {cs cs' as : List AV} {vs : List Value} {e : TypeId} {x : Bool}
    (hg : h.get b = some (.cells cs e true x)) (hv : concL E as = some vs) (ok : allOk as = true) (hp : listPut cs off as = some cs') {q : Nat × Nat} (hq : E.σ b = some q) :
    ∃ w', (storeCells ⟨q.1, q.2 + off, none⟩ vs).run p.P w = .ok () w' ∧ HeapOk p E (h.put b (.cells cs' e true x)) w0 w' := by
  obtain ⟨hle, rfl⟩ := listPut_eq hp
  obtain ⟨c, base, us, cells, el, fz, h1, h2, h3, h4, h5⟩ := H.obj b _ hg
  rw [hq] at h1; cases h1
  obtain ⟨rfl, rfl, h6, h7⟩ := h5 rfl
  have hlen := concL_len h2
  have hal := concL_len hv
  have hsize : us.length ≤ cells.size := by
    by_cases hz : us.length = 0
    · omega
    · have := h4 (us.length - 1) (by omega)
      rw [List.getElem?_eq_getElem (by omega)] at this
      have := (Array.getElem?_eq_some_iff.1 this).1
      omega
  simp only [Nat.zero_add]
  refine ⟨_, run_storeCells_at p.P c off el vs 0 cells w h3 (by omega) (allOk_one hv ok), ?_⟩
  have hnew := setRow_heap w c cells (cells.toList.take (off + 0) ++ vs ++ cells.toList.drop (off + 0 + vs.length)).toArray el (0, 0) h3
  refine H.turn hg rfl hq rfl ⟨c, 0, us.take off ++ (vs ++ us.drop (off + vs.length)), _, el, (0, 0), hq, ?_, hnew, ?_, ?_⟩ (fun i hi => setRow_other w c i _ hi) rfl rfl rfl (by simp)
  · rw [hal]; exact concL_app (concL_take h2 off) (concL_app hv (concL_drop h2 _))
  · intro i hi
    have hi' : i < us.length := by simp at hi; omega
    simp only [Nat.zero_add, Nat.add_zero, List.getElem?_toArray]
    have h4' : ∀ j, j < us.length → cells.toList[j]? = us[j]? := fun j hj => by have := h4 j hj; simpa using this
    by_cases c1 : i < off
    · rw [List.append_assoc, List.getElem?_append_left (by simp; omega), List.getElem?_append_left (by simp; omega), List.getElem?_take, List.getElem?_take, if_pos c1, if_pos c1, h4' i hi']
    · have lt1 : (cells.toList.take off).length = off := by simp; omega
      have lt2 : (us.take off).length = off := by simp; omega
      rw [List.append_assoc, List.getElem?_append_right (l₁ := cells.toList.take off) (by omega), lt1, List.getElem?_append_right (l₁ := us.take off) (by omega), lt2]
      by_cases c2 : i - off < vs.length
      · rw [List.getElem?_append_left c2, List.getElem?_append_left c2]
      · rw [List.getElem?_append_right (l₁ := vs) (l₂ := cells.toList.drop _) (by omega), List.getElem?_append_right (l₁ := vs) (l₂ := us.drop _) (by omega), List.getElem?_drop, List.getElem?_drop]
        have : off + vs.length + (i - off - vs.length) = i := by omega
        rw [this, h4' i hi']
  · intro _
    refine ⟨rfl, rfl, fun hx => ?_, fun hx => ?_⟩
    · have := h6 hx
      simp; omega
    · obtain ⟨j, hj, hk⟩ := h7 hx
      refine ⟨j, hj, ?_⟩
      simp; omega

theorem astoreC_some {n : Nat} {h h' : Heap} {b off : Nat} {vs : List AV} (k : astoreC n h b off vs = some h') :
    ∃ cs e x cs', h.get b = some (.cells cs e true x) ∧ vs.length = n ∧ allOk vs = true ∧ listPut cs off vs = some cs' ∧ h' = h.put b (.cells cs' e true x) := by
  unfold astoreC at k
  cases hg : h.get b with
  | none => rw [hg] at k; cases k
  | some o =>
    rw [hg] at k
    cases o with
    | cells cs e own x =>
      simp only at k
      cases hc : and own (and (Nat.beq (lLen vs) n) (allOk vs)) with
      | false => rw [hc] at k; cases k
      | true =>
        rw [hc, cond_true] at k
        have hc1 := Bool.and_eq_true_iff.1 hc
        have hc2 := Bool.and_eq_true_iff.1 hc1.2
        have hown := hc1.1
        subst hown
        rw [lLen_eq] at hc2
        cases hp : listPut cs off vs with
        | none => rw [hp] at k; cases k
        | some cs' => rw [hp] at k; cases k; exact ⟨cs, e, x, cs', rfl, beq_t.1 hc2.1, hc2.2, hp, rfl⟩
    | _ => cases k

theorem store_ok {p : Par} {ty : Nat → Option TI} (T : TyOk p.P ty) {t : Nat} {i : TI} (ht : ty t = some i) {x1 x2 : Operand} {y1 y2 : Opd} (h1 : cOpd x1 = some y1) (h2 : cOpd x2 = some y2) {o : Oper} (ho : o.op = .store t x1 x2) :
    InsOk p (iStore i.size y1 y2) o := by
  intro cx n keep E w0 tm h a w Q K _ HT HH k P
  have hex : execOp a.eval o = (do Instr.storeAt t (a.eval x1) (a.eval x2); pure Next.skip) := by unfold execOp; rw [ho]
  rw [hex]
  simp only [iStore, rStore] at k
  cases hst : astore i.size h (ev tm y1) (ev tm y2) with
  | none => rw [hst] at k; exact k.elim
  | some h' =>
    rw [hst] at k
    cases he : ev tm y1 with
    | ptr b off =>
      rw [he] at hst
      simp only [astore] at hst
      obtain ⟨cs, e, x, cs', hg, hlen, hok, hp, rfl⟩ := astoreC_some hst
      have hv1 := opd_some HT h1 (by rw [he]; rfl) HH.glob
      rw [he] at hv1
      obtain ⟨q, hq, hv1'⟩ := ptr_conc hv1
      have hv2 := opd_some HT h2 (cells_bad hok) HH.glob
      have hcs := conc_cells hv2 hok
      obtain ⟨w', hrun, H'⟩ := HH.storeCells hg hcs hok hp hq
      refine does_unit (w' := w') ?_ ?_
      · rw [hv1']
        unfold Instr.storeAt Instr.sureAddr storeVar
        have hsz : (a.eval x2).cells.size = i.size := by
          have := concL_len hcs
          simp at this
          omega
        simp only [Sem.run_bind, pure, Sem.run, Result.andThen_ok, run_size T ht, hsz, ne_eq, not_true_eq_false, if_false]
        exact hrun
      · exact P _ _ E w' undef k (Env.le.refl E) H' rfl
    | _ => rw [he] at hst; simp [astore] at hst

/-! ## Numbers -/
theorem wrapL_eq (k : IntKind) (n : Int) : wrapL k n = k.wrap n := by
  unfold wrapL
  cases hb : and (isI64 k) (inI64 n) with
  | false => rfl
  | true =>
    obtain ⟨hk, hn⟩ := Bool.and_eq_true_iff.1 hb
    rw [cond_true]
    cases k with
    | i64 =>
      have hb : -9223372036854775808 ≤ n ∧ n ≤ 9223372036854775807 := by
        unfold inI64 at hn
        cases n with
        | ofNat m => have := ble_t.1 hn; constructor <;> simp only [Int.ofNat_eq_natCast] <;> omega
        | negSucc m => have := ble_t.1 hn; constructor <;> omega
      rw [IntKind.wrap_i64]
      omega
    | _ => cases hk

theorem ilt_eq (x y : Int) : ilt x y = decide (x < y) := by
  cases x with
  | ofNat m =>
    cases y with
    | ofNat n =>
      simp only [ilt, Int.ofNat_eq_natCast]
      by_cases h : m < n
      · rw [ble_t.2 (by omega), decide_eq_true (by omega)]
      · rw [show Nat.ble (Nat.succ m) n = false from Bool.eq_false_iff.2 (fun hb => h (by have := ble_t.1 hb; omega)), decide_eq_false (by omega)]
    | negSucc n => simp only [ilt, Int.ofNat_eq_natCast]; rw [decide_eq_false (by omega)]
  | negSucc m =>
    cases y with
    | ofNat n => simp only [ilt, Int.ofNat_eq_natCast]; rw [decide_eq_true (by omega)]
    | negSucc n =>
      simp only [ilt]
      by_cases h : n < m
      · rw [ble_t.2 (by omega), decide_eq_true (by omega)]
      · rw [show Nat.ble (Nat.succ n) m = false from Bool.eq_false_iff.2 (fun hb => h (by have := ble_t.1 hb; omega)), decide_eq_false (by omega)]

theorem ieq_eq (x y : Int) : ieq x y = (x == y) := by
  cases x with
  | ofNat m =>
    cases y with
    | ofNat n =>
      simp only [ieq]
      by_cases h : m = n
      · subst h; simp
      · rw [beq_f.2 h]; symm; rw [beq_eq_false_iff_ne]; intro e; cases e; exact h rfl
    | negSucc n => simp only [ieq]; rfl
  | negSucc m =>
    cases y with
    | ofNat n => simp only [ieq]; rfl
    | negSucc n =>
      simp only [ieq]
      by_cases h : m = n
      · subst h; simp
      · rw [beq_f.2 h]; symm; rw [beq_eq_false_iff_ne]; intro e; cases e; exact h rfl

theorem kindEq_eq {j k : IntKind} (h : kindEq j k = true) : j = k := by
  cases j <;> cases k <;> first | rfl | cases h

theorem litCmp_den {op : BinOp} {x y : Int} {b : Bool} (h : litCmp op x y = some b) : isCmp op = true ∧ cmpDen op x y = b := by
  unfold litCmp at h
  cases op <;> simp only [Option.some.injEq] at h <;> first | (cases h; done) | (refine ⟨rfl, ?_⟩; subst h; simp only [cmpDen, ieq_eq, ilt_eq]; first | rfl | skip)
  all_goals (rw [Bool.eq_iff_iff]; simp; try omega)

theorem mkCmp_den {op : BinOp} {a b : IE} {c : BE} {ρ : Rho} (h : mkCmp op a b = some c) : isCmp op = true ∧ c.den ρ = cmpDen op (a.den ρ) (b.den ρ) := by
  unfold mkCmp at h
  split at h
  · simp only [Option.map_eq_some_iff] at h
    obtain ⟨r, hr, rfl⟩ := h
    obtain ⟨h1, h2⟩ := litCmp_den hr
    exact ⟨h1, by simp [BE.den, IE.den, h2]⟩
  · cases hc : isCmp op with
    | false => rw [hc] at h; cases h
    | true => rw [hc] at h; cases h; exact ⟨rfl, rfl⟩

theorem run_intCmp {P : Program} {op : BinOp} (h : isCmp op = true) (x y : Int) (w : World) : (Op.intCmp op x y).run P w = .ok (.bool (cmpDen op x y)) w := by
  cases op <;> first | rfl | cases h

theorem run_binOp_cmp {P : Program} {op : BinOp} (h : isCmp op = true) (t : TypeId) (k : IntKind) (x y : Int) (w : World) : (binOp op t (.int k x) (.int k y)).run P w = .ok (.bool (cmpDen op x y)) w := by
  cases op <;> first | (cases h; done) | (simp only [binOp, ne_eq, not_true_eq_false, if_false]; exact run_intCmp (by rfl) x y w)

theorem run_eqGuard_int {P : Program} (op : BinOp) (t : TypeId) (x y : Operand) (k k' : IntKind) (a b : Int) (w : World) : (eqGuard op t x y (.int k a) (.int k' b)).run P w = .ok () w := by
  unfold eqGuard
  cases op <;> rfl

theorem int_conc {E : Env} {k : IntKind} {e : IE} : conc E (.int k e) = some (.int k (e.den E.ρ)) := rfl

theorem cmp_ok {p : Par} {op : BinOp} {t t' : TypeId} {x1 x2 : Operand} {y1 y2 : Opd} (h1 : cOpd x1 = some y1) (h2 : cOpd x2 = some y2) {o : Oper} (ho : o.op = .binOp op t x1 x2 t') : InsOk p (iCmp op y1 y2) o := by
  intro cx n keep E w0 tm h a w Q K _ HT HH k P
  obtain ⟨r, hr, q⟩ := holds_mk2 k
  have hex : execOp a.eval o = (do let x ← (do eqGuard op t x1 x2 (a.eval x1) (a.eval x2); binOp op t (a.eval x1) (a.eval x2)); pure (Next.value x)) := by unfold execOp; rw [ho]
  rw [hex]
  unfold acmp at hr
  split at hr
  · rename_i j u k' u' he1 he2
    cases hk : kindEq j k' with
    | false => rw [hk] at hr; cases hr
    | true =>
      have := kindEq_eq hk
      subst this
      rw [hk, cond_true] at hr
      cases hm : mkCmp op u u' with
      | none => rw [hm] at hr; cases hr
      | some c =>
        rw [hm] at hr; cases hr
        obtain ⟨hc, hd⟩ := mkCmp_den (ρ := E.ρ) hm
        have e1 := opd_ok HT h1 (v := .int j (u.den E.ρ)) (by rw [he1]; rfl) HH.glob
        have e2 := opd_ok HT h2 (v := .int j (u'.den E.ρ)) (by rw [he2]; rfl) HH.glob
        rw [e1, e2]
        refine does_value (v := .bool (cmpDen op (u.den E.ρ) (u'.den E.ρ))) (w' := w) ?_ (P.same HH q (by simp [conc, hd]))
        simp only [Sem.run_bind, run_eqGuard_int, Result.andThen_ok, run_binOp_cmp hc]
  · cases hr

theorem litBin_den {op : BinOp} {k : IntKind} {x y n : Int} {P : Program} (h : litBin op k x y = some n) (t : TypeId) (w : World) : (binOp op t (.int k x) (.int k y)).run P w = .ok (.int k n) w := by
  unfold litBin at h
  split at h
  · cases h; rw [wrapL_eq]; simp only [binOp, ne_eq, not_true_eq_false, if_false]; rfl
  · cases h; rw [wrapL_eq]; simp only [binOp, ne_eq, not_true_eq_false, if_false]; rfl
  · cases h; rw [wrapL_eq]; simp only [binOp, ne_eq, not_true_eq_false, if_false]; rfl
  · cases hy : ieq y 0 with
    | true => rw [hy] at h; cases h
    | false =>
      rw [hy] at h; cases h
      rw [ieq_eq] at hy
      have hy0 : ¬ y = 0 := by simpa using hy
      rw [wrapL_eq]; simp only [binOp, ne_eq, not_true_eq_false, if_false, Op.intDiv, if_neg hy0]; rfl
  · cases hy : ieq y 0 with
    | true => rw [hy] at h; cases h
    | false =>
      rw [hy] at h; cases h
      rw [ieq_eq] at hy
      have hy0 : ¬ y = 0 := by simpa using hy
      simp only [binOp, ne_eq, not_true_eq_false, if_false, Op.intDiv, if_neg hy0]; rfl
  · unfold litBits at h
    split at h <;> first | (cases h; done) | (cases h; simp only [binOp, ne_eq, not_true_eq_false, if_false]; rfl)

theorem mkBin_den {op : BinOp} {k : IntKind} {a b c : IE} {P : Program} {ρ : Rho} (h : mkBin op k a b = some c) (t : TypeId) (w : World) :
    (binOp op t (.int k (a.den ρ)) (.int k (b.den ρ))).run P w = .ok (.int k (c.den ρ)) w := by
  unfold mkBin at h
  split at h
  · simp only [Option.map_eq_some_iff] at h
    obtain ⟨r, hr, rfl⟩ := h
    exact litBin_den hr t w
  · cases ha : isArith op with
    | true =>
      rw [ha, cond_true] at h; cases h
      simp only [IE.den]
      cases op <;> first | (cases ha; done) | (simp only [binOp, ne_eq, not_true_eq_false, if_false]; rfl)
    | false =>
      rw [ha, cond_false] at h
      cases hd : and (isDiv op) (nonZero b) with
      | false => rw [hd] at h; cases h
      | true =>
        rw [hd, cond_true] at h; cases h
        obtain ⟨h1, h2⟩ := Bool.and_eq_true_iff.1 hd
        simp only [IE.den]
        have hy0 : ¬ b.den ρ = 0 := by
          unfold nonZero at h2
          split at h2
          · rw [ieq_eq] at h2; simpa [IE.den] using h2
          · cases h2
        cases op <;> first | (cases h1; done) | (simp only [binOp, ne_eq, not_true_eq_false, if_false, Op.intDiv, if_neg hy0]; rfl)

theorem arith_guard {P : Program} {op : BinOp} (t : TypeId) (x y : Operand) (u v : Value) (w : World) (h : isCmp op = false) : (eqGuard op t x y u v).run P w = .ok () w := by
  unfold eqGuard
  cases op <;> first | rfl | cases h

theorem div_den {op : BinOp} {k : IntKind} {a b : IE} {P : Program} {ρ : Rho} (h : isDiv op = true) (hb : ¬ b.den ρ = 0) (t : TypeId) (w : World) :
    (binOp op t (.int k (a.den ρ)) (.int k (b.den ρ))).run P w = .ok (.int k ((IE.bin op k a b).den ρ)) w := by
  simp only [IE.den]
  cases op <;> first | (cases h; done) | (simp only [binOp, ne_eq, not_true_eq_false, if_false, Op.intDiv, if_neg hb]; rfl)

theorem arith_ok {p : Par} {op : BinOp} (hop : isCmp op = false) {t t' : TypeId} {x1 x2 : Operand} {y1 y2 : Opd} (h1 : cOpd x1 = some y1) (h2 : cOpd x2 = some y2) {o : Oper} (ho : o.op = .binOp op t x1 x2 t') : InsOk p (iArith op y1 y2) o := by
  intro cx n keep E w0 tm h a w Q K _ HT HH k P
  have hex : execOp a.eval o = (do let x ← (do eqGuard op t x1 x2 (a.eval x1) (a.eval x2); binOp op t (a.eval x1) (a.eval x2)); pure (Next.value x)) := by unfold execOp; rw [ho]
  rw [hex]
  unfold iArith rArith at k
  split at k
  · rename_i r hr
    have q : Q (r, h) := k
    unfold aarith at hr
    split at hr
    · rename_i j u k' u' he1 he2
      cases hk : kindEq j k' with
      | false => rw [hk] at hr; cases hr
      | true =>
        have := kindEq_eq hk
        subst this
        rw [hk, cond_true] at hr
        cases hm : mkBin op j u u' with
        | none => rw [hm] at hr; cases hr
        | some c =>
          rw [hm] at hr; cases hr
          have e1 := opd_ok HT h1 (v := .int j (u.den E.ρ)) (by rw [he1]; rfl) HH.glob
          have e2 := opd_ok HT h2 (v := .int j (u'.den E.ρ)) (by rw [he2]; rfl) HH.glob
          rw [e1, e2]
          refine does_value (v := .int j (c.den E.ρ)) (w' := w) ?_ (P.same HH q rfl)
          simp only [Sem.run_bind, arith_guard _ _ _ _ _ _ hop, Result.andThen_ok, mkBin_den hm]
    · cases hr
  · unfold rDiv at k
    split at k
    · rename_i j u k' u' he1 he2
      cases hk : (kindEq j k' && isDiv op) with
      | false => rw [hk] at k; exact absurd k id
      | true =>
        rw [hk, cond_true] at k
        obtain ⟨hk1, hk2⟩ := Bool.and_eq_true_iff.1 hk
        have := kindEq_eq hk1
        subst this
        simp only [T.Holds] at k
        split at k
        · rename_i hb
          have hb0 : ¬ u'.den E.ρ = 0 := by
            simp only [BE.den, cmpDen, IE.den] at hb
            simpa using hb
          have e1 := opd_ok HT h1 (v := .int j (u.den E.ρ)) (by rw [he1]; rfl) HH.glob
          have e2 := opd_ok HT h2 (v := .int j (u'.den E.ρ)) (by rw [he2]; rfl) HH.glob
          rw [e1, e2]
          refine does_value (v := .int j ((IE.bin op j u u').den E.ρ)) (w' := w) ?_ (P.same HH k rfl)
          simp only [Sem.run_bind, arith_guard _ _ _ _ _ _ hop, Result.andThen_ok, div_den hk2 hb0]
        · exact absurd k id
    · exact absurd k id

theorem shift_ok {p : Par} {op : BinOp} (hop : op = .shl ∨ op = .shr) {t t' : TypeId} {x1 x2 : Operand} {y1 y2 : Opd} (h1 : cOpd x1 = some y1) (h2 : cOpd x2 = some y2) {o : Oper} (ho : o.op = .binOp op t x1 x2 t') : InsOk p (iShift op y1 y2) o := by
  intro cx n keep E w0 tm h a w Q K _ HT HH k P
  obtain ⟨r, hr, q⟩ := holds_mk2 k
  have hex : execOp a.eval o = (do let x ← (do eqGuard op t x1 x2 (a.eval x1) (a.eval x2); binOp op t (a.eval x1) (a.eval x2)); pure (Next.value x)) := by unfold execOp; rw [ho]
  rw [hex]
  unfold ashift at hr
  split at hr
  · rename_i j x k' y he1 he2
    cases hm : litShift op j x y with
    | none => rw [hm] at hr; cases hr
    | some c =>
      rw [hm] at hr; cases hr
      have e1 := opd_ok HT h1 (v := .int j x) (by rw [he1]; rfl) HH.glob
      have e2 := opd_ok HT h2 (v := .int k' y) (by rw [he2]; rfl) HH.glob
      rw [e1, e2]
      have hg : isCmp op = false := by rcases hop with rfl | rfl <;> rfl
      refine does_value (v := .int j c) (w' := w) ?_ (P.same HH q rfl)
      simp only [Sem.run_bind, arith_guard _ _ _ _ _ _ hg, Result.andThen_ok]
      unfold litShift at hm
      cases hy : ilt y 0 with
      | true => rw [hy] at hm; cases hm
      | false =>
        rw [hy, cond_false] at hm
        rw [ilt_eq] at hy
        have hy0 : ¬ y < 0 := by simpa using hy
        rcases hop with rfl | rfl
        · simp only [Option.some.injEq] at hm
          subst hm
          simp only [binOp, Op.shift, if_neg hy0]; rfl
        · simp only [Option.some.injEq] at hm
          subst hm
          simp only [binOp, Op.shift, if_neg hy0]; rfl
  · cases hr

/-! ## One operand -/
theorem mkNot_den (ρ : Rho) (b : BE) : b.mkNot.den ρ = !(b.den ρ) := by
  unfold BE.mkNot
  split <;> rfl

theorem not_ok {p : Par} {t : TypeId} {x : Operand} {y : Opd} (hx : cOpd x = some y) {o : Oper} (ho : o.op = .unOp .not t x) : InsOk p (iNot y) o := by
  intro cx n keep E w0 tm h a w Q K _ HT HH k P
  obtain ⟨r, hr, q⟩ := holds_mk2 k
  have hex : execOp a.eval o = (do let x ← Op.unary .not (a.eval x); pure (Next.value x)) := by unfold execOp; rw [ho]
  rw [hex]
  unfold anot at hr
  split at hr
  · rename_i b he
    cases hr
    rw [opd_ok HT hx (v := .bool (b.den E.ρ)) (by rw [he]; rfl) HH.glob]
    exact does_value rfl (P.same HH q (by simp [conc, mkNot_den]))
  · cases hr

theorem neg_ok {p : Par} {t : TypeId} {x : Operand} {y : Opd} (hx : cOpd x = some y) {o : Oper} (ho : o.op = .unOp .neg t x) : InsOk p (iNeg y) o := by
  intro cx n keep E w0 tm h a w Q K _ HT HH k P
  obtain ⟨r, hr, q⟩ := holds_mk2 k
  have hex : execOp a.eval o = (do let x ← Op.unary .neg (a.eval x); pure (Next.value x)) := by unfold execOp; rw [ho]
  rw [hex]
  unfold aneg at hr
  split at hr
  · rename_i j u he
    cases hm : mkBin .sub j (.lit 0) u with
    | none => rw [hm] at hr; cases hr
    | some c =>
      rw [hm] at hr; cases hr
      rw [opd_ok HT hx (v := .int j (u.den E.ρ)) (by rw [he]; rfl) HH.glob]
      refine does_value (v := .int j (c.den E.ρ)) (w' := w) ?_ (P.same HH q rfl)
      have := mkBin_den (P := p.P) (ρ := E.ρ) hm 0 w
      simp only [binOp, ne_eq, not_true_eq_false, if_false, IE.den] at this
      exact this
  · cases hr

theorem conv_ok {p : Par} {ty : Nat → Option TI} (T : TyOk p.P ty) {s d : TypeId} {k : IntKind} (hk : convKind ty d = some k) {x : Operand} {y : Opd} (hx : cOpd x = some y) (hs : ∃ u, p.P.underlying s = some u) {o : Oper} (ho : o.op = .convert s d x) : InsOk p (iConv k y) o := by
  intro cx n keep E w0 tm h a w Q K _ HT HH kk P
  obtain ⟨r, hr, q⟩ := holds_mk2 kk
  have hex : execOp a.eval o = (do let x ← convert s d (a.eval x); pure (Next.value x)) := by unfold execOp; rw [ho]
  rw [hex]
  unfold aconv at hr
  split at hr
  · rename_i j u he
    cases hr
    rw [opd_ok HT hx (v := .int j (u.den E.ρ)) (by rw [he]; rfl) HH.glob]
    unfold convKind at hk
    cases hd : ty d with
    | none => rw [hd] at hk; cases hk
    | some i =>
      rw [hd] at hk
      simp only at hk
      split at hk
      · rename_i k' hdesc
        cases hk
        have hu := T.und d i hd
        rw [hdesc] at hu
        obtain ⟨us, hus⟩ := hs
        refine does_value (v := .int k (k.wrap (u.den E.ρ))) (w' := w) ?_ (P.same HH q ?_)
        · unfold convert
          simp only [Sem.run_bind, run_underlying hus, run_underlying hu, Result.andThen_ok]
          rfl
        · simp only [conc, Option.some.injEq, Value.int.injEq, true_and]
          unfold mkConv
          split
          · simp [IE.den, wrapL_eq]
          · rfl
      · cases hk
  · cases hr

end Go.Sx
/-! THE OPERATIONS, ON: addresses, parts, slices, new maps and slices, structs that are built. -/
namespace Go.Sx
open Go.RowKit

theorem add_mk (c o n : Nat) : (⟨c, o, none⟩ : Addr).add n = ⟨c, o + n, none⟩ := by
  unfold Addr.add
  split
  · rename_i h; subst h; rfl
  · rfl

/-! ## Function values; maps -/
theorem cOpds_some {n : Nat} {keep : List Nat} {E : Env} {tm : Tm} {a : Act} (H : TmOk n keep E tm a.tmps) (G : ∀ b, b < 1000 → E.σ b = some (b, 0)) :
    ∀ {xs : List Operand} {ys : List Opd}, cOpds xs = some ys → lAll notBad (evs tm ys) = true → concL E (evs tm ys) = some (xs.map a.eval)
  | [], ys, h, _ => by simp only [cOpds, Option.some.injEq] at h; subst h; rfl
  | x :: xs, ys, h, hb => by
    simp only [cOpds] at h
    cases hx : cOpd x with
    | none => rw [hx] at h; cases h
    | some y =>
      cases hl : cOpds xs with
      | none => rw [hx, hl] at h; cases h
      | some l =>
        rw [hx, hl] at h; cases h
        have he : evs tm (y :: l) = ev tm y :: evs tm l := rfl
        rw [he, lAll_eq, List.all_cons, Bool.and_eq_true, ← lAll_eq] at hb
        rw [he]
        exact concL_cons.2 ⟨_, _, opd_some H hx hb.1 G, cOpds_some H G hl hb.2, rfl⟩

theorem func_ok {p : Par} {fn : Fn} (hf : notYield fn = true) {xs zs : Array Operand} {ys us : List Opd} (h1 : cOpds xs.toList = some ys) (h2 : cOpds zs.toList = some us) {o : Oper} (ho : o.op = .makeFunc fn xs zs) : InsOk p (iFunc fn ys us) o := by
  intro cx n keep E w0 tm h a w Q K _ HT HH k P
  simp only [iFunc, rFunc] at k
  cases hb : and (lAll notBad (evs tm ys)) (lAll notBad (evs tm us)) with
  | false => rw [hb] at k; exact k.elim
  | true =>
    rw [hb] at k
    obtain ⟨b1, b2⟩ := Bool.and_eq_true_iff.1 hb
    have hex : execOp a.eval o = (do let x ← Instr.makeFunc fn (xs.map a.eval) (zs.map a.eval); pure (Next.value x)) := by unfold execOp; rw [ho]
    rw [hex]
    refine does_value (v := .func fn (xs.map a.eval) (zs.map a.eval)) (w' := w) rfl (P.same HH k ?_)
    have e1 := cOpds_some HT HH.glob h1 b1
    have e2 := cOpds_some HT HH.glob h2 b2
    simp only [conc, e1, e2]
    have t : ∀ xs : Array Operand, (xs.toList.map a.eval).toArray = xs.map a.eval := fun xs => by rw [← Array.toList_map]
    cases fn <;> first | (cases hf; done) | simp [t]

theorem mkmap_ok {p : Par} {t : TypeId} {o : Oper} (ho : o.op = .makeMap t none) : InsOk p iMkmap o := by
  intro cx n keep E w0 tm h a w Q K _ HT HH k P
  have hex : execOp a.eval o = (do let x ← Instr.makeMap t none; pure (Next.value x)) := by unfold execOp; rw [ho]; rfl
  rw [hex]
  refine does_value (v := .map (some w.heap.size)) (w' := w.alloc (.map #[] 0)) rfl ?_
  refine P _ _ (E.with h.next (w.heap.size, 0) 0) _ _ k (Env.with_le (HH.fresh _ (Nat.le_refl _)) HH.nx _ _) ?_ (by simp [conc, Env.with_at])
  exact HH.alloc rfl ⟨w.heap.size, [], Env.with_at _ _ _ _, trivial, by simp⟩

/-! ## Addresses of parts -/
theorem cField_some {ty : Nat → Option TI} {t f : Nat} {q : Field × TI} (h : cField ty t f = some q) : ∃ i fs, ty t = some i ∧ i.desc = .struct fs ∧ fs[f]? = some q.1 ∧ ty q.1.type = some q.2 := by
  unfold cField at h
  cases ht : ty t with
  | none => rw [ht] at h; cases h
  | some i =>
    rw [ht] at h
    simp only at h
    split at h
    · rename_i fs hd
      split at h
      · rename_i f' hf
        split at h
        · rename_i j hj
          cases h
          exact ⟨i, fs, rfl, hd, by simpa using hf, hj⟩
        · cases h
      · cases h
    · cases h

theorem faddr_ok {p : Par} {ty : Nat → Option TI} (T : TyOk p.P ty) {t f : Nat} {q : Field × TI} (hq : cField ty t f = some q) (h1 : 1 ≤ q.2.size) {x : Operand} {y : Opd} (hx : cOpd x = some y) {o : Oper} (ho : o.op = .fieldAddr t x f) :
    InsOk p (iFaddr q.1.offset y) o := by
  intro cx n keep E w0 tm h a w Q K _ HT HH k P
  obtain ⟨r, hr, qq⟩ := holds_mk2 k
  have hex : execOp a.eval o = (do let x ← Instr.fieldAt t (a.eval x) f; pure (Next.value x)) := by unfold execOp; rw [ho]
  rw [hex]
  unfold faddrA at hr
  split at hr
  · rename_i b off he
    cases hr
    obtain ⟨i, fs, ht, hd, hf, hj⟩ := cField_some hq
    have hv := opd_some HT hx (by rw [he]; rfl) HH.glob
    rw [he] at hv
    obtain ⟨q', hq', hv'⟩ := ptr_conc hv
    have hu := T.und t i ht
    rw [hd] at hu
    rw [hv']
    refine does_value (v := .pointer (some ⟨q'.1, q'.2 + off + q.1.offset, none⟩)) (w' := w) ?_ (P.same HH qq ?_)
    · unfold Instr.fieldAt
      simp only [Sem.run_bind, run_underlying hu, Result.andThen_ok, hf]
      unfold Instr.sureAddr fieldPlace
      simp only [Sem.run_bind, pure, Sem.run, Result.andThen_ok, run_size T hj]
      rw [if_neg (by omega)]
      simp only [Sem.run, Result.andThen_ok, add_mk]
    · simp [conc, hq', Nat.add_assoc]
  · rename_i b i' sz off e he
    cases hr
    obtain ⟨i, fs, ht, hd, hf, hj⟩ := cField_some hq
    have hv := opd_some HT hx (by rw [he]; rfl) HH.glob
    rw [he] at hv
    obtain ⟨q', hq', hp, hl, hv'⟩ := ptrV_conc hv
    have hu := T.und t i ht
    rw [hd] at hu
    rw [hv']
    refine does_value (v := .pointer (some ⟨q'.1, q'.2 + (e.den E.ρ).toNat * sz + off + q.1.offset, none⟩)) (w' := w) ?_ (P.same HH qq ?_)
    · unfold Instr.fieldAt
      simp only [Sem.run_bind, run_underlying hu, Result.andThen_ok, hf]
      unfold Instr.sureAddr fieldPlace
      simp only [Sem.run_bind, pure, Sem.run, Result.andThen_ok, run_size T hj]
      rw [if_neg (by omega)]
      simp only [Sem.run, Result.andThen_ok, add_mk]
    · simp [conc, hq', hp, hl, Nat.add_assoc]
  · cases hr

theorem partA_ok {P : Program} {ty : Nat → Option TI} (T : TyOk P ty) {t : Nat} {i : TI} (ht : ty t = some i) {E : Env} {cs : List AV} {vs : List Value} (hv : concL E cs = some vs) {off : Nat} {r : AV}
    (h : partA i.isAgg cs off i.size = some r) (w : World) : ∃ v, conc E r = some v ∧ (part t vs.toArray off).run P w = .ok v w := by
  unfold partA at h
  cases hagg : i.isAgg with
  | true =>
    rw [hagg, cond_true] at h
    simp only [Option.map_eq_some_iff] at h
    obtain ⟨l, hl, rfl⟩ := h
    obtain ⟨hle, rfl⟩ := listSub_eq hl
    refine ⟨.agg ((vs.drop off).take i.size).toArray, by simp [conc, concL_take (concL_drop hv off) i.size], ?_⟩
    unfold part
    simp only [Sem.run_bind, run_isAgg T ht, hagg, Result.andThen_ok, if_true, run_size T ht]
    simp [pure, List.extract_eq_take_drop]
  | false =>
    rw [hagg, cond_false, listGet_eq] at h
    obtain ⟨v, hc, hi⟩ := concL_get hv h
    refine ⟨v, hc, ?_⟩
    unfold part
    simp only [Sem.run_bind, run_isAgg T ht, hagg, Result.andThen_ok, Bool.false_eq_true, if_false]
    simp [hi, pure]

theorem agg_conc {E : Env} {cs : List AV} {v : Value} (h : conc E (.agg cs) = some v) : ∃ vs, concL E cs = some vs ∧ v = .agg vs.toArray := by
  simp only [conc, Option.map_eq_some_iff] at h
  obtain ⟨l, hl, rfl⟩ := h
  exact ⟨l, hl, rfl⟩

theorem field_ok {p : Par} {ty : Nat → Option TI} (T : TyOk p.P ty) {t f : Nat} {q : Field × TI} (hq : cField ty t f = some q) {x : Operand} {y : Opd} (hx : cOpd x = some y) {o : Oper} (ho : o.op = .field t x f) :
    InsOk p (iField q.2.isAgg q.1.offset q.2.size y) o := by
  intro cx n keep E w0 tm h a w Q K _ HT HH k P
  obtain ⟨r, hr, qq⟩ := holds_mk2 k
  have hex : execOp a.eval o = (do let x ← Instr.field t (a.eval x) f; pure (Next.value x)) := by unfold execOp; rw [ho]
  rw [hex]
  unfold fieldA at hr
  split at hr
  · rename_i cs he
    obtain ⟨i, fs, ht, hd, hf, hj⟩ := cField_some hq
    have hv := opd_some HT hx (by rw [he]; rfl) HH.glob
    rw [he] at hv
    obtain ⟨vs, hvs, hv'⟩ := agg_conc hv
    obtain ⟨u, hu, hrun⟩ := partA_ok T hj hvs hr w
    have hund := T.und t i ht
    rw [hd] at hund
    rw [hv']
    refine does_value (v := u) (w' := w) ?_ (P.same HH qq hu)
    unfold Instr.field
    simp only [Sem.run_bind, run_underlying hund, Result.andThen_ok, hf]
    unfold asAgg
    simp only [pure, Sem.run, Result.andThen_ok, hrun]
  · cases hr

theorem asNat_some {v : AV} {n : Nat} (h : asNat v = some n) : ∃ k, v = .int k (.lit (Int.ofNat n)) := by
  unfold asNat at h
  split at h
  · cases h; exact ⟨_, rfl⟩
  · cases h

theorem rIaddrC_holds {h : Heap} {size : Nat} {x : AV} {k : IntKind} {e : IE} {ρ : Rho} {Q : AV × Heap → Prop} : ∀ n : Nat, e.den ρ < n → (rIaddrC h size x k e n).Holds ρ Q →
    ∃ m : Nat, e.den ρ = Int.ofNat m ∧ (mk2 h 18 (aiaddr size x (.int k (.lit (Int.ofNat m))))).Holds ρ Q
  | 0, _, h => absurd h id
  | n + 1, hn, hh => by
    have hh : (T.br (.cmp .leq (.lit (Int.ofNat n)) e) (mk2 h 18 (aiaddr size x (.int k (.lit (Int.ofNat n))))) (rIaddrC h size x k e n)).Holds ρ Q := hh
    simp only [Sx.T.Holds] at hh
    split at hh
    · rename_i hc
      have hc : decide (Int.ofNat n ≤ e.den ρ) = true := hc
      have hc := of_decide_eq_true hc
      refine ⟨n, ?_, hh⟩
      simp only [Int.ofNat_eq_natCast] at hc ⊢
      omega
    · rename_i hc
      have hc : ¬ decide (Int.ofNat n ≤ e.den ρ) = true := hc
      have hc : ¬ Int.ofNat n ≤ e.den ρ := fun h => hc (decide_eq_true h)
      simp only [Int.ofNat_eq_natCast] at hc
      exact rIaddrC_holds n (by omega) hh
theorem rIaddrS_holds {h : Heap} {size : Nat} {x : AV} {k : IntKind} {e : IE} {ρ : Rho} {Q : AV × Heap → Prop} {n : Nat} (hh : (T.br (.and (.cmp .leq (.lit 0) e) (.cmp .lss e (.lit (Int.ofNat n)))) (rIaddrC h size x k e n) (.fail 18)).Holds ρ Q) :
    ∃ m : Nat, e.den ρ = Int.ofNat m ∧ (mk2 h 18 (aiaddr size x (.int k (.lit (Int.ofNat m))))).Holds ρ Q := by
  simp only [Sx.T.Holds] at hh
  split at hh
  · rename_i hc
    refine rIaddrC_holds n ?_ hh
    simp only [BE.den, cmpDen, IE.den, Bool.and_eq_true] at hc
    have := of_decide_eq_true hc.2
    simpa using this
  · exact hh.elim

theorem iaddr_ok {p : Par} {ty : Nat → Option TI} (T : TyOk p.P ty) {t e : Nat} {i j : TI} (ht : ty t = some i) (hd : i.desc = .slice e) (he : ty e = some j) {x1 x2 : Operand} {y1 y2 : Opd} (h1 : cOpd x1 = some y1) (h2 : cOpd x2 = some y2)
    {o : Oper} (ho : o.op = .indexAddr t x1 x2) : InsOk p (iIaddr j.size y1 y2) o := by
  intro cx n keep E w0 tm h a w Q K _ HT HH k P
  have hex : execOp a.eval o = (do let x ← Instr.indexAt t (a.eval x1) (a.eval x2); pure (Next.value x)) := by unfold execOp; rw [ho]
  rw [hex]
  by_cases hV : ∃ b i, ev tm y1 = .sliceV b i
  · obtain ⟨b, iv, hb⟩ := hV
    unfold iIaddr rIaddr at k
    rw [hb] at k
    simp only [rIaddrV] at k
    split at k
    · rename_i kk e hm
      simp only [Sx.T.Holds] at k
      split at k
      · rename_i hc
        have hv2 : a.eval x2 = .int kk (e.den E.ρ) := opd_ok HT h2 (by rw [hm]; rfl) HH.glob
        have hu := T.und t i ht
        rw [hd] at hu
        have hv := opd_some HT h1 (by rw [hb]; rfl) HH.glob
        rw [hb] at hv
        obtain ⟨q, hq, hn, hv'⟩ := sliceV_conc hv
        have hc' : 0 ≤ e.den E.ρ ∧ e.den E.ρ < E.ρ.iv iv := by
          simp only [BE.den, cmpDen, IE.den, Bool.and_eq_true] at hc
          exact ⟨of_decide_eq_true hc.1, of_decide_eq_true hc.2⟩
        rw [hv', hv2]
        refine does_value (v := .pointer (some ⟨q.1, q.2 + (e.den E.ρ).toNat * j.size + 0, none⟩)) (w' := w) ?_ (P.same HH k (by simp [conc, hq, hc'.1, hc'.2]))
        unfold Instr.indexAt asIntOf
        simp only [Sem.run_bind, pure, Sem.run, Result.andThen_ok, run_underlying hu]
        rw [if_pos (by constructor <;> omega)]
        simp only [Sem.run_bind, Sem.run, Result.andThen_ok, run_size T he, add_mk]
        rfl
      · exact absurd k id
    · exact absurd k id
  have kz : ∃ z, (∀ v, conc E z = some v → a.eval x2 = v) ∧ (mk2 h 18 (aiaddr j.size (ev tm y1) z)).Holds E.ρ Q := by
    have k : (rIaddrS h j.size (ev tm y1) (ev tm y2)).Holds E.ρ Q := by
      unfold iIaddr rIaddr at k
      split at k
      · rename_i b i' hb; exact absurd ⟨b, i', hb⟩ hV
      · exact k
    unfold rIaddrS at k
    split at k
    · rename_i v hv
      exact ⟨ev tm y2, fun v hv => opd_ok HT h2 hv HH.glob, by rw [hv]; exact k⟩
    · split at k
      · rename_i kk e hm
        obtain ⟨m, he, k⟩ := rIaddrS_holds k
        refine ⟨.int kk (.lit (Int.ofNat m)), fun v hv => ?_, k⟩
        simp only [conc, Option.some.injEq] at hv
        rw [← hv]
        exact opd_ok HT h2 (by rw [hm]; simp only [conc, he]; rfl) HH.glob
      · exact absurd k id
  obtain ⟨z, hz, k⟩ := kz
  obtain ⟨r, hr, qq⟩ := holds_mk2 k
  unfold aiaddr at hr
  split at hr
  · rename_i m hm
    obtain ⟨kk, hm'⟩ := asNat_some hm
    have hv2 : a.eval x2 = .int kk (Int.ofNat m) := hz _ (by rw [hm']; rfl)
    have hu := T.und t i ht
    rw [hd] at hu
    split at hr
    · rename_i b off len cap hb
      cases hc : Nat.ble (Nat.succ m) len with
      | false => rw [hc] at hr; cases hr
      | true =>
        rw [hc] at hr; cases hr
        have hlt : m < len := ble_t.1 hc
        have hv := opd_some HT h1 (by rw [hb]; rfl) HH.glob
        rw [hb] at hv
        simp only [conc, Option.map_eq_some_iff] at hv
        obtain ⟨q, hq, hv⟩ := hv
        rw [← hv, hv2]
        refine does_value (v := .pointer (some ⟨q.1, q.2 + off + m * j.size, none⟩)) (w' := w) ?_ (P.same HH qq (by simp [conc, hq, Nat.add_assoc]))
        unfold Instr.indexAt asIntOf
        simp only [Sem.run_bind, pure, Sem.run, Result.andThen_ok, run_underlying hu]
        rw [if_pos (by constructor <;> simp only [Int.ofNat_eq_natCast] <;> omega)]
        simp only [Sem.run_bind, Sem.run, Result.andThen_ok, run_size T he, add_mk]
        rfl
    · rename_i b s lo len hb
      cases hc : and (Nat.ble (Nat.succ m) len) (Nat.beq s j.size) with
      | false => rw [hc] at hr; cases hr
      | true =>
        rw [hc] at hr; cases hr
        obtain ⟨c1, c2⟩ := Bool.and_eq_true_iff.1 hc
        have hlt : m < len := ble_t.1 c1
        have hs : s = j.size := beq_t.1 c2
        subst hs
        have hv := opd_some HT h1 (by rw [hb]; rfl) HH.glob
        rw [hb] at hv
        obtain ⟨q, hq, hle, hv'⟩ := sliceX_conc hv
        rw [if_neg (by omega)] at hv'
        rw [hv', hv2]
        refine does_value (v := .pointer (some ⟨q.1, q.2 + lo * j.size + m * j.size, none⟩)) (w' := w) ?_ (P.same HH qq (by simp [conc, hq, Nat.add_assoc]))
        unfold Instr.indexAt asIntOf
        simp only [Sem.run_bind, pure, Sem.run, Result.andThen_ok, run_underlying hu]
        rw [if_pos (by constructor <;> simp only [Int.ofNat_eq_natCast] <;> omega)]
        simp only [Sem.run_bind, Sem.run, Result.andThen_ok, run_size T he, add_mk]
        rfl
    · cases hr
  · cases hr

theorem rCaseC_holds {h : Heap} {why : Nat} {g : AV → Option AV} {k : IntKind} {e : IE} {ρ : Rho} {Q : AV × Heap → Prop} : ∀ n : Nat, e.den ρ < n → (rCaseC h why g k e n).Holds ρ Q →
    ∃ m : Nat, e.den ρ = Int.ofNat m ∧ (mk2 h why (g (.int k (.lit (Int.ofNat m))))).Holds ρ Q
  | 0, _, h => absurd h id
  | n + 1, hn, hh => by
    have hh : (T.br (.cmp .leq (.lit (Int.ofNat n)) e) (mk2 h why (g (.int k (.lit (Int.ofNat n))))) (rCaseC h why g k e n)).Holds ρ Q := hh
    simp only [Sx.T.Holds] at hh
    split at hh
    · rename_i hc
      have hc : decide (Int.ofNat n ≤ e.den ρ) = true := hc
      have hc := of_decide_eq_true hc
      refine ⟨n, ?_, hh⟩
      simp only [Int.ofNat_eq_natCast] at hc ⊢
      omega
    · rename_i hc
      have hc : ¬ decide (Int.ofNat n ≤ e.den ρ) = true := hc
      have hc : ¬ Int.ofNat n ≤ e.den ρ := fun h => hc (decide_eq_true h)
      simp only [Int.ofNat_eq_natCast] at hc
      exact rCaseC_holds n (by omega) hh
/-- by cases: one of them -/
theorem rCase_holds {h : Heap} {why n : Nat} {g : AV → Option AV} {ix : AV} {ρ : Rho} {Q : AV × Heap → Prop} (k : (rCase h why n g ix).Holds ρ Q) : ∃ z, (∀ E : Env, E.ρ = ρ → conc E z = conc E ix) ∧ (mk2 h why (g z)).Holds ρ Q := by
  unfold rCase at k
  split at k
  · rename_i v hv
    exact ⟨ix, fun _ _ => rfl, by rw [hv]; exact k⟩
  · split at k
    · rename_i kk e hm
      simp only [Sx.T.Holds] at k
      split at k
      · rename_i hc
        obtain ⟨m, he, k⟩ := rCaseC_holds n (by
          simp only [BE.den, cmpDen, IE.den, Bool.and_eq_true] at hc
          have := of_decide_eq_true hc.2
          simpa using this) k
        refine ⟨.int kk (.lit (Int.ofNat m)), fun E hE => ?_, k⟩
        simp only [conc, IE.den, hE, he]
      · exact absurd k id
    · exact absurd k id
theorem iaddrA_ok {p : Par} {ty : Nat → Option TI} (T : TyOk p.P ty) {t e len : Nat} {i j : TI} (ht : ty t = some i) (hd : i.desc = .array len e) (he : ty e = some j) {x1 x2 : Operand} {y1 y2 : Opd} (h1 : cOpd x1 = some y1) (h2 : cOpd x2 = some y2)
    {o : Oper} (ho : o.op = .indexAddr t x1 x2) : InsOk p (iIaddrA j.size len y1 y2) o := by
  intro cx n keep E w0 tm h a w Q K _ HT HH k P
  obtain ⟨z, hz, k⟩ := rCase_holds k
  obtain ⟨r, hr, qq⟩ := holds_mk2 k
  have hex : execOp a.eval o = (do let x ← Instr.indexAt t (a.eval x1) (a.eval x2); pure (Next.value x)) := by unfold execOp; rw [ho]
  rw [hex]
  unfold aiaddrA at hr
  split at hr
  · rename_i m hm
    obtain ⟨kk, hm'⟩ := asNat_some hm
    have hv2 : a.eval x2 = .int kk (Int.ofNat m) := opd_ok HT h2 (by rw [← hz E rfl, hm']; rfl) HH.glob
    have hu := T.und t i ht
    rw [hd] at hu
    split at hr
    · rename_i b off hb
      cases hc : Nat.ble (Nat.succ m) len with
      | false => rw [hc] at hr; cases hr
      | true =>
        rw [hc] at hr; cases hr
        have hlt : m < len := ble_t.1 hc
        have hv := opd_some HT h1 (by rw [hb]; rfl) HH.glob
        rw [hb] at hv
        obtain ⟨q, hq, hv'⟩ := ptr_conc hv
        rw [hv', hv2]
        refine does_value (v := .pointer (some ⟨q.1, q.2 + off + m * j.size, none⟩)) (w' := w) ?_ (P.same HH qq (by simp [conc, hq, Nat.add_assoc]))
        unfold Instr.indexAt asIntOf Instr.sureAddr
        simp only [Sem.run_bind, pure, Sem.run, Result.andThen_ok, run_underlying hu]
        rw [if_pos (by constructor <;> simp only [Int.ofNat_eq_natCast] <;> omega)]
        simp only [Sem.run_bind, Sem.run, Result.andThen_ok, run_size T he, add_mk]
        rfl
    · cases hr
  · cases hr

theorem index_ok {p : Par} {ty : Nat → Option TI} (T : TyOk p.P ty) {t e len : Nat} {i j : TI} (ht : ty t = some i) (hd : i.desc = .array len e) (he : ty e = some j) {x1 x2 : Operand} {y1 y2 : Opd} (h1 : cOpd x1 = some y1) (h2 : cOpd x2 = some y2)
    {o : Oper} (ho : o.op = .index t x1 x2) : InsOk p (iIndex j.isAgg j.size len y1 y2) o := by
  intro cx n keep E w0 tm h a w Q K _ HT HH k P
  obtain ⟨z, hz, k⟩ := rCase_holds k
  obtain ⟨r, hr, qq⟩ := holds_mk2 k
  have hex : execOp a.eval o = (do let x ← Instr.index t (a.eval x1) (a.eval x2); pure (Next.value x)) := by unfold execOp; rw [ho]
  rw [hex]
  unfold aindex at hr
  split at hr
  · rename_i m hm
    obtain ⟨kk, hm'⟩ := asNat_some hm
    have hv2 : a.eval x2 = .int kk (Int.ofNat m) := opd_ok HT h2 (by rw [← hz E rfl, hm']; rfl) HH.glob
    have hu := T.und t i ht
    rw [hd] at hu
    split at hr
    · rename_i cs hb
      cases hc : Nat.ble (Nat.succ m) len with
      | false => rw [hc] at hr; cases hr
      | true =>
        rw [hc, cond_true] at hr
        have hlt : m < len := ble_t.1 hc
        have hv := opd_some HT h1 (by rw [hb]; rfl) HH.glob
        rw [hb] at hv
        obtain ⟨vs, hvs, hv'⟩ := agg_conc hv
        obtain ⟨u, hu', hrun⟩ := partA_ok T he hvs hr w
        rw [hv', hv2]
        refine does_value (v := u) (w' := w) ?_ (P.same HH qq hu')
        unfold Instr.index asIntOf
        simp only [Sem.run_bind, pure, Sem.run, Result.andThen_ok, run_underlying hu]
        rw [if_pos (by constructor <;> simp only [Int.ofNat_eq_natCast] <;> omega)]
        simp only [Sem.run_bind, Result.andThen_ok, run_size T he]
        exact hrun
    · cases hr
  · cases hr

theorem tup_conc {E : Env} {cs : List AV} {v : Value} (h : conc E (.tup cs) = some v) : ∃ vs, concL E cs = some vs ∧ v = .tuple vs.toArray := by
  simp only [conc, Option.map_eq_some_iff] at h
  obtain ⟨l, hl, rfl⟩ := h
  exact ⟨l, hl, rfl⟩

theorem extract_ok {p : Par} {x : Operand} {y : Opd} {ix : Nat} (hx : cOpd x = some y) {o : Oper} (ho : o.op = .extract x ix) : InsOk p (iExtract ix y) o := by
  intro cx n keep E w0 tm h a w Q K _ HT HH k P
  obtain ⟨r, hr, qq⟩ := holds_mk2 k
  have hex : execOp a.eval o = (do let x ← Instr.extract (a.eval x) ix; pure (Next.value x)) := by unfold execOp; rw [ho]
  rw [hex]
  unfold extractA at hr
  split at hr
  · rename_i vs he
    rw [listGet_eq] at hr
    have hv := opd_some HT hx (by rw [he]; rfl) HH.glob
    rw [he] at hv
    obtain ⟨us, hus, hv'⟩ := tup_conc hv
    obtain ⟨u, hu, hi⟩ := concL_get hus hr
    rw [hv']
    refine does_value (v := u) (w' := w) ?_ (P.same HH qq hu)
    unfold Instr.extract
    simp [hi, pure]
  · cases hr

/-! ## Slices of slices -/
theorem natOr_some {d n : Nat} {x : Option AV} (h : natOr d x = some n) : (x = none ∧ n = d) ∨ ∃ v, x = some v ∧ asNat v = some n := by
  unfold natOr at h
  split at h
  · cases h; exact .inl ⟨rfl, rfl⟩
  · exact .inr ⟨_, rfl, h⟩

theorem cOpt_ev {n : Nat} {keep : List Nat} {E : Env} {tm : Tm} {a : Act} (H : TmOk n keep E tm a.tmps) (G : ∀ b, b < 1000 → E.σ b = some (b, 0)) {x : Option Operand} {y : Option Opd} (h : cOpt x = some y) {d m : Nat} (hm : natOr d (evo tm y) = some m) :
    (x = none ∧ m = d) ∨ ∃ z k, x = some z ∧ a.eval z = .int k (Int.ofNat m) := by
  unfold cOpt at h
  cases x with
  | none =>
    cases h
    rcases natOr_some hm with ⟨_, rfl⟩ | ⟨v, hv, _⟩
    · exact .inl ⟨rfl, rfl⟩
    · cases hv
  | some z =>
    simp only [Option.map_eq_some_iff] at h
    obtain ⟨u, hu, rfl⟩ := h
    rcases natOr_some hm with ⟨hv, _⟩ | ⟨v, hv, hn⟩
    · cases hv
    · obtain ⟨kk, hk⟩ := asNat_some hn
      have : ev tm u = v := by simp only [evo, Option.some.injEq] at hv; exact hv
      exact .inr ⟨z, kk, rfl, opd_ok H hu (by rw [this, hk]; rfl) G⟩

theorem run_bound {P : Program} {v : Value} {k : IntKind} {m y : Nat} (hv : v = .int k (Int.ofNat m)) (h : m ≤ y) (c : BoundsCode) (w : World) : (Instr.sliceBound v y c).run P w = .ok m w := by
  subst hv
  unfold Instr.sliceBound asIntOf
  simp only [Sem.run_bind, pure, Sem.run, Result.andThen_ok]
  rw [if_pos (by constructor <;> simp only [Int.ofNat_eq_natCast] <;> omega)]
  rfl

theorem run_bounds {P : Program} {n : Nat} {keep : List Nat} {E : Env} {tm : Tm} {a : Act} (H : TmOk n keep E tm a.tmps) (G : ∀ b, b < 1000 → E.σ b = some (b, 0)) {lo hi mx : Option Operand} {ylo yhi ymx : Option Opd}
    (h1 : cOpt lo = some ylo) (h2 : cOpt hi = some yhi) (h3 : cOpt mx = some ymx) {len cap l h m : Nat} (e1 : natOr 0 (evo tm ylo) = some l) (e2 : natOr len (evo tm yhi) = some h) (e3 : natOr cap (evo tm ymx) = some m)
    (hm : m ≤ cap) (hh : h ≤ m) (hl : l ≤ h) (hmx : mx.isSome = true → hi.isSome = true) (isS : Bool) (w : World) :
    (Instr.sliceBounds isS len cap (lo.map a.eval) (hi.map a.eval) (mx.map a.eval)).run P w = .ok (l, h, m) w := by
  have M := cOpt_ev H G h3 e3
  have HI := cOpt_ev H G h2 e2
  have LO := cOpt_ev H G h1 e1
  unfold Instr.sliceBounds
  rcases M with ⟨rfl, rfl⟩ | ⟨zm, km, rfl, hm'⟩
  · rcases HI with ⟨rfl, rfl⟩ | ⟨zh, kh, rfl, hh'⟩
    · rcases LO with ⟨rfl, rfl⟩ | ⟨zl, kl, rfl, hl'⟩
      · rfl
      · simp only [Option.map_none, Option.map_some, Sem.run_bind, pure, Sem.run, Result.andThen_ok, run_bound hl' hl]
    · rcases LO with ⟨rfl, rfl⟩ | ⟨zl, kl, rfl, hl'⟩
      · simp only [Option.map_none, Option.map_some, Sem.run_bind, pure, Sem.run, Result.andThen_ok, run_bound hh' hh]
      · simp only [Option.map_none, Option.map_some, Sem.run_bind, pure, Sem.run, Result.andThen_ok, run_bound hh' hh, run_bound hl' hl]
  · rcases HI with ⟨rfl, rfl⟩ | ⟨zh, kh, rfl, hh'⟩
    · cases hmx rfl
    · rcases LO with ⟨rfl, rfl⟩ | ⟨zl, kl, rfl, hl'⟩
      · simp only [Option.map_none, Option.map_some, Sem.run_bind, pure, Sem.run, Result.andThen_ok, run_bound hm' hm, run_bound hh' hh]
      · simp only [Option.map_some, Sem.run_bind, pure, Sem.run, Result.andThen_ok, run_bound hm' hm, run_bound hh' hh, run_bound hl' hl]

end Go.Sx
/-! THE OPERATIONS, ON: slices of slices; lengths; the greatest and the least; new slices; what is built of parts. -/
namespace Go.Sx
open Go.RowKit

theorem optMap_isSome {α β : Type} (f : α → β) (x : Option α) : (x.map f).isSome = x.isSome := by cases x <;> rfl

theorem sliceIn_some {b off size len cap : Nat} {lo hi mx : Option AV} {r : AV} (h : sliceIn b off size len cap lo hi mx = some r) :
    ∃ l h' m, natOr 0 lo = some l ∧ natOr len hi = some h' ∧ natOr cap mx = some m ∧ m ≤ cap ∧ h' ≤ m ∧ l ≤ h' ∧ r = .slice b (if m = l then off else off + l * size) (h' - l) (m - l) := by
  unfold sliceIn at h
  split at h
  · rename_i m h' l e3 e2 e1
    cases hc : and (Nat.ble m cap) (and (Nat.ble h' m) (Nat.ble l h')) with
    | false => rw [hc] at h; cases h
    | true =>
      rw [hc] at h
      obtain ⟨c1, c2⟩ := Bool.and_eq_true_iff.1 hc
      obtain ⟨c2, c3⟩ := Bool.and_eq_true_iff.1 c2
      refine ⟨l, h', m, e1, e2, e3, ble_t.1 c1, ble_t.1 c2, ble_t.1 c3, ?_⟩
      simp only [cond_true, Option.some.injEq] at h
      subst h
      by_cases hml : m = l
      · subst hml; simp
      · rw [beq_f.2 hml, if_neg hml]; rfl
  · cases h

theorem cOpt_isSome {x : Option Operand} {y : Option Opd} (h : cOpt x = some y) : y.isSome = x.isSome := by
  unfold cOpt at h
  cases x with
  | none => cases h; rfl
  | some z =>
    simp only [Option.map_eq_some_iff] at h
    obtain ⟨u, _, rfl⟩ := h; rfl

theorem slice_ok {p : Par} {ty : Nat → Option TI} (T : TyOk p.P ty) {t e : Nat} {i j : TI} (ht : ty t = some i) (hd : i.desc = .slice e) (he : ty e = some j) {x : Operand} {y : Opd} (hx : cOpd x = some y)
    {lo hi mx : Option Operand} {ylo yhi ymx : Option Opd} (h1 : cOpt lo = some ylo) (h2 : cOpt hi = some yhi) (h3 : cOpt mx = some ymx) (hmx : mx.isSome = true → hi.isSome = true)
    {o : Oper} (ho : o.op = .slice t x lo hi mx) : InsOk p (iSlice j.size y ylo yhi ymx) o := by
  intro cx n keep E w0 tm h a w Q K _ HT HH k P
  obtain ⟨r, hr, qq⟩ := holds_mk2 k
  have hex : execOp a.eval o = (do let x ← Instr.sliceAt t (a.eval x) (lo.map a.eval) (hi.map a.eval) (mx.map a.eval); pure (Next.value x)) := by unfold execOp; rw [ho]
  rw [hex]
  have hu := T.und t i ht
  rw [hd] at hu
  have hrun : ∀ {b : Option Addr} {len cap l h' m : Nat}, a.eval x = .slice b len cap → (∀ w, (Instr.sliceBounds true len cap (lo.map a.eval) (hi.map a.eval) (mx.map a.eval)).run p.P w = .ok (l, h', m) w) →
      (Instr.sliceAt t (a.eval x) (lo.map a.eval) (hi.map a.eval) (mx.map a.eval)).run p.P w = .ok (.slice (if m = l then b else b.map (·.add (l * j.size))) (h' - l) (m - l)) w := by
    intro b len cap l h' m hxv hb
    rw [hxv]
    unfold Instr.sliceAt
    simp only [Sem.run_bind, run_underlying hu, Result.andThen_ok]
    unfold Instr.slice
    simp only [Sem.run_bind, run_underlying hu, Result.andThen_ok, hb, run_size T he]
    rfl
  unfold aslice at hr
  split at hr
  · rename_i b off len cap hb
    obtain ⟨l, h', m, e1, e2, e3, c1, c2, c3, rfl⟩ := sliceIn_some hr
    have hv := opd_some HT hx (by rw [hb]; rfl) HH.glob
    rw [hb] at hv
    obtain ⟨q, hq, hv'⟩ := slice_conc hv
    refine does_value (hrun hv' (run_bounds HT HH.glob h1 h2 h3 e1 e2 e3 c1 c2 c3 hmx true)) (P.same HH qq ?_)
    simp only [conc, hq, Option.map_some, Option.some.injEq]
    by_cases hml : m = l
    · simp [hml]
    · simp [hml, add_mk, Nat.add_assoc]
  · rename_i b s z len hb
    cases hc : and (Nat.beq s j.size) (Nat.beq z 0) with
    | false => rw [hc] at hr; cases hr
    | true =>
      rw [hc, cond_true] at hr
      obtain ⟨hs, hz⟩ := Bool.and_eq_true_iff.1 hc
      have hs := beq_t.1 hs
      have hz := beq_t.1 hz
      subst hs; subst hz
      have hv := opd_some HT hx (by rw [hb]; rfl) HH.glob
      rw [hb] at hv
      obtain ⟨q, hq, hle, hv'⟩ := sliceX_conc hv
      have hbase : (⟨q.1, q.2 + (if E.κ b = 0 then 0 else 0 * j.size), none⟩ : Addr) = ⟨q.1, q.2, none⟩ := by simp
      rw [hbase, Nat.sub_zero] at hv'
      split at hr
      · rename_i hmn
        split at hr
        · rename_i h' l e2 e1
          cases hc2 : and (Nat.ble h' len) (Nat.ble l h') with
          | false => rw [hc2] at hr; cases hr
          | true =>
            rw [hc2] at hr; cases hr
            obtain ⟨c2, c3⟩ := Bool.and_eq_true_iff.1 hc2
            have c2 := ble_t.1 c2
            have c3 := ble_t.1 c3
            have e3 : natOr (E.κ b) (evo tm ymx) = some (E.κ b) := by rw [hmn]; rfl
            refine does_value (hrun hv' (run_bounds HT HH.glob h1 h2 h3 e1 e2 e3 (Nat.le_refl _) (by omega) c3 hmx true)) (P.same HH qq ?_)
            simp only [conc]
            rw [if_pos (by omega), hq, Option.map_some, Option.some.injEq]
            by_cases hml : E.κ b = l
            · simp [hml]
            · simp [hml, add_mk]
        · cases hr
      · rename_i mv hmv
        obtain ⟨l, h', m, e1, e2, e3, c1, c2, c3, rfl⟩ := sliceIn_some hr
        have e3' : natOr (E.κ b) (evo tm ymx) = some m := by rw [hmv]; exact e3
        refine does_value (hrun hv' (run_bounds HT HH.glob h1 h2 h3 e1 e2 e3' (by omega) c2 c3 hmx true)) (P.same HH qq ?_)
        simp only [conc, hq, Option.map_some, Option.some.injEq]
        by_cases hml : m = l
        · simp [hml]
        · simp [hml, add_mk]
  · rename_i hb
    split at hr
    · rename_i m h' l e3 e2 e1
      cases hc : and (Nat.beq m 0) (and (Nat.beq h' 0) (Nat.beq l 0)) with
      | false => rw [hc] at hr; cases hr
      | true =>
        rw [hc] at hr; cases hr
        obtain ⟨c1, c2⟩ := Bool.and_eq_true_iff.1 hc
        obtain ⟨c2, c3⟩ := Bool.and_eq_true_iff.1 c2
        have c1 := beq_t.1 c1
        have c2 := beq_t.1 c2
        have c3 := beq_t.1 c3
        subst c1; subst c2; subst c3
        have hv' : a.eval x = .slice none 0 0 := opd_ok HT hx (by rw [hb]; rfl) HH.glob
        refine does_value (hrun hv' (run_bounds HT HH.glob h1 h2 h3 e1 e2 e3 (Nat.le_refl _) (Nat.le_refl _) (Nat.le_refl _) hmx true)) (P.same HH qq ?_)
        simp [conc]
    · cases hr
  · cases hr

theorem sliceA_ok {p : Par} {ty : Nat → Option TI} (T : TyOk p.P ty) {t e len : Nat} {i j : TI} (ht : ty t = some i) (hd : i.desc = .array len e) (he : ty e = some j) {x : Operand} {y : Opd} (hx : cOpd x = some y)
    {lo hi mx : Option Operand} {ylo yhi ymx : Option Opd} (h1 : cOpt lo = some ylo) (h2 : cOpt hi = some yhi) (h3 : cOpt mx = some ymx) (hmx : mx.isSome = true → hi.isSome = true)
    {o : Oper} (ho : o.op = .slice t x lo hi mx) : InsOk p (iSliceA j.size len y ylo yhi ymx) o := by
  intro cx n keep E w0 tm h a w Q K _ HT HH k P
  obtain ⟨r, hr, qq⟩ := holds_mk2 k
  have hex : execOp a.eval o = (do let x ← Instr.sliceAt t (a.eval x) (lo.map a.eval) (hi.map a.eval) (mx.map a.eval); pure (Next.value x)) := by unfold execOp; rw [ho]
  rw [hex]
  have hu := T.und t i ht
  rw [hd] at hu
  unfold asliceA at hr
  split at hr
  · rename_i b off hb
    obtain ⟨l, h', m, e1, e2, e3, c1, c2, c3, rfl⟩ := sliceIn_some hr
    have hv := opd_some HT hx (by rw [hb]; rfl) HH.glob
    rw [hb] at hv
    obtain ⟨q, hq, hv'⟩ := ptr_conc hv
    refine does_value (v := .slice (some (if m = l then (⟨q.1, q.2 + off, none⟩ : Addr) else (⟨q.1, q.2 + off, none⟩ : Addr).add (l * j.size))) (h' - l) (m - l)) (w' := w) ?_ (P.same HH qq ?_)
    · rw [hv']
      unfold Instr.sliceAt
      simp only [Sem.run_bind, run_underlying hu, Result.andThen_ok]
      unfold Instr.sureAddr
      simp only [pure, Sem.run, Result.andThen_ok, run_bounds HT HH.glob h1 h2 h3 e1 e2 e3 c1 c2 c3 hmx false, run_size T he]
    · simp only [conc, hq, Option.map_some, Option.some.injEq]
      by_cases hml : m = l
      · simp [hml]
      · simp [hml, add_mk, Nat.add_assoc]
  · cases hr

/-! ## Builtin functions -/
theorem run_builtin {P : Program} (a : Act) (o : Oper) {c : Call} {b : Builtin} (ho : o.op = .call c) (hc : c.callee = .builtin b) (w : World) :
    (execOp a.eval o).run P w = (builtin b c.argTypes o.type (c.args.map fun | .const _ => true | _ => false) (c.args.map a.eval)).run P w := by
  unfold execOp
  rw [ho]
  simp only [Sem.run_bind]
  unfold resolve
  rw [hc]
  simp only [pure, Sem.run, Result.andThen_ok]
  rfl

theorem HeapOk.mapAt {p : Par} {E : Env} {h : Heap} {w0 : Base} {w : World} (H : HeapOk p E h w0 w) {b clock : Nat} {es : List (AV × AV × Nat)} (hg : h.get b = some (.map es clock)) {q : Nat × Nat} (hq : E.σ b = some q) :
    ∃ ms, q.2 = 0 ∧ concE E es ms ∧ w.heap[q.1]? = some (.map ms.toArray clock) := by
  obtain ⟨c, ms, h1, h2, h3⟩ := H.obj b _ hg
  rw [hq] at h1; cases h1
  exact ⟨ms, rfl, h2, h3⟩

theorem HeapOk.rmapAt {p : Par} {E : Env} {h : Heap} {w0 : Base} {w : World} (H : HeapOk p E h w0 w) {b clock : Nat} {es : List (AV × AV × Nat)} (hg : h.get b = some (.rmap es clock)) {q : Nat × Nat} (hq : E.σ b = some q) :
    ∃ ms, q.2 = 0 ∧ concE E es ms ∧ w.heap[q.1]? = some (.map ms.toArray clock) := by
  obtain ⟨c, ms, h1, h2, h3⟩ := H.obj b _ hg
  rw [hq] at h1; cases h1
  exact ⟨ms, rfl, h2, h3⟩

theorem concE_len {E : Env} : ∀ {es : List (AV × AV × Nat)} {ms : List MapEntry}, concE E es ms → ms.length = es.length
  | [], [], _ => rfl
  | _ :: es, _ :: ms, ⟨_, _, _, h⟩ => by simp [concE_len h]

theorem run_getObj {P : Program} {w : World} {c : Nat} {o : Obj} (h : w.heap[c]? = some o) (hn : ∀ x y z, o ≠ .cells x y z) : (getObj c).run P w = .ok o w := by
  unfold getObj
  simp only [Sem.run, h]

theorem args_one {c : Call} {x : Operand} (h : c.args.toList = [x]) (a : Act) : c.args.map a.eval = #[a.eval x] := by
  have : c.args = #[x] := by rw [← Array.toList_inj]; exact h
  rw [this]; simp

theorem type_zero {c : Call} {t : Nat} {ts : List Nat} (h : c.argTypes.toList = t :: ts) : c.argTypes[0]? = some t := by
  rw [← Array.getElem?_toList, h]; rfl

theorem run_lenS {P : Program} {ts : Array Nat} {t e : Nat} (h0 : ts[0]? = some t) (hu : P.underlying t = some (.slice e)) (ty : Nat) (b : Option Addr) (n cap : Nat) (w : World) :
    (Builtin.len_ ts ty #[.slice b n cap]).run P w = .ok (goInt n) w := by
  unfold Builtin.len_
  simp only [h0, List.getElem?_toArray, List.getElem?_cons_zero, Sem.run_bind, run_underlying hu, Result.andThen_ok]
  rfl

theorem lenS_ok {p : Par} {ty : Nat → Option TI} (T : TyOk p.P ty) {c : Call} {t : Nat} {ts : List Nat} (hts : c.argTypes.toList = t :: ts) {i : TI} (ht : ty t = some i) {e : Nat} (hd : i.desc = .slice e)
    {x : Operand} (hxs : c.args.toList = [x]) {y : Opd} (hx : cOpd x = some y) (hb : c.callee = .builtin .len) {o : Oper} (ho : o.op = .call c) : InsOk p (iLenS y) o := by
  intro cx n keep E w0 tm h a w Q K _ HT HH k P
  obtain ⟨r, hr, qq⟩ := holds_mk2 k
  rw [run_builtin a o ho hb, args_one hxs]
  have hu := T.und t i ht
  rw [hd] at hu
  unfold builtin
  simp only
  unfold alenS at hr
  split at hr
  · rename_i b off n' cap hb'
    cases hr
    have hv := opd_some HT hx (by rw [hb']; rfl) HH.glob
    rw [hb'] at hv
    obtain ⟨q, hq, hv'⟩ := slice_conc hv
    rw [hv']
    exact does_value (run_lenS (type_zero hts) hu _ _ _ _ w) (P.same HH qq rfl)
  · rename_i b s lo n' hb'
    cases hr
    have hv := opd_some HT hx (by rw [hb']; rfl) HH.glob
    rw [hb'] at hv
    obtain ⟨q, hq, _, hv'⟩ := sliceX_conc hv
    rw [hv']
    exact does_value (run_lenS (type_zero hts) hu _ _ _ _ w) (P.same HH qq rfl)
  · rename_i i hb'
    cases hr
    have hv := opd_some HT hx (by rw [hb']; rfl) HH.glob
    rw [hb'] at hv
    obtain ⟨p, n', c', hv', hn⟩ := sliceU_conc hv
    rw [hv']
    exact does_value (run_lenS (type_zero hts) hu _ _ _ _ w) (P.same HH qq (by simp only [conc, IE.den, hn]; rfl))
  · rename_i b i' hb'
    cases hr
    have hv := opd_some HT hx (by rw [hb']; rfl) HH.glob
    rw [hb'] at hv
    obtain ⟨q, hq, h0, hv'⟩ := sliceV_conc hv
    rw [hv']
    exact does_value (run_lenS (type_zero hts) hu _ _ _ _ w) (P.same HH qq (by simp only [conc, IE.den]; rw [Int.toNat_of_nonneg h0]; rfl))
  · rename_i hb'
    cases hr
    have hv : a.eval x = .slice none 0 0 := opd_ok HT hx (by rw [hb']; rfl) HH.glob
    rw [hv]
    exact does_value (run_lenS (type_zero hts) hu _ _ _ _ w) (P.same HH qq rfl)
  · cases hr

theorem lenM_ok {p : Par} {ty : Nat → Option TI} (T : TyOk p.P ty) {c : Call} {t : Nat} {ts : List Nat} (hts : c.argTypes.toList = t :: ts) {i : TI} (ht : ty t = some i) {kt e : Nat} (hd : i.desc = .map kt e)
    {x : Operand} (hxs : c.args.toList = [x]) {y : Opd} (hx : cOpd x = some y) (hb : c.callee = .builtin .len) {o : Oper} (ho : o.op = .call c) : InsOk p (iLenM y) o := by
  intro cx n keep E w0 tm h a w Q K _ HT HH k P
  obtain ⟨r, hr, qq⟩ := holds_mk2 k
  rw [run_builtin a o ho hb, args_one hxs]
  have hu := T.und t i ht
  rw [hd] at hu
  unfold builtin
  simp only
  unfold alenM at hr
  split at hr
  · rename_i hb'
    cases hr
    have hv : a.eval x = .map none := opd_ok HT hx (by rw [hb']; rfl) HH.glob
    rw [hv]
    refine does_value (v := goInt 0) (w' := w) ?_ (P.same HH qq rfl)
    unfold Builtin.len_
    simp only [type_zero hts, List.getElem?_toArray, List.getElem?_cons_zero, Sem.run_bind, run_underlying hu, Result.andThen_ok]
    rfl
  · rename_i b hb'
    split at hr
    · rename_i es clock hg
      cases hr
      have hv := opd_some HT hx (by rw [hb']; rfl) HH.glob
      rw [hb'] at hv
      obtain ⟨q, hq, hv'⟩ := map_conc hv
      obtain ⟨ms, h0, hms, hheap⟩ := HH.mapAt hg hq
      rw [hv']
      refine does_value (v := goInt es.length) (w' := w) ?_ (P.same HH qq (by rw [lLen_eq]; rfl))
      unfold Builtin.len_
      simp only [type_zero hts, List.getElem?_toArray, List.getElem?_cons_zero, Sem.run_bind, run_underlying hu, Result.andThen_ok]
      simp only [run_getObj hheap (by simp), Result.andThen_ok, pure, Sem.run, List.size_toArray, concE_len hms]
    · rename_i es clock hg
      cases hr
      have hv := opd_some HT hx (by rw [hb']; rfl) HH.glob
      rw [hb'] at hv
      obtain ⟨q, hq, hv'⟩ := map_conc hv
      obtain ⟨ms, h0, hms, hheap⟩ := HH.rmapAt hg hq
      rw [hv']
      refine does_value (v := goInt es.length) (w' := w) ?_ (P.same HH qq (by rw [lLen_eq]; rfl))
      unfold Builtin.len_
      simp only [type_zero hts, List.getElem?_toArray, List.getElem?_cons_zero, Sem.run_bind, run_underlying hu, Result.andThen_ok]
      simp only [run_getObj hheap (by simp), Result.andThen_ok, pure, Sem.run, List.size_toArray, concE_len hms]
    · cases hr
  · cases hr

theorem lenA_ok {p : Par} {ty : Nat → Option TI} (T : TyOk p.P ty) {c : Call} {t : Nat} {ts : List Nat} (hts : c.argTypes.toList = t :: ts) {i : TI} (ht : ty t = some i) {len e : Nat} (hd : i.desc = .array len e)
    {x : Operand} (hxs : c.args.toList = [x]) (hb : c.callee = .builtin .len) {o : Oper} (ho : o.op = .call c) : InsOk p (iLenA len) o := by
  intro cx n keep E w0 tm h a w Q K _ HT HH k P
  rw [run_builtin a o ho hb, args_one hxs]
  have hu := T.und t i ht
  rw [hd] at hu
  unfold builtin
  simp only
  refine does_value (v := goInt len) (w' := w) ?_ (P.same HH k rfl)
  unfold Builtin.len_
  simp only [type_zero hts, List.getElem?_toArray, List.getElem?_cons_zero, Sem.run_bind, run_underlying hu, Result.andThen_ok]
  rfl

theorem max2_ok {a b c : AV} (h : max2 a b = some c) {E : Env} {u v : Value} (hu : conc E a = some u) (hv : conc E b = some v) (P : Program) (w : World) : ∃ x, conc E c = some x ∧ (Builtin.max2 u v).run P w = .ok x w := by
  unfold max2 at h
  split at h
  · rename_i k x k' y
    cases h
    simp only [conc, Option.some.injEq] at hu hv
    subst hu; subst hv
    refine ⟨.int k (if y.den E.ρ > x.den E.ρ then y.den E.ρ else x.den E.ρ), ?_, rfl⟩
    simp only [conc, Option.some.injEq, Value.int.injEq, true_and]
    unfold mkMax
    split
    · rename_i m n'
      simp only [IE.den, ilt_eq]
      by_cases hc : m < n'
      · simp [hc]
      · simp [hc]
    · rfl
  · cases h

theorem min2_ok {a b c : AV} (h : min2 a b = some c) {E : Env} {u v : Value} (hu : conc E a = some u) (hv : conc E b = some v) (P : Program) (w : World) : ∃ x, conc E c = some x ∧ (Builtin.min2 u v).run P w = .ok x w := by
  unfold min2 at h
  split at h
  · rename_i k x k' y
    cases h
    simp only [conc, Option.some.injEq] at hu hv
    subst hu; subst hv
    refine ⟨.int k (if y.den E.ρ < x.den E.ρ then y.den E.ρ else x.den E.ρ), ?_, rfl⟩
    simp only [conc, Option.some.injEq, Value.int.injEq, true_and]
    unfold mkMin
    split
    · rename_i m n'
      simp only [IE.den, ilt_eq]
      by_cases hc : n' < m
      · simp [hc]
      · simp [hc]
    · rfl
  · cases h

theorem foldA_ok {f : AV → AV → Option AV} {g : Value → Value → Sem Value} {P : Program} {w : World} {E : Env}
    (hf : ∀ {a b c : AV}, f a b = some c → ∀ {u v : Value}, conc E a = some u → conc E b = some v → ∃ x, conc E c = some x ∧ (g u v).run P w = .ok x w) :
    ∀ {l : List AV} {a c : AV} {u : Value} {vs : List Value}, foldA f a l = some c → conc E a = some u → concL E l = some vs → ∃ x, conc E c = some x ∧ (vs.foldlM g u).run P w = .ok x w
  | [], a, c, u, vs, h, hu, hvs => by
    simp only [foldA, Option.some.injEq] at h
    subst h
    simp only [concL, Option.some.injEq] at hvs
    subst hvs
    exact ⟨u, hu, rfl⟩
  | b :: l, a, c, u, vs, h, hu, hvs => by
    obtain ⟨v, r, hv, hr, rfl⟩ := concL_cons.1 hvs
    simp only [foldA] at h
    cases hm : f a b with
    | none => rw [hm] at h; cases h
    | some d =>
      rw [hm] at h
      obtain ⟨x, hx, hrun⟩ := hf hm hu hv
      obtain ⟨y, hy, hrun2⟩ := foldA_ok hf h hx hr
      exact ⟨y, hy, by simp only [List.foldlM_cons, Sem.run_bind, hrun, Result.andThen_ok, hrun2]⟩

theorem cOpds_get {n : Nat} {keep : List Nat} {E : Env} {tm : Tm} {a : Act} (H : TmOk n keep E tm a.tmps) (G : ∀ b, b < 1000 → E.σ b = some (b, 0)) :
    ∀ {xs : List Operand} {ys : List Opd} {vs : List Value}, cOpds xs = some ys → concL E (evs tm ys) = some vs → xs.map a.eval = vs
  | [], ys, vs, h, hv => by simp only [cOpds, Option.some.injEq] at h; subst h; simp only [evs, lMap, concL, Option.some.injEq] at hv; subst hv; rfl
  | x :: xs, ys, vs, h, hv => by
    simp only [cOpds] at h
    cases hx : cOpd x with
    | none => rw [hx] at h; cases h
    | some y =>
      cases hl : cOpds xs with
      | none => rw [hx, hl] at h; cases h
      | some l =>
        rw [hx, hl] at h; cases h
        have he : evs tm (y :: l) = ev tm y :: evs tm l := rfl
        rw [he] at hv
        obtain ⟨v, r, h1, h2, rfl⟩ := concL_cons.1 hv
        rw [List.map_cons, opd_ok H hx h1 G, cOpds_get H G hl h2]

theorem evs_notBad {f : AV → AV → Option AV} (hf : ∀ {a b c : AV}, f a b = some c → notBad a = true ∧ notBad b = true ∧ notBad c = true) :
    ∀ {l : List AV} {a c : AV}, foldA f a l = some c → l ≠ [] → notBad a = true ∧ lAll notBad l = true
  | [], a, c, _, hne => absurd rfl hne
  | b :: l, a, c, h, _ => by
    simp only [foldA] at h
    cases hm : f a b with
    | none => rw [hm] at h; cases h
    | some d =>
      rw [hm] at h
      obtain ⟨h1, h2, h3⟩ := hf hm
      refine ⟨h1, ?_⟩
      rw [lAll_eq, List.all_cons, h2, Bool.true_and, ← lAll_eq]
      cases l with
      | nil => rfl
      | cons x l => exact (evs_notBad hf h (by simp)).2

theorem max2_nb {a b c : AV} (h : max2 a b = some c) : notBad a = true ∧ notBad b = true ∧ notBad c = true := by
  unfold max2 at h
  split at h
  · cases h; exact ⟨rfl, rfl, rfl⟩
  · cases h
theorem min2_nb {a b c : AV} (h : min2 a b = some c) : notBad a = true ∧ notBad b = true ∧ notBad c = true := by
  unfold min2 at h
  split at h
  · cases h; exact ⟨rfl, rfl, rfl⟩
  · cases h

theorem fold_ok {p : Par} {f : AV → AV → Option AV} {g : Value → Value → Sem Value} {bi : Builtin} (hf : ∀ {a b c : AV}, f a b = some c → ∀ {E : Env} {u v : Value}, conc E a = some u → conc E b = some v → ∀ (P : Program) (w : World), ∃ x, conc E c = some x ∧ (g u v).run P w = .ok x w)
    (hnb : ∀ {a b c : AV}, f a b = some c → notBad a = true ∧ notBad b = true ∧ notBad c = true)
    (hbi : ∀ (P : Program) ts t cs (x y : Value) (l : List Value) w, (builtin bi ts t cs (x :: y :: l).toArray).run P w = (do let v ← (y :: l).foldlM g x; pure (Next.value v) : Sem Next).run P w)
    {c : Call} {ys : List Opd} (hys : cOpds c.args.toList = some ys) (h2 : 2 ≤ ys.length) (hb : c.callee = .builtin bi) {o : Oper} (ho : o.op = .call c) :
    InsOk p (fun _ tm h => mk2 h 26 (foldL f (evs tm ys))) o := by
  intro cx n keep E w0 tm h a w Q K _ HT HH k P
  obtain ⟨r, hr, qq⟩ := holds_mk2 k
  rw [run_builtin a o ho hb]
  match ys, hys, h2, hr with
  | y1 :: y2 :: l, hys, _, hr =>
    have he : evs tm (y1 :: y2 :: l) = ev tm y1 :: ev tm y2 :: evs tm l := rfl
    rw [he] at hr
    simp only [foldL] at hr
    obtain ⟨n1, n2⟩ := evs_notBad hnb hr (by simp)
    have hall : lAll notBad (evs tm (y1 :: y2 :: l)) = true := by rw [he, lAll_eq, List.all_cons, n1, ← lAll_eq, n2]; rfl
    have hc := cOpds_some HT HH.glob hys hall
    rw [he] at hc
    obtain ⟨u, r', hu, hr', e1⟩ := concL_cons.1 hc
    obtain ⟨v, r'', hv, hr'', e2⟩ := concL_cons.1 hr'
    obtain ⟨x, hx, hrun⟩ := foldA_ok (g := g) (P := p.P) (w := w) (fun hm _ _ h1 h2 => hf hm h1 h2 p.P w) hr hu hr'
    have hargs : c.args.map a.eval = (u :: v :: r'').toArray := by
      rw [← Array.toList_inj, Array.toList_map, e1, e2]
    rw [hargs, hbi]
    rw [e2] at hrun
    exact does_value hrun (P.same HH qq hx)

theorem max_ok {p : Par} {c : Call} {ys : List Opd} (hys : cOpds c.args.toList = some ys) (h2 : 2 ≤ ys.length) (hb : c.callee = .builtin .max) {o : Oper} (ho : o.op = .call c) : InsOk p (iMax ys) o :=
  fold_ok (g := Builtin.max2) (fun h _ _ _ hu hv P w => max2_ok h hu hv P w) max2_nb (fun _ _ _ _ _ _ _ _ => rfl) hys h2 hb ho
theorem min_ok {p : Par} {c : Call} {ys : List Opd} (hys : cOpds c.args.toList = some ys) (h2 : 2 ≤ ys.length) (hb : c.callee = .builtin .min) {o : Oper} (ho : o.op = .call c) : InsOk p (iMin ys) o :=
  fold_ok (g := Builtin.min2) (fun h _ _ _ hu hv P w => min2_ok h hu hv P w) min2_nb (fun _ _ _ _ _ _ _ _ => rfl) hys h2 hb ho

end Go.Sx
/-! THE OPERATIONS, ON: new slices; what is built of parts. -/
namespace Go.Sx
open Go.RowKit

/-! ## Rows of zeros -/
theorem rep_len {α : Type} (l : List α) (n : Nat) : (rep l n).length = n * l.length := by
  induction n with
  | zero => simp [rep]
  | succ n ih => simp [rep, ih, Nat.succ_mul, Nat.add_comm]

theorem rep_get {α : Type} (l : List α) (n i : Nat) (h : i < n * l.length) : (rep l n)[i]? = l[i % l.length]? := by
  induction n generalizing i with
  | zero => omega
  | succ n ih =>
    simp only [rep]
    by_cases hi : i < l.length
    · rw [List.getElem?_append_left hi, Nat.mod_eq_of_lt hi]
    · rw [List.getElem?_append_right (by omega), ih (i - l.length) (by rw [Nat.succ_mul] at h; omega), Nat.mod_eq_sub_mod (a := i) (by omega)]

theorem concL_rep {E : Env} {z : List AV} {vs : List Value} (h : concL E z = some vs) (n : Nat) : concL E (rep z n) = some (rep vs n) := by
  induction n with
  | zero => rfl
  | succ n ih => exact concL_app h ih

theorem zeros_eq (zero : Array Value) (n : Nat) : ((Array.range (n * zero.size)).map (fun i => zero[i % zero.size]!)) = (rep zero.toList n).toArray := by
  apply Array.ext'
  apply List.ext_getElem?
  intro i
  by_cases h : i < n * zero.size
  · have hz : 0 < zero.size := by
      rcases Nat.eq_zero_or_pos zero.size with e | e
      · rw [e] at h; omega
      · exact e
    have hm : i % zero.size < zero.size := Nat.mod_lt _ hz
    rw [rep_get _ _ _ (by simpa using h)]
    simp [h, hm]
  · have : (rep zero.toList n)[i]? = none := by rw [List.getElem?_eq_none]; rw [rep_len]; simpa using Nat.le_of_not_lt h
    rw [this, List.getElem?_eq_none]; simpa using Nat.le_of_not_lt h

theorem run_askRoom (P : Program) (n : Nat) (w : World) : (askRoom n).run P w = .ok () w := by
  unfold askRoom
  split <;> rfl

theorem zero_cells {P : Program} {ty : Nat → Option TI} (T : TyOk P ty) {t : Nat} {i : TI} (ht : ty t = some i) {z : List AV} (hz : zeroOf i = some z) (E : Env) (w : World) :
    ∃ v, concL E z = some v.cells.toList ∧ (zeroValue t).run P w = .ok v w ∧ v.cells.size = i.size := by
  obtain ⟨v, hv0, rfl, hok, hl⟩ := zeroOf_some hz
  obtain ⟨u, hu, hrun⟩ := run_zero T ht hv0 E w
  have hc := conc_cells hu hok
  refine ⟨u, hc, hrun, ?_⟩
  have := concL_len hc
  simp at this
  omega

theorem rMkslice_holds {ρ : Rho} {h : Heap} {e bytes : Nat} {z : List AV} {l c : AV} {Q : AV × Heap → Prop} (k : (rMkslice h e z bytes l c).Holds ρ Q) :
    ∃ l' c', asNat l = some l' ∧ asNat c = some c' ∧ c' ≤ 1000000 ∧ bytes ≤ 1000000 ∧ l' ≤ c' ∧ Q (.slice h.next 0 l' c', h.new (.cells (rep z c') e true false)) := by
  unfold rMkslice at k
  split at k
  · rename_i l' c' e1 e2
    cases hc : and (Nat.ble c' 1000000) (and (Nat.ble bytes 1000000) (Nat.ble l' c')) with
    | false => rw [hc] at k; exact k.elim
    | true =>
      rw [hc] at k
      obtain ⟨c1, c2⟩ := Bool.and_eq_true_iff.1 hc
      obtain ⟨c2, c3⟩ := Bool.and_eq_true_iff.1 c2
      exact ⟨l', c', e1, e2, ble_t.1 c1, ble_t.1 c2, ble_t.1 c3, k⟩
  · exact k.elim

theorem wrap_small {n : Nat} (h : n ≤ 1000000) : IntKind.i64.wrap (Int.ofNat n) = n := by
  rw [IntKind.wrap_i64]; simp only [Int.ofNat_eq_natCast]; omega

theorem run_mkslice {P : Program} {ty : Nat → Option TI} (T : TyOk P ty) {t e : Nat} {i j : TI} (ht : ty t = some i) (hd : i.desc = .slice e) (he : ty e = some j) {z : List AV} (hz : zeroOf j = some z) (E : Env) (w : World) {k1 k2 : IntKind} {l c : Nat} (c1 : c ≤ 1000000) (c2 : j.bytes ≤ 1000000) (c3 : l ≤ c) :
    ∃ vs, concL E (rep z c) = some vs ∧ (Instr.makeSlice t (.int k1 (Int.ofNat l)) (.int k2 (Int.ofNat c))).run P w = .ok (.slice (some ⟨w.heap.size, 0, none⟩) l c) (w.alloc (.cells vs.toArray e)) := by
  have hu := T.und t i ht
  rw [hd] at hu
  obtain ⟨jj, hj1, hj2, hj3, _⟩ := T.info e j he
  obtain ⟨zv, hzv, hzrun, hzs⟩ := zero_cells T he hz E w
  have hcells : concL E (rep z c) = some (rep zv.cells.toList c) := concL_rep hzv c
  refine ⟨_, hcells, ?_⟩
  unfold Instr.makeSlice asInt asIntOf
  have hw1 := wrap_small (n := l) (by omega)
  have hw2 := wrap_small c1
  have hb : ¬ ((jj.bytes : Int) * (c : Int) > 2 ^ 48) := by
    rw [hj3]
    have h3 : j.bytes * c ≤ 1000000 * 1000000 := Nat.mul_le_mul c2 c1
    have h4 : ((j.bytes * c : Nat) : Int) = (j.bytes : Int) * (c : Int) := Int.natCast_mul _ _
    rw [← h4]
    omega
  have hn : ((decide ((c : Int) < 0) || decide ((jj.bytes : Int) * (c : Int) > 2 ^ 48)) || decide ((l : Int) < 0) || decide ((l : Int) > (c : Int))) = false := by
    simp only [Bool.or_eq_false_iff, decide_eq_false_iff_not]
    refine ⟨⟨⟨by omega, hb⟩, by omega⟩, by omega⟩
  simp only [Sem.run_bind, pure, Sem.run, Result.andThen_ok, run_underlying hu, run_typeInfo w hj1, hw1, hw2]
  rw [if_neg (by rw [hn]; simp)]
  simp only [Sem.run_bind, Result.andThen_ok, run_askRoom, run_size T he, Int.toNat_natCast]
  by_cases h0 : c * j.size = 0
  · rw [if_pos h0]
    simp only [Sem.run_bind, Sem.run, Result.andThen_ok]
    have hm : ∀ f : Nat → Value, (Array.range 0).map f = #[] := fun f => by simp
    have hr : (rep zv.cells.toList c).toArray = #[] := by
      rw [← zeros_eq, hzs, h0, hm]
    rw [hr, h0, hm]
    rfl
  · rw [if_neg h0]
    simp only [Sem.run_bind, Sem.run, Result.andThen_ok, hzrun]
    rw [← zeros_eq, hzs]
    rfl

theorem mkslice_ok {p : Par} {ty : Nat → Option TI} (T : TyOk p.P ty) {t e : Nat} {i j : TI} (ht : ty t = some i) (hd : i.desc = .slice e) (he : ty e = some j) {z : List AV} (hz : zeroOf j = some z) {x1 x2 : Operand} {y1 y2 : Opd}
    (h1 : cOpd x1 = some y1) (h2 : cOpd x2 = some y2) {o : Oper} (ho : o.op = .makeSlice t x1 x2) : InsOk p (iMkslice e z j.bytes y1 y2) o := by
  intro cx n keep E w0 tm h a w Q K _ HT HH k P
  obtain ⟨l, c, hl, hc, c1, c2, c3, qq⟩ := rMkslice_holds k
  have hex : execOp a.eval o = (do let x ← Instr.makeSlice t (a.eval x1) (a.eval x2); pure (Next.value x)) := by unfold execOp; rw [ho]
  rw [hex]
  obtain ⟨k1, hl'⟩ := asNat_some hl
  obtain ⟨k2, hc'⟩ := asNat_some hc
  have hv1 : a.eval x1 = .int k1 (Int.ofNat l) := opd_ok HT h1 (by rw [hl']; rfl) HH.glob
  have hv2 : a.eval x2 = .int k2 (Int.ofNat c) := opd_ok HT h2 (by rw [hc']; rfl) HH.glob
  obtain ⟨vs, hcells, hrun⟩ := run_mkslice (k1 := k1) (k2 := k2) T ht hd he hz E w c1 c2 c3
  refine does_value (by rw [hv1, hv2]; exact hrun) ?_
  have := HH.newCells (p := p) hcells e 0
  exact P _ _ _ _ _ qq (Env.with_le (HH.fresh _ (Nat.le_refl _)) HH.nx _ _) this (by simp [conc, Env.with_at])

/-! ## What is built of parts -/
theorem foldl_put (off : Nat) : ∀ (vs : List Value) (j : Nat) (cells : Array Value), off + j + vs.length ≤ cells.size →
    ((vs.zipIdx j).foldl (fun cs (q : Value × Nat) => cs.setIfInBounds (off + q.2) q.1) cells).toList = cells.toList.take (off + j) ++ (vs ++ cells.toList.drop (off + j + vs.length))
  | [], j, cells, _ => by simp
  | v :: vs, j, cells, h => by
    simp only [List.length_cons] at h
    rw [List.zipIdx_cons, List.foldl_cons, foldl_put off vs (j + 1) _ (by simp; omega)]
    have e := list_seg_step cells.toList (off + j) v vs (by simp; omega)
    simpa [Array.toList_setIfInBounds, Nat.add_assoc, List.append_assoc] using e

theorem array_foldl_put (off : Nat) (vs : Array Value) (cells : Array Value) (h : off + vs.size ≤ cells.size) :
    (vs.zipIdx.foldl (fun cs (q : Value × Nat) => cs.setIfInBounds (off + q.2) q.1) cells).toList = cells.toList.take off ++ (vs.toList ++ cells.toList.drop (off + vs.size)) := by
  have := foldl_put off vs.toList 0 cells (by simpa using h)
  rw [← Array.foldl_toList, Array.toList_zipIdx]
  simpa using this

theorem fillA_cons (p : Nat × Nat × AV) (ps : List (Nat × Nat × AV)) (cs : List AV) : fillA (p :: ps) cs = cond (and (Nat.beq (lLen p.2.2.cellsOf) p.2.1) (allOk p.2.2.cellsOf))
      (match listPut cs p.1 p.2.2.cellsOf with
      | some cs' => fillA ps cs'
      | none => none) none := rfl

theorem fill_ok {n : Nat} {keep : List Nat} {E : Env} {tm : Tm} {a : Act} (H : TmOk n keep E tm a.tmps) (G : ∀ b, b < 1000 → E.σ b = some (b, 0)) (place : Nat → Option (Nat × Nat)) :
    ∀ {l : List (Nat × Operand)} {ps : List (Nat × Nat × Opd)} {cs cs' : List AV} {cl : List Value}, cParts place l = some ps → fillA (evp tm ps) cs = some cs' → concL E cs = some cl →
      ∃ cl', concL E cs' = some cl' ∧ Instr.fill place cl.toArray (l.map fun q => (q.1, a.eval q.2)) = some cl'.toArray
  | [], ps, cs, cs', cl, h, hf, hc => by
    simp only [cParts, Option.some.injEq] at h
    subst h
    have : cs' = cs := (Option.some.inj hf).symm
    subst this
    exact ⟨cl, hc, rfl⟩
  | q :: l, ps, cs, cs', cl, h, hf, hc => by
    simp only [cParts] at h
    split at h
    · rename_i pl y r hpl hy hr
      cases h
      have he : evp tm ((pl.1, pl.2, y) :: r) = (pl.1, pl.2, ev tm y) :: evp tm r := rfl
      rw [he, fillA_cons] at hf
      cases hb : and (Nat.beq (lLen (ev tm y).cellsOf) pl.2) (allOk (ev tm y).cellsOf) with
      | false => rw [hb] at hf; cases hf
      | true =>
        rw [hb, cond_true] at hf
        obtain ⟨b1, b2⟩ := Bool.and_eq_true_iff.1 hb
        rw [lLen_eq] at b1
        have b1 := beq_t.1 b1
        simp only at hf
        cases hp : listPut cs pl.1 (ev tm y).cellsOf with
        | none => rw [hp] at hf; cases hf
        | some cs1 =>
          rw [hp] at hf
          obtain ⟨hle, rfl⟩ := listPut_eq hp
          have hv := opd_some H hy (cells_bad b2) G
          have hcs := conc_cells hv b2
          have hl1 := concL_len hcs
          have hl2 := concL_len hc
          have hc1 : concL E (cs.take pl.1 ++ ((ev tm y).cellsOf ++ cs.drop (pl.1 + (ev tm y).cellsOf.length))) = some (cl.take pl.1 ++ ((a.eval q.2).cells.toList ++ cl.drop (pl.1 + (a.eval q.2).cells.size))) := by
            refine concL_app (concL_take hc _) (concL_app hcs ?_)
            have : (a.eval q.2).cells.size = (ev tm y).cellsOf.length := by simpa using hl1
            rw [this]
            exact concL_drop hc _
          obtain ⟨cl', h1, h2⟩ := fill_ok H G place hr hf hc1
          refine ⟨cl', h1, ?_⟩
          have hsz : (a.eval q.2).cells.size = pl.2 := by simp at hl1; omega
          simp only [List.map_cons, Instr.fill, hpl]
          rw [if_neg (by simp only [ne_eq, hsz, not_true_eq_false, decide_false, Bool.false_or, decide_eq_true_eq, List.size_toArray]; simp at hl1; omega)]
          have e := array_foldl_put pl.1 (a.eval q.2).cells cl.toArray (by simp at hl1 ⊢; omega)
          have e' : ((a.eval q.2).cells.zipIdx.foldl (fun cs (q : Value × Nat) => cs.setIfInBounds (pl.1 + q.2) q.1) cl.toArray) = (cl.take pl.1 ++ ((a.eval q.2).cells.toList ++ cl.drop (pl.1 + (a.eval q.2).cells.size))).toArray := by
            apply Array.ext'
            simpa using e
          rw [← h2, ← e']
    · cases h

end Go.Sx
/-! THE OPERATIONS, ON: structs and slices that are built; equality; maps. -/
namespace Go.Sx
open Go.RowKit

theorem rBuild_holds {ρ : Rho} {h : Heap} {z : List AV} {ps : List (Nat × Nat × AV)} {Q : AV × Heap → Prop} (k : (rBuild h z ps).Holds ρ Q) : ∃ cs, fillA ps z = some cs ∧ Q (.agg cs, h) := by
  unfold rBuild at k
  cases hf : fillA ps z with
  | none => rw [hf] at k; exact k.elim
  | some cs => rw [hf] at k; exact ⟨cs, rfl, k⟩

theorem build_ok {p : Par} {ty : Nat → Option TI} (T : TyOk p.P ty) {t : Nat} {i : TI} (ht : ty t = some i) {z : List AV} (hz : zeroOf i = some z) {parts : Array (Nat × Operand)} {place : Nat → Option (Nat × Nat)} {ps : List (Nat × Nat × Opd)}
    (hp : cParts place parts.toList = some ps) (hbuilt : ∀ (v : Value) (l : List (Nat × Value)) (cs : Array Value), (∃ j, p.P.info? t = some j ∧ j.zero = some v) → Instr.fill place v.cells l = some cs → p.P.built t l = some cs)
    {o : Oper} (ho : o.op = .build t parts) : InsOk p (iBuild z ps) o := by
  intro cx n keep E w0 tm h a w Q K _ HT HH k P
  obtain ⟨cs, hf, q⟩ := rBuild_holds k
  have hex : execOp a.eval o = (do let x ← Instr.build t (parts.map fun (i, x) => (i, a.eval x)); pure (Next.value x)) := by unfold execOp; rw [ho]
  rw [hex]
  obtain ⟨j, hj1, _, _, hj4⟩ := T.info t i ht
  obtain ⟨v, hv0, rfl, hok, _⟩ := zeroOf_some hz
  obtain ⟨u, hu1, hu2⟩ := hj4 v hv0
  have hcs := conc_cells (conc_ofV E u v hu2) hok
  obtain ⟨cl, hcl, hfill⟩ := fill_ok HT HH.glob place hp hf hcs
  have hl : (parts.map fun (i, x) => (i, a.eval x)).toList = parts.toList.map fun q => (q.1, a.eval q.2) := by simp
  rw [show (u.cells.toList).toArray = u.cells from by simp] at hfill
  have hb := hbuilt u _ _ ⟨j, hj1, hu1⟩ hfill
  rw [← hl] at hb
  exact does_value (run_build w t _ _ hb) (P.same HH q (by simp [conc, hcl]))

theorem rBslice_holds {ρ : Rho} {h : Heap} {e len : Nat} {cs : List AV} {ps : List (Nat × Nat × AV)} {Q : AV × Heap → Prop} (k : (rBslice h e cs len ps).Holds ρ Q) :
    ∃ cs', fillA ps cs = some cs' ∧ Q (.slice h.next 0 len len, h.new (.cells cs' e true false)) := by
  unfold rBslice at k
  cases hf : fillA ps cs with
  | none => rw [hf] at k; exact k.elim
  | some cs => rw [hf] at k; exact ⟨cs, rfl, k⟩

theorem bslice_ok {p : Par} {ty : Nat → Option TI} (T : TyOk p.P ty) {t e len : Nat} {i j : TI} (ht : ty t = some i) (hd : i.desc = .slice e) (he : ty e = some j) {z : List AV} (hz : zeroOf j = some z) (hlen : len * j.size ≤ 1000000)
    {parts : Array (Nat × Operand)} {ps : List (Nat × Nat × Opd)} (hp : cParts (fun n => some (n * j.size, j.size)) parts.toList = some ps) {o : Oper} (ho : o.op = .buildSlice t len parts) : InsOk p (iBslice e z len ps) o := by
  intro cx n keep E w0 tm h a w Q K _ HT HH k P
  obtain ⟨cs, hf, q⟩ := rBslice_holds k
  have hex : execOp a.eval o = (do let x ← Instr.buildSlice t len (parts.map fun (i, x) => (i, a.eval x)); pure (Next.value x)) := by unfold execOp; rw [ho]
  rw [hex]
  have hu := T.und t i ht
  rw [hd] at hu
  obtain ⟨zv, hzv, hzrun, hzs⟩ := zero_cells T he hz E w
  have hcells : concL E (rep z len) = some (rep zv.cells.toList len) := concL_rep hzv len
  obtain ⟨cl, hcl, hfill⟩ := fill_ok HT HH.glob _ hp hf hcells
  have hl : (parts.map fun (i, x) => (i, a.eval x)).toList = parts.toList.map fun q => (q.1, a.eval q.2) := by simp
  refine does_value (v := .slice (some ⟨w.heap.size, 0, none⟩) len len) (w' := w.alloc (.cells cl.toArray e)) ?_ ?_
  · unfold Instr.buildSlice
    simp only [Sem.run_bind, run_underlying hu, Result.andThen_ok, run_size T he]
    rw [if_neg (by omega)]
    rw [hl]
    have hz' : ∀ x : Array Value, x = zv.cells ∨ (x = #[] ∧ len * j.size = 0) → ((Array.range (len * j.size)).map fun i => x[i % x.size]!) = (rep zv.cells.toList len).toArray := by
      rintro x (rfl | ⟨rfl, h0⟩)
      · rw [← hzs, zeros_eq]
      · rw [← zeros_eq, hzs, h0]; simp
    by_cases h0 : len * j.size = 0
    · rw [if_pos h0]
      simp only [Sem.run_bind, pure, Sem.run, Result.andThen_ok]
      rw [hz' #[] (.inr ⟨rfl, h0⟩), hfill]
      rfl
    · rw [if_neg h0]
      simp only [Sem.run_bind, pure, Sem.run, Result.andThen_ok, hzrun]
      rw [hz' zv.cells (.inl rfl), hfill]
      rfl
  · have := HH.newCells (p := p) hcl e 0
    exact P _ _ _ _ _ q (Env.with_le (HH.fresh _ (Nat.le_refl _)) HH.nx _ _) this (by simp [conc, Env.with_at])

end Go.Sx
/-! EQUALITY, cell by cell. -/
namespace Go.Sx
open Go.RowKit

theorem mkIff_den (ρ : Rho) (a b : BE) : (a.mkIff b).den ρ = (a.den ρ == b.den ρ) := by
  unfold BE.mkIff
  split <;> rfl

/-- one leaf -/
def LeafOf (d : TypeDesc) (l : Leaf) : Prop :=
  match l with
  | .bool => d = .bool
  | .int => ∃ k, d = .int k
  | .nilS => ∃ e, d = .slice e
  | .nilM => ∃ k e, d = .map k e
  | .nilP => ∃ e, d = .pointer e
  | .nilF => ∃ a b c, d = .func a b c

theorem func_conc {E : Env} {fn : Fn} {x y : List AV} {v : Value} (h : conc E (.func fn x y) = some v) : ∃ f a b, v = .func f a b := by
  simp only [conc] at h
  cases hx : concL E x with
  | none => rw [hx] at h; cases fn <;> simp at h
  | some l =>
    cases hy : concL E y with
    | none => rw [hx, hy] at h; cases fn <;> simp at h
    | some m => rw [hx, hy] at h; cases fn <;> simp at h <;> exact ⟨_, _, _, h.symm⟩
theorem yield_conc {E : Env} {l : Nat} {v : Value} (h : conc E (.yieldF l) = some v) : ∃ q, E.σ l = some q ∧ v = .func (.yield q.1) #[] #[] := by
  simp only [conc, Option.map_eq_some_iff] at h
  obtain ⟨q, h1, h2⟩ := h
  exact ⟨q, h1, h2.symm⟩

theorem eqLeaf_ok {P : Program} {t : Nat} {d : TypeDesc} (hu : P.underlying t = some d) {l : Leaf} (hl : LeafOf d l) {x y : AV} {be : BE} (h : eqLeaf l x y = some be) {E : Env} {u v : Value} (hx : conc E x = some u) (hy : conc E y = some v) (D : Nat) (w : World) :
    (Op.equalIn (D + 1) t u v).run P w = .ok (be.den E.ρ) w := by
  unfold eqLeaf at h
  split at h
  · -- int
    obtain ⟨k, rfl⟩ := hl
    split at h
    · rename_i j a j' b
      cases hk : kindEq j j' with
      | false => rw [hk] at h; cases h
      | true =>
        have := kindEq_eq hk
        subst this
        rw [hk, cond_true] at h
        simp only [conc, Option.some.injEq] at hx hy
        subst hx; subst hy
        obtain ⟨_, hd⟩ := mkCmp_den (ρ := E.ρ) h
        rw [hd]
        simp only [Op.equalIn, Sem.run_bind, run_underlying hu, Result.andThen_ok, if_true]
        rfl
    · cases h
  · have hd : d = .bool := hl
    subst hd
    split at h
    · rename_i a b
      cases h
      simp only [conc, Option.some.injEq] at hx hy
      subst hx; subst hy
      rw [mkIff_den]
      simp only [Op.equalIn, Sem.run_bind, run_underlying hu, Result.andThen_ok]
      rfl
    · cases h
  · obtain ⟨e, rfl⟩ := hl
    split at h
    · cases h; simp only [conc, Option.some.injEq] at hx hy; subst hx; subst hy; simp only [Op.equalIn, Sem.run_bind, run_underlying hu, Result.andThen_ok]; rfl
    · cases h; obtain ⟨q, _, rfl⟩ := slice_conc hy; simp only [conc, Option.some.injEq] at hx; subst hx; simp only [Op.equalIn, Sem.run_bind, run_underlying hu, Result.andThen_ok]; rfl
    · cases h; obtain ⟨q, _, _, rfl⟩ := sliceX_conc hy; simp only [conc, Option.some.injEq] at hx; subst hx; simp only [Op.equalIn, Sem.run_bind, run_underlying hu, Result.andThen_ok]; rfl
    · cases h; obtain ⟨q, _, rfl⟩ := slice_conc hx; simp only [conc, Option.some.injEq] at hy; subst hy; simp only [Op.equalIn, Sem.run_bind, run_underlying hu, Result.andThen_ok]; rfl
    · cases h; obtain ⟨q, _, _, rfl⟩ := sliceX_conc hx; simp only [conc, Option.some.injEq] at hy; subst hy; simp only [Op.equalIn, Sem.run_bind, run_underlying hu, Result.andThen_ok]; rfl
    · cases h
  · obtain ⟨k, e, rfl⟩ := hl
    split at h
    · cases h; simp only [conc, Option.some.injEq] at hx hy; subst hx; subst hy; simp only [Op.equalIn, Sem.run_bind, run_underlying hu, Result.andThen_ok]; rfl
    · cases h; obtain ⟨q, _, rfl⟩ := map_conc hy; simp only [conc, Option.some.injEq] at hx; subst hx; simp only [Op.equalIn, Sem.run_bind, run_underlying hu, Result.andThen_ok]; rfl
    · cases h; obtain ⟨q, _, rfl⟩ := map_conc hx; simp only [conc, Option.some.injEq] at hy; subst hy; simp only [Op.equalIn, Sem.run_bind, run_underlying hu, Result.andThen_ok]; rfl
    · cases h
  · obtain ⟨e, rfl⟩ := hl
    split at h
    · cases h; simp only [conc, Option.some.injEq] at hx hy; subst hx; subst hy; simp only [Op.equalIn, Sem.run_bind, run_underlying hu, Result.andThen_ok]; rfl
    · cases h; obtain ⟨q, _, rfl⟩ := ptr_conc hy; simp only [conc, Option.some.injEq] at hx; subst hx; simp only [Op.equalIn, Sem.run_bind, run_underlying hu, Result.andThen_ok]; rfl
    · cases h; obtain ⟨q, _, rfl⟩ := ptr_conc hx; simp only [conc, Option.some.injEq] at hy; subst hy; simp only [Op.equalIn, Sem.run_bind, run_underlying hu, Result.andThen_ok]; rfl
    · cases h
  · obtain ⟨_, _, _, rfl⟩ := hl
    split at h
    · cases h; simp only [conc, Option.some.injEq] at hx hy; subst hx; subst hy; simp only [Op.equalIn, Sem.run_bind, run_underlying hu, Result.andThen_ok]; rfl
    · cases h; obtain ⟨_, _, _, rfl⟩ := func_conc hy; simp only [conc, Option.some.injEq] at hx; subst hx; simp only [Op.equalIn, Sem.run_bind, run_underlying hu, Result.andThen_ok]; rfl
    · cases h; obtain ⟨_, _, _, rfl⟩ := func_conc hx; simp only [conc, Option.some.injEq] at hy; subst hy; simp only [Op.equalIn, Sem.run_bind, run_underlying hu, Result.andThen_ok]; rfl
    · cases h; obtain ⟨_, _, rfl⟩ := yield_conc hy; simp only [conc, Option.some.injEq] at hx; subst hx; simp only [Op.equalIn, Sem.run_bind, run_underlying hu, Result.andThen_ok]; rfl
    · cases h; obtain ⟨_, _, rfl⟩ := yield_conc hx; simp only [conc, Option.some.injEq] at hy; subst hy; simp only [Op.equalIn, Sem.run_bind, run_underlying hu, Result.andThen_ok]; rfl
    · cases h

theorem eqCells_nil (xs ys : List AV) : eqCells xs ys [] = some (.lit true) := rfl
theorem eqCells_cons (xs ys : List AV) (q : Nat × Leaf) (ls : List (Nat × Leaf)) : eqCells xs ys (q :: ls) =
    (match listGet xs q.1, listGet ys q.1 with
      | some x, some y => (match eqLeaf q.2 x y with
        | some (.lit c) => cond c (eqCells xs ys ls) (some (.lit false))
        | some c => (match eqCells xs ys ls with
          | some d => some (.and c d)
          | none => none)
        | none => none)
      | _, _ => none) := rfl

/-- the head, and what follows if the head says yes -/
theorem eqCells_step {xs ys : List AV} {q : Nat × Leaf} {ls : List (Nat × Leaf)} {be : BE} (h : eqCells xs ys (q :: ls) = some be) (ρ : Rho) :
    ∃ x y c, xs[q.1]? = some x ∧ ys[q.1]? = some y ∧ eqLeaf q.2 x y = some c ∧ (c.den ρ = false → be.den ρ = false) ∧ (c.den ρ = true → ∃ d, eqCells xs ys ls = some d ∧ be.den ρ = d.den ρ) := by
  rw [eqCells_cons] at h
  simp only [listGet_eq] at h
  split at h
  · rename_i x y hx hy
    split at h
    · rename_i c hc
      refine ⟨x, y, .lit c, hx, hy, hc, ?_, ?_⟩
      · intro hf; simp only [BE.den] at hf; subst hf; cases h; rfl
      · intro ht; simp only [BE.den] at ht; subst ht; exact ⟨be, h, rfl⟩
    · rename_i c _ hc
      split at h
      · rename_i d hd
        cases h
        refine ⟨x, y, c, hx, hy, hc, ?_, ?_⟩
        · intro hf; simp only [BE.den, hf, Bool.false_and]
        · intro ht; exact ⟨d, hd, by simp only [BE.den, ht, Bool.true_and]⟩
      · cases h
    · cases h
  · cases h

/-- a part of the cells, as a type reads it -/
def PartAt (i : TI) (vs : List Value) (off : Nat) (u : Value) : Prop :=
  if i.isAgg = true then u = .agg ((vs.drop off).take i.size).toArray else vs[off]? = some u

theorem part_sub {P : Program} {ty : Nat → Option TI} (T : TyOk P ty) {t : Nat} {j : TI} (ht : ty t = some j) {vs : List Value} {off o size : Nat} {u : Value} (h : PartAt j vs (off + o) u) (hle : o + j.size ≤ size) (h1 : 1 ≤ j.size) (w : World) :
    (part t ((vs.drop off).take size).toArray o).run P w = .ok u w := by
  unfold PartAt at h
  unfold part
  simp only [Sem.run_bind, run_isAgg T ht, Result.andThen_ok]
  cases hagg : j.isAgg with
  | true =>
    rw [hagg, if_pos rfl] at h
    subst h
    simp only [if_true, Sem.run_bind, run_size T ht, Result.andThen_ok, pure, Sem.run]
    congr 2
    apply Array.ext'
    simp only [Array.toList_extract, List.extract_eq_take_drop, List.drop_take, List.drop_drop, List.take_take]
    congr 1
    omega
  | false =>
    rw [hagg, if_neg (by simp)] at h
    simp only [Bool.false_eq_true, if_false]
    have : ((vs.drop off).take size).toArray[o]? = some u := by
      simp only [List.getElem?_toArray, List.getElem?_take, List.getElem?_drop]
      rw [if_pos (by omega), h]
    rw [this]
    rfl

def eqElems (d : Nat) (e : TypeId) (n : Nat) (xs ys : Array Value) : List Nat → Sem Bool
  | [] => pure true
  | i :: l => do
    let a ← part e xs (i * n)
    let b ← part e ys (i * n)
    let r ← Op.equalIn d e a b
    if (!r) = true then pure false else eqElems d e n xs ys l

theorem run_equalIn_array {P : Program} (w : World) (d t e len n : Nat) (xs ys : Array Value) (hu : P.underlying t = some (.array len e)) (hn : ∀ w, (sizeOf e).run P w = .ok n w) :
    (Op.equalIn (d + 1) t (.agg xs) (.agg ys)).run P w = (eqElems d e n xs ys (List.range' 0 len)).run P w := by
  simp only [Op.equalIn, Sem.run_bind, run_underlying hu, Result.andThen_ok, hn]
  rw [Std.Legacy.Range.forIn_eq_forIn_range']
  have hs : (Std.Legacy.Range.size { stop := len, step_pos := Nat.zero_lt_one : Std.Legacy.Range }) = len := by simp [Std.Legacy.Range.size]
  rw [hs]
  show ((Sem.run P (forIn (List.range' 0 len 1) _ _) w).andThen _) = _
  generalize List.range' 0 len 1 = l
  induction l generalizing w with
  | nil => simp [eqElems]
  | cons i l ih =>
    simp only [List.forIn_cons, eqElems, Sem.run_bind, Sem.run_ite]
    generalize (part e xs (i * n)).run P w = r1
    cases r1 with
    | ok a w1 =>
      simp only [Result.andThen_ok]
      generalize (part e ys (i * n)).run P w1 = r2
      cases r2 with
      | ok b w2 =>
        simp only [Result.andThen_ok]
        generalize (Op.equalIn d e a b).run P w2 = r3
        cases r3 with
        | ok r w3 =>
          cases r
          · simp only [Result.andThen_ok, Bool.not_false, if_true, Sem.run_pure]
          · simp only [Result.andThen_ok, Bool.not_true, Bool.false_eq_true, if_false, Sem.run_pure]
            exact ih w3
        | halt x w3 => simp [Result.andThen]
      | halt x w2 => simp [Result.andThen]
    | halt x w1 => simp [Result.andThen]

/-- what a comparison says, and what is owed of the rest -/
def Says (ρ : Rho) (xs ys : List AV) (rest : List (Nat × Leaf)) (be : BE) (r : Bool) : Prop :=
  (r = false → be.den ρ = false) ∧ (r = true → ∃ e, eqCells xs ys rest = some e ∧ be.den ρ = e.den ρ)

theorem leavesF_cons {ty : Nat → Option TI} {g : TypeId → Nat → Option (List (Nat × Leaf))} {off size : Nat} {f : Field} {fs : List Field} {ls : List (Nat × Leaf)} (h : leavesF ty g off size (f :: fs) = some ls) :
    ∃ j a b, ty f.type = some j ∧ f.name ≠ "_" ∧ 1 ≤ j.size ∧ f.offset + j.size ≤ size ∧ g f.type (off + f.offset) = some a ∧ leavesF ty g off size fs = some b ∧ ls = a ++ b := by
  simp only [leavesF] at h
  cases hj : ty f.type with
  | none => rw [hj] at h; cases h
  | some j =>
    rw [hj] at h
    simp only at h
    cases hc : and (and (Bool.not (f.name == "_")) (Nat.ble 1 j.size)) (Nat.ble (f.offset + j.size) size) with
    | false => rw [hc] at h; cases h
    | true =>
      rw [hc, cond_true] at h
      obtain ⟨c1, c2⟩ := Bool.and_eq_true_iff.1 hc
      obtain ⟨c1, c3⟩ := Bool.and_eq_true_iff.1 c1
      split at h
      · rename_i a b ha hb
        cases h
        exact ⟨j, a, b, rfl, by simpa using c1, ble_t.1 c3, ble_t.1 c2, ha, hb, rfl⟩
      · cases h

theorem leavesA_cons {g : Nat → Option (List (Nat × Leaf))} {size n off : Nat} {ls : List (Nat × Leaf)} (h : leavesA g size (n + 1) off = some ls) :
    ∃ a b, g off = some a ∧ leavesA g size n (off + size) = some b ∧ ls = a ++ b := by
  simp only [leavesA] at h
  split at h
  · rename_i a b ha hb
    cases h
    exact ⟨a, b, ha, hb, rfl⟩
  · cases h

theorem eq_leaves {P : Program} {ty : Nat → Option TI} (T : TyOk P ty) (w : World) {E : Env} {xs ys : List AV} {vs us : List Value} (hx : concL E xs = some vs) (hy : concL E ys = some us) :
    ∀ (d t off : Nat) (ls : List (Nat × Leaf)) (i : TI), leaves ty d t off = some ls → ty t = some i → ∀ (D : Nat), d ≤ D → ∀ (rest : List (Nat × Leaf)) (be : BE), eqCells xs ys (ls ++ rest) = some be →
      ∃ u v r, PartAt i vs off u ∧ PartAt i us off v ∧ (Op.equalIn D t u v).run P w = .ok r w ∧ Says E.ρ xs ys rest be r := by
  intro d
  induction d with
  | zero => intro t off ls i h; cases h
  | succ d ih =>
    intro t off ls i h ht D hD rest be he
    obtain ⟨D, rfl⟩ : ∃ D', D = D' + 1 := ⟨D - 1, by omega⟩
    have hu := T.und t i ht
    simp only [leaves, ht] at h
    have leaf : ∀ l : Leaf, LeafOf i.desc l → i.isAgg = false → ls = [(off, l)] → ∃ u v r, PartAt i vs off u ∧ PartAt i us off v ∧ (Op.equalIn (D + 1) t u v).run P w = .ok r w ∧ Says E.ρ xs ys rest be r := by
      intro l hl hagg e
      subst e
      obtain ⟨x, y, c, hx', hy', hc, hf, htt⟩ := eqCells_step he E.ρ
      obtain ⟨u, hu1, hu2⟩ := concL_get hx hx'
      obtain ⟨v, hv1, hv2⟩ := concL_get hy hy'
      refine ⟨u, v, c.den E.ρ, ?_, ?_, eqLeaf_ok hu hl hc hu1 hv1 D w, hf, htt⟩
      · unfold PartAt; rw [hagg, if_neg (by simp)]; exact hu2
      · unfold PartAt; rw [hagg, if_neg (by simp)]; exact hv2
    split at h
    · rename_i hd; exact leaf .bool hd (by unfold TI.isAgg; rw [hd]) (Option.some.inj h).symm
    · rename_i k hd; exact leaf .int ⟨k, hd⟩ (by unfold TI.isAgg; rw [hd]) (Option.some.inj h).symm
    · rename_i e hd; exact leaf .nilS ⟨e, hd⟩ (by unfold TI.isAgg; rw [hd]) (Option.some.inj h).symm
    · rename_i k e hd; exact leaf .nilM ⟨k, e, hd⟩ (by unfold TI.isAgg; rw [hd]) (Option.some.inj h).symm
    · rename_i e hd; exact leaf .nilP ⟨e, hd⟩ (by unfold TI.isAgg; rw [hd]) (Option.some.inj h).symm
    · rename_i x1 x2 x3 hd; exact leaf .nilF ⟨x1, x2, x3, hd⟩ (by unfold TI.isAgg; rw [hd]) (Option.some.inj h).symm
    · rename_i fs hd
      have hagg : i.isAgg = true := by unfold TI.isAgg; rw [hd]
      cases hok : i.eqOk with
      | false => rw [hok] at h; cases h
      | true =>
        rw [hok, cond_true] at h
        rw [hd] at hu
        have hfo : P.fieldsOf t = fs := by unfold Program.fieldsOf; rw [hu]
        have hu' : P.underlying t = some (.struct (P.fieldsOf t)) := by rw [hfo]; exact hu
        have key : ∀ (fl : List Field) (ls : List (Nat × Leaf)) (be : BE), leavesF ty (leaves ty d) off i.size fl = some ls → eqCells xs ys (ls ++ rest) = some be →
            ∃ r, (Op.eqFields D ((vs.drop off).take i.size).toArray ((us.drop off).take i.size).toArray fl).run P w = .ok r w ∧ Says E.ρ xs ys rest be r := by
          intro fl
          induction fl with
          | nil =>
            intro ls be hl he
            simp only [leavesF, Option.some.injEq] at hl
            subst hl
            exact ⟨true, rfl, fun e => (by cases e), fun _ => ⟨be, he, rfl⟩⟩
          | cons f fl ihf =>
            intro ls be hl he
            obtain ⟨j, a, b, hj, hname, h1, hle, ha, hb, rfl⟩ := leavesF_cons hl
            rw [List.append_assoc] at he
            obtain ⟨u, v, r, hpu, hpv, hrun, hs1, hs2⟩ := ih f.type (off + f.offset) a j ha hj D (by omega) (b ++ rest) be he
            have e1 := part_sub T hj hpu hle h1 w
            have e2 := part_sub T hj hpv hle h1 w
            simp only [Op.eqFields, if_pos hname, Sem.run_bind, e1, e2, hrun, Result.andThen_ok]
            cases r with
            | false => exact ⟨false, rfl, fun _ => hs1 rfl, fun e => (by cases e)⟩
            | true =>
              obtain ⟨e', he', hden⟩ := hs2 rfl
              obtain ⟨r', hrun', h1', h2'⟩ := ihf b e' hb he'
              exact ⟨r', by simpa using hrun', fun hr => hden.trans (h1' hr), fun hr => let ⟨e2, h3, h4⟩ := h2' hr; ⟨e2, h3, hden.trans h4⟩⟩
        obtain ⟨r, hrun, hs⟩ := key fs.toList ls be h he
        refine ⟨_, _, r, by unfold PartAt; rw [if_pos hagg], by unfold PartAt; rw [if_pos hagg], ?_, hs⟩
        rw [run_equalIn_struct w D t _ _ hu' (T.eqOk t i ht hok).1, hfo]
        exact hrun
    · rename_i n e hd
      have hagg : i.isAgg = true := by unfold TI.isAgg; rw [hd]
      cases hok : i.eqOk with
      | false => rw [hok] at h; cases h
      | true =>
        rw [hok, cond_true] at h
        rw [hd] at hu
        cases hj : ty e with
        | none => rw [hj] at h; cases h
        | some j =>
          rw [hj] at h
          simp only at h
          cases hc : and (Nat.ble 1 j.size) (Nat.ble (n * j.size) i.size) with
          | false => rw [hc] at h; cases h
          | true =>
            rw [hc, cond_true] at h
            obtain ⟨c1, c2⟩ := Bool.and_eq_true_iff.1 hc
            have c1 := ble_t.1 c1
            have c2 := ble_t.1 c2
            have key : ∀ (m k : Nat) (ls : List (Nat × Leaf)) (be : BE), k + m = n → leavesA (leaves ty d e) j.size m (off + k * j.size) = some ls → eqCells xs ys (ls ++ rest) = some be →
                ∃ r, (eqElems D e j.size ((vs.drop off).take i.size).toArray ((us.drop off).take i.size).toArray (List.range' k m)).run P w = .ok r w ∧ Says E.ρ xs ys rest be r := by
              intro m
              induction m with
              | zero =>
                intro k ls be _ hl he
                simp only [leavesA, Option.some.injEq] at hl
                subst hl
                exact ⟨true, rfl, fun e => (by cases e), fun _ => ⟨be, he, rfl⟩⟩
              | succ m ihm =>
                intro k ls be hk hl he
                obtain ⟨a, b, ha, hb, rfl⟩ := leavesA_cons hl
                rw [List.append_assoc] at he
                obtain ⟨u, v, r, hpu, hpv, hrun, hs1, hs2⟩ := ih e (off + k * j.size) a j ha hj D (by omega) (b ++ rest) be he
                have hle : k * j.size + j.size ≤ i.size := by
                  have : (k + 1) * j.size ≤ n * j.size := Nat.mul_le_mul_right _ (by omega)
                  rw [Nat.succ_mul] at this
                  omega
                have e1 := part_sub T hj hpu hle c1 w
                have e2 := part_sub T hj hpv hle c1 w
                rw [show List.range' k (m + 1) = k :: List.range' (k + 1) m from by simp [List.range'_succ]]
                simp only [eqElems, Sem.run_bind, e1, e2, hrun, Result.andThen_ok]
                cases r with
                | false => exact ⟨false, rfl, fun _ => hs1 rfl, fun e => (by cases e)⟩
                | true =>
                  obtain ⟨e', he', hden⟩ := hs2 rfl
                  obtain ⟨r', hrun', h1', h2'⟩ := ihm (k + 1) b e' (by omega) (by rw [Nat.succ_mul, ← Nat.add_assoc]; exact hb) he'
                  exact ⟨r', by simpa using hrun', fun hr => hden.trans (h1' hr), fun hr => let ⟨e2, h3, h4⟩ := h2' hr; ⟨e2, h3, hden.trans h4⟩⟩
            obtain ⟨r, hrun, hs⟩ := key n 0 ls be (by omega) (by simpa using h) he
            refine ⟨_, _, r, by unfold PartAt; rw [if_pos hagg], by unfold PartAt; rw [if_pos hagg], ?_, hs⟩
            rw [run_equalIn_array w D t e n j.size _ _ hu (fun w => run_size T hj w)]
            exact hrun
    · cases h

/-- TWO VALUES OF A TYPE. -/
theorem eqV_ok {P : Program} {ty : Nat → Option TI} (T : TyOk P ty) (w : World) {E : Env} {t : Nat} {i : TI} (ht : ty t = some i) {ls : List (Nat × Leaf)} (hl : leaves ty 12 t 0 = some ls) {x y : AV} {be : BE} (h : eqV i.isAgg i.size ls x y = some be)
    {u v : Value} (hx : conc E x = some u) (hy : conc E y = some v) : (Op.equal t u v).run P w = .ok (be.den E.ρ) w := by
  unfold Op.equal
  unfold eqV at h
  have fin : ∀ {xs ys : List AV} {r : Bool}, Says E.ρ xs ys [] be r → r = be.den E.ρ := by
    intro xs ys r hs
    cases r with
    | false => exact (hs.1 rfl).symm
    | true =>
      obtain ⟨e, he, hd⟩ := hs.2 rfl
      rw [eqCells_nil] at he
      cases he
      exact hd.symm
  cases hagg : i.isAgg with
  | true =>
    rw [hagg, cond_true] at h
    split at h
    · rename_i xs ys
      obtain ⟨vs, hvs, rfl⟩ := agg_conc hx
      obtain ⟨us, hus, rfl⟩ := agg_conc hy
      have hc : and (Nat.beq (lLen xs) i.size) (Nat.beq (lLen ys) i.size) = true := by
        cases hb : and (Nat.beq (lLen xs) i.size) (Nat.beq (lLen ys) i.size) with
        | true => rfl
        | false => rw [hb] at h; cases h
      rw [hc, cond_true] at h
      obtain ⟨c1, c2⟩ := Bool.and_eq_true_iff.1 hc
      rw [lLen_eq] at c1 c2
      rw [← List.append_nil ls] at h
      obtain ⟨u', v', r, hpu, hpv, hrun, hs⟩ := eq_leaves T w hvs hus 12 t 0 ls i hl ht Op.maxDepth (by decide) [] be h
      unfold PartAt at hpu hpv
      rw [if_pos hagg] at hpu hpv
      have l1 : vs.length = i.size := by rw [concL_len hvs]; exact beq_t.1 c1
      have l2 : us.length = i.size := by rw [concL_len hus]; exact beq_t.1 c2
      rw [List.drop_zero, ← l1, List.take_length] at hpu
      rw [List.drop_zero, ← l2, List.take_length] at hpv
      rw [hpu, hpv] at hrun
      rw [hrun, fin hs]
    · cases h
  | false =>
    rw [hagg, cond_false] at h
    have hxy : eqCells [x] [y] ls = some be := by
      revert h
      split
      · intro h; cases h
      · intro h; cases h
      · exact fun h => h
    rw [← List.append_nil ls] at hxy
    obtain ⟨u', v', r, hpu, hpv, hrun, hs⟩ := eq_leaves T w (xs := [x]) (ys := [y]) (concL_cons.2 ⟨u, [], hx, rfl, rfl⟩) (concL_cons.2 ⟨v, [], hy, rfl, rfl⟩) 12 t 0 ls i hl ht Op.maxDepth (by decide) [] be hxy
    unfold PartAt at hpu hpv
    rw [hagg, if_neg (by simp)] at hpu hpv
    simp only [List.getElem?_cons_zero, Option.some.injEq] at hpu hpv
    subst hpu; subst hpv
    rw [hrun, fin hs]

end Go.Sx
