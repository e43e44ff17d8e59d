/- THE OPERATIONS, ON: slices of slices; lengths; the greatest and the least; new slices; what is built of parts. -/
import Derived.Test.YtaapomafjjikhaaGreatDoorSxOps2
/-! THE OPERATIONS, ON: addresses, parts, slices, new maps and slices, structs that are built. -/
namespace Go.Sx
open Go.RowKit

theorem add_mk (c o n : Nat) : (⟨c, o, none⟩ : Addr).add n = ⟨c, o + n, none⟩ := by
  unfold Addr.add
  split
  · rename_i h; subst h; rfl
  · rfl

/-! ## Function values; maps -/
theorem cOpds_some {n : Nat} {keep : List Nat} {E : Env} {tm : Tm} {a : Act} (H : TmOk n keep E tm a.tmps) (G : ∀ b, b < 1000 → E.σ b = some (b, 0)) :
    ∀ {xs : List Operand} {ys : List Opd}, cOpds xs = some ys → lAll notBad (evs tm ys) = true → concL E (evs tm ys) = some (xs.map a.eval)
  | [], ys, h, _ => by simp only [cOpds, Option.some.injEq] at h; subst h; rfl
  | x :: xs, ys, h, hb => by
    simp only [cOpds] at h
    cases hx : cOpd x with
    | none => rw [hx] at h; cases h
    | some y =>
      cases hl : cOpds xs with
      | none => rw [hx, hl] at h; cases h
      | some l =>
        rw [hx, hl] at h; cases h
        have he : evs tm (y :: l) = ev tm y :: evs tm l := rfl
        rw [he, lAll_eq, List.all_cons, Bool.and_eq_true, ← lAll_eq] at hb
        rw [he]
        exact concL_cons.2 ⟨_, _, opd_some H hx hb.1 G, cOpds_some H G hl hb.2, rfl⟩

theorem func_ok {p : Par} {fn : Fn} (hf : notYield fn = true) {xs zs : Array Operand} {ys us : List Opd} (h1 : cOpds xs.toList = some ys) (h2 : cOpds zs.toList = some us) {o : Oper} (ho : o.op = .makeFunc fn xs zs) : InsOk p (iFunc fn ys us) o := by
  intro cx n keep E w0 tm h a w Q K _ HT HH k P
  simp only [iFunc, rFunc] at k
  cases hb : and (lAll notBad (evs tm ys)) (lAll notBad (evs tm us)) with
  | false => rw [hb] at k; exact k.elim
  | true =>
    rw [hb] at k
    obtain ⟨b1, b2⟩ := Bool.and_eq_true_iff.1 hb
    have hex : execOp a.eval o = (do let x ← Instr.makeFunc fn (xs.map a.eval) (zs.map a.eval); pure (Next.value x)) := by unfold execOp; rw [ho]
    rw [hex]
    refine does_value (v := .func fn (xs.map a.eval) (zs.map a.eval)) (w' := w) rfl (P.same HH k ?_)
    have e1 := cOpds_some HT HH.glob h1 b1
    have e2 := cOpds_some HT HH.glob h2 b2
    simp only [conc, e1, e2]
    have t : ∀ xs : Array Operand, (xs.toList.map a.eval).toArray = xs.map a.eval := fun xs => by rw [← Array.toList_map]
    cases fn <;> first | (cases hf; done) | simp [t]

theorem mkmap_ok {p : Par} {t : TypeId} {o : Oper} (ho : o.op = .makeMap t none) : InsOk p iMkmap o := by
  intro cx n keep E w0 tm h a w Q K _ HT HH k P
  have hex : execOp a.eval o = (do let x ← Instr.makeMap t none; pure (Next.value x)) := by unfold execOp; rw [ho]; rfl
  rw [hex]
  refine does_value (v := .map (some w.heap.size)) (w' := w.alloc (.map #[] 0)) rfl ?_
  refine P _ _ (E.with h.next (w.heap.size, 0) 0) _ _ k (Env.with_le (HH.fresh _ (Nat.le_refl _)) HH.nx _ _) ?_ (by simp [conc, Env.with_at])
  exact HH.alloc rfl ⟨w.heap.size, [], Env.with_at _ _ _ _, trivial, by simp⟩

/-! ## Addresses of parts -/
theorem cField_some {ty : Nat → Option TI} {t f : Nat} {q : Field × TI} (h : cField ty t f = some q) : ∃ i fs, ty t = some i ∧ i.desc = .struct fs ∧ fs[f]? = some q.1 ∧ ty q.1.type = some q.2 := by
  unfold cField at h
  cases ht : ty t with
  | none => rw [ht] at h; cases h
  | some i =>
    rw [ht] at h
    simp only at h
    split at h
    · rename_i fs hd
      split at h
      · rename_i f' hf
        split at h
        · rename_i j hj
          cases h
          exact ⟨i, fs, rfl, hd, by simpa using hf, hj⟩
        · cases h
      · cases h
    · cases h

theorem faddr_ok {p : Par} {ty : Nat → Option TI} (T : TyOk p.P ty) {t f : Nat} {q : Field × TI} (hq : cField ty t f = some q) (h1 : 1 ≤ q.2.size) {x : Operand} {y : Opd} (hx : cOpd x = some y) {o : Oper} (ho : o.op = .fieldAddr t x f) :
    InsOk p (iFaddr q.1.offset y) o := by
  intro cx n keep E w0 tm h a w Q K _ HT HH k P
  obtain ⟨r, hr, qq⟩ := holds_mk2 k
  have hex : execOp a.eval o = (do let x ← Instr.fieldAt t (a.eval x) f; pure (Next.value x)) := by unfold execOp; rw [ho]
  rw [hex]
  unfold faddrA at hr
  split at hr
  · rename_i b off he
    cases hr
    obtain ⟨i, fs, ht, hd, hf, hj⟩ := cField_some hq
    have hv := opd_some HT hx (by rw [he]; rfl) HH.glob
    rw [he] at hv
    obtain ⟨q', hq', hv'⟩ := ptr_conc hv
    have hu := T.und t i ht
    rw [hd] at hu
    rw [hv']
    refine does_value (v := .pointer (some ⟨q'.1, q'.2 + off + q.1.offset, none⟩)) (w' := w) ?_ (P.same HH qq ?_)
    · unfold Instr.fieldAt
      simp only [Sem.run_bind, run_underlying hu, Result.andThen_ok, hf]
      unfold Instr.sureAddr fieldPlace
      simp only [Sem.run_bind, pure, Sem.run, Result.andThen_ok, run_size T hj]
      rw [if_neg (by omega)]
      simp only [Sem.run, Result.andThen_ok, add_mk]
    · simp [conc, hq', Nat.add_assoc]
  · rename_i b i' sz off e he
    cases hr
    obtain ⟨i, fs, ht, hd, hf, hj⟩ := cField_some hq
    have hv := opd_some HT hx (by rw [he]; rfl) HH.glob
    rw [he] at hv
    obtain ⟨q', hq', hp, hl, hv'⟩ := ptrV_conc hv
    have hu := T.und t i ht
    rw [hd] at hu
    rw [hv']
    refine does_value (v := .pointer (some ⟨q'.1, q'.2 + (e.den E.ρ).toNat * sz + off + q.1.offset, none⟩)) (w' := w) ?_ (P.same HH qq ?_)
    · unfold Instr.fieldAt
      simp only [Sem.run_bind, run_underlying hu, Result.andThen_ok, hf]
      unfold Instr.sureAddr fieldPlace
      simp only [Sem.run_bind, pure, Sem.run, Result.andThen_ok, run_size T hj]
      rw [if_neg (by omega)]
      simp only [Sem.run, Result.andThen_ok, add_mk]
    · simp [conc, hq', hp, hl, Nat.add_assoc]
  · cases hr

theorem partA_ok {P : Program} {ty : Nat → Option TI} (T : TyOk P ty) {t : Nat} {i : TI} (ht : ty t = some i) {E : Env} {cs : List AV} {vs : List Value} (hv : concL E cs = some vs) {off : Nat} {r : AV}
    (h : partA i.isAgg cs off i.size = some r) (w : World) : ∃ v, conc E r = some v ∧ (part t vs.toArray off).run P w = .ok v w := by
  unfold partA at h
  cases hagg : i.isAgg with
  | true =>
    rw [hagg, cond_true] at h
    simp only [Option.map_eq_some_iff] at h
    obtain ⟨l, hl, rfl⟩ := h
    obtain ⟨hle, rfl⟩ := listSub_eq hl
    refine ⟨.agg ((vs.drop off).take i.size).toArray, by simp [conc, concL_take (concL_drop hv off) i.size], ?_⟩
    unfold part
    simp only [Sem.run_bind, run_isAgg T ht, hagg, Result.andThen_ok, if_true, run_size T ht]
    simp [pure, List.extract_eq_take_drop]
  | false =>
    rw [hagg, cond_false, listGet_eq] at h
    obtain ⟨v, hc, hi⟩ := concL_get hv h
    refine ⟨v, hc, ?_⟩
    unfold part
    simp only [Sem.run_bind, run_isAgg T ht, hagg, Result.andThen_ok, Bool.false_eq_true, if_false]
    simp [hi, pure]

theorem agg_conc {E : Env} {cs : List AV} {v : Value} (h : conc E (.agg cs) = some v) : ∃ vs, concL E cs = some vs ∧ v = .agg vs.toArray := by
  simp only [conc, Option.map_eq_some_iff] at h
  obtain ⟨l, hl, rfl⟩ := h
  exact ⟨l, hl, rfl⟩

theorem field_ok {p : Par} {ty : Nat → Option TI} (T : TyOk p.P ty) {t f : Nat} {q : Field × TI} (hq : cField ty t f = some q) {x : Operand} {y : Opd} (hx : cOpd x = some y) {o : Oper} (ho : o.op = .field t x f) :
    InsOk p (iField q.2.isAgg q.1.offset q.2.size y) o := by
  intro cx n keep E w0 tm h a w Q K _ HT HH k P
  obtain ⟨r, hr, qq⟩ := holds_mk2 k
  have hex : execOp a.eval o = (do let x ← Instr.field t (a.eval x) f; pure (Next.value x)) := by unfold execOp; rw [ho]
  rw [hex]
  unfold fieldA at hr
  split at hr
  · rename_i cs he
    obtain ⟨i, fs, ht, hd, hf, hj⟩ := cField_some hq
    have hv := opd_some HT hx (by rw [he]; rfl) HH.glob
    rw [he] at hv
    obtain ⟨vs, hvs, hv'⟩ := agg_conc hv
    obtain ⟨u, hu, hrun⟩ := partA_ok T hj hvs hr w
    have hund := T.und t i ht
    rw [hd] at hund
    rw [hv']
    refine does_value (v := u) (w' := w) ?_ (P.same HH qq hu)
    unfold Instr.field
    simp only [Sem.run_bind, run_underlying hund, Result.andThen_ok, hf]
    unfold asAgg
    simp only [pure, Sem.run, Result.andThen_ok, hrun]
  · cases hr

theorem asNat_some {v : AV} {n : Nat} (h : asNat v = some n) : ∃ k, v = .int k (.lit (Int.ofNat n)) := by
  unfold asNat at h
  split at h
  · cases h; exact ⟨_, rfl⟩
  · cases h

theorem rIaddrC_holds {h : Heap} {size : Nat} {x : AV} {k : IntKind} {e : IE} {ρ : Rho} {Q : AV × Heap → Prop} : ∀ n : Nat, e.den ρ < n → (rIaddrC h size x k e n).Holds ρ Q →
    ∃ m : Nat, e.den ρ = Int.ofNat m ∧ (mk2 h 18 (aiaddr size x (.int k (.lit (Int.ofNat m))))).Holds ρ Q
  | 0, _, h => absurd h id
  | n + 1, hn, hh => by
    have hh : (T.br (.cmp .leq (.lit (Int.ofNat n)) e) (mk2 h 18 (aiaddr size x (.int k (.lit (Int.ofNat n))))) (rIaddrC h size x k e n)).Holds ρ Q := hh
    simp only [Sx.T.Holds] at hh
    split at hh
    · rename_i hc
      have hc : decide (Int.ofNat n ≤ e.den ρ) = true := hc
      have hc := of_decide_eq_true hc
      refine ⟨n, ?_, hh⟩
      simp only [Int.ofNat_eq_natCast] at hc ⊢
      omega
    · rename_i hc
      have hc : ¬ decide (Int.ofNat n ≤ e.den ρ) = true := hc
      have hc : ¬ Int.ofNat n ≤ e.den ρ := fun h => hc (decide_eq_true h)
      simp only [Int.ofNat_eq_natCast] at hc
      exact rIaddrC_holds n (by omega) hh
theorem rIaddrS_holds {h : Heap} {size : Nat} {x : AV} {k : IntKind} {e : IE} {ρ : Rho} {Q : AV × Heap → Prop} {n : Nat} (hh : (T.br (.and (.cmp .leq (.lit 0) e) (.cmp .lss e (.lit (Int.ofNat n)))) (rIaddrC h size x k e n) (.fail 18)).Holds ρ Q) :
    ∃ m : Nat, e.den ρ = Int.ofNat m ∧ (mk2 h 18 (aiaddr size x (.int k (.lit (Int.ofNat m))))).Holds ρ Q := by
  simp only [Sx.T.Holds] at hh
  split at hh
  · rename_i hc
    refine rIaddrC_holds n ?_ hh
    simp only [BE.den, cmpDen, IE.den, Bool.and_eq_true] at hc
    have := of_decide_eq_true hc.2
    simpa using this
  · exact hh.elim

theorem iaddr_ok {p : Par} {ty : Nat → Option TI} (T : TyOk p.P ty) {t e : Nat} {i j : TI} (ht : ty t = some i) (hd : i.desc = .slice e) (he : ty e = some j) {x1 x2 : Operand} {y1 y2 : Opd} (h1 : cOpd x1 = some y1) (h2 : cOpd x2 = some y2)
    {o : Oper} (ho : o.op = .indexAddr t x1 x2) : InsOk p (iIaddr j.size y1 y2) o := by
  intro cx n keep E w0 tm h a w Q K _ HT HH k P
  have hex : execOp a.eval o = (do let x ← Instr.indexAt t (a.eval x1) (a.eval x2); pure (Next.value x)) := by unfold execOp; rw [ho]
  rw [hex]
  by_cases hV : ∃ b i, ev tm y1 = .sliceV b i
  · obtain ⟨b, iv, hb⟩ := hV
    unfold iIaddr rIaddr at k
    rw [hb] at k
    simp only [rIaddrV] at k
    split at k
    · rename_i kk e hm
      simp only [Sx.T.Holds] at k
      split at k
      · rename_i hc
        have hv2 : a.eval x2 = .int kk (e.den E.ρ) := opd_ok HT h2 (by rw [hm]; rfl) HH.glob
        have hu := T.und t i ht
        rw [hd] at hu
        have hv := opd_some HT h1 (by rw [hb]; rfl) HH.glob
        rw [hb] at hv
        obtain ⟨q, hq, hn, hv'⟩ := sliceV_conc hv
        have hc' : 0 ≤ e.den E.ρ ∧ e.den E.ρ < E.ρ.iv iv := by
          simp only [BE.den, cmpDen, IE.den, Bool.and_eq_true] at hc
          exact ⟨of_decide_eq_true hc.1, of_decide_eq_true hc.2⟩
        rw [hv', hv2]
        refine does_value (v := .pointer (some ⟨q.1, q.2 + (e.den E.ρ).toNat * j.size + 0, none⟩)) (w' := w) ?_ (P.same HH k (by simp [conc, hq, hc'.1, hc'.2]))
        unfold Instr.indexAt asIntOf
        simp only [Sem.run_bind, pure, Sem.run, Result.andThen_ok, run_underlying hu]
        rw [if_pos (by constructor <;> omega)]
        simp only [Sem.run_bind, Sem.run, Result.andThen_ok, run_size T he, add_mk]
        rfl
      · exact absurd k id
    · exact absurd k id
  have kz : ∃ z, (∀ v, conc E z = some v → a.eval x2 = v) ∧ (mk2 h 18 (aiaddr j.size (ev tm y1) z)).Holds E.ρ Q := by
    have k : (rIaddrS h j.size (ev tm y1) (ev tm y2)).Holds E.ρ Q := by
      unfold iIaddr rIaddr at k
      split at k
      · rename_i b i' hb; exact absurd ⟨b, i', hb⟩ hV
      · exact k
    unfold rIaddrS at k
    split at k
    · rename_i v hv
      exact ⟨ev tm y2, fun v hv => opd_ok HT h2 hv HH.glob, by rw [hv]; exact k⟩
    · split at k
      · rename_i kk e hm
        obtain ⟨m, he, k⟩ := rIaddrS_holds k
        refine ⟨.int kk (.lit (Int.ofNat m)), fun v hv => ?_, k⟩
        simp only [conc, Option.some.injEq] at hv
        rw [← hv]
        exact opd_ok HT h2 (by rw [hm]; simp only [conc, he]; rfl) HH.glob
      · exact absurd k id
  obtain ⟨z, hz, k⟩ := kz
  obtain ⟨r, hr, qq⟩ := holds_mk2 k
  unfold aiaddr at hr
  split at hr
  · rename_i m hm
    obtain ⟨kk, hm'⟩ := asNat_some hm
    have hv2 : a.eval x2 = .int kk (Int.ofNat m) := hz _ (by rw [hm']; rfl)
    have hu := T.und t i ht
    rw [hd] at hu
    split at hr
    · rename_i b off len cap hb
      cases hc : Nat.ble (Nat.succ m) len with
      | false => rw [hc] at hr; cases hr
      | true =>
        rw [hc] at hr; cases hr
        have hlt : m < len := ble_t.1 hc
        have hv := opd_some HT h1 (by rw [hb]; rfl) HH.glob
        rw [hb] at hv
        simp only [conc, Option.map_eq_some_iff] at hv
        obtain ⟨q, hq, hv⟩ := hv
        rw [← hv, hv2]
        refine does_value (v := .pointer (some ⟨q.1, q.2 + off + m * j.size, none⟩)) (w' := w) ?_ (P.same HH qq (by simp [conc, hq, Nat.add_assoc]))
        unfold Instr.indexAt asIntOf
        simp only [Sem.run_bind, pure, Sem.run, Result.andThen_ok, run_underlying hu]
        rw [if_pos (by constructor <;> simp only [Int.ofNat_eq_natCast] <;> omega)]
        simp only [Sem.run_bind, Sem.run, Result.andThen_ok, run_size T he, add_mk]
        rfl
    · rename_i b s lo len hb
      cases hc : and (Nat.ble (Nat.succ m) len) (Nat.beq s j.size) with
      | false => rw [hc] at hr; cases hr
      | true =>
        rw [hc] at hr; cases hr
        obtain ⟨c1, c2⟩ := Bool.and_eq_true_iff.1 hc
        have hlt : m < len := ble_t.1 c1
        have hs : s = j.size := beq_t.1 c2
        subst hs
        have hv := opd_some HT h1 (by rw [hb]; rfl) HH.glob
        rw [hb] at hv
        obtain ⟨q, hq, hle, hv'⟩ := sliceX_conc hv
        rw [if_neg (by omega)] at hv'
        rw [hv', hv2]
        refine does_value (v := .pointer (some ⟨q.1, q.2 + lo * j.size + m * j.size, none⟩)) (w' := w) ?_ (P.same HH qq (by simp [conc, hq, Nat.add_assoc]))
        unfold Instr.indexAt asIntOf
        simp only [Sem.run_bind, pure, Sem.run, Result.andThen_ok, run_underlying hu]
        rw [if_pos (by constructor <;> simp only [Int.ofNat_eq_natCast] <;> omega)]
        simp only [Sem.run_bind, Sem.run, Result.andThen_ok, run_size T he, add_mk]
        rfl
    · cases hr
  · cases hr

theorem rCaseC_holds {h : Heap} {why : Nat} {g : AV → Option AV} {k : IntKind} {e : IE} {ρ : Rho} {Q : AV × Heap → Prop} : ∀ n : Nat, e.den ρ < n → (rCaseC h why g k e n).Holds ρ Q →
    ∃ m : Nat, e.den ρ = Int.ofNat m ∧ (mk2 h why (g (.int k (.lit (Int.ofNat m))))).Holds ρ Q
  | 0, _, h => absurd h id
  | n + 1, hn, hh => by
    have hh : (T.br (.cmp .leq (.lit (Int.ofNat n)) e) (mk2 h why (g (.int k (.lit (Int.ofNat n))))) (rCaseC h why g k e n)).Holds ρ Q := hh
    simp only [Sx.T.Holds] at hh
    split at hh
    · rename_i hc
      have hc : decide (Int.ofNat n ≤ e.den ρ) = true := hc
      have hc := of_decide_eq_true hc
      refine ⟨n, ?_, hh⟩
      simp only [Int.ofNat_eq_natCast] at hc ⊢
      omega
    · rename_i hc
      have hc : ¬ decide (Int.ofNat n ≤ e.den ρ) = true := hc
      have hc : ¬ Int.ofNat n ≤ e.den ρ := fun h => hc (decide_eq_true h)
      simp only [Int.ofNat_eq_natCast] at hc
      exact rCaseC_holds n (by omega) hh
/-- by cases: one of them -/
theorem rCase_holds {h : Heap} {why n : Nat} {g : AV → Option AV} {ix : AV} {ρ : Rho} {Q : AV × Heap → Prop} (k : (rCase h why n g ix).Holds ρ Q) : ∃ z, (∀ E : Env, E.ρ = ρ → conc E z = conc E ix) ∧ (mk2 h why (g z)).Holds ρ Q := by
  unfold rCase at k
  split at k
  · rename_i v hv
    exact ⟨ix, fun _ _ => rfl, by rw [hv]; exact k⟩
  · split at k
    · rename_i kk e hm
      simp only [Sx.T.Holds] at k
      split at k
      · rename_i hc
        obtain ⟨m, he, k⟩ := rCaseC_holds n (by
          simp only [BE.den, cmpDen, IE.den, Bool.and_eq_true] at hc
          have := of_decide_eq_true hc.2
          simpa using this) k
        refine ⟨.int kk (.lit (Int.ofNat m)), fun E hE => ?_, k⟩
        simp only [conc, IE.den, hE, he]
      · exact absurd k id
    · exact absurd k id
theorem iaddrA_ok {p : Par} {ty : Nat → Option TI} (T : TyOk p.P ty) {t e len : Nat} {i j : TI} (ht : ty t = some i) (hd : i.desc = .array len e) (he : ty e = some j) {x1 x2 : Operand} {y1 y2 : Opd} (h1 : cOpd x1 = some y1) (h2 : cOpd x2 = some y2)
    {o : Oper} (ho : o.op = .indexAddr t x1 x2) : InsOk p (iIaddrA j.size len y1 y2) o := by
  intro cx n keep E w0 tm h a w Q K _ HT HH k P
  obtain ⟨z, hz, k⟩ := rCase_holds k
  obtain ⟨r, hr, qq⟩ := holds_mk2 k
  have hex : execOp a.eval o = (do let x ← Instr.indexAt t (a.eval x1) (a.eval x2); pure (Next.value x)) := by unfold execOp; rw [ho]
  rw [hex]
  unfold aiaddrA at hr
  split at hr
  · rename_i m hm
    obtain ⟨kk, hm'⟩ := asNat_some hm
    have hv2 : a.eval x2 = .int kk (Int.ofNat m) := opd_ok HT h2 (by rw [← hz E rfl, hm']; rfl) HH.glob
    have hu := T.und t i ht
    rw [hd] at hu
    split at hr
    · rename_i b off hb
      cases hc : Nat.ble (Nat.succ m) len with
      | false => rw [hc] at hr; cases hr
      | true =>
        rw [hc] at hr; cases hr
        have hlt : m < len := ble_t.1 hc
        have hv := opd_some HT h1 (by rw [hb]; rfl) HH.glob
        rw [hb] at hv
        obtain ⟨q, hq, hv'⟩ := ptr_conc hv
        rw [hv', hv2]
        refine does_value (v := .pointer (some ⟨q.1, q.2 + off + m * j.size, none⟩)) (w' := w) ?_ (P.same HH qq (by simp [conc, hq, Nat.add_assoc]))
        unfold Instr.indexAt asIntOf Instr.sureAddr
        simp only [Sem.run_bind, pure, Sem.run, Result.andThen_ok, run_underlying hu]
        rw [if_pos (by constructor <;> simp only [Int.ofNat_eq_natCast] <;> omega)]
        simp only [Sem.run_bind, Sem.run, Result.andThen_ok, run_size T he, add_mk]
        rfl
    · cases hr
  · cases hr

theorem index_ok {p : Par} {ty : Nat → Option TI} (T : TyOk p.P ty) {t e len : Nat} {i j : TI} (ht : ty t = some i) (hd : i.desc = .array len e) (he : ty e = some j) {x1 x2 : Operand} {y1 y2 : Opd} (h1 : cOpd x1 = some y1) (h2 : cOpd x2 = some y2)
    {o : Oper} (ho : o.op = .index t x1 x2) : InsOk p (iIndex j.isAgg j.size len y1 y2) o := by
  intro cx n keep E w0 tm h a w Q K _ HT HH k P
  obtain ⟨z, hz, k⟩ := rCase_holds k
  obtain ⟨r, hr, qq⟩ := holds_mk2 k
  have hex : execOp a.eval o = (do let x ← Instr.index t (a.eval x1) (a.eval x2); pure (Next.value x)) := by unfold execOp; rw [ho]
  rw [hex]
  unfold aindex at hr
  split at hr
  · rename_i m hm
    obtain ⟨kk, hm'⟩ := asNat_some hm
    have hv2 : a.eval x2 = .int kk (Int.ofNat m) := opd_ok HT h2 (by rw [← hz E rfl, hm']; rfl) HH.glob
    have hu := T.und t i ht
    rw [hd] at hu
    split at hr
    · rename_i cs hb
      cases hc : Nat.ble (Nat.succ m) len with
      | false => rw [hc] at hr; cases hr
      | true =>
        rw [hc, cond_true] at hr
        have hlt : m < len := ble_t.1 hc
        have hv := opd_some HT h1 (by rw [hb]; rfl) HH.glob
        rw [hb] at hv
        obtain ⟨vs, hvs, hv'⟩ := agg_conc hv
        obtain ⟨u, hu', hrun⟩ := partA_ok T he hvs hr w
        rw [hv', hv2]
        refine does_value (v := u) (w' := w) ?_ (P.same HH qq hu')
        unfold Instr.index asIntOf
        simp only [Sem.run_bind, pure, Sem.run, Result.andThen_ok, run_underlying hu]
        rw [if_pos (by constructor <;> simp only [Int.ofNat_eq_natCast] <;> omega)]
        simp only [Sem.run_bind, Result.andThen_ok, run_size T he]
        exact hrun
    · cases hr
  · cases hr

theorem tup_conc {E : Env} {cs : List AV} {v : Value} (h : conc E (.tup cs) = some v) : ∃ vs, concL E cs = some vs ∧ v = .tuple vs.toArray := by
  simp only [conc, Option.map_eq_some_iff] at h
  obtain ⟨l, hl, rfl⟩ := h
  exact ⟨l, hl, rfl⟩

theorem extract_ok {p : Par} {x : Operand} {y : Opd} {ix : Nat} (hx : cOpd x = some y) {o : Oper} (ho : o.op = .extract x ix) : InsOk p (iExtract ix y) o := by
  intro cx n keep E w0 tm h a w Q K _ HT HH k P
  obtain ⟨r, hr, qq⟩ := holds_mk2 k
  have hex : execOp a.eval o = (do let x ← Instr.extract (a.eval x) ix; pure (Next.value x)) := by unfold execOp; rw [ho]
  rw [hex]
  unfold extractA at hr
  split at hr
  · rename_i vs he
    rw [listGet_eq] at hr
    have hv := opd_some HT hx (by rw [he]; rfl) HH.glob
    rw [he] at hv
    obtain ⟨us, hus, hv'⟩ := tup_conc hv
    obtain ⟨u, hu, hi⟩ := concL_get hus hr
    rw [hv']
    refine does_value (v := u) (w' := w) ?_ (P.same HH qq hu)
    unfold Instr.extract
    simp [hi, pure]
  · cases hr

/-! ## Slices of slices -/
theorem natOr_some {d n : Nat} {x : Option AV} (h : natOr d x = some n) : (x = none ∧ n = d) ∨ ∃ v, x = some v ∧ asNat v = some n := by
  unfold natOr at h
  split at h
  · cases h; exact .inl ⟨rfl, rfl⟩
  · exact .inr ⟨_, rfl, h⟩

theorem cOpt_ev {n : Nat} {keep : List Nat} {E : Env} {tm : Tm} {a : Act} (H : TmOk n keep E tm a.tmps) (G : ∀ b, b < 1000 → E.σ b = some (b, 0)) {x : Option Operand} {y : Option Opd} (h : cOpt x = some y) {d m : Nat} (hm : natOr d (evo tm y) = some m) :
    (x = none ∧ m = d) ∨ ∃ z k, x = some z ∧ a.eval z = .int k (Int.ofNat m) := by
  unfold cOpt at h
  cases x with
  | none =>
    cases h
    rcases natOr_some hm with ⟨_, rfl⟩ | ⟨v, hv, _⟩
    · exact .inl ⟨rfl, rfl⟩
    · cases hv
  | some z =>
    simp only [Option.map_eq_some_iff] at h
    obtain ⟨u, hu, rfl⟩ := h
    rcases natOr_some hm with ⟨hv, _⟩ | ⟨v, hv, hn⟩
    · cases hv
    · obtain ⟨kk, hk⟩ := asNat_some hn
      have : ev tm u = v := by simp only [evo, Option.some.injEq] at hv; exact hv
      exact .inr ⟨z, kk, rfl, opd_ok H hu (by rw [this, hk]; rfl) G⟩

theorem run_bound {P : Program} {v : Value} {k : IntKind} {m y : Nat} (hv : v = .int k (Int.ofNat m)) (h : m ≤ y) (c : BoundsCode) (w : World) : (Instr.sliceBound v y c).run P w = .ok m w := by
  subst hv
  unfold Instr.sliceBound asIntOf
  simp only [Sem.run_bind, pure, Sem.run, Result.andThen_ok]
  rw [if_pos (by constructor <;> simp only [Int.ofNat_eq_natCast] <;> omega)]
  rfl

theorem run_bounds {P : Program} {n : Nat} {keep : List Nat} {E : Env} {tm : Tm} {a : Act} (H : TmOk n keep E tm a.tmps) (G : ∀ b, b < 1000 → E.σ b = some (b, 0)) {lo hi mx : Option Operand} {ylo yhi ymx : Option Opd}
    (h1 : cOpt lo = some ylo) (h2 : cOpt hi = some yhi) (h3 : cOpt mx = some ymx) {len cap l h m : Nat} (e1 : natOr 0 (evo tm ylo) = some l) (e2 : natOr len (evo tm yhi) = some h) (e3 : natOr cap (evo tm ymx) = some m)
    (hm : m ≤ cap) (hh : h ≤ m) (hl : l ≤ h) (hmx : mx.isSome = true → hi.isSome = true) (isS : Bool) (w : World) :
    (Instr.sliceBounds isS len cap (lo.map a.eval) (hi.map a.eval) (mx.map a.eval)).run P w = .ok (l, h, m) w := by
  have M := cOpt_ev H G h3 e3
  have HI := cOpt_ev H G h2 e2
  have LO := cOpt_ev H G h1 e1
  unfold Instr.sliceBounds
  rcases M with ⟨rfl, rfl⟩ | ⟨zm, km, rfl, hm'⟩
  · rcases HI with ⟨rfl, rfl⟩ | ⟨zh, kh, rfl, hh'⟩
    · rcases LO with ⟨rfl, rfl⟩ | ⟨zl, kl, rfl, hl'⟩
      · rfl
      · simp only [Option.map_none, Option.map_some, Sem.run_bind, pure, Sem.run, Result.andThen_ok, run_bound hl' hl]
    · rcases LO with ⟨rfl, rfl⟩ | ⟨zl, kl, rfl, hl'⟩
      · simp only [Option.map_none, Option.map_some, Sem.run_bind, pure, Sem.run, Result.andThen_ok, run_bound hh' hh]
      · simp only [Option.map_none, Option.map_some, Sem.run_bind, pure, Sem.run, Result.andThen_ok, run_bound hh' hh, run_bound hl' hl]
  · rcases HI with ⟨rfl, rfl⟩ | ⟨zh, kh, rfl, hh'⟩
    · cases hmx rfl
    · rcases LO with ⟨rfl, rfl⟩ | ⟨zl, kl, rfl, hl'⟩
      · simp only [Option.map_none, Option.map_some, Sem.run_bind, pure, Sem.run, Result.andThen_ok, run_bound hm' hm, run_bound hh' hh]
      · simp only [Option.map_some, Sem.run_bind, pure, Sem.run, Result.andThen_ok, run_bound hm' hm, run_bound hh' hh, run_bound hl' hl]

end Go.Sx
/-! THE OPERATIONS, ON: slices of slices; lengths; the greatest and the least; new slices; what is built of parts. -/
namespace Go.Sx
open Go.RowKit

theorem optMap_isSome {α β : Type} (f : α → β) (x : Option α) : (x.map f).isSome = x.isSome := by cases x <;> rfl

theorem sliceIn_some {b off size len cap : Nat} {lo hi mx : Option AV} {r : AV} (h : sliceIn b off size len cap lo hi mx = some r) :
    ∃ l h' m, natOr 0 lo = some l ∧ natOr len hi = some h' ∧ natOr cap mx = some m ∧ m ≤ cap ∧ h' ≤ m ∧ l ≤ h' ∧ r = .slice b (if m = l then off else off + l * size) (h' - l) (m - l) := by
  unfold sliceIn at h
  split at h
  · rename_i m h' l e3 e2 e1
    cases hc : and (Nat.ble m cap) (and (Nat.ble h' m) (Nat.ble l h')) with
    | false => rw [hc] at h; cases h
    | true =>
      rw [hc] at h
      obtain ⟨c1, c2⟩ := Bool.and_eq_true_iff.1 hc
      obtain ⟨c2, c3⟩ := Bool.and_eq_true_iff.1 c2
      refine ⟨l, h', m, e1, e2, e3, ble_t.1 c1, ble_t.1 c2, ble_t.1 c3, ?_⟩
      simp only [cond_true, Option.some.injEq] at h
      subst h
      by_cases hml : m = l
      · subst hml; simp
      · rw [beq_f.2 hml, if_neg hml]; rfl
  · cases h

theorem cOpt_isSome {x : Option Operand} {y : Option Opd} (h : cOpt x = some y) : y.isSome = x.isSome := by
  unfold cOpt at h
  cases x with
  | none => cases h; rfl
  | some z =>
    simp only [Option.map_eq_some_iff] at h
    obtain ⟨u, _, rfl⟩ := h; rfl

theorem slice_ok {p : Par} {ty : Nat → Option TI} (T : TyOk p.P ty) {t e : Nat} {i j : TI} (ht : ty t = some i) (hd : i.desc = .slice e) (he : ty e = some j) {x : Operand} {y : Opd} (hx : cOpd x = some y)
    {lo hi mx : Option Operand} {ylo yhi ymx : Option Opd} (h1 : cOpt lo = some ylo) (h2 : cOpt hi = some yhi) (h3 : cOpt mx = some ymx) (hmx : mx.isSome = true → hi.isSome = true)
    {o : Oper} (ho : o.op = .slice t x lo hi mx) : InsOk p (iSlice j.size y ylo yhi ymx) o := by
  intro cx n keep E w0 tm h a w Q K _ HT HH k P
  obtain ⟨r, hr, qq⟩ := holds_mk2 k
  have hex : execOp a.eval o = (do let x ← Instr.sliceAt t (a.eval x) (lo.map a.eval) (hi.map a.eval) (mx.map a.eval); pure (Next.value x)) := by unfold execOp; rw [ho]
  rw [hex]
  have hu := T.und t i ht
  rw [hd] at hu
  have hrun : ∀ {b : Option Addr} {len cap l h' m : Nat}, a.eval x = .slice b len cap → (∀ w, (Instr.sliceBounds true len cap (lo.map a.eval) (hi.map a.eval) (mx.map a.eval)).run p.P w = .ok (l, h', m) w) →
      (Instr.sliceAt t (a.eval x) (lo.map a.eval) (hi.map a.eval) (mx.map a.eval)).run p.P w = .ok (.slice (if m = l then b else b.map (·.add (l * j.size))) (h' - l) (m - l)) w := by
    intro b len cap l h' m hxv hb
    rw [hxv]
    unfold Instr.sliceAt
    simp only [Sem.run_bind, run_underlying hu, Result.andThen_ok]
    unfold Instr.slice
    simp only [Sem.run_bind, run_underlying hu, Result.andThen_ok, hb, run_size T he]
    rfl
  unfold aslice at hr
  split at hr
  · rename_i b off len cap hb
    obtain ⟨l, h', m, e1, e2, e3, c1, c2, c3, rfl⟩ := sliceIn_some hr
    have hv := opd_some HT hx (by rw [hb]; rfl) HH.glob
    rw [hb] at hv
    obtain ⟨q, hq, hv'⟩ := slice_conc hv
    refine does_value (hrun hv' (run_bounds HT HH.glob h1 h2 h3 e1 e2 e3 c1 c2 c3 hmx true)) (P.same HH qq ?_)
    simp only [conc, hq, Option.map_some, Option.some.injEq]
    by_cases hml : m = l
    · simp [hml]
    · simp [hml, add_mk, Nat.add_assoc]
  · rename_i b s z len hb
    cases hc : and (Nat.beq s j.size) (Nat.beq z 0) with
    | false => rw [hc] at hr; cases hr
    | true =>
      rw [hc, cond_true] at hr
      obtain ⟨hs, hz⟩ := Bool.and_eq_true_iff.1 hc
      have hs := beq_t.1 hs
      have hz := beq_t.1 hz
      subst hs; subst hz
      have hv := opd_some HT hx (by rw [hb]; rfl) HH.glob
      rw [hb] at hv
      obtain ⟨q, hq, hle, hv'⟩ := sliceX_conc hv
      have hbase : (⟨q.1, q.2 + (if E.κ b = 0 then 0 else 0 * j.size), none⟩ : Addr) = ⟨q.1, q.2, none⟩ := by simp
      rw [hbase, Nat.sub_zero] at hv'
      split at hr
      · rename_i hmn
        split at hr
        · rename_i h' l e2 e1
          cases hc2 : and (Nat.ble h' len) (Nat.ble l h') with
          | false => rw [hc2] at hr; cases hr
          | true =>
            rw [hc2] at hr; cases hr
            obtain ⟨c2, c3⟩ := Bool.and_eq_true_iff.1 hc2
            have c2 := ble_t.1 c2
            have c3 := ble_t.1 c3
            have e3 : natOr (E.κ b) (evo tm ymx) = some (E.κ b) := by rw [hmn]; rfl
            refine does_value (hrun hv' (run_bounds HT HH.glob h1 h2 h3 e1 e2 e3 (Nat.le_refl _) (by omega) c3 hmx true)) (P.same HH qq ?_)
            simp only [conc]
            rw [if_pos (by omega), hq, Option.map_some, Option.some.injEq]
            by_cases hml : E.κ b = l
            · simp [hml]
            · simp [hml, add_mk]
        · cases hr
      · rename_i mv hmv
        obtain ⟨l, h', m, e1, e2, e3, c1, c2, c3, rfl⟩ := sliceIn_some hr
        have e3' : natOr (E.κ b) (evo tm ymx) = some m := by rw [hmv]; exact e3
        refine does_value (hrun hv' (run_bounds HT HH.glob h1 h2 h3 e1 e2 e3' (by omega) c2 c3 hmx true)) (P.same HH qq ?_)
        simp only [conc, hq, Option.map_some, Option.some.injEq]
        by_cases hml : m = l
        · simp [hml]
        · simp [hml, add_mk]
  · rename_i hb
    split at hr
    · rename_i m h' l e3 e2 e1
      cases hc : and (Nat.beq m 0) (and (Nat.beq h' 0) (Nat.beq l 0)) with
      | false => rw [hc] at hr; cases hr
      | true =>
        rw [hc] at hr; cases hr
        obtain ⟨c1, c2⟩ := Bool.and_eq_true_iff.1 hc
        obtain ⟨c2, c3⟩ := Bool.and_eq_true_iff.1 c2
        have c1 := beq_t.1 c1
        have c2 := beq_t.1 c2
        have c3 := beq_t.1 c3
        subst c1; subst c2; subst c3
        have hv' : a.eval x = .slice none 0 0 := opd_ok HT hx (by rw [hb]; rfl) HH.glob
        refine does_value (hrun hv' (run_bounds HT HH.glob h1 h2 h3 e1 e2 e3 (Nat.le_refl _) (Nat.le_refl _) (Nat.le_refl _) hmx true)) (P.same HH qq ?_)
        simp [conc]
    · cases hr
  · cases hr

theorem sliceA_ok {p : Par} {ty : Nat → Option TI} (T : TyOk p.P ty) {t e len : Nat} {i j : TI} (ht : ty t = some i) (hd : i.desc = .array len e) (he : ty e = some j) {x : Operand} {y : Opd} (hx : cOpd x = some y)
    {lo hi mx : Option Operand} {ylo yhi ymx : Option Opd} (h1 : cOpt lo = some ylo) (h2 : cOpt hi = some yhi) (h3 : cOpt mx = some ymx) (hmx : mx.isSome = true → hi.isSome = true)
    {o : Oper} (ho : o.op = .slice t x lo hi mx) : InsOk p (iSliceA j.size len y ylo yhi ymx) o := by
  intro cx n keep E w0 tm h a w Q K _ HT HH k P
  obtain ⟨r, hr, qq⟩ := holds_mk2 k
  have hex : execOp a.eval o = (do let x ← Instr.sliceAt t (a.eval x) (lo.map a.eval) (hi.map a.eval) (mx.map a.eval); pure (Next.value x)) := by unfold execOp; rw [ho]
  rw [hex]
  have hu := T.und t i ht
  rw [hd] at hu
  unfold asliceA at hr
  split at hr
  · rename_i b off hb
    obtain ⟨l, h', m, e1, e2, e3, c1, c2, c3, rfl⟩ := sliceIn_some hr
    have hv := opd_some HT hx (by rw [hb]; rfl) HH.glob
    rw [hb] at hv
    obtain ⟨q, hq, hv'⟩ := ptr_conc hv
    refine does_value (v := .slice (some (if m = l then (⟨q.1, q.2 + off, none⟩ : Addr) else (⟨q.1, q.2 + off, none⟩ : Addr).add (l * j.size))) (h' - l) (m - l)) (w' := w) ?_ (P.same HH qq ?_)
    · rw [hv']
      unfold Instr.sliceAt
      simp only [Sem.run_bind, run_underlying hu, Result.andThen_ok]
      unfold Instr.sureAddr
      simp only [pure, Sem.run, Result.andThen_ok, run_bounds HT HH.glob h1 h2 h3 e1 e2 e3 c1 c2 c3 hmx false, run_size T he]
    · simp only [conc, hq, Option.map_some, Option.some.injEq]
      by_cases hml : m = l
      · simp [hml]
      · simp [hml, add_mk, Nat.add_assoc]
  · cases hr

/-! ## Builtin functions -/
theorem run_builtin {P : Program} (a : Act) (o : Oper) {c : Call} {b : Builtin} (ho : o.op = .call c) (hc : c.callee = .builtin b) (w : World) :
    (execOp a.eval o).run P w = (builtin b c.argTypes o.type (c.args.map fun | .const _ => true | _ => false) (c.args.map a.eval)).run P w := by
  unfold execOp
  rw [ho]
  simp only [Sem.run_bind]
  unfold resolve
  rw [hc]
  simp only [pure, Sem.run, Result.andThen_ok]
  rfl

theorem HeapOk.mapAt {p : Par} {E : Env} {h : Heap} {w0 : Base} {w : World} (H : HeapOk p E h w0 w) {b clock : Nat} {es : List (AV × AV × Nat)} (hg : h.get b = some (.map es clock)) {q : Nat × Nat} (hq : E.σ b = some q) :
    ∃ ms, q.2 = 0 ∧ concE E es ms ∧ w.heap[q.1]? = some (.map ms.toArray clock) := by
  obtain ⟨c, ms, h1, h2, h3⟩ := H.obj b _ hg
  rw [hq] at h1; cases h1
  exact ⟨ms, rfl, h2, h3⟩

theorem HeapOk.rmapAt {p : Par} {E : Env} {h : Heap} {w0 : Base} {w : World} (H : HeapOk p E h w0 w) {b clock : Nat} {es : List (AV × AV × Nat)} (hg : h.get b = some (.rmap es clock)) {q : Nat × Nat} (hq : E.σ b = some q) :
    ∃ ms, q.2 = 0 ∧ concE E es ms ∧ w.heap[q.1]? = some (.map ms.toArray clock) := by
  obtain ⟨c, ms, h1, h2, h3⟩ := H.obj b _ hg
  rw [hq] at h1; cases h1
  exact ⟨ms, rfl, h2, h3⟩

theorem concE_len {E : Env} : ∀ {es : List (AV × AV × Nat)} {ms : List MapEntry}, concE E es ms → ms.length = es.length
  | [], [], _ => rfl
  | _ :: es, _ :: ms, ⟨_, _, _, h⟩ => by simp [concE_len h]

theorem run_getObj {P : Program} {w : World} {c : Nat} {o : Obj} (h : w.heap[c]? = some o) (hn : ∀ x y z, o ≠ .cells x y z) : (getObj c).run P w = .ok o w := by
  unfold getObj
  simp only [Sem.run, h]

theorem args_one {c : Call} {x : Operand} (h : c.args.toList = [x]) (a : Act) : c.args.map a.eval = #[a.eval x] := by
  have : c.args = #[x] := by rw [← Array.toList_inj]; exact h
  rw [this]; simp

theorem type_zero {c : Call} {t : Nat} {ts : List Nat} (h : c.argTypes.toList = t :: ts) : c.argTypes[0]? = some t := by
  rw [← Array.getElem?_toList, h]; rfl

theorem run_lenS {P : Program} {ts : Array Nat} {t e : Nat} (h0 : ts[0]? = some t) (hu : P.underlying t = some (.slice e)) (ty : Nat) (b : Option Addr) (n cap : Nat) (w : World) :
    (Builtin.len_ ts ty #[.slice b n cap]).run P w = .ok (goInt n) w := by
  unfold Builtin.len_
  simp only [h0, List.getElem?_toArray, List.getElem?_cons_zero, Sem.run_bind, run_underlying hu, Result.andThen_ok]
  rfl

theorem lenS_ok {p : Par} {ty : Nat → Option TI} (T : TyOk p.P ty) {c : Call} {t : Nat} {ts : List Nat} (hts : c.argTypes.toList = t :: ts) {i : TI} (ht : ty t = some i) {e : Nat} (hd : i.desc = .slice e)
    {x : Operand} (hxs : c.args.toList = [x]) {y : Opd} (hx : cOpd x = some y) (hb : c.callee = .builtin .len) {o : Oper} (ho : o.op = .call c) : InsOk p (iLenS y) o := by
  intro cx n keep E w0 tm h a w Q K _ HT HH k P
  obtain ⟨r, hr, qq⟩ := holds_mk2 k
  rw [run_builtin a o ho hb, args_one hxs]
  have hu := T.und t i ht
  rw [hd] at hu
  unfold builtin
  simp only
  unfold alenS at hr
  split at hr
  · rename_i b off n' cap hb'
    cases hr
    have hv := opd_some HT hx (by rw [hb']; rfl) HH.glob
    rw [hb'] at hv
    obtain ⟨q, hq, hv'⟩ := slice_conc hv
    rw [hv']
    exact does_value (run_lenS (type_zero hts) hu _ _ _ _ w) (P.same HH qq rfl)
  · rename_i b s lo n' hb'
    cases hr
    have hv := opd_some HT hx (by rw [hb']; rfl) HH.glob
    rw [hb'] at hv
    obtain ⟨q, hq, _, hv'⟩ := sliceX_conc hv
    rw [hv']
    exact does_value (run_lenS (type_zero hts) hu _ _ _ _ w) (P.same HH qq rfl)
  · rename_i i hb'
    cases hr
    have hv := opd_some HT hx (by rw [hb']; rfl) HH.glob
    rw [hb'] at hv
    obtain ⟨p, n', c', hv', hn⟩ := sliceU_conc hv
    rw [hv']
    exact does_value (run_lenS (type_zero hts) hu _ _ _ _ w) (P.same HH qq (by simp only [conc, IE.den, hn]; rfl))
  · rename_i b i' hb'
    cases hr
    have hv := opd_some HT hx (by rw [hb']; rfl) HH.glob
    rw [hb'] at hv
    obtain ⟨q, hq, h0, hv'⟩ := sliceV_conc hv
    rw [hv']
    exact does_value (run_lenS (type_zero hts) hu _ _ _ _ w) (P.same HH qq (by simp only [conc, IE.den]; rw [Int.toNat_of_nonneg h0]; rfl))
  · rename_i hb'
    cases hr
    have hv : a.eval x = .slice none 0 0 := opd_ok HT hx (by rw [hb']; rfl) HH.glob
    rw [hv]
    exact does_value (run_lenS (type_zero hts) hu _ _ _ _ w) (P.same HH qq rfl)
  · cases hr

theorem lenM_ok {p : Par} {ty : Nat → Option TI} (T : TyOk p.P ty) {c : Call} {t : Nat} {ts : List Nat} (hts : c.argTypes.toList = t :: ts) {i : TI} (ht : ty t = some i) {kt e : Nat} (hd : i.desc = .map kt e)
    {x : Operand} (hxs : c.args.toList = [x]) {y : Opd} (hx : cOpd x = some y) (hb : c.callee = .builtin .len) {o : Oper} (ho : o.op = .call c) : InsOk p (iLenM y) o := by
  intro cx n keep E w0 tm h a w Q K _ HT HH k P
  obtain ⟨r, hr, qq⟩ := holds_mk2 k
  rw [run_builtin a o ho hb, args_one hxs]
  have hu := T.und t i ht
  rw [hd] at hu
  unfold builtin
  simp only
  unfold alenM at hr
  split at hr
  · rename_i hb'
    cases hr
    have hv : a.eval x = .map none := opd_ok HT hx (by rw [hb']; rfl) HH.glob
    rw [hv]
    refine does_value (v := goInt 0) (w' := w) ?_ (P.same HH qq rfl)
    unfold Builtin.len_
    simp only [type_zero hts, List.getElem?_toArray, List.getElem?_cons_zero, Sem.run_bind, run_underlying hu, Result.andThen_ok]
    rfl
  · rename_i b hb'
    split at hr
    · rename_i es clock hg
      cases hr
      have hv := opd_some HT hx (by rw [hb']; rfl) HH.glob
      rw [hb'] at hv
      obtain ⟨q, hq, hv'⟩ := map_conc hv
      obtain ⟨ms, h0, hms, hheap⟩ := HH.mapAt hg hq
      rw [hv']
      refine does_value (v := goInt es.length) (w' := w) ?_ (P.same HH qq (by rw [lLen_eq]; rfl))
      unfold Builtin.len_
      simp only [type_zero hts, List.getElem?_toArray, List.getElem?_cons_zero, Sem.run_bind, run_underlying hu, Result.andThen_ok]
      simp only [run_getObj hheap (by simp), Result.andThen_ok, pure, Sem.run, List.size_toArray, concE_len hms]
    · rename_i es clock hg
      cases hr
      have hv := opd_some HT hx (by rw [hb']; rfl) HH.glob
      rw [hb'] at hv
      obtain ⟨q, hq, hv'⟩ := map_conc hv
      obtain ⟨ms, h0, hms, hheap⟩ := HH.rmapAt hg hq
      rw [hv']
      refine does_value (v := goInt es.length) (w' := w) ?_ (P.same HH qq (by rw [lLen_eq]; rfl))
      unfold Builtin.len_
      simp only [type_zero hts, List.getElem?_toArray, List.getElem?_cons_zero, Sem.run_bind, run_underlying hu, Result.andThen_ok]
      simp only [run_getObj hheap (by simp), Result.andThen_ok, pure, Sem.run, List.size_toArray, concE_len hms]
    · cases hr
  · cases hr

theorem lenA_ok {p : Par} {ty : Nat → Option TI} (T : TyOk p.P ty) {c : Call} {t : Nat} {ts : List Nat} (hts : c.argTypes.toList = t :: ts) {i : TI} (ht : ty t = some i) {len e : Nat} (hd : i.desc = .array len e)
    {x : Operand} (hxs : c.args.toList = [x]) (hb : c.callee = .builtin .len) {o : Oper} (ho : o.op = .call c) : InsOk p (iLenA len) o := by
  intro cx n keep E w0 tm h a w Q K _ HT HH k P
  rw [run_builtin a o ho hb, args_one hxs]
  have hu := T.und t i ht
  rw [hd] at hu
  unfold builtin
  simp only
  refine does_value (v := goInt len) (w' := w) ?_ (P.same HH k rfl)
  unfold Builtin.len_
  simp only [type_zero hts, List.getElem?_toArray, List.getElem?_cons_zero, Sem.run_bind, run_underlying hu, Result.andThen_ok]
  rfl

theorem max2_ok {a b c : AV} (h : max2 a b = some c) {E : Env} {u v : Value} (hu : conc E a = some u) (hv : conc E b = some v) (P : Program) (w : World) : ∃ x, conc E c = some x ∧ (Builtin.max2 u v).run P w = .ok x w := by
  unfold max2 at h
  split at h
  · rename_i k x k' y
    cases h
    simp only [conc, Option.some.injEq] at hu hv
    subst hu; subst hv
    refine ⟨.int k (if y.den E.ρ > x.den E.ρ then y.den E.ρ else x.den E.ρ), ?_, rfl⟩
    simp only [conc, Option.some.injEq, Value.int.injEq, true_and]
    unfold mkMax
    split
    · rename_i m n'
      simp only [IE.den, ilt_eq]
      by_cases hc : m < n'
      · simp [hc]
      · simp [hc]
    · rfl
  · cases h

theorem min2_ok {a b c : AV} (h : min2 a b = some c) {E : Env} {u v : Value} (hu : conc E a = some u) (hv : conc E b = some v) (P : Program) (w : World) : ∃ x, conc E c = some x ∧ (Builtin.min2 u v).run P w = .ok x w := by
  unfold min2 at h
  split at h
  · rename_i k x k' y
    cases h
    simp only [conc, Option.some.injEq] at hu hv
    subst hu; subst hv
    refine ⟨.int k (if y.den E.ρ < x.den E.ρ then y.den E.ρ else x.den E.ρ), ?_, rfl⟩
    simp only [conc, Option.some.injEq, Value.int.injEq, true_and]
    unfold mkMin
    split
    · rename_i m n'
      simp only [IE.den, ilt_eq]
      by_cases hc : n' < m
      · simp [hc]
      · simp [hc]
    · rfl
  · cases h

theorem foldA_ok {f : AV → AV → Option AV} {g : Value → Value → Sem Value} {P : Program} {w : World} {E : Env}
    (hf : ∀ {a b c : AV}, f a b = some c → ∀ {u v : Value}, conc E a = some u → conc E b = some v → ∃ x, conc E c = some x ∧ (g u v).run P w = .ok x w) :
    ∀ {l : List AV} {a c : AV} {u : Value} {vs : List Value}, foldA f a l = some c → conc E a = some u → concL E l = some vs → ∃ x, conc E c = some x ∧ (vs.foldlM g u).run P w = .ok x w
  | [], a, c, u, vs, h, hu, hvs => by
    simp only [foldA, Option.some.injEq] at h
    subst h
    simp only [concL, Option.some.injEq] at hvs
    subst hvs
    exact ⟨u, hu, rfl⟩
  | b :: l, a, c, u, vs, h, hu, hvs => by
    obtain ⟨v, r, hv, hr, rfl⟩ := concL_cons.1 hvs
    simp only [foldA] at h
    cases hm : f a b with
    | none => rw [hm] at h; cases h
    | some d =>
      rw [hm] at h
      obtain ⟨x, hx, hrun⟩ := hf hm hu hv
      obtain ⟨y, hy, hrun2⟩ := foldA_ok hf h hx hr
      exact ⟨y, hy, by simp only [List.foldlM_cons, Sem.run_bind, hrun, Result.andThen_ok, hrun2]⟩

theorem cOpds_get {n : Nat} {keep : List Nat} {E : Env} {tm : Tm} {a : Act} (H : TmOk n keep E tm a.tmps) (G : ∀ b, b < 1000 → E.σ b = some (b, 0)) :
    ∀ {xs : List Operand} {ys : List Opd} {vs : List Value}, cOpds xs = some ys → concL E (evs tm ys) = some vs → xs.map a.eval = vs
  | [], ys, vs, h, hv => by simp only [cOpds, Option.some.injEq] at h; subst h; simp only [evs, lMap, concL, Option.some.injEq] at hv; subst hv; rfl
  | x :: xs, ys, vs, h, hv => by
    simp only [cOpds] at h
    cases hx : cOpd x with
    | none => rw [hx] at h; cases h
    | some y =>
      cases hl : cOpds xs with
      | none => rw [hx, hl] at h; cases h
      | some l =>
        rw [hx, hl] at h; cases h
        have he : evs tm (y :: l) = ev tm y :: evs tm l := rfl
        rw [he] at hv
        obtain ⟨v, r, h1, h2, rfl⟩ := concL_cons.1 hv
        rw [List.map_cons, opd_ok H hx h1 G, cOpds_get H G hl h2]

theorem evs_notBad {f : AV → AV → Option AV} (hf : ∀ {a b c : AV}, f a b = some c → notBad a = true ∧ notBad b = true ∧ notBad c = true) :
    ∀ {l : List AV} {a c : AV}, foldA f a l = some c → l ≠ [] → notBad a = true ∧ lAll notBad l = true
  | [], a, c, _, hne => absurd rfl hne
  | b :: l, a, c, h, _ => by
    simp only [foldA] at h
    cases hm : f a b with
    | none => rw [hm] at h; cases h
    | some d =>
      rw [hm] at h
      obtain ⟨h1, h2, h3⟩ := hf hm
      refine ⟨h1, ?_⟩
      rw [lAll_eq, List.all_cons, h2, Bool.true_and, ← lAll_eq]
      cases l with
      | nil => rfl
      | cons x l => exact (evs_notBad hf h (by simp)).2

theorem max2_nb {a b c : AV} (h : max2 a b = some c) : notBad a = true ∧ notBad b = true ∧ notBad c = true := by
  unfold max2 at h
  split at h
  · cases h; exact ⟨rfl, rfl, rfl⟩
  · cases h
theorem min2_nb {a b c : AV} (h : min2 a b = some c) : notBad a = true ∧ notBad b = true ∧ notBad c = true := by
  unfold min2 at h
  split at h
  · cases h; exact ⟨rfl, rfl, rfl⟩
  · cases h

theorem fold_ok {p : Par} {f : AV → AV → Option AV} {g : Value → Value → Sem Value} {bi : Builtin} (hf : ∀ {a b c : AV}, f a b = some c → ∀ {E : Env} {u v : Value}, conc E a = some u → conc E b = some v → ∀ (P : Program) (w : World), ∃ x, conc E c = some x ∧ (g u v).run P w = .ok x w)
    (hnb : ∀ {a b c : AV}, f a b = some c → notBad a = true ∧ notBad b = true ∧ notBad c = true)
    (hbi : ∀ (P : Program) ts t cs (x y : Value) (l : List Value) w, (builtin bi ts t cs (x :: y :: l).toArray).run P w = (do let v ← (y :: l).foldlM g x; pure (Next.value v) : Sem Next).run P w)
    {c : Call} {ys : List Opd} (hys : cOpds c.args.toList = some ys) (h2 : 2 ≤ ys.length) (hb : c.callee = .builtin bi) {o : Oper} (ho : o.op = .call c) :
    InsOk p (fun _ tm h => mk2 h 26 (foldL f (evs tm ys))) o := by
  intro cx n keep E w0 tm h a w Q K _ HT HH k P
  obtain ⟨r, hr, qq⟩ := holds_mk2 k
  rw [run_builtin a o ho hb]
  match ys, hys, h2, hr with
  | y1 :: y2 :: l, hys, _, hr =>
    have he : evs tm (y1 :: y2 :: l) = ev tm y1 :: ev tm y2 :: evs tm l := rfl
    rw [he] at hr
    simp only [foldL] at hr
    obtain ⟨n1, n2⟩ := evs_notBad hnb hr (by simp)
    have hall : lAll notBad (evs tm (y1 :: y2 :: l)) = true := by rw [he, lAll_eq, List.all_cons, n1, ← lAll_eq, n2]; rfl
    have hc := cOpds_some HT HH.glob hys hall
    rw [he] at hc
    obtain ⟨u, r', hu, hr', e1⟩ := concL_cons.1 hc
    obtain ⟨v, r'', hv, hr'', e2⟩ := concL_cons.1 hr'
    obtain ⟨x, hx, hrun⟩ := foldA_ok (g := g) (P := p.P) (w := w) (fun hm _ _ h1 h2 => hf hm h1 h2 p.P w) hr hu hr'
    have hargs : c.args.map a.eval = (u :: v :: r'').toArray := by
      rw [← Array.toList_inj, Array.toList_map, e1, e2]
    rw [hargs, hbi]
    rw [e2] at hrun
    exact does_value hrun (P.same HH qq hx)

theorem max_ok {p : Par} {c : Call} {ys : List Opd} (hys : cOpds c.args.toList = some ys) (h2 : 2 ≤ ys.length) (hb : c.callee = .builtin .max) {o : Oper} (ho : o.op = .call c) : InsOk p (iMax ys) o :=
  fold_ok (g := Builtin.max2) (fun h _ _ _ hu hv P w => max2_ok h hu hv P w) max2_nb (fun _ _ _ _ _ _ _ _ => rfl) hys h2 hb ho
theorem min_ok {p : Par} {c : Call} {ys : List Opd} (hys : cOpds c.args.toList = some ys) (h2 : 2 ≤ ys.length) (hb : c.callee = .builtin .min) {o : Oper} (ho : o.op = .call c) : InsOk p (iMin ys) o :=
  fold_ok (g := Builtin.min2) (fun h _ _ _ hu hv P w => min2_ok h hu hv P w) min2_nb (fun _ _ _ _ _ _ _ _ => rfl) hys h2 hb ho

end Go.Sx
