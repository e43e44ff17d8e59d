/- THE OPERATIONS, ON: addresses, parts, slices, new maps and slices, structs that are built. -/
import Derived.Test.YtjbagflebkiplaaDoorSxOps2
/-! THE OPERATIONS, ON: addresses, parts, slices, new maps and slices, structs that are built. -/
namespace Go.Sx
open Go.RowKit

theorem add_mk (c o n : Nat) : (⟨c, o, none⟩ : Addr).add n = ⟨c, o + n, none⟩ := by
  unfold Addr.add
  split
  · rename_i h; subst h; rfl
  · rfl

/-! ## Function values; maps -/
theorem cOpds_some {n : Nat} {keep : List Nat} {E : Env} {tm : Tm} {a : Act} (H : TmOk n keep E tm a.tmps) (G : ∀ b, b < 1000 → E.σ b = some (b, 0)) :
    ∀ {xs : List Operand} {ys : List Opd}, cOpds xs = some ys → lAll notBad (evs tm ys) = true → concL E (evs tm ys) = some (xs.map a.eval)
  | [], ys, h, _ => by simp only [cOpds, Option.some.injEq] at h; subst h; rfl
  | x :: xs, ys, h, hb => by
    simp only [cOpds] at h
    cases hx : cOpd x with
    | none => rw [hx] at h; cases h
    | some y =>
      cases hl : cOpds xs with
      | none => rw [hx, hl] at h; cases h
      | some l =>
        rw [hx, hl] at h; cases h
        have he : evs tm (y :: l) = ev tm y :: evs tm l := rfl
        rw [he, lAll_eq, List.all_cons, Bool.and_eq_true, ← lAll_eq] at hb
        rw [he]
        exact concL_cons.2 ⟨_, _, opd_some H hx hb.1 G, cOpds_some H G hl hb.2, rfl⟩

theorem func_ok {p : Par} {fn : Fn} (hf : notYield fn = true) {xs zs : Array Operand} {ys us : List Opd} (h1 : cOpds xs.toList = some ys) (h2 : cOpds zs.toList = some us) {o : Oper} (ho : o.op = .makeFunc fn xs zs) : InsOk p (iFunc fn ys us) o := by
  intro cx n keep E w0 tm h a w Q K _ HT HH k P
  simp only [iFunc, rFunc] at k
  cases hb : and (lAll notBad (evs tm ys)) (lAll notBad (evs tm us)) with
  | false => rw [hb] at k; exact k.elim
  | true =>
    rw [hb] at k
    obtain ⟨b1, b2⟩ := Bool.and_eq_true_iff.1 hb
    have hex : execOp a.eval o = (do let x ← Instr.makeFunc fn (xs.map a.eval) (zs.map a.eval); pure (Next.value x)) := by unfold execOp; rw [ho]
    rw [hex]
    refine does_value (v := .func fn (xs.map a.eval) (zs.map a.eval)) (w' := w) rfl (P.same HH k ?_)
    have e1 := cOpds_some HT HH.glob h1 b1
    have e2 := cOpds_some HT HH.glob h2 b2
    simp only [conc, e1, e2]
    have t : ∀ xs : Array Operand, (xs.toList.map a.eval).toArray = xs.map a.eval := fun xs => by rw [← Array.toList_map]
    cases fn <;> first | (cases hf; done) | simp [t]

theorem mkmap_ok {p : Par} {t : TypeId} {o : Oper} (ho : o.op = .makeMap t none) : InsOk p iMkmap o := by
  intro cx n keep E w0 tm h a w Q K _ HT HH k P
  have hex : execOp a.eval o = (do let x ← Instr.makeMap t none; pure (Next.value x)) := by unfold execOp; rw [ho]; rfl
  rw [hex]
  refine does_value (v := .map (some w.heap.size)) (w' := w.alloc (.map #[] 0)) rfl ?_
  refine P _ _ (E.with h.next (w.heap.size, 0) 0) _ _ k (Env.with_le (HH.fresh _ (Nat.le_refl _)) HH.nx _ _) ?_ (by simp [conc, Env.with_at])
  exact HH.alloc rfl ⟨w.heap.size, [], Env.with_at _ _ _ _, trivial, by simp⟩

/-! ## Addresses of parts -/
theorem cField_some {ty : Nat → Option TI} {t f : Nat} {q : Field × TI} (h : cField ty t f = some q) : ∃ i fs, ty t = some i ∧ i.desc = .struct fs ∧ fs[f]? = some q.1 ∧ ty q.1.type = some q.2 := by
  unfold cField at h
  cases ht : ty t with
  | none => rw [ht] at h; cases h
  | some i =>
    rw [ht] at h
    simp only at h
    split at h
    · rename_i fs hd
      split at h
      · rename_i f' hf
        split at h
        · rename_i j hj
          cases h
          exact ⟨i, fs, rfl, hd, by simpa using hf, hj⟩
        · cases h
      · cases h
    · cases h

theorem faddr_ok {p : Par} {ty : Nat → Option TI} (T : TyOk p.P ty) {t f : Nat} {q : Field × TI} (hq : cField ty t f = some q) (h1 : 1 ≤ q.2.size) {x : Operand} {y : Opd} (hx : cOpd x = some y) {o : Oper} (ho : o.op = .fieldAddr t x f) :
    InsOk p (iFaddr q.1.offset y) o := by
  intro cx n keep E w0 tm h a w Q K _ HT HH k P
  obtain ⟨r, hr, qq⟩ := holds_mk2 k
  have hex : execOp a.eval o = (do let x ← Instr.fieldAt t (a.eval x) f; pure (Next.value x)) := by unfold execOp; rw [ho]
  rw [hex]
  unfold faddrA at hr
  split at hr
  · rename_i b off he
    cases hr
    obtain ⟨i, fs, ht, hd, hf, hj⟩ := cField_some hq
    have hv := opd_some HT hx (by rw [he]; rfl) HH.glob
    rw [he] at hv
    obtain ⟨q', hq', hv'⟩ := ptr_conc hv
    have hu := T.und t i ht
    rw [hd] at hu
    rw [hv']
    refine does_value (v := .pointer (some ⟨q'.1, q'.2 + off + q.1.offset, none⟩)) (w' := w) ?_ (P.same HH qq ?_)
    · unfold Instr.fieldAt
      simp only [Sem.run_bind, run_underlying hu, Result.andThen_ok, hf]
      unfold Instr.sureAddr fieldPlace
      simp only [Sem.run_bind, pure, Sem.run, Result.andThen_ok, run_size T hj]
      rw [if_neg (by omega)]
      simp only [Sem.run, Result.andThen_ok, add_mk]
    · simp [conc, hq', Nat.add_assoc]
  · cases hr

theorem partA_ok {P : Program} {ty : Nat → Option TI} (T : TyOk P ty) {t : Nat} {i : TI} (ht : ty t = some i) {E : Env} {cs : List AV} {vs : List Value} (hv : concL E cs = some vs) {off : Nat} {r : AV}
    (h : partA i.isAgg cs off i.size = some r) (w : World) : ∃ v, conc E r = some v ∧ (part t vs.toArray off).run P w = .ok v w := by
  unfold partA at h
  cases hagg : i.isAgg with
  | true =>
    rw [hagg, cond_true] at h
    simp only [Option.map_eq_some_iff] at h
    obtain ⟨l, hl, rfl⟩ := h
    obtain ⟨hle, rfl⟩ := listSub_eq hl
    refine ⟨.agg ((vs.drop off).take i.size).toArray, by simp [conc, concL_take (concL_drop hv off) i.size], ?_⟩
    unfold part
    simp only [Sem.run_bind, run_isAgg T ht, hagg, Result.andThen_ok, if_true, run_size T ht]
    simp [pure, List.extract_eq_take_drop]
  | false =>
    rw [hagg, cond_false, listGet_eq] at h
    obtain ⟨v, hc, hi⟩ := concL_get hv h
    refine ⟨v, hc, ?_⟩
    unfold part
    simp only [Sem.run_bind, run_isAgg T ht, hagg, Result.andThen_ok, Bool.false_eq_true, if_false]
    simp [hi, pure]

theorem agg_conc {E : Env} {cs : List AV} {v : Value} (h : conc E (.agg cs) = some v) : ∃ vs, concL E cs = some vs ∧ v = .agg vs.toArray := by
  simp only [conc, Option.map_eq_some_iff] at h
  obtain ⟨l, hl, rfl⟩ := h
  exact ⟨l, hl, rfl⟩

theorem field_ok {p : Par} {ty : Nat → Option TI} (T : TyOk p.P ty) {t f : Nat} {q : Field × TI} (hq : cField ty t f = some q) {x : Operand} {y : Opd} (hx : cOpd x = some y) {o : Oper} (ho : o.op = .field t x f) :
    InsOk p (iField q.2.isAgg q.1.offset q.2.size y) o := by
  intro cx n keep E w0 tm h a w Q K _ HT HH k P
  obtain ⟨r, hr, qq⟩ := holds_mk2 k
  have hex : execOp a.eval o = (do let x ← Instr.field t (a.eval x) f; pure (Next.value x)) := by unfold execOp; rw [ho]
  rw [hex]
  unfold fieldA at hr
  split at hr
  · rename_i cs he
    obtain ⟨i, fs, ht, hd, hf, hj⟩ := cField_some hq
    have hv := opd_some HT hx (by rw [he]; rfl) HH.glob
    rw [he] at hv
    obtain ⟨vs, hvs, hv'⟩ := agg_conc hv
    obtain ⟨u, hu, hrun⟩ := partA_ok T hj hvs hr w
    have hund := T.und t i ht
    rw [hd] at hund
    rw [hv']
    refine does_value (v := u) (w' := w) ?_ (P.same HH qq hu)
    unfold Instr.field
    simp only [Sem.run_bind, run_underlying hund, Result.andThen_ok, hf]
    unfold asAgg
    simp only [pure, Sem.run, Result.andThen_ok, hrun]
  · cases hr

theorem asNat_some {v : AV} {n : Nat} (h : asNat v = some n) : ∃ k, v = .int k (.lit (Int.ofNat n)) := by
  unfold asNat at h
  split at h
  · cases h; exact ⟨_, rfl⟩
  · cases h

theorem iaddr_ok {p : Par} {ty : Nat → Option TI} (T : TyOk p.P ty) {t e : Nat} {i j : TI} (ht : ty t = some i) (hd : i.desc = .slice e) (he : ty e = some j) {x1 x2 : Operand} {y1 y2 : Opd} (h1 : cOpd x1 = some y1) (h2 : cOpd x2 = some y2)
    {o : Oper} (ho : o.op = .indexAddr t x1 x2) : InsOk p (iIaddr j.size y1 y2) o := by
  intro cx n keep E w0 tm h a w Q K _ HT HH k P
  obtain ⟨r, hr, qq⟩ := holds_mk2 k
  have hex : execOp a.eval o = (do let x ← Instr.indexAt t (a.eval x1) (a.eval x2); pure (Next.value x)) := by unfold execOp; rw [ho]
  rw [hex]
  unfold aiaddr at hr
  split at hr
  · rename_i m hm
    obtain ⟨kk, hm'⟩ := asNat_some hm
    have hv2 : a.eval x2 = .int kk (Int.ofNat m) := opd_ok HT h2 (by rw [hm']; rfl) HH.glob
    have hu := T.und t i ht
    rw [hd] at hu
    split at hr
    · rename_i b off len cap hb
      cases hc : Nat.ble (Nat.succ m) len with
      | false => rw [hc] at hr; cases hr
      | true =>
        rw [hc] at hr; cases hr
        have hlt : m < len := ble_t.1 hc
        have hv := opd_some HT h1 (by rw [hb]; rfl) HH.glob
        rw [hb] at hv
        simp only [conc, Option.map_eq_some_iff] at hv
        obtain ⟨q, hq, hv⟩ := hv
        rw [← hv, hv2]
        refine does_value (v := .pointer (some ⟨q.1, q.2 + off + m * j.size, none⟩)) (w' := w) ?_ (P.same HH qq (by simp [conc, hq, Nat.add_assoc]))
        unfold Instr.indexAt asIntOf
        simp only [Sem.run_bind, pure, Sem.run, Result.andThen_ok, run_underlying hu]
        rw [if_pos (by constructor <;> simp only [Int.ofNat_eq_natCast] <;> omega)]
        simp only [Sem.run_bind, Sem.run, Result.andThen_ok, run_size T he, add_mk]
        rfl
    · rename_i b s lo len hb
      cases hc : and (Nat.ble (Nat.succ m) len) (Nat.beq s j.size) with
      | false => rw [hc] at hr; cases hr
      | true =>
        rw [hc] at hr; cases hr
        obtain ⟨c1, c2⟩ := Bool.and_eq_true_iff.1 hc
        have hlt : m < len := ble_t.1 c1
        have hs : s = j.size := beq_t.1 c2
        subst hs
        have hv := opd_some HT h1 (by rw [hb]; rfl) HH.glob
        rw [hb] at hv
        obtain ⟨q, hq, hle, hv'⟩ := sliceX_conc hv
        rw [if_neg (by omega)] at hv'
        rw [hv', hv2]
        refine does_value (v := .pointer (some ⟨q.1, q.2 + lo * j.size + m * j.size, none⟩)) (w' := w) ?_ (P.same HH qq (by simp [conc, hq, Nat.add_assoc]))
        unfold Instr.indexAt asIntOf
        simp only [Sem.run_bind, pure, Sem.run, Result.andThen_ok, run_underlying hu]
        rw [if_pos (by constructor <;> simp only [Int.ofNat_eq_natCast] <;> omega)]
        simp only [Sem.run_bind, Sem.run, Result.andThen_ok, run_size T he, add_mk]
        rfl
    · cases hr
  · cases hr

theorem iaddrA_ok {p : Par} {ty : Nat → Option TI} (T : TyOk p.P ty) {t e len : Nat} {i j : TI} (ht : ty t = some i) (hd : i.desc = .array len e) (he : ty e = some j) {x1 x2 : Operand} {y1 y2 : Opd} (h1 : cOpd x1 = some y1) (h2 : cOpd x2 = some y2)
    {o : Oper} (ho : o.op = .indexAddr t x1 x2) : InsOk p (iIaddrA j.size len y1 y2) o := by
  intro cx n keep E w0 tm h a w Q K _ HT HH k P
  obtain ⟨r, hr, qq⟩ := holds_mk2 k
  have hex : execOp a.eval o = (do let x ← Instr.indexAt t (a.eval x1) (a.eval x2); pure (Next.value x)) := by unfold execOp; rw [ho]
  rw [hex]
  unfold aiaddrA at hr
  split at hr
  · rename_i m hm
    obtain ⟨kk, hm'⟩ := asNat_some hm
    have hv2 : a.eval x2 = .int kk (Int.ofNat m) := opd_ok HT h2 (by rw [hm']; rfl) HH.glob
    have hu := T.und t i ht
    rw [hd] at hu
    split at hr
    · rename_i b off hb
      cases hc : Nat.ble (Nat.succ m) len with
      | false => rw [hc] at hr; cases hr
      | true =>
        rw [hc] at hr; cases hr
        have hlt : m < len := ble_t.1 hc
        have hv := opd_some HT h1 (by rw [hb]; rfl) HH.glob
        rw [hb] at hv
        obtain ⟨q, hq, hv'⟩ := ptr_conc hv
        rw [hv', hv2]
        refine does_value (v := .pointer (some ⟨q.1, q.2 + off + m * j.size, none⟩)) (w' := w) ?_ (P.same HH qq (by simp [conc, hq, Nat.add_assoc]))
        unfold Instr.indexAt asIntOf Instr.sureAddr
        simp only [Sem.run_bind, pure, Sem.run, Result.andThen_ok, run_underlying hu]
        rw [if_pos (by constructor <;> simp only [Int.ofNat_eq_natCast] <;> omega)]
        simp only [Sem.run_bind, Sem.run, Result.andThen_ok, run_size T he, add_mk]
        rfl
    · cases hr
  · cases hr

theorem index_ok {p : Par} {ty : Nat → Option TI} (T : TyOk p.P ty) {t e len : Nat} {i j : TI} (ht : ty t = some i) (hd : i.desc = .array len e) (he : ty e = some j) {x1 x2 : Operand} {y1 y2 : Opd} (h1 : cOpd x1 = some y1) (h2 : cOpd x2 = some y2)
    {o : Oper} (ho : o.op = .index t x1 x2) : InsOk p (iIndex j.isAgg j.size len y1 y2) o := by
  intro cx n keep E w0 tm h a w Q K _ HT HH k P
  obtain ⟨r, hr, qq⟩ := holds_mk2 k
  have hex : execOp a.eval o = (do let x ← Instr.index t (a.eval x1) (a.eval x2); pure (Next.value x)) := by unfold execOp; rw [ho]
  rw [hex]
  unfold aindex at hr
  split at hr
  · rename_i m hm
    obtain ⟨kk, hm'⟩ := asNat_some hm
    have hv2 : a.eval x2 = .int kk (Int.ofNat m) := opd_ok HT h2 (by rw [hm']; rfl) HH.glob
    have hu := T.und t i ht
    rw [hd] at hu
    split at hr
    · rename_i cs hb
      cases hc : Nat.ble (Nat.succ m) len with
      | false => rw [hc] at hr; cases hr
      | true =>
        rw [hc, cond_true] at hr
        have hlt : m < len := ble_t.1 hc
        have hv := opd_some HT h1 (by rw [hb]; rfl) HH.glob
        rw [hb] at hv
        obtain ⟨vs, hvs, hv'⟩ := agg_conc hv
        obtain ⟨u, hu', hrun⟩ := partA_ok T he hvs hr w
        rw [hv', hv2]
        refine does_value (v := u) (w' := w) ?_ (P.same HH qq hu')
        unfold Instr.index asIntOf
        simp only [Sem.run_bind, pure, Sem.run, Result.andThen_ok, run_underlying hu]
        rw [if_pos (by constructor <;> simp only [Int.ofNat_eq_natCast] <;> omega)]
        simp only [Sem.run_bind, Result.andThen_ok, run_size T he]
        exact hrun
    · cases hr
  · cases hr

theorem tup_conc {E : Env} {cs : List AV} {v : Value} (h : conc E (.tup cs) = some v) : ∃ vs, concL E cs = some vs ∧ v = .tuple vs.toArray := by
  simp only [conc, Option.map_eq_some_iff] at h
  obtain ⟨l, hl, rfl⟩ := h
  exact ⟨l, hl, rfl⟩

theorem extract_ok {p : Par} {x : Operand} {y : Opd} {ix : Nat} (hx : cOpd x = some y) {o : Oper} (ho : o.op = .extract x ix) : InsOk p (iExtract ix y) o := by
  intro cx n keep E w0 tm h a w Q K _ HT HH k P
  obtain ⟨r, hr, qq⟩ := holds_mk2 k
  have hex : execOp a.eval o = (do let x ← Instr.extract (a.eval x) ix; pure (Next.value x)) := by unfold execOp; rw [ho]
  rw [hex]
  unfold extractA at hr
  split at hr
  · rename_i vs he
    rw [listGet_eq] at hr
    have hv := opd_some HT hx (by rw [he]; rfl) HH.glob
    rw [he] at hv
    obtain ⟨us, hus, hv'⟩ := tup_conc hv
    obtain ⟨u, hu, hi⟩ := concL_get hus hr
    rw [hv']
    refine does_value (v := u) (w' := w) ?_ (P.same HH qq hu)
    unfold Instr.extract
    simp [hi, pure]
  · cases hr

/-! ## Slices of slices -/
theorem natOr_some {d n : Nat} {x : Option AV} (h : natOr d x = some n) : (x = none ∧ n = d) ∨ ∃ v, x = some v ∧ asNat v = some n := by
  unfold natOr at h
  split at h
  · cases h; exact .inl ⟨rfl, rfl⟩
  · exact .inr ⟨_, rfl, h⟩

theorem cOpt_ev {n : Nat} {keep : List Nat} {E : Env} {tm : Tm} {a : Act} (H : TmOk n keep E tm a.tmps) (G : ∀ b, b < 1000 → E.σ b = some (b, 0)) {x : Option Operand} {y : Option Opd} (h : cOpt x = some y) {d m : Nat} (hm : natOr d (evo tm y) = some m) :
    (x = none ∧ m = d) ∨ ∃ z k, x = some z ∧ a.eval z = .int k (Int.ofNat m) := by
  unfold cOpt at h
  cases x with
  | none =>
    cases h
    rcases natOr_some hm with ⟨_, rfl⟩ | ⟨v, hv, _⟩
    · exact .inl ⟨rfl, rfl⟩
    · cases hv
  | some z =>
    simp only [Option.map_eq_some_iff] at h
    obtain ⟨u, hu, rfl⟩ := h
    rcases natOr_some hm with ⟨hv, _⟩ | ⟨v, hv, hn⟩
    · cases hv
    · obtain ⟨kk, hk⟩ := asNat_some hn
      have : ev tm u = v := by simp only [evo, Option.some.injEq] at hv; exact hv
      exact .inr ⟨z, kk, rfl, opd_ok H hu (by rw [this, hk]; rfl) G⟩

theorem run_bound {P : Program} {v : Value} {k : IntKind} {m y : Nat} (hv : v = .int k (Int.ofNat m)) (h : m ≤ y) (c : BoundsCode) (w : World) : (Instr.sliceBound v y c).run P w = .ok m w := by
  subst hv
  unfold Instr.sliceBound asIntOf
  simp only [Sem.run_bind, pure, Sem.run, Result.andThen_ok]
  rw [if_pos (by constructor <;> simp only [Int.ofNat_eq_natCast] <;> omega)]
  rfl

theorem run_bounds {P : Program} {n : Nat} {keep : List Nat} {E : Env} {tm : Tm} {a : Act} (H : TmOk n keep E tm a.tmps) (G : ∀ b, b < 1000 → E.σ b = some (b, 0)) {lo hi mx : Option Operand} {ylo yhi ymx : Option Opd}
    (h1 : cOpt lo = some ylo) (h2 : cOpt hi = some yhi) (h3 : cOpt mx = some ymx) {len cap l h m : Nat} (e1 : natOr 0 (evo tm ylo) = some l) (e2 : natOr len (evo tm yhi) = some h) (e3 : natOr cap (evo tm ymx) = some m)
    (hm : m ≤ cap) (hh : h ≤ m) (hl : l ≤ h) (hmx : mx.isSome = true → hi.isSome = true) (isS : Bool) (w : World) :
    (Instr.sliceBounds isS len cap (lo.map a.eval) (hi.map a.eval) (mx.map a.eval)).run P w = .ok (l, h, m) w := by
  have M := cOpt_ev H G h3 e3
  have HI := cOpt_ev H G h2 e2
  have LO := cOpt_ev H G h1 e1
  unfold Instr.sliceBounds
  rcases M with ⟨rfl, rfl⟩ | ⟨zm, km, rfl, hm'⟩
  · rcases HI with ⟨rfl, rfl⟩ | ⟨zh, kh, rfl, hh'⟩
    · rcases LO with ⟨rfl, rfl⟩ | ⟨zl, kl, rfl, hl'⟩
      · rfl
      · simp only [Option.map_none, Option.map_some, Sem.run_bind, pure, Sem.run, Result.andThen_ok, run_bound hl' hl]
    · rcases LO with ⟨rfl, rfl⟩ | ⟨zl, kl, rfl, hl'⟩
      · simp only [Option.map_none, Option.map_some, Sem.run_bind, pure, Sem.run, Result.andThen_ok, run_bound hh' hh]
      · simp only [Option.map_none, Option.map_some, Sem.run_bind, pure, Sem.run, Result.andThen_ok, run_bound hh' hh, run_bound hl' hl]
  · rcases HI with ⟨rfl, rfl⟩ | ⟨zh, kh, rfl, hh'⟩
    · cases hmx rfl
    · rcases LO with ⟨rfl, rfl⟩ | ⟨zl, kl, rfl, hl'⟩
      · simp only [Option.map_none, Option.map_some, Sem.run_bind, pure, Sem.run, Result.andThen_ok, run_bound hm' hm, run_bound hh' hh]
      · simp only [Option.map_some, Sem.run_bind, pure, Sem.run, Result.andThen_ok, run_bound hm' hm, run_bound hh' hh, run_bound hl' hl]

end Go.Sx
