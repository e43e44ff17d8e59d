/- THE OPERATIONS: what an instruction leaves is what the model's operation leaves. -/
import Derived.Test.YtaapomafjjikhaaGreatDoorSxHeap
import Derived.Laws.Cells
import Derived.Laws.CopyRow
import Derived.Laws.Entries
import Derived.ChangeKeysEq
/-! THE OPERATIONS: what an instruction leaves is what the model's operation leaves. -/
namespace Go.Sx
open Go.RowKit

/-! ## Types -/
structure TyOk (P : Program) (ty : Nat → Option TI) : Prop where
  und : ∀ t i, ty t = some i → P.underlying t = some i.desc
  info : ∀ t i, ty t = some i → ∃ j, P.info? t = some j ∧ j.size = i.size ∧ j.bytes = i.bytes ∧ ∀ z, i.zero = some z → ∃ v, j.zero = some v ∧ ofV v = some z
  eqOk : ∀ t i, ty t = some i → i.eqOk = true → P.stoodInHeld t = false ∧ P.eqGuardType P.depth t = false

mutual
theorem conc_ofV (E : Env) : ∀ (v : Value) (a : AV), ofV v = some a → conc E a = some v
  | .bool b, a, h => by simp only [ofV, Option.some.injEq] at h; subst h; rfl
  | .int k n, a, h => by simp only [ofV, Option.some.injEq] at h; subst h; rfl
  | .pointer none, a, h => by simp only [ofV, Option.some.injEq] at h; subst h; rfl
  | .pointer (some _), a, h => by simp [ofV] at h
  | .slice none 0 0, a, h => by simp only [ofV, Option.some.injEq] at h; subst h; rfl
  | .slice none (_ + 1) _, a, h => by simp [ofV] at h
  | .slice none 0 (_ + 1), a, h => by simp [ofV] at h
  | .slice (some _) _ _, a, h => by simp [ofV] at h
  | .map none, a, h => by simp only [ofV, Option.some.injEq] at h; subst h; rfl
  | .map (some _), a, h => by simp [ofV] at h
  | .nilFunc, a, h => by simp only [ofV, Option.some.injEq] at h; subst h; rfl
  | .agg ⟨cs⟩, a, h => by
    simp only [ofV, Option.map_eq_some_iff] at h
    obtain ⟨l, hl, rfl⟩ := h
    simp only [conc, concL_ofVs E cs l hl, Option.map_some]
  | .float .., a, h => by simp [ofV] at h
  | .complex .., a, h => by simp [ofV] at h
  | .string .., a, h => by simp [ofV] at h
  | .chan .., a, h => by simp [ofV] at h
  | .func .., a, h => by simp [ofV] at h
  | .iface .., a, h => by simp [ofV] at h
  | .nilIface, a, h => by simp [ofV] at h
  | .tuple .., a, h => by simp [ofV] at h
theorem concL_ofVs (E : Env) : ∀ (l : List Value) (as : List AV), ofVs l = some as → concL E as = some l
  | [], as, h => by simp only [ofVs, Option.some.injEq] at h; subst h; rfl
  | v :: vs, as, h => by
    simp only [ofVs] at h
    cases hv : ofV v with
    | none => rw [hv] at h; cases h
    | some a =>
      cases hl : ofVs vs with
      | none => rw [hv, hl] at h; cases h
      | some l => rw [hv, hl] at h; cases h; exact concL_cons.2 ⟨v, vs, conc_ofV E v a hv, concL_ofVs E vs l hl, rfl⟩
end

theorem run_isAgg {P : Program} {ty : Nat → Option TI} (T : TyOk P ty) {t : Nat} {i : TI} (h : ty t = some i) (w : World) : (isAgg t).run P w = .ok i.isAgg w := by
  have hu := T.und t i h
  unfold isAgg
  simp only [Sem.run_bind, run_underlying hu, Result.andThen_ok]
  unfold TI.isAgg
  cases i.desc <;> rfl

theorem run_size {P : Program} {ty : Nat → Option TI} (T : TyOk P ty) {t : Nat} {i : TI} (h : ty t = some i) (w : World) : (sizeOf t).run P w = .ok i.size w := by
  obtain ⟨j, h1, h2, _, _⟩ := T.info t i h
  unfold sizeOf
  simp only [Sem.run_bind, run_typeInfo w h1, Result.andThen_ok, h2]
  rfl

theorem run_zero {P : Program} {ty : Nat → Option TI} (T : TyOk P ty) {t : Nat} {i : TI} (h : ty t = some i) {z : AV} (hz : i.zero = some z) (E : Env) (w : World) :
    ∃ v, conc E z = some v ∧ (zeroValue t).run P w = .ok v w := by
  obtain ⟨j, h1, _, _, h4⟩ := T.info t i h
  obtain ⟨v, hv, ho⟩ := h4 z hz
  refine ⟨v, conc_ofV E v z ho, ?_⟩
  unfold zeroValue
  simp only [Sem.run_bind, run_typeInfo w h1, Result.andThen_ok, hv]
  rfl

/-! ## Operands -/
theorem eval_tmp (a : Act) (t : Nat) : a.eval (.tmp t) = a.tmps.getD t undef := rfl

theorem opd_ok {n : Nat} {keep : List Nat} {E : Env} {tm : Tm} {a : Act} (H : TmOk n keep E tm a.tmps) {x : Operand} {y : Opd} (hx : cOpd x = some y) {v : Value} (hv : conc E (ev tm y) = some v)
    (G : ∀ b, b < 1000 → E.σ b = some (b, 0)) : a.eval x = v := by
  cases x with
  | tmp t =>
    simp only [cOpd, Option.some.injEq] at hx
    subst hx
    simp only [ev] at hv
    cases hl : tm.look t with
    | none => rw [hl] at hv; simp [conc] at hv
    | some b =>
      rw [hl] at hv
      obtain ⟨u, h1, h2⟩ := H.look hl
      rw [h1] at hv; cases hv
      rw [eval_tmp, Array.getD_eq_getD_getElem?, h2]; rfl
  | const c =>
    simp only [cOpd, Option.map_eq_some_iff] at hx
    obtain ⟨b, hb, rfl⟩ := hx
    simp only [ev] at hv
    rw [conc_ofV E c b hb] at hv; cases hv; rfl
  | global g =>
    simp only [cOpd] at hx
    cases hg : Nat.ble (Nat.succ g) 1000 with
    | false => rw [hg] at hx; cases hx
    | true =>
      rw [hg, cond_true, Option.some.injEq] at hx
      subst hx
      simp only [ev, conc, G g (by have := ble_t.1 hg; omega), Option.map_some, Option.some.injEq] at hv
      subst hv; rfl
  | func f =>
    simp only [cOpd, Option.some.injEq] at hx
    subst hx
    simp only [ev, conc, concL, Option.some.injEq] at hv
    subst hv; rfl

theorem opd_some {n : Nat} {keep : List Nat} {E : Env} {tm : Tm} {a : Act} (H : TmOk n keep E tm a.tmps) {x : Operand} {y : Opd} (hx : cOpd x = some y) (hb : notBad (ev tm y) = true)
    (G : ∀ b, b < 1000 → E.σ b = some (b, 0)) : conc E (ev tm y) = some (a.eval x) := by
  have key : ∃ v, conc E (ev tm y) = some v := by
    cases x with
    | tmp t =>
      simp only [cOpd, Option.some.injEq] at hx
      subst hx
      simp only [ev] at hb ⊢
      cases hl : tm.look t with
      | none => rw [hl] at hb; cases hb
      | some b => obtain ⟨u, h1, h2⟩ := H.look hl; exact ⟨u, h1⟩
    | const c =>
      simp only [cOpd, Option.map_eq_some_iff] at hx
      obtain ⟨b, hb', rfl⟩ := hx
      exact ⟨c, conc_ofV E c b hb'⟩
    | global g =>
      simp only [cOpd] at hx
      cases hg : Nat.ble (Nat.succ g) 1000 with
      | false => rw [hg] at hx; cases hx
      | true =>
        rw [hg, cond_true, Option.some.injEq] at hx
        subst hx
        exact ⟨.pointer (some ⟨g, 0 + 0, none⟩), by simp only [ev, conc, G g (by have := ble_t.1 hg; omega), Option.map_some]⟩
    | func f =>
      simp only [cOpd, Option.some.injEq] at hx
      subst hx
      exact ⟨_, rfl⟩
  obtain ⟨v, hv⟩ := key
  rw [hv, opd_ok H hx hv G]

theorem notBad_of_conc {E : Env} {a : AV} {v : Value} (h : conc E a = some v) : notBad a = true := by
  cases a <;> first | rfl | simp [conc] at h

/-! ## What an operation does -/
def Does (P : Program) (R : Result Next) (K : Value → World → Prop) : Prop :=
  match R with
  | .ok (.value v) w => K v w
  | .ok .skip w => K undef w
  | .ok (.enter f args) w => Calls P f args w fun e w' => ∃ v, e = .returned v ∧ K v w'
  | .ok (.round l f tmps assign body) w => RoundIn Fence.wide 0 P l f tmps assign body w fun e w' => ∃ v, e = .returned v ∧ K v w'
  | _ => False

def fence (rd : Option Nat) : Fence :=
  match rd with
  | none => Fence.wide
  | some l => Fence.wide.inRound l

theorem fence_fn (rd : Option Nat) (f : FuncId) : (fence rd).fn f := by cases rd <;> trivial
theorem fence_depth (rd : Option Nat) : (fence rd).depth = none := by cases rd <;> rfl
theorem fence_round (rd : Option Nat) : (fence rd).round = rd := by cases rd <;> rfl

theorem Does.upon {P : Program} {R : Result Next} {o : Oper} {a : Act} {next : Act → World → Prop} {Q : Exit → Act → World → Prop} {rd : Option Nat}
    (h : Does P R fun v w => next (a.put o.dst v) w) : o.uponIn (fence rd) 0 P a next Q R := by
  unfold Does at h
  cases R with
  | halt x w => cases x <;> exact h.elim
  | ok x w =>
    cases x with
    | value v => exact h
    | skip => exact h
    | enter f args =>
      refine ⟨fun hd => (by rw [fence_depth] at hd; cases hd), ?_⟩
      have : CallsIn (fence rd) 0 P f args w fun e w' => ∃ v, e = .returned v ∧ next (a.put o.dst v) w' := by
        cases rd with
        | none => exact callsIn_wide.2 h
        | some l => exact CallsIn.inRound l (callsIn_wide.2 h)
      exact this.mono fun e w' ⟨v, he, hk⟩ => by subst he; exact hk
    | round l f tmps assign body =>
      refine ⟨fun hd => (by rw [fence_depth] at hd; cases hd), ?_⟩
      have : RoundIn (fence rd) 0 P l f tmps assign body w fun e w' => ∃ v, e = .returned v ∧ next (a.put o.dst v) w' := by
        cases rd with
        | none => exact h
        | some l' => exact h
      exact this.mono fun e w' ⟨v, he, hk⟩ => by subst he; exact hk
    | _ => exact h.elim

/-- what is owed behind an instruction -/
def Post (p : Par) (E : Env) (w0 : Base) (Q : AV × Heap → Prop) (K : Value → World → Prop) : Prop :=
  ∀ v h' E' w' cv, Q (v, h') → E.le E' → HeapOk p E' h' w0 w' → conc E' v = some cv → K cv w'

structure CxOk (p : Par) (cx : Cx) : Prop where
  call : ∀ f args h vs E w0 w Q K, (cx.call f args h).Holds E.ρ Q → HeapOk p E h w0 w → concL E args = some vs → Post p E w0 Q K →
    (callFunc f vs.toArray).run p.P w = .ok (.enter f vs.toArray) w ∧ Calls p.P f vs.toArray w fun e w' => ∃ v, e = .returned v ∧ K v w'
  yield : ∀ l args h vs E w0 w Q K q, (cx.yield l args h).Holds E.ρ Q → HeapOk p E h w0 w → concL E args = some vs → E.σ l = some q → Post p E w0 Q K →
    Does p.P ((Instr.yield q.1 vs.toArray).run p.P w) K

/-- AN INSTRUCTION STANDS FOR AN OPERATION. -/
def InsOk (p : Par) (f : Ins) (o : Oper) : Prop :=
  ∀ cx n keep E w0 tm h (a : Act) w Q K, CxOk p cx → TmOk n keep E tm a.tmps → HeapOk p E h w0 w → (f cx tm h).Holds E.ρ Q → Post p E w0 Q K →
    Does p.P ((execOp a.eval o).run p.P w) K

/-- an operation that hands back a value and leaves the world -/
theorem does_value {P : Program} {s : Sem Value} {w w' : World} {v : Value} {K : Value → World → Prop} (h : s.run P w = .ok v w') (k : K v w') :
    Does P ((do let x ← s; pure (Next.value x) : Sem Next).run P w) K := by
  simp only [Sem.run_bind, h, Result.andThen_ok]; exact k
theorem does_unit {P : Program} {s : Sem Unit} {w w' : World} {K : Value → World → Prop} (h : s.run P w = .ok () w') (k : K undef w') :
    Does P ((do s; pure Next.skip : Sem Next).run P w) K := by
  simp only [Sem.run_bind, h, Result.andThen_ok]; exact k

theorem Post.same {p : Par} {E : Env} {w0 : Base} {w : World} {Q : AV × Heap → Prop} {K : Value → World → Prop} {h : Heap} {a : AV} {v : Value} (P : Post p E w0 Q K) (H : HeapOk p E h w0 w)
    (q : Q (a, h)) (hv : conc E a = some v) : K v w := P a h E w v q (Env.le.refl E) H hv

theorem rMov_holds {ρ : Rho} {h : Heap} {v : AV} {Q : AV × Heap → Prop} (k : (rMov h v).Holds ρ Q) : notBad v = true ∧ Q (v, h) := by
  unfold rMov at k
  cases hb : notBad v with
  | false => rw [hb] at k; exact k.elim
  | true => rw [hb] at k; exact ⟨rfl, k⟩

theorem with1_some {x : Operand} {k : Opd → Option Ins} {f : Ins} (h : with1 x k = some f) : ∃ y, cOpd x = some y ∧ k y = some f := by
  unfold with1 at h
  cases hx : cOpd x with
  | none => rw [hx] at h; cases h
  | some y => rw [hx] at h; exact ⟨y, rfl, h⟩
theorem with2_some {x x' : Operand} {k : Opd → Opd → Option Ins} {f : Ins} (h : with2 x x' k = some f) : ∃ y y', cOpd x = some y ∧ cOpd x' = some y' ∧ k y y' = some f := by
  unfold with2 at h
  cases hx : cOpd x with
  | none => rw [hx] at h; cases h
  | some y =>
    cases hx' : cOpd x' with
    | none => rw [hx, hx'] at h; cases h
    | some y' => rw [hx, hx'] at h; exact ⟨y, y', rfl, rfl, h⟩
theorem with3_some {x x' x'' : Operand} {k : Opd → Opd → Opd → Option Ins} {f : Ins} (h : with3 x x' x'' k = some f) :
    ∃ y y' y'', cOpd x = some y ∧ cOpd x' = some y' ∧ cOpd x'' = some y'' ∧ k y y' y'' = some f := by
  unfold with3 at h
  cases hx : cOpd x with
  | none => rw [hx] at h; cases h
  | some y =>
    cases hx' : cOpd x' with
    | none => rw [hx, hx'] at h; cases h
    | some y' =>
      cases hx'' : cOpd x'' with
      | none => rw [hx, hx', hx''] at h; cases h
      | some y'' => rw [hx, hx', hx''] at h; exact ⟨y, y', y'', rfl, rfl, rfl, h⟩

theorem mov_ok {p : Par} {x : Operand} {y : Opd} (hx : cOpd x = some y) {o : Oper} (ho : o.op = .move x ∨ o.op = .assign x) : InsOk p (iMov y) o := by
  intro cx n keep E w0 tm h a w Q K _ HT HH k P
  obtain ⟨hb, q⟩ := rMov_holds k
  have hv := opd_some HT hx hb HH.glob
  have : execOp a.eval o = pure (.value (a.eval x)) := by unfold execOp; rcases ho with ho | ho <;> rw [ho]
  rw [this]
  exact P.same HH q hv

theorem pick_ok {p : Par} {x x1 x2 : Operand} {y y1 y2 : Opd} (hx : cOpd x = some y) (h1 : cOpd x1 = some y1) (h2 : cOpd x2 = some y2) {o : Oper} (ho : o.op = .pick x x1 x2) : InsOk p (iPick y y1 y2) o := by
  intro cx n keep E w0 tm h a w Q K _ HT HH k P
  simp only [iPick, rPick] at k
  cases hc : ev tm y with
  | bool c =>
    rw [hc] at k
    simp only [T.holds_ite] at k
    have hv : a.eval x = .bool (c.den E.ρ) := opd_ok HT hx (v := .bool (c.den E.ρ)) (by rw [hc]; rfl) HH.glob
    have : (execOp a.eval o).run p.P w = .ok (.value (if c.den E.ρ then a.eval x1 else a.eval x2)) w := by
      unfold execOp; rw [ho]
      simp only [hv, Sem.run_bind]
      cases c.den E.ρ <;> rfl
    rw [this]
    cases hd : c.den E.ρ with
    | true =>
      rw [hd] at k
      obtain ⟨hb, q⟩ := rMov_holds k
      exact P.same HH q (opd_some HT h1 hb HH.glob)
    | false =>
      rw [hd] at k
      obtain ⟨hb, q⟩ := rMov_holds k
      exact P.same HH q (opd_some HT h2 hb HH.glob)
  | _ => rw [hc] at k; exact k.elim

/-! ## New blocks -/
theorem conc_cells {E : Env} {a : AV} {v : Value} (h : conc E a = some v) (ok : allOk a.cellsOf = true) : concL E a.cellsOf = some v.cells.toList := by
  cases a with
  | agg cs =>
    simp only [conc, Option.map_eq_some_iff] at h
    obtain ⟨l, hl, rfl⟩ := h
    simpa [AV.cellsOf, Value.cells] using hl
  | bool b => simp only [conc, Option.some.injEq] at h; subst h; exact concL_cons.2 ⟨_, [], rfl, rfl, rfl⟩
  | int k e => simp only [conc, Option.some.injEq] at h; subst h; exact concL_cons.2 ⟨_, [], rfl, rfl, rfl⟩
  | nilptr => simp only [conc, Option.some.injEq] at h; subst h; exact concL_cons.2 ⟨_, [], rfl, rfl, rfl⟩
  | nilslice => simp only [conc, Option.some.injEq] at h; subst h; exact concL_cons.2 ⟨_, [], rfl, rfl, rfl⟩
  | nilmap => simp only [conc, Option.some.injEq] at h; subst h; exact concL_cons.2 ⟨_, [], rfl, rfl, rfl⟩
  | nilFunc => simp only [conc, Option.some.injEq] at h; subst h; exact concL_cons.2 ⟨_, [], rfl, rfl, rfl⟩
  | ptr b off => have h' := h; simp only [conc, Option.map_eq_some_iff] at h'; obtain ⟨q, _, rfl⟩ := h'; exact concL_cons.2 ⟨_, [], h, rfl, rfl⟩
  | slice b off len cap => have h' := h; simp only [conc, Option.map_eq_some_iff] at h'; obtain ⟨q, _, rfl⟩ := h'; exact concL_cons.2 ⟨_, [], h, rfl, rfl⟩
  | sliceX b s lo len => obtain ⟨q, _, _, rfl⟩ := sliceX_conc h; exact concL_cons.2 ⟨_, [], h, rfl, rfl⟩
  | sliceU i => obtain ⟨_, _, _, rfl, _⟩ := sliceU_conc h; exact concL_cons.2 ⟨_, [], h, rfl, rfl⟩
  | sliceV b i => obtain ⟨_, _, _, rfl⟩ := sliceV_conc h; exact concL_cons.2 ⟨_, [], h, rfl, rfl⟩
  | ptrV b i s o e => obtain ⟨_, _, _, _, rfl⟩ := ptrV_conc h; exact concL_cons.2 ⟨_, [], h, rfl, rfl⟩
  | map b => have h' := h; simp only [conc, Option.map_eq_some_iff] at h'; obtain ⟨q, _, rfl⟩ := h'; exact concL_cons.2 ⟨_, [], h, rfl, rfl⟩
  | yieldF b => have h' := h; simp only [conc, Option.map_eq_some_iff] at h'; obtain ⟨q, _, rfl⟩ := h'; exact concL_cons.2 ⟨_, [], h, rfl, rfl⟩
  | func fn x y =>
    have h' := h
    simp only [conc] at h'
    have : ∃ f a b, v = .func f a b := by
      cases hx : concL E x with
      | none => rw [hx] at h'; cases fn <;> simp at h'
      | some l =>
        cases hy : concL E y with
        | none => rw [hx, hy] at h'; cases fn <;> simp at h'
        | some m => rw [hx, hy] at h'; cases fn <;> simp at h' <;> exact ⟨_, _, _, h'.symm⟩
    obtain ⟨f, l, m, rfl⟩ := this
    exact concL_cons.2 ⟨_, [], h, rfl, rfl⟩
  | tup cs =>
    have h' := h
    simp only [conc, Option.map_eq_some_iff] at h'; obtain ⟨q, _, rfl⟩ := h'; exact concL_cons.2 ⟨_, [], h, rfl, rfl⟩
  | opq i => simp [allOk, lAll_eq, AV.cellsOf, okCell] at ok
  | bad => simp [conc] at h

theorem okCell_one {E : Env} {a : AV} {v : Value} (h : conc E a = some v) (ok : okCell a = true) : v.oneCell' = true := by
  cases a with
  | agg cs => cases ok
  | tup cs => cases ok
  | opq i => cases ok
  | bad => cases ok
  | bool b => simp only [conc, Option.some.injEq] at h; subst h; rfl
  | int k e => simp only [conc, Option.some.injEq] at h; subst h; rfl
  | nilptr => simp only [conc, Option.some.injEq] at h; subst h; rfl
  | nilslice => simp only [conc, Option.some.injEq] at h; subst h; rfl
  | nilmap => simp only [conc, Option.some.injEq] at h; subst h; rfl
  | nilFunc => simp only [conc, Option.some.injEq] at h; subst h; rfl
  | ptr b off => simp only [conc, Option.map_eq_some_iff] at h; obtain ⟨q, _, rfl⟩ := h; rfl
  | slice b off len cap => simp only [conc, Option.map_eq_some_iff] at h; obtain ⟨q, _, rfl⟩ := h; rfl
  | sliceX b s lo len => obtain ⟨q, _, _, rfl⟩ := sliceX_conc h; rfl
  | sliceU i => obtain ⟨_, _, _, rfl, _⟩ := sliceU_conc h; rfl
  | sliceV b i => obtain ⟨_, _, _, rfl⟩ := sliceV_conc h; rfl
  | ptrV b i s o e => obtain ⟨_, _, _, _, rfl⟩ := ptrV_conc h; rfl
  | map b => simp only [conc, Option.map_eq_some_iff] at h; obtain ⟨q, _, rfl⟩ := h; rfl
  | yieldF b => simp only [conc, Option.map_eq_some_iff] at h; obtain ⟨q, _, rfl⟩ := h; rfl
  | func fn x y =>
    simp only [conc] at h
    cases hx : concL E x with
    | none => rw [hx] at h; cases fn <;> simp at h
    | some l =>
      cases hy : concL E y with
      | none => rw [hx, hy] at h; cases fn <;> simp at h
      | some m => rw [hx, hy] at h; cases fn <;> simp at h <;> subst h <;> rfl

theorem allOk_cons {a : AV} {l : List AV} : allOk (a :: l) = (okCell a && allOk l) := by simp [allOk, lAll_eq]

theorem allOk_one {E : Env} : ∀ {l : List AV} {vs : List Value}, concL E l = some vs → allOk l = true → ∀ v ∈ vs, v.oneCell' = true
  | [], vs, h, _ => by simp only [concL, Option.some.injEq] at h; subst h; simp
  | a :: l, vs, h, ok => by
    obtain ⟨v, r, hv, hr, rfl⟩ := concL_cons.1 h
    rw [allOk_cons, Bool.and_eq_true] at ok
    intro u hu
    rcases List.mem_cons.1 hu with rfl | hu
    · exact okCell_one hv ok.1
    · exact allOk_one hr ok.2 u hu

/-- every operand that is of a heap's own kind has a meaning or is bad -/
theorem cells_bad {a : AV} (ok : allOk a.cellsOf = true) : notBad a = true := by
  cases a <;> first | rfl | (simp [allOk, lAll_eq, AV.cellsOf, okCell] at ok)

/-- THE NEW BLOCK OF A VARIABLE. -/
theorem HeapOk.newCells {p : Par} {E : Env} {h : Heap} {w0 : Base} {w : World} (H : HeapOk p E h w0 w) {cs : List AV} {vs : List Value} (hv : concL E cs = some vs) (t : TypeId) (κ : Nat) :
    HeapOk p (E.with h.next (w.heap.size, 0) κ) (h.new (.cells cs t true false)) w0 (w.alloc (.cells vs.toArray t)) := by
  have hle := Env.with_le (H.fresh _ (Nat.le_refl _)) H.nx (w.heap.size, 0) κ
  refine H.alloc rfl ⟨w.heap.size, 0, vs, vs.toArray, t, (0, 0), Env.with_at _ _ _ _, concL_mono hle _ _ hv, by simp, fun i _ => by simp, fun _ => ⟨rfl, rfl, fun _ => by simp, fun e => by cases e⟩⟩

theorem ptr_new {E : Env} {n c κ : Nat} : conc (E.with n (c, 0) κ) (.ptr n 0) = some (.pointer (some ⟨c, 0, none⟩)) := by
  simp [conc, Env.with_at]

theorem zeroOf_some {i : TI} {z : List AV} (h : zeroOf i = some z) : ∃ v, i.zero = some v ∧ z = v.cellsOf ∧ allOk v.cellsOf = true ∧ v.cellsOf.length = i.size := by
  unfold zeroOf at h
  cases hz : i.zero with
  | none => rw [hz] at h; cases h
  | some v =>
    rw [hz] at h
    simp only at h
    cases hb : and (allOk v.cellsOf) (Nat.beq (lLen v.cellsOf) i.size) with
    | false => rw [hb] at h; cases h
    | true =>
      rw [hb] at h
      have hb' := Bool.and_eq_true_iff.1 hb
      rw [lLen_eq] at hb'
      exact ⟨v, rfl, (Option.some.inj h).symm, hb'.1, beq_t.1 hb'.2⟩

theorem rNew_holds {ρ : Rho} {h : Heap} {t : Nat} {cs : List AV} {Q : AV × Heap → Prop} (k : (rNew h t cs).Holds ρ Q) : allOk cs = true ∧ Q (.ptr h.next 0, h.new (.cells cs t true false)) := by
  unfold rNew at k
  cases hb : allOk cs with
  | false => rw [hb] at k; exact k.elim
  | true => rw [hb] at k; exact ⟨rfl, k⟩

theorem alloc_ok {p : Par} {ty : Nat → Option TI} (T : TyOk p.P ty) {t : Nat} {i : TI} {z : List AV} (ht : ty t = some i) (hz : zeroOf i = some z) {o : Oper} (ho : o.op = .alloc t) : InsOk p (iAlloc t z) o := by
  intro cx n keep E w0 tm h a w Q K _ HT HH k P
  obtain ⟨hb, q⟩ := rNew_holds k
  obtain ⟨v, hv0, rfl, hok, _⟩ := zeroOf_some hz
  obtain ⟨u, hu, hrun⟩ := run_zero T ht hv0 E w
  have hcs := conc_cells hu hok
  have hex : execOp a.eval o = (do let x ← Instr.alloc t true (.tuple #[]); pure (Next.value x)) := by unfold execOp; rw [ho]
  rw [hex]
  refine does_value (v := .pointer (some ⟨w.heap.size, 0, none⟩)) (w' := w.alloc (.cells u.cells t)) ?_ ?_
  · unfold Instr.alloc
    simp only [Sem.run_bind, hrun, Result.andThen_ok]
    rfl
  · have := HH.newCells (p := p) hcs t 0
    rw [show (u.cells.toList).toArray = u.cells from by simp] at this
    exact P _ _ _ _ _ q (Env.with_le (HH.fresh _ (Nat.le_refl _)) HH.nx _ _) this ptr_new

theorem box_ok {p : Par} {t : Nat} {x : Operand} {y : Opd} (hx : cOpd x = some y) {o : Oper} (ho : o.op = .box t x) : InsOk p (iBox t y) o := by
  intro cx n keep E w0 tm h a w Q K _ HT HH k P
  obtain ⟨hok, q⟩ := rNew_holds k
  have hu := opd_some HT hx (cells_bad hok) HH.glob
  have hcs := conc_cells hu hok
  have hex : execOp a.eval o = (do let x ← Instr.box t (a.eval x); pure (Next.value x)) := by unfold execOp; rw [ho]
  rw [hex]
  refine does_value (v := .pointer (some ⟨w.heap.size, 0, none⟩)) (w' := w.alloc (.cells (a.eval x).cells t)) rfl ?_
  have := HH.newCells (p := p) hcs t 0
  rw [show ((a.eval x).cells.toList).toArray = (a.eval x).cells from by simp] at this
  exact P _ _ _ _ _ q (Env.with_le (HH.fresh _ (Nat.le_refl _)) HH.nx _ _) this ptr_new

/-! ## Loads and stores -/
theorem HeapOk.cell {p : Par} {E : Env} {h : Heap} {w0 : Base} {w : World} (H : HeapOk p E h w0 w) {b off : Nat} {cs : List AV} {a : AV} (hc : h.cells b = some cs) (ha : cs[off]? = some a) {q : Nat × Nat} (hq : E.σ b = some q) :
    ∃ v, conc E a = some v ∧ w.cell? ⟨q.1, q.2 + off, none⟩ = some v := by
  unfold Heap.cells at hc
  cases hg : h.get b with
  | none => rw [hg] at hc; cases hc
  | some o =>
    rw [hg] at hc
    cases o with
    | cells l e own ext =>
      cases hc
      obtain ⟨c, base, vs, cells, el, fz, h1, h2, h3, h4, _⟩ := H.obj b _ hg
      rw [hq] at h1; cases h1
      obtain ⟨v, hv, hi⟩ := concL_get h2 ha
      refine ⟨v, hv, ?_⟩
      have hlt : off < vs.length := (List.getElem?_eq_some_iff.1 hi).1
      simp only [World.cell?, h3, Option.isSome_none, Bool.false_eq_true, if_false]
      rw [h4 off hlt, hi]
    | _ => cases hc

theorem ptr_conc {E : Env} {b off : Nat} {v : Value} (h : conc E (.ptr b off) = some v) : ∃ q, E.σ b = some q ∧ v = .pointer (some ⟨q.1, q.2 + off, none⟩) := by
  simp only [conc, Option.map_eq_some_iff] at h
  obtain ⟨q, h1, h2⟩ := h
  exact ⟨q, h1, h2.symm⟩

theorem run_loadPlain {P : Program} {ty : Nat → Option TI} (T : TyOk P ty) {t : Nat} {i : TI} (ht : ty t = some i) (hagg : i.isAgg = false) {c : Addr} {v : Value} {w : World} (hc : w.cell? c = some v) :
    (Instr.loadAt t (.pointer (some c))).run P w = .ok v w := by
  unfold Instr.loadAt Instr.sureAddr loadVar
  simp only [Sem.run_bind, pure, Sem.run, Result.andThen_ok, run_isAgg T ht, hagg, Bool.false_eq_true, if_false]
  simp [load, Sem.run, hc]

/-- what lies in a list that is not known -/
theorem cellU_conc {E : Env} {i off : Nat} {e : IE} {n : Nat} (hn : e.den E.ρ = (n : Int)) (k : Bool) : conc E (cellU i off e k) = some (cellOf E.ρ i n off k) := by
  unfold cellU cellOf
  have h1 : 1000 ≤ Nat.add 1000 i := Nat.le_add_right _ _
  cases k with
  | false => simp only [cond, conc, IE.den, FI, if_pos h1, hn]; rfl
  | true => simp only [cond, conc, BE.den, IE.den, FB, if_pos h1, hn]; rfl
theorem HeapOk.ucell {p : Par} {E : Env} {h : Heap} {w0 : Base} {w : World} (H : HeapOk p E h w0 w) {b i n off : Nat} {ks : List Bool} {k : Bool} (hc : h.get b = some (.ucells i ks)) (hn : (n : Int) < E.ρ.iv i)
    (hk : ks[off]? = some k) {q : Nat × Nat} (hq : E.σ b = some q) : w.cell? ⟨q.1, q.2 + n * ks.length + off, none⟩ = some (cellOf E.ρ i n off k) := by
  obtain ⟨c, base, cells, el, fz, h1, h3, h4⟩ := H.obj b _ hc
  rw [hq] at h1; cases h1
  simp only [World.cell?, h3, Option.isSome_none, Bool.false_eq_true, if_false]
  exact h4 n off k hn hk
theorem cellsU_conc {E : Env} {i : Nat} {e : IE} {n : Nat} (hn : e.den E.ρ = (n : Int)) : ∀ (ks : List Bool) (off : Nat),
    ∃ vs, concL E (cellsU i e ks off) = some vs ∧ vs.length = ks.length ∧ ∀ j k, ks[j]? = some k → vs[j]? = some (cellOf E.ρ i n (off + j) k)
  | [], off => ⟨[], rfl, rfl, fun j k hk => by simp at hk⟩
  | k :: ks, off => by
    obtain ⟨vs, h1, h2, h3⟩ := cellsU_conc (E := E) (i := i) hn ks (off + 1)
    refine ⟨cellOf E.ρ i n off k :: vs, by rw [show cellsU i e (k :: ks) off = cellU i off e k :: cellsU i e ks (off + 1) from rfl]; simp only [concL, cellU_conc hn, h1], by simp [h2], fun j k' hk => ?_⟩
    cases j with
    | zero => cases hk; rfl
    | succ j => rw [show off + (j + 1) = off + 1 + j by omega]; exact h3 j k' hk

theorem load_ok {p : Par} {ty : Nat → Option TI} (T : TyOk p.P ty) {t : Nat} {i : TI} (ht : ty t = some i) (hagg : i.isAgg = false) {x : Operand} {y : Opd} (hx : cOpd x = some y) {o : Oper} (ho : o.op = .load t x) : InsOk p (iLoad y) o := by
  intro cx n keep E w0 tm h a w Q K _ HT HH k P
  obtain ⟨r, hr, q⟩ := holds_mk2 k
  have hex : execOp a.eval o = (do let x ← Instr.loadAt t (a.eval x); pure (Next.value x)) := by unfold execOp; rw [ho]
  rw [hex]
  cases he : ev tm y with
  | ptr b off =>
    rw [he] at hr
    simp only [aload] at hr
    cases hcs : h.cells b with
    | none => rw [hcs] at hr; cases hr
    | some cs =>
      rw [hcs] at hr
      simp only [listGet_eq] at hr
      have hn := opd_some HT hx (by rw [he]; rfl) HH.glob
      rw [he] at hn
      obtain ⟨q', hq', hv'⟩ := ptr_conc hn
      obtain ⟨v, hv, hcell⟩ := HH.cell hcs hr hq'
      rw [hv']
      exact does_value (run_loadPlain T ht hagg hcell) (P.same HH q hv)
  | ptrV b i' size off e =>
    rw [he] at hr
    simp only [aload] at hr
    split at hr
    · rename_i i2 ks hcs
      cases hb : (Nat.beq i' i2 && Nat.beq size (lLen ks)) with
      | false => rw [hb] at hr; cases hr
      | true =>
        rw [hb] at hr
        simp only [cond] at hr
        simp only [Bool.and_eq_true] at hb
        obtain ⟨hb1, hb2⟩ := hb
        cases Nat.eq_of_beq_eq_true hb1
        have hsz := Nat.eq_of_beq_eq_true hb2
        rw [lLen_eq] at hsz; subst hsz
        rw [listGet_eq] at hr
        cases hk : ks[off]? with
        | none => rw [hk] at hr; cases hr
        | some k' =>
          rw [hk] at hr; cases hr
          have hn := opd_some HT hx (by rw [he]; rfl) HH.glob
          rw [he] at hn
          obtain ⟨q', hq', hp, hl, hv'⟩ := ptrV_conc hn
          have hnn : e.den E.ρ = ((e.den E.ρ).toNat : Int) := (Int.toNat_of_nonneg hp).symm
          rw [hv']
          exact does_value (run_loadPlain T ht hagg (HH.ucell hcs (hnn ▸ hl) hk hq')) (P.same HH q (cellU_conc hnn k'))
    · cases hr
  | _ => rw [he] at hr; simp [aload] at hr

theorem HeapOk.cellsRange {p : Par} {E : Env} {h : Heap} {w0 : Base} {w : World} (H : HeapOk p E h w0 w) {b off n : Nat} {cs l : List AV} (hc : h.cells b = some cs) (hs : listSub cs off n = some l) {q : Nat × Nat} (hq : E.σ b = some q) :
    ∃ vs, concL E l = some vs ∧ vs.length = n ∧ ∀ j v, vs[j]? = some v → w.cell? ⟨q.1, q.2 + off + j, none⟩ = some v := by
  obtain ⟨hle, rfl⟩ := listSub_eq hs
  unfold Heap.cells at hc
  cases hg : h.get b with
  | none => rw [hg] at hc; cases hc
  | some o =>
    rw [hg] at hc
    cases o with
    | cells l e own ext =>
      cases hc
      obtain ⟨c, base, vs, cells, el, fz, h1, h2, h3, h4, _⟩ := H.obj b _ hg
      rw [hq] at h1; cases h1
      have hlen := concL_len h2
      refine ⟨(vs.drop off).take n, concL_take (concL_drop h2 off) n, by simp; omega, fun j v hj => ?_⟩
      rw [List.getElem?_take] at hj
      split at hj
      · rename_i hjn
        rw [List.getElem?_drop] at hj
        simp only [World.cell?, h3, Option.isSome_none, Bool.false_eq_true, if_false]
        rw [Nat.add_assoc, h4 (off + j) (by omega), hj]
      · cases hj
    | _ => cases hc

theorem run_loadCellsAt {P : Program} {w : World} {c : Nat} {o n : Nat} {vs : List Value} (hn : vs.length = n) (h : ∀ j v, vs[j]? = some v → w.cell? ⟨c, o + j, none⟩ = some v) :
    (loadCells ⟨c, o, none⟩ n).run P w = .ok vs.toArray w := by
  subst hn
  refine run_loadCells_list (P := P) (w := w) ⟨c, o, none⟩ vs (fun j v hj => ?_)
  have := h j v hj
  unfold Addr.add
  split
  · rename_i hj0; subst hj0; simpa using this
  · exact this

theorem run_loadWhole {P : Program} {ty : Nat → Option TI} (T : TyOk P ty) {t : Nat} {i : TI} (ht : ty t = some i) (hagg : i.isAgg = true) {c o : Nat} {vs : List Value} {w : World} (hn : vs.length = i.size)
    (hc : ∀ j v, vs[j]? = some v → w.cell? ⟨c, o + j, none⟩ = some v) : (Instr.loadAt t (.pointer (some ⟨c, o, none⟩))).run P w = .ok (.agg vs.toArray) w := by
  unfold Instr.loadAt Instr.sureAddr loadVar
  simp only [Sem.run_bind, pure, Sem.run, Result.andThen_ok, run_isAgg T ht, hagg, if_true, run_size T ht]
  rw [run_loadCellsAt hn hc]
  rfl

theorem loadN_ok {p : Par} {ty : Nat → Option TI} (T : TyOk p.P ty) {t : Nat} {i : TI} (ht : ty t = some i) (hagg : i.isAgg = true) {x : Operand} {y : Opd} (hx : cOpd x = some y) {o : Oper} (ho : o.op = .load t x) : InsOk p (iLoadN i.size y) o := by
  intro cx n keep E w0 tm h a w Q K _ HT HH k P
  obtain ⟨r, hr, q⟩ := holds_mk2 k
  have hex : execOp a.eval o = (do let x ← Instr.loadAt t (a.eval x); pure (Next.value x)) := by unfold execOp; rw [ho]
  rw [hex]
  cases he : ev tm y with
  | ptr b off =>
    rw [he] at hr
    simp only [aloadN] at hr
    cases hcs : h.cells b with
    | none => rw [hcs] at hr; cases hr
    | some cs =>
      rw [hcs] at hr
      simp only [Option.map_eq_some_iff] at hr
      obtain ⟨l, hl, rfl⟩ := hr
      have hn := opd_some HT hx (by rw [he]; rfl) HH.glob
      rw [he] at hn
      obtain ⟨q', hq', hv'⟩ := ptr_conc hn
      obtain ⟨vs, hvs, hlen, hcell⟩ := HH.cellsRange hcs hl hq'
      rw [hv']
      exact does_value (run_loadWhole T ht hagg hlen hcell) (P.same HH q (by simp [conc, hvs]))
  | ptrV b i' size off e =>
    rw [he] at hr
    simp only [aloadN] at hr
    split at hr
    · rename_i i2 ks hcs
      cases hb : (Nat.beq i' i2 && Nat.beq size (lLen ks)) with
      | false => rw [hb] at hr; cases hr
      | true =>
        rw [hb] at hr
        simp only [cond] at hr
        simp only [Bool.and_eq_true] at hb
        obtain ⟨hb1, hb2⟩ := hb
        cases Nat.eq_of_beq_eq_true hb1
        have hsz := Nat.eq_of_beq_eq_true hb2
        rw [lLen_eq] at hsz; subst hsz
        cases hk : listSub ks off i.size with
        | none => rw [hk] at hr; cases hr
        | some l =>
          rw [hk] at hr; cases hr
          have hn := opd_some HT hx (by rw [he]; rfl) HH.glob
          rw [he] at hn
          obtain ⟨q', hq', hp, hl, hv'⟩ := ptrV_conc hn
          have hnn : e.den E.ρ = ((e.den E.ρ).toNat : Int) := (Int.toNat_of_nonneg hp).symm
          obtain ⟨hle, rfl⟩ := listSub_eq hk
          obtain ⟨vs, hvs, hlen, hcell⟩ := cellsU_conc (E := E) (i := i') hnn ((ks.drop off).take i.size) off
          rw [hv']
          have hlen' : vs.length = i.size := by rw [hlen]; simp; omega
          refine does_value (run_loadWhole T ht hagg hlen' (fun j v hj => ?_)) (P.same HH q (by simp [conc, hvs]))
          have hjl : j < i.size := hlen' ▸ (List.getElem?_eq_some_iff.1 hj).1
          have hks : ((ks.drop off).take i.size)[j]? = some (ks[off + j]'(by omega)) := by
            rw [List.getElem?_take, if_pos hjl, List.getElem?_drop]; exact List.getElem?_eq_getElem (by omega)
          have := hcell j _ hks
          rw [hj] at this; cases this
          rw [show q'.2 + (e.den E.ρ).toNat * ks.length + off + j = q'.2 + (e.den E.ρ).toNat * ks.length + (off + j) by omega]
          exact HH.ucell hcs (hnn ▸ hl) (by rw [List.getElem?_eq_getElem (by omega)]) hq'
    · cases hr
  | _ => rw [he] at hr; simp [aloadN] at hr

end Go.Sx
