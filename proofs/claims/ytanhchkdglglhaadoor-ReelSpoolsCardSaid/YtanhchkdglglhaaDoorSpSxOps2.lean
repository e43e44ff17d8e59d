/- THE OPERATIONS, ON: stores; numbers; truth values; parts of values. -/
import Derived.Test.YtanhchkdglglhaaDoorSpSxHeap
import Derived.Laws.Cells
import Derived.Laws.CopyRow
import Derived.Laws.Entries
import Derived.ChangeKeysEq
import Derived.IntWalk
/-! THE OPERATIONS: what an instruction leaves is what the model's operation leaves. -/
namespace Go.Sx
open Go.RowKit

/-! ## Types -/
structure TyOk (P : Program) (ty : Nat → Option TI) : Prop where
  und : ∀ t i, ty t = some i → P.underlying t = some i.desc
  info : ∀ t i, ty t = some i → ∃ j, P.info? t = some j ∧ j.size = i.size ∧ j.bytes = i.bytes ∧ ∀ z, i.zero = some z → ∃ v, j.zero = some v ∧ ofV v = some z
  eqOk : ∀ t i, ty t = some i → i.eqOk = true → P.stoodInHeld t = false ∧ P.eqGuardType P.depth t = false

mutual
theorem conc_ofV (E : Env) : ∀ (v : Value) (a : AV), ofV v = some a → conc E a = some v
  | .bool b, a, h => by simp only [ofV, Option.some.injEq] at h; subst h; rfl
  | .int k n, a, h => by simp only [ofV, Option.some.injEq] at h; subst h; rfl
  | .pointer none, a, h => by simp only [ofV, Option.some.injEq] at h; subst h; rfl
  | .pointer (some _), a, h => by simp [ofV] at h
  | .slice none 0 0, a, h => by simp only [ofV, Option.some.injEq] at h; subst h; rfl
  | .slice none (_ + 1) _, a, h => by simp [ofV] at h
  | .slice none 0 (_ + 1), a, h => by simp [ofV] at h
  | .slice (some _) _ _, a, h => by simp [ofV] at h
  | .map none, a, h => by simp only [ofV, Option.some.injEq] at h; subst h; rfl
  | .map (some _), a, h => by simp [ofV] at h
  | .nilFunc, a, h => by simp only [ofV, Option.some.injEq] at h; subst h; rfl
  | .agg ⟨cs⟩, a, h => by
    simp only [ofV, Option.map_eq_some_iff] at h
    obtain ⟨l, hl, rfl⟩ := h
    simp only [conc, concL_ofVs E cs l hl, Option.map_some]
  | .float .., a, h => by simp [ofV] at h
  | .complex .., a, h => by simp [ofV] at h
  | .string .., a, h => by simp [ofV] at h
  | .chan .., a, h => by simp [ofV] at h
  | .func .., a, h => by simp [ofV] at h
  | .iface .., a, h => by simp [ofV] at h
  | .nilIface, a, h => by simp [ofV] at h
  | .tuple .., a, h => by simp [ofV] at h
theorem concL_ofVs (E : Env) : ∀ (l : List Value) (as : List AV), ofVs l = some as → concL E as = some l
  | [], as, h => by simp only [ofVs, Option.some.injEq] at h; subst h; rfl
  | v :: vs, as, h => by
    simp only [ofVs] at h
    cases hv : ofV v with
    | none => rw [hv] at h; cases h
    | some a =>
      cases hl : ofVs vs with
      | none => rw [hv, hl] at h; cases h
      | some l => rw [hv, hl] at h; cases h; exact concL_cons.2 ⟨v, vs, conc_ofV E v a hv, concL_ofVs E vs l hl, rfl⟩
end

theorem run_isAgg {P : Program} {ty : Nat → Option TI} (T : TyOk P ty) {t : Nat} {i : TI} (h : ty t = some i) (w : World) : (isAgg t).run P w = .ok i.isAgg w := by
  have hu := T.und t i h
  unfold isAgg
  simp only [Sem.run_bind, run_underlying hu, Result.andThen_ok]
  unfold TI.isAgg
  cases i.desc <;> rfl

theorem run_size {P : Program} {ty : Nat → Option TI} (T : TyOk P ty) {t : Nat} {i : TI} (h : ty t = some i) (w : World) : (sizeOf t).run P w = .ok i.size w := by
  obtain ⟨j, h1, h2, _, _⟩ := T.info t i h
  unfold sizeOf
  simp only [Sem.run_bind, run_typeInfo w h1, Result.andThen_ok, h2]
  rfl

theorem run_zero {P : Program} {ty : Nat → Option TI} (T : TyOk P ty) {t : Nat} {i : TI} (h : ty t = some i) {z : AV} (hz : i.zero = some z) (E : Env) (w : World) :
    ∃ v, conc E z = some v ∧ (zeroValue t).run P w = .ok v w := by
  obtain ⟨j, h1, _, _, h4⟩ := T.info t i h
  obtain ⟨v, hv, ho⟩ := h4 z hz
  refine ⟨v, conc_ofV E v z ho, ?_⟩
  unfold zeroValue
  simp only [Sem.run_bind, run_typeInfo w h1, Result.andThen_ok, hv]
  rfl

/-! ## Operands -/
theorem eval_tmp (a : Act) (t : Nat) : a.eval (.tmp t) = a.tmps.getD t undef := rfl

theorem opd_ok {n : Nat} {keep : List Nat} {E : Env} {tm : Tm} {a : Act} (H : TmOk n keep E tm a.tmps) {x : Operand} {y : Opd} (hx : cOpd x = some y) {v : Value} (hv : conc E (ev tm y) = some v)
    (G : ∀ b, b < 1000 → E.σ b = some (b, 0)) : a.eval x = v := by
  cases x with
  | tmp t =>
    simp only [cOpd, Option.some.injEq] at hx
    subst hx
    simp only [ev] at hv
    cases hl : tm.look t with
    | none => rw [hl] at hv; simp [conc] at hv
    | some b =>
      rw [hl] at hv
      obtain ⟨u, h1, h2⟩ := H.look hl
      rw [h1] at hv; cases hv
      rw [eval_tmp, Array.getD_eq_getD_getElem?, h2]; rfl
  | const c =>
    simp only [cOpd, Option.map_eq_some_iff] at hx
    obtain ⟨b, hb, rfl⟩ := hx
    simp only [ev] at hv
    rw [conc_ofV E c b hb] at hv; cases hv; rfl
  | global g =>
    simp only [cOpd] at hx
    cases hg : Nat.ble (Nat.succ g) 1000 with
    | false => rw [hg] at hx; cases hx
    | true =>
      rw [hg, cond_true, Option.some.injEq] at hx
      subst hx
      simp only [ev, conc, G g (by have := ble_t.1 hg; omega), Option.map_some, Option.some.injEq] at hv
      subst hv; rfl
  | func f =>
    simp only [cOpd, Option.some.injEq] at hx
    subst hx
    simp only [ev, conc, concL, Option.some.injEq] at hv
    subst hv; rfl

theorem opd_some {n : Nat} {keep : List Nat} {E : Env} {tm : Tm} {a : Act} (H : TmOk n keep E tm a.tmps) {x : Operand} {y : Opd} (hx : cOpd x = some y) (hb : notBad (ev tm y) = true)
    (G : ∀ b, b < 1000 → E.σ b = some (b, 0)) : conc E (ev tm y) = some (a.eval x) := by
  have key : ∃ v, conc E (ev tm y) = some v := by
    cases x with
    | tmp t =>
      simp only [cOpd, Option.some.injEq] at hx
      subst hx
      simp only [ev] at hb ⊢
      cases hl : tm.look t with
      | none => rw [hl] at hb; cases hb
      | some b => obtain ⟨u, h1, h2⟩ := H.look hl; exact ⟨u, h1⟩
    | const c =>
      simp only [cOpd, Option.map_eq_some_iff] at hx
      obtain ⟨b, hb', rfl⟩ := hx
      exact ⟨c, conc_ofV E c b hb'⟩
    | global g =>
      simp only [cOpd] at hx
      cases hg : Nat.ble (Nat.succ g) 1000 with
      | false => rw [hg] at hx; cases hx
      | true =>
        rw [hg, cond_true, Option.some.injEq] at hx
        subst hx
        exact ⟨.pointer (some ⟨g, 0 + 0, none⟩), by simp only [ev, conc, G g (by have := ble_t.1 hg; omega), Option.map_some]⟩
    | func f =>
      simp only [cOpd, Option.some.injEq] at hx
      subst hx
      exact ⟨_, rfl⟩
  obtain ⟨v, hv⟩ := key
  rw [hv, opd_ok H hx hv G]

theorem notBad_of_conc {E : Env} {a : AV} {v : Value} (h : conc E a = some v) : notBad a = true := by
  cases a <;> first | rfl | simp [conc] at h

/-! ## What an operation does -/
def Does (P : Program) (R : Result Next) (K : Value → World → Prop) : Prop :=
  match R with
  | .ok (.value v) w => K v w
  | .ok .skip w => K undef w
  | .ok (.enter f args) w => Calls P f args w fun e w' => ∃ v, e = .returned v ∧ K v w'
  | .ok (.round l f tmps assign body) w => RoundIn Fence.wide 0 P l f tmps assign body w fun e w' => ∃ v, e = .returned v ∧ K v w'
  | _ => False

def fence (rd : Option Nat) : Fence :=
  match rd with
  | none => Fence.wide
  | some l => Fence.wide.inRound l

theorem fence_fn (rd : Option Nat) (f : FuncId) : (fence rd).fn f := by cases rd <;> trivial
theorem fence_depth (rd : Option Nat) : (fence rd).depth = none := by cases rd <;> rfl
theorem fence_round (rd : Option Nat) : (fence rd).round = rd := by cases rd <;> rfl

theorem Does.upon {P : Program} {R : Result Next} {o : Oper} {a : Act} {next : Act → World → Prop} {Q : Exit → Act → World → Prop} {rd : Option Nat}
    (h : Does P R fun v w => next (a.put o.dst v) w) : o.uponIn (fence rd) 0 P a next Q R := by
  unfold Does at h
  cases R with
  | halt x w => cases x <;> exact h.elim
  | ok x w =>
    cases x with
    | value v => exact h
    | skip => exact h
    | enter f args =>
      refine ⟨fun hd => (by rw [fence_depth] at hd; cases hd), ?_⟩
      have : CallsIn (fence rd) 0 P f args w fun e w' => ∃ v, e = .returned v ∧ next (a.put o.dst v) w' := by
        cases rd with
        | none => exact callsIn_wide.2 h
        | some l => exact CallsIn.inRound l (callsIn_wide.2 h)
      exact this.mono fun e w' ⟨v, he, hk⟩ => by subst he; exact hk
    | round l f tmps assign body =>
      refine ⟨fun hd => (by rw [fence_depth] at hd; cases hd), ?_⟩
      have : RoundIn (fence rd) 0 P l f tmps assign body w fun e w' => ∃ v, e = .returned v ∧ next (a.put o.dst v) w' := by
        cases rd with
        | none => exact h
        | some l' => exact h
      exact this.mono fun e w' ⟨v, he, hk⟩ => by subst he; exact hk
    | _ => exact h.elim

/-- what is owed behind an instruction -/
def Post (p : Par) (E : Env) (w0 : Base) (Q : AV × Heap → Prop) (K : Value → World → Prop) : Prop :=
  ∀ v h' E' w' cv, Q (v, h') → E.le E' → HeapOk p E' h' w0 w' → conc E' v = some cv → K cv w'

structure CxOk (p : Par) (cx : Cx) : Prop where
  call : ∀ f args h vs E w0 w Q K, (cx.call f args h).Holds E.ρ Q → HeapOk p E h w0 w → concL E args = some vs → Post p E w0 Q K →
    (callFunc f vs.toArray).run p.P w = .ok (.enter f vs.toArray) w ∧ Calls p.P f vs.toArray w fun e w' => ∃ v, e = .returned v ∧ K v w'
  yield : ∀ l args h vs E w0 w Q K q, (cx.yield l args h).Holds E.ρ Q → HeapOk p E h w0 w → concL E args = some vs → E.σ l = some q → Post p E w0 Q K →
    Does p.P ((Instr.yield q.1 vs.toArray).run p.P w) K

/-- AN INSTRUCTION STANDS FOR AN OPERATION. -/
def InsOk (p : Par) (f : Ins) (o : Oper) : Prop :=
  ∀ cx n keep E w0 tm h (a : Act) w Q K, CxOk p cx → TmOk n keep E tm a.tmps → HeapOk p E h w0 w → (f cx tm h).Holds E.ρ Q → Post p E w0 Q K →
    Does p.P ((execOp a.eval o).run p.P w) K

/-- an operation that hands back a value and leaves the world -/
theorem does_value {P : Program} {s : Sem Value} {w w' : World} {v : Value} {K : Value → World → Prop} (h : s.run P w = .ok v w') (k : K v w') :
    Does P ((do let x ← s; pure (Next.value x) : Sem Next).run P w) K := by
  simp only [Sem.run_bind, h, Result.andThen_ok]; exact k
theorem does_unit {P : Program} {s : Sem Unit} {w w' : World} {K : Value → World → Prop} (h : s.run P w = .ok () w') (k : K undef w') :
    Does P ((do s; pure Next.skip : Sem Next).run P w) K := by
  simp only [Sem.run_bind, h, Result.andThen_ok]; exact k

theorem Post.same {p : Par} {E : Env} {w0 : Base} {w : World} {Q : AV × Heap → Prop} {K : Value → World → Prop} {h : Heap} {a : AV} {v : Value} (P : Post p E w0 Q K) (H : HeapOk p E h w0 w)
    (q : Q (a, h)) (hv : conc E a = some v) : K v w := P a h E w v q (Env.le.refl E) H hv

theorem rMov_holds {ρ : Rho} {h : Heap} {v : AV} {Q : AV × Heap → Prop} (k : (rMov h v).Holds ρ Q) : notBad v = true ∧ Q (v, h) := by
  unfold rMov at k
  cases hb : notBad v with
  | false => rw [hb] at k; exact k.elim
  | true => rw [hb] at k; exact ⟨rfl, k⟩

theorem with1_some {x : Operand} {k : Opd → Option Ins} {f : Ins} (h : with1 x k = some f) : ∃ y, cOpd x = some y ∧ k y = some f := by
  unfold with1 at h
  cases hx : cOpd x with
  | none => rw [hx] at h; cases h
  | some y => rw [hx] at h; exact ⟨y, rfl, h⟩
theorem with2_some {x x' : Operand} {k : Opd → Opd → Option Ins} {f : Ins} (h : with2 x x' k = some f) : ∃ y y', cOpd x = some y ∧ cOpd x' = some y' ∧ k y y' = some f := by
  unfold with2 at h
  cases hx : cOpd x with
  | none => rw [hx] at h; cases h
  | some y =>
    cases hx' : cOpd x' with
    | none => rw [hx, hx'] at h; cases h
    | some y' => rw [hx, hx'] at h; exact ⟨y, y', rfl, rfl, h⟩
theorem with3_some {x x' x'' : Operand} {k : Opd → Opd → Opd → Option Ins} {f : Ins} (h : with3 x x' x'' k = some f) :
    ∃ y y' y'', cOpd x = some y ∧ cOpd x' = some y' ∧ cOpd x'' = some y'' ∧ k y y' y'' = some f := by
  unfold with3 at h
  cases hx : cOpd x with
  | none => rw [hx] at h; cases h
  | some y =>
    cases hx' : cOpd x' with
    | none => rw [hx, hx'] at h; cases h
    | some y' =>
      cases hx'' : cOpd x'' with
      | none => rw [hx, hx', hx''] at h; cases h
      | some y'' => rw [hx, hx', hx''] at h; exact ⟨y, y', y'', rfl, rfl, rfl, h⟩

theorem mov_ok {p : Par} {x : Operand} {y : Opd} (hx : cOpd x = some y) {o : Oper} (ho : o.op = .move x ∨ o.op = .assign x) : InsOk p (iMov y) o := by
  intro cx n keep E w0 tm h a w Q K _ HT HH k P
  obtain ⟨hb, q⟩ := rMov_holds k
  have hv := opd_some HT hx hb HH.glob
  have : execOp a.eval o = pure (.value (a.eval x)) := by unfold execOp; rcases ho with ho | ho <;> rw [ho]
  rw [this]
  exact P.same HH q hv

theorem pick_ok {p : Par} {x x1 x2 : Operand} {y y1 y2 : Opd} (hx : cOpd x = some y) (h1 : cOpd x1 = some y1) (h2 : cOpd x2 = some y2) {o : Oper} (ho : o.op = .pick x x1 x2) : InsOk p (iPick y y1 y2) o := by
  intro cx n keep E w0 tm h a w Q K _ HT HH k P
  simp only [iPick, rPick] at k
  cases hc : ev tm y with
  | bool c =>
    rw [hc] at k
    simp only [T.holds_ite] at k
    have hv : a.eval x = .bool (c.den E.ρ) := opd_ok HT hx (v := .bool (c.den E.ρ)) (by rw [hc]; rfl) HH.glob
    have : (execOp a.eval o).run p.P w = .ok (.value (if c.den E.ρ then a.eval x1 else a.eval x2)) w := by
      unfold execOp; rw [ho]
      simp only [hv, Sem.run_bind]
      cases c.den E.ρ <;> rfl
    rw [this]
    cases hd : c.den E.ρ with
    | true =>
      rw [hd] at k
      obtain ⟨hb, q⟩ := rMov_holds k
      exact P.same HH q (opd_some HT h1 hb HH.glob)
    | false =>
      rw [hd] at k
      obtain ⟨hb, q⟩ := rMov_holds k
      exact P.same HH q (opd_some HT h2 hb HH.glob)
  | _ => rw [hc] at k; exact k.elim

/-! ## New blocks -/
theorem conc_cells {E : Env} {a : AV} {v : Value} (h : conc E a = some v) (ok : allOk a.cellsOf = true) : concL E a.cellsOf = some v.cells.toList := by
  cases a with
  | agg cs =>
    simp only [conc, Option.map_eq_some_iff] at h
    obtain ⟨l, hl, rfl⟩ := h
    simpa [AV.cellsOf, Value.cells] using hl
  | bool b => simp only [conc, Option.some.injEq] at h; subst h; exact concL_cons.2 ⟨_, [], rfl, rfl, rfl⟩
  | int k e => simp only [conc, Option.some.injEq] at h; subst h; exact concL_cons.2 ⟨_, [], rfl, rfl, rfl⟩
  | nilptr => simp only [conc, Option.some.injEq] at h; subst h; exact concL_cons.2 ⟨_, [], rfl, rfl, rfl⟩
  | nilslice => simp only [conc, Option.some.injEq] at h; subst h; exact concL_cons.2 ⟨_, [], rfl, rfl, rfl⟩
  | nilmap => simp only [conc, Option.some.injEq] at h; subst h; exact concL_cons.2 ⟨_, [], rfl, rfl, rfl⟩
  | nilFunc => simp only [conc, Option.some.injEq] at h; subst h; exact concL_cons.2 ⟨_, [], rfl, rfl, rfl⟩
  | ptr b off => have h' := h; simp only [conc, Option.map_eq_some_iff] at h'; obtain ⟨q, _, rfl⟩ := h'; exact concL_cons.2 ⟨_, [], h, rfl, rfl⟩
  | slice b off len cap => have h' := h; simp only [conc, Option.map_eq_some_iff] at h'; obtain ⟨q, _, rfl⟩ := h'; exact concL_cons.2 ⟨_, [], h, rfl, rfl⟩
  | sliceX b s lo len => obtain ⟨q, _, _, rfl⟩ := sliceX_conc h; exact concL_cons.2 ⟨_, [], h, rfl, rfl⟩
  | sliceU i => obtain ⟨_, _, _, rfl, _⟩ := sliceU_conc h; exact concL_cons.2 ⟨_, [], h, rfl, rfl⟩
  | sliceV b i => obtain ⟨_, _, _, rfl⟩ := sliceV_conc h; exact concL_cons.2 ⟨_, [], h, rfl, rfl⟩
  | ptrV b i s o e => obtain ⟨_, _, _, _, rfl⟩ := ptrV_conc h; exact concL_cons.2 ⟨_, [], h, rfl, rfl⟩
  | map b => have h' := h; simp only [conc, Option.map_eq_some_iff] at h'; obtain ⟨q, _, rfl⟩ := h'; exact concL_cons.2 ⟨_, [], h, rfl, rfl⟩
  | yieldF b => have h' := h; simp only [conc, Option.map_eq_some_iff] at h'; obtain ⟨q, _, rfl⟩ := h'; exact concL_cons.2 ⟨_, [], h, rfl, rfl⟩
  | func fn x y =>
    have h' := h
    simp only [conc] at h'
    have : ∃ f a b, v = .func f a b := by
      cases hx : concL E x with
      | none => rw [hx] at h'; cases fn <;> simp at h'
      | some l =>
        cases hy : concL E y with
        | none => rw [hx, hy] at h'; cases fn <;> simp at h'
        | some m => rw [hx, hy] at h'; cases fn <;> simp at h' <;> exact ⟨_, _, _, h'.symm⟩
    obtain ⟨f, l, m, rfl⟩ := this
    exact concL_cons.2 ⟨_, [], h, rfl, rfl⟩
  | tup cs =>
    have h' := h
    simp only [conc, Option.map_eq_some_iff] at h'; obtain ⟨q, _, rfl⟩ := h'; exact concL_cons.2 ⟨_, [], h, rfl, rfl⟩
  | opq i => simp [allOk, lAll_eq, AV.cellsOf, okCell] at ok
  | bad => simp [conc] at h

theorem okCell_one {E : Env} {a : AV} {v : Value} (h : conc E a = some v) (ok : okCell a = true) : v.oneCell' = true := by
  cases a with
  | agg cs => cases ok
  | tup cs => cases ok
  | opq i => cases ok
  | bad => cases ok
  | bool b => simp only [conc, Option.some.injEq] at h; subst h; rfl
  | int k e => simp only [conc, Option.some.injEq] at h; subst h; rfl
  | nilptr => simp only [conc, Option.some.injEq] at h; subst h; rfl
  | nilslice => simp only [conc, Option.some.injEq] at h; subst h; rfl
  | nilmap => simp only [conc, Option.some.injEq] at h; subst h; rfl
  | nilFunc => simp only [conc, Option.some.injEq] at h; subst h; rfl
  | ptr b off => simp only [conc, Option.map_eq_some_iff] at h; obtain ⟨q, _, rfl⟩ := h; rfl
  | slice b off len cap => simp only [conc, Option.map_eq_some_iff] at h; obtain ⟨q, _, rfl⟩ := h; rfl
  | sliceX b s lo len => obtain ⟨q, _, _, rfl⟩ := sliceX_conc h; rfl
  | sliceU i => obtain ⟨_, _, _, rfl, _⟩ := sliceU_conc h; rfl
  | sliceV b i => obtain ⟨_, _, _, rfl⟩ := sliceV_conc h; rfl
  | ptrV b i s o e => obtain ⟨_, _, _, _, rfl⟩ := ptrV_conc h; rfl
  | map b => simp only [conc, Option.map_eq_some_iff] at h; obtain ⟨q, _, rfl⟩ := h; rfl
  | yieldF b => simp only [conc, Option.map_eq_some_iff] at h; obtain ⟨q, _, rfl⟩ := h; rfl
  | func fn x y =>
    simp only [conc] at h
    cases hx : concL E x with
    | none => rw [hx] at h; cases fn <;> simp at h
    | some l =>
      cases hy : concL E y with
      | none => rw [hx, hy] at h; cases fn <;> simp at h
      | some m => rw [hx, hy] at h; cases fn <;> simp at h <;> subst h <;> rfl

theorem allOk_cons {a : AV} {l : List AV} : allOk (a :: l) = (okCell a && allOk l) := by simp [allOk, lAll_eq]

theorem allOk_one {E : Env} : ∀ {l : List AV} {vs : List Value}, concL E l = some vs → allOk l = true → ∀ v ∈ vs, v.oneCell' = true
  | [], vs, h, _ => by simp only [concL, Option.some.injEq] at h; subst h; simp
  | a :: l, vs, h, ok => by
    obtain ⟨v, r, hv, hr, rfl⟩ := concL_cons.1 h
    rw [allOk_cons, Bool.and_eq_true] at ok
    intro u hu
    rcases List.mem_cons.1 hu with rfl | hu
    · exact okCell_one hv ok.1
    · exact allOk_one hr ok.2 u hu

/-- every operand that is of a heap's own kind has a meaning or is bad -/
theorem cells_bad {a : AV} (ok : allOk a.cellsOf = true) : notBad a = true := by
  cases a <;> first | rfl | (simp [allOk, lAll_eq, AV.cellsOf, okCell] at ok)

/-- THE NEW BLOCK OF A VARIABLE. -/
theorem HeapOk.newCells {p : Par} {E : Env} {h : Heap} {w0 : Base} {w : World} (H : HeapOk p E h w0 w) {cs : List AV} {vs : List Value} (hv : concL E cs = some vs) (t : TypeId) (κ : Nat) :
    HeapOk p (E.with h.next (w.heap.size, 0) κ) (h.new (.cells cs t true false)) w0 (w.alloc (.cells vs.toArray t)) := by
  have hle := Env.with_le (H.fresh _ (Nat.le_refl _)) H.nx (w.heap.size, 0) κ
  refine H.alloc rfl ⟨w.heap.size, 0, vs, vs.toArray, t, (0, 0), Env.with_at _ _ _ _, concL_mono hle _ _ hv, by simp, fun i _ => by simp, fun _ => ⟨rfl, rfl, fun _ => by simp, fun e => by cases e⟩⟩

theorem ptr_new {E : Env} {n c κ : Nat} : conc (E.with n (c, 0) κ) (.ptr n 0) = some (.pointer (some ⟨c, 0, none⟩)) := by
  simp [conc, Env.with_at]

theorem zeroOf_some {i : TI} {z : List AV} (h : zeroOf i = some z) : ∃ v, i.zero = some v ∧ z = v.cellsOf ∧ allOk v.cellsOf = true ∧ v.cellsOf.length = i.size := by
  unfold zeroOf at h
  cases hz : i.zero with
  | none => rw [hz] at h; cases h
  | some v =>
    rw [hz] at h
    simp only at h
    cases hb : and (allOk v.cellsOf) (Nat.beq (lLen v.cellsOf) i.size) with
    | false => rw [hb] at h; cases h
    | true =>
      rw [hb] at h
      have hb' := Bool.and_eq_true_iff.1 hb
      rw [lLen_eq] at hb'
      exact ⟨v, rfl, (Option.some.inj h).symm, hb'.1, beq_t.1 hb'.2⟩

theorem rNew_holds {ρ : Rho} {h : Heap} {t : Nat} {cs : List AV} {Q : AV × Heap → Prop} (k : (rNew h t cs).Holds ρ Q) : allOk cs = true ∧ Q (.ptr h.next 0, h.new (.cells cs t true false)) := by
  unfold rNew at k
  cases hb : allOk cs with
  | false => rw [hb] at k; exact k.elim
  | true => rw [hb] at k; exact ⟨rfl, k⟩

theorem alloc_ok {p : Par} {ty : Nat → Option TI} (T : TyOk p.P ty) {t : Nat} {i : TI} {z : List AV} (ht : ty t = some i) (hz : zeroOf i = some z) {o : Oper} (ho : o.op = .alloc t) : InsOk p (iAlloc t z) o := by
  intro cx n keep E w0 tm h a w Q K _ HT HH k P
  obtain ⟨hb, q⟩ := rNew_holds k
  obtain ⟨v, hv0, rfl, hok, _⟩ := zeroOf_some hz
  obtain ⟨u, hu, hrun⟩ := run_zero T ht hv0 E w
  have hcs := conc_cells hu hok
  have hex : execOp a.eval o = (do let x ← Instr.alloc t true (.tuple #[]); pure (Next.value x)) := by unfold execOp; rw [ho]
  rw [hex]
  refine does_value (v := .pointer (some ⟨w.heap.size, 0, none⟩)) (w' := w.alloc (.cells u.cells t)) ?_ ?_
  · unfold Instr.alloc
    simp only [Sem.run_bind, hrun, Result.andThen_ok]
    rfl
  · have := HH.newCells (p := p) hcs t 0
    rw [show (u.cells.toList).toArray = u.cells from by simp] at this
    exact P _ _ _ _ _ q (Env.with_le (HH.fresh _ (Nat.le_refl _)) HH.nx _ _) this ptr_new

theorem box_ok {p : Par} {t : Nat} {x : Operand} {y : Opd} (hx : cOpd x = some y) {o : Oper} (ho : o.op = .box t x) : InsOk p (iBox t y) o := by
  intro cx n keep E w0 tm h a w Q K _ HT HH k P
  obtain ⟨hok, q⟩ := rNew_holds k
  have hu := opd_some HT hx (cells_bad hok) HH.glob
  have hcs := conc_cells hu hok
  have hex : execOp a.eval o = (do let x ← Instr.box t (a.eval x); pure (Next.value x)) := by unfold execOp; rw [ho]
  rw [hex]
  refine does_value (v := .pointer (some ⟨w.heap.size, 0, none⟩)) (w' := w.alloc (.cells (a.eval x).cells t)) rfl ?_
  have := HH.newCells (p := p) hcs t 0
  rw [show ((a.eval x).cells.toList).toArray = (a.eval x).cells from by simp] at this
  exact P _ _ _ _ _ q (Env.with_le (HH.fresh _ (Nat.le_refl _)) HH.nx _ _) this ptr_new

/-! ## Loads and stores -/
theorem HeapOk.cell {p : Par} {E : Env} {h : Heap} {w0 : Base} {w : World} (H : HeapOk p E h w0 w) {b off : Nat} {cs : List AV} {a : AV} (hc : h.cells b = some cs) (ha : cs[off]? = some a) {q : Nat × Nat} (hq : E.σ b = some q) :
    ∃ v, conc E a = some v ∧ w.cell? ⟨q.1, q.2 + off, none⟩ = some v := by
  unfold Heap.cells at hc
  cases hg : h.get b with
  | none => rw [hg] at hc; cases hc
  | some o =>
    rw [hg] at hc
    cases o with
    | cells l e own ext =>
      cases hc
      obtain ⟨c, base, vs, cells, el, fz, h1, h2, h3, h4, _⟩ := H.obj b _ hg
      rw [hq] at h1; cases h1
      obtain ⟨v, hv, hi⟩ := concL_get h2 ha
      refine ⟨v, hv, ?_⟩
      have hlt : off < vs.length := (List.getElem?_eq_some_iff.1 hi).1
      simp only [World.cell?, h3, Option.isSome_none, Bool.false_eq_true, if_false]
      rw [h4 off hlt, hi]
    | _ => cases hc

theorem ptr_conc {E : Env} {b off : Nat} {v : Value} (h : conc E (.ptr b off) = some v) : ∃ q, E.σ b = some q ∧ v = .pointer (some ⟨q.1, q.2 + off, none⟩) := by
  simp only [conc, Option.map_eq_some_iff] at h
  obtain ⟨q, h1, h2⟩ := h
  exact ⟨q, h1, h2.symm⟩

theorem run_loadPlain {P : Program} {ty : Nat → Option TI} (T : TyOk P ty) {t : Nat} {i : TI} (ht : ty t = some i) (hagg : i.isAgg = false) {c : Addr} {v : Value} {w : World} (hc : w.cell? c = some v) :
    (Instr.loadAt t (.pointer (some c))).run P w = .ok v w := by
  unfold Instr.loadAt Instr.sureAddr loadVar
  simp only [Sem.run_bind, pure, Sem.run, Result.andThen_ok, run_isAgg T ht, hagg, Bool.false_eq_true, if_false]
  simp [load, Sem.run, hc]

/-- what lies in a list that is not known -/
theorem cellU_conc {E : Env} {i off : Nat} {e : IE} {n : Nat} (hn : e.den E.ρ = (n : Int)) (k : Bool) : conc E (cellU i off e k) = some (cellOf E.ρ i n off k) := by
  unfold cellU cellOf
  have h1 : 1000 ≤ Nat.add 1000 i := Nat.le_add_right _ _
  cases k with
  | false => simp only [cond, conc, IE.den, FI, if_pos h1, hn]; rfl
  | true => simp only [cond, conc, BE.den, IE.den, FB, if_pos h1, hn]; rfl
theorem HeapOk.ucell {p : Par} {E : Env} {h : Heap} {w0 : Base} {w : World} (H : HeapOk p E h w0 w) {b i n off : Nat} {ks : List Bool} {k : Bool} (hc : h.get b = some (.ucells i ks)) (hn : (n : Int) < E.ρ.iv i)
    (hk : ks[off]? = some k) {q : Nat × Nat} (hq : E.σ b = some q) : w.cell? ⟨q.1, q.2 + n * ks.length + off, none⟩ = some (cellOf E.ρ i n off k) := by
  obtain ⟨c, base, cells, el, fz, h1, h3, h4⟩ := H.obj b _ hc
  rw [hq] at h1; cases h1
  simp only [World.cell?, h3, Option.isSome_none, Bool.false_eq_true, if_false]
  exact h4 n off k hn hk
theorem cellsU_conc {E : Env} {i : Nat} {e : IE} {n : Nat} (hn : e.den E.ρ = (n : Int)) : ∀ (ks : List Bool) (off : Nat),
    ∃ vs, concL E (cellsU i e ks off) = some vs ∧ vs.length = ks.length ∧ ∀ j k, ks[j]? = some k → vs[j]? = some (cellOf E.ρ i n (off + j) k)
  | [], off => ⟨[], rfl, rfl, fun j k hk => by simp at hk⟩
  | k :: ks, off => by
    obtain ⟨vs, h1, h2, h3⟩ := cellsU_conc (E := E) (i := i) hn ks (off + 1)
    refine ⟨cellOf E.ρ i n off k :: vs, by rw [show cellsU i e (k :: ks) off = cellU i off e k :: cellsU i e ks (off + 1) from rfl]; simp only [concL, cellU_conc hn, h1], by simp [h2], fun j k' hk => ?_⟩
    cases j with
    | zero => cases hk; rfl
    | succ j => rw [show off + (j + 1) = off + 1 + j by omega]; exact h3 j k' hk

theorem load_ok {p : Par} {ty : Nat → Option TI} (T : TyOk p.P ty) {t : Nat} {i : TI} (ht : ty t = some i) (hagg : i.isAgg = false) {x : Operand} {y : Opd} (hx : cOpd x = some y) {o : Oper} (ho : o.op = .load t x) : InsOk p (iLoad y) o := by
  intro cx n keep E w0 tm h a w Q K _ HT HH k P
  obtain ⟨r, hr, q⟩ := holds_mk2 k
  have hex : execOp a.eval o = (do let x ← Instr.loadAt t (a.eval x); pure (Next.value x)) := by unfold execOp; rw [ho]
  rw [hex]
  cases he : ev tm y with
  | ptr b off =>
    rw [he] at hr
    simp only [aload] at hr
    cases hcs : h.cells b with
    | none => rw [hcs] at hr; cases hr
    | some cs =>
      rw [hcs] at hr
      simp only [listGet_eq] at hr
      have hn := opd_some HT hx (by rw [he]; rfl) HH.glob
      rw [he] at hn
      obtain ⟨q', hq', hv'⟩ := ptr_conc hn
      obtain ⟨v, hv, hcell⟩ := HH.cell hcs hr hq'
      rw [hv']
      exact does_value (run_loadPlain T ht hagg hcell) (P.same HH q hv)
  | ptrV b i' size off e =>
    rw [he] at hr
    simp only [aload] at hr
    split at hr
    · rename_i i2 ks hcs
      cases hb : (Nat.beq i' i2 && Nat.beq size (lLen ks)) with
      | false => rw [hb] at hr; cases hr
      | true =>
        rw [hb] at hr
        simp only [cond] at hr
        simp only [Bool.and_eq_true] at hb
        obtain ⟨hb1, hb2⟩ := hb
        cases Nat.eq_of_beq_eq_true hb1
        have hsz := Nat.eq_of_beq_eq_true hb2
        rw [lLen_eq] at hsz; subst hsz
        rw [listGet_eq] at hr
        cases hk : ks[off]? with
        | none => rw [hk] at hr; cases hr
        | some k' =>
          rw [hk] at hr; cases hr
          have hn := opd_some HT hx (by rw [he]; rfl) HH.glob
          rw [he] at hn
          obtain ⟨q', hq', hp, hl, hv'⟩ := ptrV_conc hn
          have hnn : e.den E.ρ = ((e.den E.ρ).toNat : Int) := (Int.toNat_of_nonneg hp).symm
          rw [hv']
          exact does_value (run_loadPlain T ht hagg (HH.ucell hcs (hnn ▸ hl) hk hq')) (P.same HH q (cellU_conc hnn k'))
    · cases hr
  | _ => rw [he] at hr; simp [aload] at hr

theorem HeapOk.cellsRange {p : Par} {E : Env} {h : Heap} {w0 : Base} {w : World} (H : HeapOk p E h w0 w) {b off n : Nat} {cs l : List AV} (hc : h.cells b = some cs) (hs : listSub cs off n = some l) {q : Nat × Nat} (hq : E.σ b = some q) :
    ∃ vs, concL E l = some vs ∧ vs.length = n ∧ ∀ j v, vs[j]? = some v → w.cell? ⟨q.1, q.2 + off + j, none⟩ = some v := by
  obtain ⟨hle, rfl⟩ := listSub_eq hs
  unfold Heap.cells at hc
  cases hg : h.get b with
  | none => rw [hg] at hc; cases hc
  | some o =>
    rw [hg] at hc
    cases o with
    | cells l e own ext =>
      cases hc
      obtain ⟨c, base, vs, cells, el, fz, h1, h2, h3, h4, _⟩ := H.obj b _ hg
      rw [hq] at h1; cases h1
      have hlen := concL_len h2
      refine ⟨(vs.drop off).take n, concL_take (concL_drop h2 off) n, by simp; omega, fun j v hj => ?_⟩
      rw [List.getElem?_take] at hj
      split at hj
      · rename_i hjn
        rw [List.getElem?_drop] at hj
        simp only [World.cell?, h3, Option.isSome_none, Bool.false_eq_true, if_false]
        rw [Nat.add_assoc, h4 (off + j) (by omega), hj]
      · cases hj
    | _ => cases hc

theorem run_loadCellsAt {P : Program} {w : World} {c : Nat} {o n : Nat} {vs : List Value} (hn : vs.length = n) (h : ∀ j v, vs[j]? = some v → w.cell? ⟨c, o + j, none⟩ = some v) :
    (loadCells ⟨c, o, none⟩ n).run P w = .ok vs.toArray w := by
  subst hn
  refine run_loadCells_list (P := P) (w := w) ⟨c, o, none⟩ vs (fun j v hj => ?_)
  have := h j v hj
  unfold Addr.add
  split
  · rename_i hj0; subst hj0; simpa using this
  · exact this

theorem run_loadWhole {P : Program} {ty : Nat → Option TI} (T : TyOk P ty) {t : Nat} {i : TI} (ht : ty t = some i) (hagg : i.isAgg = true) {c o : Nat} {vs : List Value} {w : World} (hn : vs.length = i.size)
    (hc : ∀ j v, vs[j]? = some v → w.cell? ⟨c, o + j, none⟩ = some v) : (Instr.loadAt t (.pointer (some ⟨c, o, none⟩))).run P w = .ok (.agg vs.toArray) w := by
  unfold Instr.loadAt Instr.sureAddr loadVar
  simp only [Sem.run_bind, pure, Sem.run, Result.andThen_ok, run_isAgg T ht, hagg, if_true, run_size T ht]
  rw [run_loadCellsAt hn hc]
  rfl

theorem loadN_ok {p : Par} {ty : Nat → Option TI} (T : TyOk p.P ty) {t : Nat} {i : TI} (ht : ty t = some i) (hagg : i.isAgg = true) {x : Operand} {y : Opd} (hx : cOpd x = some y) {o : Oper} (ho : o.op = .load t x) : InsOk p (iLoadN i.size y) o := by
  intro cx n keep E w0 tm h a w Q K _ HT HH k P
  obtain ⟨r, hr, q⟩ := holds_mk2 k
  have hex : execOp a.eval o = (do let x ← Instr.loadAt t (a.eval x); pure (Next.value x)) := by unfold execOp; rw [ho]
  rw [hex]
  cases he : ev tm y with
  | ptr b off =>
    rw [he] at hr
    simp only [aloadN] at hr
    cases hcs : h.cells b with
    | none => rw [hcs] at hr; cases hr
    | some cs =>
      rw [hcs] at hr
      simp only [Option.map_eq_some_iff] at hr
      obtain ⟨l, hl, rfl⟩ := hr
      have hn := opd_some HT hx (by rw [he]; rfl) HH.glob
      rw [he] at hn
      obtain ⟨q', hq', hv'⟩ := ptr_conc hn
      obtain ⟨vs, hvs, hlen, hcell⟩ := HH.cellsRange hcs hl hq'
      rw [hv']
      exact does_value (run_loadWhole T ht hagg hlen hcell) (P.same HH q (by simp [conc, hvs]))
  | ptrV b i' size off e =>
    rw [he] at hr
    simp only [aloadN] at hr
    split at hr
    · rename_i i2 ks hcs
      cases hb : (Nat.beq i' i2 && Nat.beq size (lLen ks)) with
      | false => rw [hb] at hr; cases hr
      | true =>
        rw [hb] at hr
        simp only [cond] at hr
        simp only [Bool.and_eq_true] at hb
        obtain ⟨hb1, hb2⟩ := hb
        cases Nat.eq_of_beq_eq_true hb1
        have hsz := Nat.eq_of_beq_eq_true hb2
        rw [lLen_eq] at hsz; subst hsz
        cases hk : listSub ks off i.size with
        | none => rw [hk] at hr; cases hr
        | some l =>
          rw [hk] at hr; cases hr
          have hn := opd_some HT hx (by rw [he]; rfl) HH.glob
          rw [he] at hn
          obtain ⟨q', hq', hp, hl, hv'⟩ := ptrV_conc hn
          have hnn : e.den E.ρ = ((e.den E.ρ).toNat : Int) := (Int.toNat_of_nonneg hp).symm
          obtain ⟨hle, rfl⟩ := listSub_eq hk
          obtain ⟨vs, hvs, hlen, hcell⟩ := cellsU_conc (E := E) (i := i') hnn ((ks.drop off).take i.size) off
          rw [hv']
          have hlen' : vs.length = i.size := by rw [hlen]; simp; omega
          refine does_value (run_loadWhole T ht hagg hlen' (fun j v hj => ?_)) (P.same HH q (by simp [conc, hvs]))
          have hjl : j < i.size := hlen' ▸ (List.getElem?_eq_some_iff.1 hj).1
          have hks : ((ks.drop off).take i.size)[j]? = some (ks[off + j]'(by omega)) := by
            rw [List.getElem?_take, if_pos hjl, List.getElem?_drop]; exact List.getElem?_eq_getElem (by omega)
          have := hcell j _ hks
          rw [hj] at this; cases this
          rw [show q'.2 + (e.den E.ρ).toNat * ks.length + off + j = q'.2 + (e.den E.ρ).toNat * ks.length + (off + j) by omega]
          exact HH.ucell hcs (hnn ▸ hl) (by rw [List.getElem?_eq_getElem (by omega)]) hq'
    · cases hr
  | _ => rw [he] at hr; simp [aloadN] at hr

end Go.Sx
/-! THE OPERATIONS, ON: stores; numbers; truth values; parts of values. -/
namespace Go.Sx
open Go.RowKit

/-! ## Stores -/
theorem HeapOk.storeCells {p : Par} {E : Env} {h : Heap} {w0 : Base} {w : World} (H : HeapOk p E h w0 w) {b off : Nat} {cs cs' as : List AV} {vs : List Value} {e : TypeId} {x : Bool}
    (hg : h.get b = some (.cells cs e true x)) (hv : concL E as = some vs) (ok : allOk as = true) (hp : listPut cs off as = some cs') {q : Nat × Nat} (hq : E.σ b = some q) :
    ∃ w', (storeCells ⟨q.1, q.2 + off, none⟩ vs).run p.P w = .ok () w' ∧ HeapOk p E (h.put b (.cells cs' e true x)) w0 w' := by
  obtain ⟨hle, rfl⟩ := listPut_eq hp
  obtain ⟨c, base, us, cells, el, fz, h1, h2, h3, h4, h5⟩ := H.obj b _ hg
  rw [hq] at h1; cases h1
  obtain ⟨rfl, rfl, h6, h7⟩ := h5 rfl
  have hlen := concL_len h2
  have hal := concL_len hv
  have hsize : us.length ≤ cells.size := by
    by_cases hz : us.length = 0
    · omega
    · have := h4 (us.length - 1) (by omega)
      rw [List.getElem?_eq_getElem (by omega)] at this
      have := (Array.getElem?_eq_some_iff.1 this).1
      omega
  simp only [Nat.zero_add]
  refine ⟨_, run_storeCells_at p.P c off el vs 0 cells w h3 (by omega) (allOk_one hv ok), ?_⟩
  have hnew := setRow_heap w c cells (cells.toList.take (off + 0) ++ vs ++ cells.toList.drop (off + 0 + vs.length)).toArray el (0, 0) h3
  refine H.turn hg rfl hq rfl ⟨c, 0, us.take off ++ (vs ++ us.drop (off + vs.length)), _, el, (0, 0), hq, ?_, hnew, ?_, ?_⟩ (fun i hi => setRow_other w c i _ hi) rfl rfl rfl (by simp)
  · rw [hal]; exact concL_app (concL_take h2 off) (concL_app hv (concL_drop h2 _))
  · intro i hi
    have hi' : i < us.length := by simp at hi; omega
    simp only [Nat.zero_add, Nat.add_zero, List.getElem?_toArray]
    have h4' : ∀ j, j < us.length → cells.toList[j]? = us[j]? := fun j hj => by have := h4 j hj; simpa using this
    by_cases c1 : i < off
    · rw [List.append_assoc, List.getElem?_append_left (by simp; omega), List.getElem?_append_left (by simp; omega), List.getElem?_take, List.getElem?_take, if_pos c1, if_pos c1, h4' i hi']
    · have lt1 : (cells.toList.take off).length = off := by simp; omega
      have lt2 : (us.take off).length = off := by simp; omega
      rw [List.append_assoc, List.getElem?_append_right (l₁ := cells.toList.take off) (by omega), lt1, List.getElem?_append_right (l₁ := us.take off) (by omega), lt2]
      by_cases c2 : i - off < vs.length
      · rw [List.getElem?_append_left c2, List.getElem?_append_left c2]
      · rw [List.getElem?_append_right (l₁ := vs) (l₂ := cells.toList.drop _) (by omega), List.getElem?_append_right (l₁ := vs) (l₂ := us.drop _) (by omega), List.getElem?_drop, List.getElem?_drop]
        have : off + vs.length + (i - off - vs.length) = i := by omega
        rw [this, h4' i hi']
  · intro _
    refine ⟨rfl, rfl, fun hx => ?_, fun hx => ?_⟩
    · have := h6 hx
      simp; omega
    · obtain ⟨j, hj, hk⟩ := h7 hx
      refine ⟨j, hj, ?_⟩
      simp; omega

theorem astoreC_some {n : Nat} {h h' : Heap} {b off : Nat} {vs : List AV} (k : astoreC n h b off vs = some h') :
    ∃ cs e x cs', h.get b = some (.cells cs e true x) ∧ vs.length = n ∧ allOk vs = true ∧ listPut cs off vs = some cs' ∧ h' = h.put b (.cells cs' e true x) := by
  unfold astoreC at k
  cases hg : h.get b with
  | none => rw [hg] at k; cases k
  | some o =>
    rw [hg] at k
    cases o with
    | cells cs e own x =>
      simp only at k
      cases hc : and own (and (Nat.beq (lLen vs) n) (allOk vs)) with
      | false => rw [hc] at k; cases k
      | true =>
        rw [hc, cond_true] at k
        have hc1 := Bool.and_eq_true_iff.1 hc
        have hc2 := Bool.and_eq_true_iff.1 hc1.2
        have hown := hc1.1
        subst hown
        rw [lLen_eq] at hc2
        cases hp : listPut cs off vs with
        | none => rw [hp] at k; cases k
        | some cs' => rw [hp] at k; cases k; exact ⟨cs, e, x, cs', rfl, beq_t.1 hc2.1, hc2.2, hp, rfl⟩
    | _ => cases k

theorem store_ok {p : Par} {ty : Nat → Option TI} (T : TyOk p.P ty) {t : Nat} {i : TI} (ht : ty t = some i) {x1 x2 : Operand} {y1 y2 : Opd} (h1 : cOpd x1 = some y1) (h2 : cOpd x2 = some y2) {o : Oper} (ho : o.op = .store t x1 x2) :
    InsOk p (iStore i.size y1 y2) o := by
  intro cx n keep E w0 tm h a w Q K _ HT HH k P
  have hex : execOp a.eval o = (do Instr.storeAt t (a.eval x1) (a.eval x2); pure Next.skip) := by unfold execOp; rw [ho]
  rw [hex]
  simp only [iStore, rStore] at k
  cases hst : astore i.size h (ev tm y1) (ev tm y2) with
  | none => rw [hst] at k; exact k.elim
  | some h' =>
    rw [hst] at k
    cases he : ev tm y1 with
    | ptr b off =>
      rw [he] at hst
      simp only [astore] at hst
      obtain ⟨cs, e, x, cs', hg, hlen, hok, hp, rfl⟩ := astoreC_some hst
      have hv1 := opd_some HT h1 (by rw [he]; rfl) HH.glob
      rw [he] at hv1
      obtain ⟨q, hq, hv1'⟩ := ptr_conc hv1
      have hv2 := opd_some HT h2 (cells_bad hok) HH.glob
      have hcs := conc_cells hv2 hok
      obtain ⟨w', hrun, H'⟩ := HH.storeCells hg hcs hok hp hq
      refine does_unit (w' := w') ?_ ?_
      · rw [hv1']
        unfold Instr.storeAt Instr.sureAddr storeVar
        have hsz : (a.eval x2).cells.size = i.size := by
          have := concL_len hcs
          simp at this
          omega
        simp only [Sem.run_bind, pure, Sem.run, Result.andThen_ok, run_size T ht, hsz, ne_eq, not_true_eq_false, if_false]
        exact hrun
      · exact P _ _ E w' undef k (Env.le.refl E) H' rfl
    | _ => rw [he] at hst; simp [astore] at hst

/-! ## Numbers -/
theorem wrapL_eq (k : IntKind) (n : Int) : wrapL k n = k.wrap n := by
  unfold wrapL
  cases hb : and (isI64 k) (inI64 n) with
  | false => rfl
  | true =>
    obtain ⟨hk, hn⟩ := Bool.and_eq_true_iff.1 hb
    rw [cond_true]
    cases k with
    | i64 =>
      have hb : -9223372036854775808 ≤ n ∧ n ≤ 9223372036854775807 := by
        unfold inI64 at hn
        cases n with
        | ofNat m => have := ble_t.1 hn; constructor <;> simp only [Int.ofNat_eq_natCast] <;> omega
        | negSucc m => have := ble_t.1 hn; constructor <;> omega
      rw [IntKind.wrap_i64]
      omega
    | _ => cases hk

theorem ilt_eq (x y : Int) : ilt x y = decide (x < y) := by
  cases x with
  | ofNat m =>
    cases y with
    | ofNat n =>
      simp only [ilt, Int.ofNat_eq_natCast]
      by_cases h : m < n
      · rw [ble_t.2 (by omega), decide_eq_true (by omega)]
      · rw [show Nat.ble (Nat.succ m) n = false from Bool.eq_false_iff.2 (fun hb => h (by have := ble_t.1 hb; omega)), decide_eq_false (by omega)]
    | negSucc n => simp only [ilt, Int.ofNat_eq_natCast]; rw [decide_eq_false (by omega)]
  | negSucc m =>
    cases y with
    | ofNat n => simp only [ilt, Int.ofNat_eq_natCast]; rw [decide_eq_true (by omega)]
    | negSucc n =>
      simp only [ilt]
      by_cases h : n < m
      · rw [ble_t.2 (by omega), decide_eq_true (by omega)]
      · rw [show Nat.ble (Nat.succ n) m = false from Bool.eq_false_iff.2 (fun hb => h (by have := ble_t.1 hb; omega)), decide_eq_false (by omega)]

theorem ieq_eq (x y : Int) : ieq x y = (x == y) := by
  cases x with
  | ofNat m =>
    cases y with
    | ofNat n =>
      simp only [ieq]
      by_cases h : m = n
      · subst h; simp
      · rw [beq_f.2 h]; symm; rw [beq_eq_false_iff_ne]; intro e; cases e; exact h rfl
    | negSucc n => simp only [ieq]; rfl
  | negSucc m =>
    cases y with
    | ofNat n => simp only [ieq]; rfl
    | negSucc n =>
      simp only [ieq]
      by_cases h : m = n
      · subst h; simp
      · rw [beq_f.2 h]; symm; rw [beq_eq_false_iff_ne]; intro e; cases e; exact h rfl

theorem kindEq_eq {j k : IntKind} (h : kindEq j k = true) : j = k := by
  cases j <;> cases k <;> first | rfl | cases h

theorem litCmp_den {op : BinOp} {x y : Int} {b : Bool} (h : litCmp op x y = some b) : isCmp op = true ∧ cmpDen op x y = b := by
  unfold litCmp at h
  cases op <;> simp only [Option.some.injEq] at h <;> first | (cases h; done) | (refine ⟨rfl, ?_⟩; subst h; simp only [cmpDen, ieq_eq, ilt_eq]; first | rfl | skip)
  all_goals (rw [Bool.eq_iff_iff]; simp; try omega)

theorem mkCmp_den {op : BinOp} {a b : IE} {c : BE} {ρ : Rho} (h : mkCmp op a b = some c) : isCmp op = true ∧ c.den ρ = cmpDen op (a.den ρ) (b.den ρ) := by
  unfold mkCmp at h
  split at h
  · simp only [Option.map_eq_some_iff] at h
    obtain ⟨r, hr, rfl⟩ := h
    obtain ⟨h1, h2⟩ := litCmp_den hr
    exact ⟨h1, by simp [BE.den, IE.den, h2]⟩
  · cases hc : isCmp op with
    | false => rw [hc] at h; cases h
    | true => rw [hc] at h; cases h; exact ⟨rfl, rfl⟩

theorem run_intCmp {P : Program} {op : BinOp} (h : isCmp op = true) (x y : Int) (w : World) : (Op.intCmp op x y).run P w = .ok (.bool (cmpDen op x y)) w := by
  cases op <;> first | rfl | cases h

theorem run_binOp_cmp {P : Program} {op : BinOp} (h : isCmp op = true) (t : TypeId) (k : IntKind) (x y : Int) (w : World) : (binOp op t (.int k x) (.int k y)).run P w = .ok (.bool (cmpDen op x y)) w := by
  cases op <;> first | (cases h; done) | (simp only [binOp, ne_eq, not_true_eq_false, if_false]; exact run_intCmp (by rfl) x y w)

theorem run_eqGuard_int {P : Program} (op : BinOp) (t : TypeId) (x y : Operand) (k k' : IntKind) (a b : Int) (w : World) : (eqGuard op t x y (.int k a) (.int k' b)).run P w = .ok () w := by
  unfold eqGuard
  cases op <;> rfl

theorem int_conc {E : Env} {k : IntKind} {e : IE} : conc E (.int k e) = some (.int k (e.den E.ρ)) := rfl

theorem cmp_ok {p : Par} {op : BinOp} {t t' : TypeId} {x1 x2 : Operand} {y1 y2 : Opd} (h1 : cOpd x1 = some y1) (h2 : cOpd x2 = some y2) {o : Oper} (ho : o.op = .binOp op t x1 x2 t') : InsOk p (iCmp op y1 y2) o := by
  intro cx n keep E w0 tm h a w Q K _ HT HH k P
  obtain ⟨r, hr, q⟩ := holds_mk2 k
  have hex : execOp a.eval o = (do let x ← (do eqGuard op t x1 x2 (a.eval x1) (a.eval x2); binOp op t (a.eval x1) (a.eval x2)); pure (Next.value x)) := by unfold execOp; rw [ho]
  rw [hex]
  unfold acmp at hr
  split at hr
  · rename_i j u k' u' he1 he2
    cases hk : kindEq j k' with
    | false => rw [hk] at hr; cases hr
    | true =>
      have := kindEq_eq hk
      subst this
      rw [hk, cond_true] at hr
      cases hm : mkCmp op u u' with
      | none => rw [hm] at hr; cases hr
      | some c =>
        rw [hm] at hr; cases hr
        obtain ⟨hc, hd⟩ := mkCmp_den (ρ := E.ρ) hm
        have e1 := opd_ok HT h1 (v := .int j (u.den E.ρ)) (by rw [he1]; rfl) HH.glob
        have e2 := opd_ok HT h2 (v := .int j (u'.den E.ρ)) (by rw [he2]; rfl) HH.glob
        rw [e1, e2]
        refine does_value (v := .bool (cmpDen op (u.den E.ρ) (u'.den E.ρ))) (w' := w) ?_ (P.same HH q (by simp [conc, hd]))
        simp only [Sem.run_bind, run_eqGuard_int, Result.andThen_ok, run_binOp_cmp hc]
  · cases hr

theorem litBin_den {op : BinOp} {k : IntKind} {x y n : Int} {P : Program} (h : litBin op k x y = some n) (t : TypeId) (w : World) : (binOp op t (.int k x) (.int k y)).run P w = .ok (.int k n) w := by
  unfold litBin at h
  split at h
  · cases h; rw [wrapL_eq]; simp only [binOp, ne_eq, not_true_eq_false, if_false]; rfl
  · cases h; rw [wrapL_eq]; simp only [binOp, ne_eq, not_true_eq_false, if_false]; rfl
  · cases h; rw [wrapL_eq]; simp only [binOp, ne_eq, not_true_eq_false, if_false]; rfl
  · cases hy : ieq y 0 with
    | true => rw [hy] at h; cases h
    | false =>
      rw [hy] at h; cases h
      rw [ieq_eq] at hy
      have hy0 : ¬ y = 0 := by simpa using hy
      rw [wrapL_eq]; simp only [binOp, ne_eq, not_true_eq_false, if_false, Op.intDiv, if_neg hy0]; rfl
  · cases hy : ieq y 0 with
    | true => rw [hy] at h; cases h
    | false =>
      rw [hy] at h; cases h
      rw [ieq_eq] at hy
      have hy0 : ¬ y = 0 := by simpa using hy
      simp only [binOp, ne_eq, not_true_eq_false, if_false, Op.intDiv, if_neg hy0]; rfl
  · unfold litBits at h
    split at h <;> first | (cases h; done) | (cases h; simp only [binOp, ne_eq, not_true_eq_false, if_false]; rfl)

theorem mkBin_den {op : BinOp} {k : IntKind} {a b c : IE} {P : Program} {ρ : Rho} (h : mkBin op k a b = some c) (t : TypeId) (w : World) :
    (binOp op t (.int k (a.den ρ)) (.int k (b.den ρ))).run P w = .ok (.int k (c.den ρ)) w := by
  unfold mkBin at h
  split at h
  · simp only [Option.map_eq_some_iff] at h
    obtain ⟨r, hr, rfl⟩ := h
    exact litBin_den hr t w
  · cases ha : isArith op with
    | true =>
      rw [ha, cond_true] at h; cases h
      simp only [IE.den]
      cases op <;> first | (cases ha; done) | (simp only [binOp, ne_eq, not_true_eq_false, if_false]; rfl)
    | false =>
      rw [ha, cond_false] at h
      cases hd : and (isDiv op) (nonZero b) with
      | false => rw [hd] at h; cases h
      | true =>
        rw [hd, cond_true] at h; cases h
        obtain ⟨h1, h2⟩ := Bool.and_eq_true_iff.1 hd
        simp only [IE.den]
        have hy0 : ¬ b.den ρ = 0 := by
          unfold nonZero at h2
          split at h2
          · rw [ieq_eq] at h2; simpa [IE.den] using h2
          · cases h2
        cases op <;> first | (cases h1; done) | (simp only [binOp, ne_eq, not_true_eq_false, if_false, Op.intDiv, if_neg hy0]; rfl)

theorem arith_guard {P : Program} {op : BinOp} (t : TypeId) (x y : Operand) (u v : Value) (w : World) (h : isCmp op = false) : (eqGuard op t x y u v).run P w = .ok () w := by
  unfold eqGuard
  cases op <;> first | rfl | cases h

theorem div_den {op : BinOp} {k : IntKind} {a b : IE} {P : Program} {ρ : Rho} (h : isDiv op = true) (hb : ¬ b.den ρ = 0) (t : TypeId) (w : World) :
    (binOp op t (.int k (a.den ρ)) (.int k (b.den ρ))).run P w = .ok (.int k ((IE.bin op k a b).den ρ)) w := by
  simp only [IE.den]
  cases op <;> first | (cases h; done) | (simp only [binOp, ne_eq, not_true_eq_false, if_false, Op.intDiv, if_neg hb]; rfl)

theorem arith_ok {p : Par} {op : BinOp} (hop : isCmp op = false) {t t' : TypeId} {x1 x2 : Operand} {y1 y2 : Opd} (h1 : cOpd x1 = some y1) (h2 : cOpd x2 = some y2) {o : Oper} (ho : o.op = .binOp op t x1 x2 t') : InsOk p (iArith op y1 y2) o := by
  intro cx n keep E w0 tm h a w Q K _ HT HH k P
  have hex : execOp a.eval o = (do let x ← (do eqGuard op t x1 x2 (a.eval x1) (a.eval x2); binOp op t (a.eval x1) (a.eval x2)); pure (Next.value x)) := by unfold execOp; rw [ho]
  rw [hex]
  unfold iArith rArith at k
  split at k
  · rename_i r hr
    have q : Q (r, h) := k
    unfold aarith at hr
    split at hr
    · rename_i j u k' u' he1 he2
      cases hk : kindEq j k' with
      | false => rw [hk] at hr; cases hr
      | true =>
        have := kindEq_eq hk
        subst this
        rw [hk, cond_true] at hr
        cases hm : mkBin op j u u' with
        | none => rw [hm] at hr; cases hr
        | some c =>
          rw [hm] at hr; cases hr
          have e1 := opd_ok HT h1 (v := .int j (u.den E.ρ)) (by rw [he1]; rfl) HH.glob
          have e2 := opd_ok HT h2 (v := .int j (u'.den E.ρ)) (by rw [he2]; rfl) HH.glob
          rw [e1, e2]
          refine does_value (v := .int j (c.den E.ρ)) (w' := w) ?_ (P.same HH q rfl)
          simp only [Sem.run_bind, arith_guard _ _ _ _ _ _ hop, Result.andThen_ok, mkBin_den hm]
    · cases hr
  · unfold rDiv at k
    split at k
    · rename_i j u k' u' he1 he2
      cases hk : (kindEq j k' && isDiv op) with
      | false => rw [hk] at k; exact absurd k id
      | true =>
        rw [hk, cond_true] at k
        obtain ⟨hk1, hk2⟩ := Bool.and_eq_true_iff.1 hk
        have := kindEq_eq hk1
        subst this
        simp only [T.Holds] at k
        split at k
        · rename_i hb
          have hb0 : ¬ u'.den E.ρ = 0 := by
            simp only [BE.den, cmpDen, IE.den] at hb
            simpa using hb
          have e1 := opd_ok HT h1 (v := .int j (u.den E.ρ)) (by rw [he1]; rfl) HH.glob
          have e2 := opd_ok HT h2 (v := .int j (u'.den E.ρ)) (by rw [he2]; rfl) HH.glob
          rw [e1, e2]
          refine does_value (v := .int j ((IE.bin op j u u').den E.ρ)) (w' := w) ?_ (P.same HH k rfl)
          simp only [Sem.run_bind, arith_guard _ _ _ _ _ _ hop, Result.andThen_ok, div_den hk2 hb0]
        · exact absurd k id
    · exact absurd k id

theorem shift_ok {p : Par} {op : BinOp} (hop : op = .shl ∨ op = .shr) {t t' : TypeId} {x1 x2 : Operand} {y1 y2 : Opd} (h1 : cOpd x1 = some y1) (h2 : cOpd x2 = some y2) {o : Oper} (ho : o.op = .binOp op t x1 x2 t') : InsOk p (iShift op y1 y2) o := by
  intro cx n keep E w0 tm h a w Q K _ HT HH k P
  obtain ⟨r, hr, q⟩ := holds_mk2 k
  have hex : execOp a.eval o = (do let x ← (do eqGuard op t x1 x2 (a.eval x1) (a.eval x2); binOp op t (a.eval x1) (a.eval x2)); pure (Next.value x)) := by unfold execOp; rw [ho]
  rw [hex]
  unfold ashift at hr
  split at hr
  · rename_i j x k' y he1 he2
    cases hm : litShift op j x y with
    | none => rw [hm] at hr; cases hr
    | some c =>
      rw [hm] at hr; cases hr
      have e1 := opd_ok HT h1 (v := .int j x) (by rw [he1]; rfl) HH.glob
      have e2 := opd_ok HT h2 (v := .int k' y) (by rw [he2]; rfl) HH.glob
      rw [e1, e2]
      have hg : isCmp op = false := by rcases hop with rfl | rfl <;> rfl
      refine does_value (v := .int j c) (w' := w) ?_ (P.same HH q rfl)
      simp only [Sem.run_bind, arith_guard _ _ _ _ _ _ hg, Result.andThen_ok]
      unfold litShift at hm
      cases hy : ilt y 0 with
      | true => rw [hy] at hm; cases hm
      | false =>
        rw [hy, cond_false] at hm
        rw [ilt_eq] at hy
        have hy0 : ¬ y < 0 := by simpa using hy
        rcases hop with rfl | rfl
        · simp only [Option.some.injEq] at hm
          subst hm
          simp only [binOp, Op.shift, if_neg hy0]; rfl
        · simp only [Option.some.injEq] at hm
          subst hm
          simp only [binOp, Op.shift, if_neg hy0]; rfl
  · cases hr

/-! ## One operand -/
theorem mkNot_den (ρ : Rho) (b : BE) : b.mkNot.den ρ = !(b.den ρ) := by
  unfold BE.mkNot
  split <;> rfl

theorem not_ok {p : Par} {t : TypeId} {x : Operand} {y : Opd} (hx : cOpd x = some y) {o : Oper} (ho : o.op = .unOp .not t x) : InsOk p (iNot y) o := by
  intro cx n keep E w0 tm h a w Q K _ HT HH k P
  obtain ⟨r, hr, q⟩ := holds_mk2 k
  have hex : execOp a.eval o = (do let x ← Op.unary .not (a.eval x); pure (Next.value x)) := by unfold execOp; rw [ho]
  rw [hex]
  unfold anot at hr
  split at hr
  · rename_i b he
    cases hr
    rw [opd_ok HT hx (v := .bool (b.den E.ρ)) (by rw [he]; rfl) HH.glob]
    exact does_value rfl (P.same HH q (by simp [conc, mkNot_den]))
  · cases hr

theorem neg_ok {p : Par} {t : TypeId} {x : Operand} {y : Opd} (hx : cOpd x = some y) {o : Oper} (ho : o.op = .unOp .neg t x) : InsOk p (iNeg y) o := by
  intro cx n keep E w0 tm h a w Q K _ HT HH k P
  obtain ⟨r, hr, q⟩ := holds_mk2 k
  have hex : execOp a.eval o = (do let x ← Op.unary .neg (a.eval x); pure (Next.value x)) := by unfold execOp; rw [ho]
  rw [hex]
  unfold aneg at hr
  split at hr
  · rename_i j u he
    cases hm : mkBin .sub j (.lit 0) u with
    | none => rw [hm] at hr; cases hr
    | some c =>
      rw [hm] at hr; cases hr
      rw [opd_ok HT hx (v := .int j (u.den E.ρ)) (by rw [he]; rfl) HH.glob]
      refine does_value (v := .int j (c.den E.ρ)) (w' := w) ?_ (P.same HH q rfl)
      have := mkBin_den (P := p.P) (ρ := E.ρ) hm 0 w
      simp only [binOp, ne_eq, not_true_eq_false, if_false, IE.den] at this
      exact this
  · cases hr

theorem conv_ok {p : Par} {ty : Nat → Option TI} (T : TyOk p.P ty) {s d : TypeId} {k : IntKind} (hk : convKind ty d = some k) {x : Operand} {y : Opd} (hx : cOpd x = some y) (hs : ∃ u, p.P.underlying s = some u) {o : Oper} (ho : o.op = .convert s d x) : InsOk p (iConv k y) o := by
  intro cx n keep E w0 tm h a w Q K _ HT HH kk P
  obtain ⟨r, hr, q⟩ := holds_mk2 kk
  have hex : execOp a.eval o = (do let x ← convert s d (a.eval x); pure (Next.value x)) := by unfold execOp; rw [ho]
  rw [hex]
  unfold aconv at hr
  split at hr
  · rename_i j u he
    cases hr
    rw [opd_ok HT hx (v := .int j (u.den E.ρ)) (by rw [he]; rfl) HH.glob]
    unfold convKind at hk
    cases hd : ty d with
    | none => rw [hd] at hk; cases hk
    | some i =>
      rw [hd] at hk
      simp only at hk
      split at hk
      · rename_i k' hdesc
        cases hk
        have hu := T.und d i hd
        rw [hdesc] at hu
        obtain ⟨us, hus⟩ := hs
        refine does_value (v := .int k (k.wrap (u.den E.ρ))) (w' := w) ?_ (P.same HH q ?_)
        · unfold convert
          simp only [Sem.run_bind, run_underlying hus, run_underlying hu, Result.andThen_ok]
          rfl
        · simp only [conc, Option.some.injEq, Value.int.injEq, true_and]
          unfold mkConv
          split
          · simp [IE.den, wrapL_eq]
          · rfl
      · cases hk
  · cases hr

end Go.Sx
