/- CLOSED CALLS, IN WHATEVER WORLD THE LISTED VARIABLES LIE AS SAID. -/
import Derived.Test.YtaapomafjjikhaaGreatDoorSxRun
import Derived.KernelRfl
/-! TABLES: how a program's own facts make the evaluator's premises. -/
namespace Go.Sx
open Go.RowKit

noncomputable def tyOf (P : Program) (t : Nat) : Option TI :=
  match P.underlying t, P.info? t with
  | some u, some j => some ⟨u, j.size, j.bytes, j.zero.bind ofV, and (Bool.not (P.stoodInHeld t)) (Bool.not (P.eqGuardType P.depth t))⟩
  | _, _ => none

/-- one type's row: 'eqOk' may be withheld. -/
structure TyRow (P : Program) (t : Nat) (i : TI) : Prop where
  und : P.underlying t = some i.desc
  info : ∃ j, P.info? t = some j ∧ j.size = i.size ∧ j.bytes = i.bytes ∧ ∀ z, i.zero = some z → ∃ v, j.zero = some v ∧ ofV v = some z
  eqOk : i.eqOk = true → P.stoodInHeld t = false ∧ P.eqGuardType P.depth t = false

theorem TyRow.of' {P : Program} {t : Nat} (i : TI) (j : TypeInfo) (hu : P.underlying t = some i.desc) (hj : P.info? t = some j) (hs : j.size = i.size) (hb : j.bytes = i.bytes)
    (hz : i.zero.isSome = true → j.zero.bind ofV = i.zero) (he : i.eqOk = true → (P.stoodInHeld t = false ∧ P.eqGuardType P.depth t = false)) : TyRow P t i := by
  refine ⟨hu, ⟨j, hj, hs, hb, fun z0 h0 => ?_⟩, he⟩
  have := hz (by rw [h0]; rfl)
  rw [h0] at this
  cases hv : j.zero with
  | none => rw [hv] at this; cases this
  | some v => rw [hv] at this; exact ⟨v, rfl, this⟩

def PT.Every {α : Type} (R : Nat → α → Prop) : PT α → Prop
  | .nil => True
  | .node v l r => (∀ a, v = some a → R 0 a) ∧ PT.Every (fun k => R (2 * k + 1)) l ∧ PT.Every (fun k => R (2 * k + 2)) r

theorem PT.every_get {α : Type} : ∀ (t : PT α) (R : Nat → α → Prop), t.Every R → ∀ k a, t.get k = some a → R k a
  | .nil, R, _, k, a, h => by rw [PT.get_nil] at h; cases h
  | .node v l r, R, h, k, a, e => by
    rw [PT.get_node] at e
    by_cases h0 : k = 0
    · subst h0; rw [beq_t.2 rfl, cond_true] at e; exact h.1 a e
    · rw [beq_f.2 h0, cond_false] at e
      by_cases h1 : k % 2 = 1
      · rw [show Nat.beq (Nat.mod k 2) 1 = true from beq_t.2 h1, cond_true] at e
        have := PT.every_get l _ h.2.1 _ a e
        rw [show 2 * (Nat.div (Nat.pred k) 2) + 1 = k from by show 2 * ((k - 1) / 2) + 1 = k; omega] at this
        exact this
      · rw [show Nat.beq (Nat.mod k 2) 1 = false from beq_f.2 h1, cond_false] at e
        have := PT.every_get r _ h.2.2 _ a e
        rw [show 2 * (Nat.div (Nat.pred k) 2) + 2 = k from by show 2 * ((k - 1) / 2) + 2 = k; omega] at this
        exact this

theorem ev1 {α : Type} {R : Nat → α → Prop} {k : Nat} {x : α} (h : R k x) : ∀ a, some x = some a → R k a := fun a e => by cases e; exact h
theorem ev0 {α : Type} {R : Nat → α → Prop} {k : Nat} : ∀ a, (none : Option α) = some a → R k a := fun a e => by cases e

theorem tyOk_of {P : Program} {tt : PT TI} (h : tt.Every (TyRow P)) : TyOk P tt.get :=
  ⟨fun t i e => (PT.every_get tt _ h t i e).und, fun t i e => (PT.every_get tt _ h t i e).info, fun t i e he => (PT.every_get tt _ h t i e).eqOk he⟩

/-! ## Ranges over functions -/
noncomputable def ranges : Code → List (List Nat × Code × Code)
  | .seq a b => ranges a ++ ranges b
  | .cond _ a b => ranges a ++ ranges b
  | .block _ a => ranges a
  | .loop a => ranges a
  | .scope a => ranges a
  | .rangeFunc _ ps a b => [(ps.toList, a, b)]
  | _ => []

theorem rng_of {p : Par} {n : Nat} {keep : List Nat} {fid : FuncId} : ∀ (c : Code), (∀ q ∈ ranges c, ∀ id, rangeId fid q.1 = some id → p.RC id n keep q.2.1 q.2.2) → Rng p n keep fid c := by
  intro c
  induction c with
  | seq a b iha ihb => exact fun h => ⟨iha fun q hq => h q (List.mem_append_left _ hq), ihb fun q hq => h q (List.mem_append_right _ hq)⟩
  | cond c a b iha ihb => exact fun h => ⟨iha fun q hq => h q (List.mem_append_left _ hq), ihb fun q hq => h q (List.mem_append_right _ hq)⟩
  | block id a ih => exact fun h => ih h
  | loop a ih => exact fun h => ih h
  | scope a ih => exact fun h => ih h
  | rangeFunc g ps a b _ _ => exact fun h => h (ps.toList, a, b) (by simp [ranges])
  | _ => exact fun _ => trivial

noncomputable def firstR (l : List (List Nat × Code × Code)) : Code × Code :=
  match l with
  | q :: _ => q.2
  | [] => (.skip, .skip)

noncomputable def bodyOf (fn : Func) : Code :=
  match fn.body with
  | some c => c
  | none => .skip

/-- one range: its number, the function's slots, those that are kept, and the two pieces of code -/
structure RRow where
  id : Nat
  fid : Nat
  n : Nat
  keep : List Nat
  a : Code
  b : Code

def rcOf (l : List RRow) (code n : Nat) (keep : List Nat) (a b : Code) : Prop := ∃ r ∈ l, r.id = code ∧ r.n = n ∧ r.keep = keep ∧ r.a = a ∧ r.b = b

theorem rcOf_rng {P : Program} {ok : Rho → (Nat → Obj → Prop) → Prop} {l : List RRow} {n : Nat} {keep : List Nat} {fid : FuncId} {c : Code} (rs : List (List Nat × Code × Code)) (h : ranges c = rs)
    (hr : ∀ q ∈ rs, ∀ id, rangeId fid q.1 = some id → rcOf l id n keep q.2.1 q.2.2) : Rng ⟨P, rcOf l, ok⟩ n keep fid c := rng_of c (by rw [h]; exact hr)

structure FRow (p : Par) (ty : Nat → Option TI) (f : Nat) (cf : CF) : Prop where
  row : ∃ fn keep, p.P.funcs[f]? = some fn ∧ cFunc ty keep f fn = some cf ∧ (fn.name == "runtime.NumGoroutine") = false ∧ ∀ c, fn.body = some c → Rng p fn.ntmps keep f c

theorem FRow.plain {P : Program} {ok : Rho → (Nat → Obj → Prop) → Prop} {l : List RRow} {ty : Nat → Option TI} {f : Nat} {cf : CF} {fn : Func} (keep : List Nat) (c : Code) (h1 : P.funcs[f]? = some fn) (h2 : cFunc ty keep f fn = some cf) (h3 : (fn.name == "runtime.NumGoroutine") = false) (h4 : fn.body = some c)
    (rs : List (List Nat × Code × Code)) (h5 : ranges c = rs) (h6 : ∀ q ∈ rs, ∀ id, rangeId f q.1 = some id → rcOf l id fn.ntmps keep q.2.1 q.2.2) : FRow ⟨P, rcOf l, ok⟩ ty f cf :=
  ⟨fn, keep, h1, h2, h3, fun c' hc => by rw [h4] at hc; cases hc; exact rcOf_rng rs h5 h6⟩

theorem tabOk_of {P : Program} {ok : Rho → (Nat → Obj → Prop) → Prop} {l : List RRow} {tt : PT TI} {ft : PT CF} {rt : List (Nat × (C × C))} {loops : Nat} {orc : FuncId → List AV → Heap → Option (T (AV × Heap))} (hm : P.follows .mixedOrders = true) (ht : tt.Every (TyRow P)) (hf : ft.Every (FRow ⟨P, rcOf l, ok⟩ tt.get))
    (hr : ∀ r ∈ l, ∃ ca cb, lFind rt r.id = some (ca, cb) ∧ cCode tt.get r.n r.keep r.fid r.a = some ca ∧ cCode tt.get r.n r.keep r.fid r.b = some cb ∧ ranges r.a = [] ∧ ranges r.b = [])
    (ho : ∀ f args h t, orc f args h = some t → CallOk ⟨P, rcOf l, ok⟩ f args h t) : TabOk ⟨P, rcOf l, ok⟩ tt.get ⟨ft.get, lFind rt, loops, orc⟩ := by
  refine ⟨tyOk_of ht, hm, fun f cf e => (PT.every_get ft _ hf f cf e).row, ?_, ho⟩
  rintro code n keep a b ⟨r, hrl, rfl, rfl, rfl, rfl, rfl⟩
  obtain ⟨ca, cb, h1, h2, h3, h4, h5⟩ := hr r hrl
  exact ⟨r.fid, ca, cb, h1, h2, h3, rcOf_rng [] h4 (by simp), rcOf_rng [] h5 (by simp)⟩

end Go.Sx
/-! CLOSED CALLS, IN WHATEVER WORLD THE LISTED VARIABLES LIE AS SAID. -/
namespace Go.Sx
open Go.RowKit

/-- the start: every block below 1000 is its own name -/
def E0 (ρ : Rho) : Env := ⟨ρ, fun b => if b < 1000 then some (b, 0) else none, fun _ => 0, 1000, fun _ => #[]⟩

/-- package variables: their blocks, and what lies there -/
noncomputable def globHeap : List (Nat × List AV) → Heap
  | [] => ⟨.nil, 1000⟩
  | g :: l => (globHeap l).put g.1 (.cells g.2 0 false false)

theorem globHeap_next : ∀ l, (globHeap l).next = 1000
  | [] => rfl
  | g :: l => by rw [globHeap, Heap.next_put]; exact globHeap_next l

theorem globHeap_get : ∀ (l : List (Nat × List AV)) (b : Nat) (o : AObj), (globHeap l).get b = some o → ∃ g ∈ l, g.1 = b ∧ o = .cells g.2 0 false false
  | [], b, o, h => by
    have : (PT.nil : PT AObj).get b = some o := h
    rw [PT.get_nil] at this; cases this
  | g :: l, b, o, h => by
    rw [globHeap, Heap.get_put] at h
    by_cases c : b = g.1
    · rw [if_pos c] at h; cases h; exact ⟨g, List.mem_cons_self, c.symm, rfl⟩
    · rw [if_neg c] at h
      obtain ⟨g', h1, h2⟩ := globHeap_get l b o h
      exact ⟨g', List.mem_cons_of_mem _ h1, h2⟩

/-- a package variable lies in the world as said -/
def GlobIn (w : World) (ρ : Rho) (g : Nat × List AV) : Prop := g.1 < 1000 ∧ ∃ vs cells el fz, concL (E0 ρ) g.2 = some vs ∧ w.heap[g.1]? = some (.cells cells el fz) ∧ ∀ i, i < vs.length → cells[i]? = vs[i]?

theorem start_ok {p : Par} {ρ : Rho} {w : World} {l : List (Nat × List AV)} (h : ∀ g ∈ l, GlobIn w ρ g) (hok : p.okB ρ (Base.of w)) : HeapOk p (E0 ρ) (globHeap l) (Base.of w) w := by
  have own : ∀ b o, (globHeap l).get b = some o → ownO o = false := fun b o e => by
    obtain ⟨g, _, _, rfl⟩ := globHeap_get l b o e; rfl
  refine ⟨fun b o e => ?_, fun b b' o o' c x y h1 h2 w1 => ?_, fun b o c x e ow => ?_, fun b o c y hg _ s => ?_, fun b hb => ?_, fun b o c x e s => ?_, fun b hb => by simp [E0, hb], Kept.refl _ _, (by rw [globHeap_next]; exact Nat.le_refl _), hok⟩
  · obtain ⟨g, hg, rfl, rfl⟩ := globHeap_get l b o e
    obtain ⟨hlt, vs, cells, el, fz, h1, h2, h3⟩ := h g hg
    exact ⟨g.1, 0, vs, cells, el, fz, by simp [E0, hlt], h1, h2, fun i hi => by rw [Nat.zero_add]; exact h3 i hi, fun h => by cases h⟩
  · rw [own b o h1] at w1; cases w1
  · rw [own b o e] at ow; cases ow
  · obtain ⟨g, hg', rfl, _⟩ := globHeap_get l b _ hg
    obtain ⟨hlt, vs, cells, el, fz, h1, h2, h3⟩ := h g hg'
    simp only [E0, hlt, if_true, Option.some.injEq, Prod.mk.injEq] at s
    rw [← s.1]
    exact (Array.getElem?_eq_some_iff.1 h2).1
  · rw [globHeap_next] at hb
    simp only [E0]
    rw [if_neg (by omega)]
  · obtain ⟨g, hg', rfl, _⟩ := globHeap_get l b _ e
    obtain ⟨hlt, vs, cells, el, fz, h1, h2, h3⟩ := h g hg'
    simp only [E0, hlt, if_true, Option.some.injEq, Prod.mk.injEq] at s
    rw [← s.1]
    exact (Array.getElem?_eq_some_iff.1 h2).1

/-- A CLOSED CALL. -/
theorem closed_ok {p : Par} {ty : Nat → Option TI} {tb : Tabs} (B : TabOk p ty tb) {d : Nat} {f : FuncId} {args : List AV} {l : List (Nat × List AV)} {v : AV} {h1 : Heap} (hrun : evalN tb d false f args (globHeap l) = .ret (v, h1))
    {ρ : Rho} {w : World} (hg : ∀ g ∈ l, GlobIn w ρ g) (hok : p.okB ρ (Base.of w)) {vs : List Value} (ha : concL (E0 ρ) args = some vs) :
    Calls p.P f vs.toArray w fun e w' => ∃ cv E, e = .returned cv ∧ conc E v = some cv ∧ HeapOk p E h1 (Base.of w) w' := by
  have := (eval_ok B d f args (globHeap l) vs (E0 ρ) (Base.of w) w (fun r => r = (v, h1)) (fun cv w' => ∃ E, conc E v = some cv ∧ HeapOk p E h1 (Base.of w) w') (by rw [hrun]; rfl) (start_ok hg hok) ha ?_).2
  · exact this.mono fun e w' ⟨cv, he, E, h2, h3⟩ => ⟨cv, E, he, h2, h3⟩
  · intro v' h' E' w' cv q hle HH hv
    cases q
    exact ⟨E', hv, HH⟩

/-- A closed call that hands back true, and leaves what lay. -/
theorem closed_true {p : Par} {ty : Nat → Option TI} {tb : Tabs} (B : TabOk p ty tb) {d : Nat} {f : FuncId} {l : List (Nat × List AV)} {h1 : Heap} (hrun : evalN tb d false f [] (globHeap l) = .ret (.bool (.lit true), h1))
    {ρ : Rho} {w : World} (hg : ∀ g ∈ l, GlobIn w ρ g) (hok : p.okB ρ (Base.of w)) : Calls p.P f #[] w fun e w' => e = .returned (.bool true) ∧ Below w.heap.size w w' := by
  refine (closed_ok B hrun hg hok (vs := []) rfl).mono ?_
  rintro e w' ⟨cv, E, rfl, hv, HH⟩
  simp only [conc, BE.den, Option.some.injEq] at hv
  subst hv
  exact ⟨rfl, Base.keeps_below HH.below⟩

/-- has it handed back true? -/
noncomputable def isTrue1 (t : T (AV × Heap)) : Bool :=
  match t with
  | .ret r => (match r.1 with
    | .bool b => (match b with
      | .lit b => b
      | _ => false)
    | _ => false)
  | _ => false

theorem isTrue1_some {t : T (AV × Heap)} (h : isTrue1 t = true) : ∃ h1, t = .ret (.bool (.lit true), h1) := by
  unfold isTrue1 at h
  split at h
  · rename_i r
    split at h
    · rename_i b hb
      split at h
      · rename_i c
        obtain ⟨v, h1⟩ := r
        simp only at hb
        subst hb
        subst h
        exact ⟨h1, rfl⟩
      · cases h
    · cases h
  · cases h

theorem closed_true1 {p : Par} {ty : Nat → Option TI} {tb : Tabs} (B : TabOk p ty tb) {d : Nat} {f : FuncId} {l : List (Nat × List AV)} (hrun : isTrue1 (evalN tb d false f [] (globHeap l)) = true)
    {ρ : Rho} {w : World} (hg : ∀ g ∈ l, GlobIn w ρ g) (hok : p.okB ρ (Base.of w)) : Calls p.P f #[] w fun e w' => e = .returned (.bool true) ∧ Below w.heap.size w w' := by
  obtain ⟨h1, hr⟩ := isTrue1_some hrun
  exact closed_true B hr hg hok

end Go.Sx
