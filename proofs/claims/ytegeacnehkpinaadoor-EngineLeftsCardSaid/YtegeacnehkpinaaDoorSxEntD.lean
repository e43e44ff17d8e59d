/- ENTRIES: calls that are taken as made. No theorem stands here. -/
import Derived.Test.YtegeacnehkpinaaDoorSxStart
import Derived.Test.YtegeacnehkpinaaDoorSxEval
/-! VIEWS: blocks that are only read, wherever they lie; calls over them; calls that others may take as made. -/
namespace Go.Sx
open Go.RowKit

/-- blocks that are only read -/
noncomputable def viewHeap (n : Nat) : List (Nat × List AV) → Heap
  | [] => ⟨.nil, n⟩
  | g :: l => (viewHeap n l).put g.1 (.cells g.2 0 false false)

theorem viewHeap_next (n : Nat) : ∀ l, (viewHeap n l).next = n
  | [] => rfl
  | g :: l => by rw [viewHeap, Heap.next_put]; exact viewHeap_next n l

theorem viewHeap_get (n : Nat) : ∀ (l : List (Nat × List AV)) (b : Nat) (o : AObj), (viewHeap n l).get b = some o → ∃ g ∈ l, g.1 = b ∧ o = .cells g.2 0 false false
  | [], b, o, h => by
    have : (PT.nil : PT AObj).get b = some o := h
    rw [PT.get_nil] at this; cases this
  | g :: l, b, o, h => by
    rw [viewHeap, Heap.get_put] at h
    by_cases c : b = g.1
    · rw [if_pos c] at h; cases h; exact ⟨g, List.mem_cons_self, c.symm, rfl⟩
    · rw [if_neg c] at h
      obtain ⟨g', h1, h2⟩ := viewHeap_get n l b o h
      exact ⟨g', List.mem_cons_of_mem _ h1, h2⟩

/-- the block lies in the world as said -/
def ViewIn (w : World) (E : Env) (g : Nat × List AV) : Prop :=
  ∃ c base vs cells el fz, E.σ g.1 = some (c, base) ∧ concL E g.2 = some vs ∧ w.heap[c]? = some (.cells cells el fz) ∧ ∀ i, i < vs.length → cells[base + i]? = vs[i]?

theorem ViewIn.lt {w : World} {E : Env} {g : Nat × List AV} (h : ViewIn w E g) : ∃ c base, E.σ g.1 = some (c, base) ∧ c < w.heap.size := by
  obtain ⟨c, base, vs, cells, el, fz, h1, h2, h3, h4⟩ := h
  exact ⟨c, base, h1, (Array.getElem?_eq_some_iff.1 h3).1⟩

theorem ViewIn.world {w w' : World} {E : Env} {g : Nat × List AV} (h : ViewIn w E g) (hb : Below w.heap.size w w') : ViewIn w' E g := by
  obtain ⟨c, base, vs, cells, el, fz, h1, h2, h3, h4⟩ := h
  exact ⟨c, base, vs, cells, el, fz, h1, h2, by rw [hb.block c (Array.getElem?_eq_some_iff.1 h3).1]; exact h3, h4⟩

theorem ViewIn.re {w : World} {E E' : Env} {b b' : Nat} {cs cs' : List AV} (h : ViewIn w E (b, cs)) (hσ : E'.σ b' = E.σ b) (hc : concL E' cs' = concL E cs) : ViewIn w E' (b', cs') := by
  obtain ⟨c, base, vs, cells, el, fz, h1, h2, h3, h4⟩ := h
  exact ⟨c, base, vs, cells, el, fz, hσ.trans h1, hc.trans h2, h3, h4⟩

theorem ViewIn.of_heap {p : Par} {E : Env} {h : Heap} {w0 : Base} {w : World} (HH : HeapOk p E h w0 w) {b : Nat} {cs : List AV} {e : TypeId} {own ext : Bool} (hg : h.get b = some (.cells cs e own ext)) : ViewIn w E (b, cs) := by
  obtain ⟨c, base, vs, cells, el, fz, h1, h2, h3, h4, _⟩ := HH.obj b _ hg
  exact ⟨c, base, vs, cells, el, fz, h1, h2, h3, h4⟩

/-- a world in which the blocks lie as said -/
theorem view_ok {p : Par} {E : Env} {w : World} {n : Nat} {l : List (Nat × List AV)} (h : ∀ g ∈ l, ViewIn w E g) (hf : ∀ b, n ≤ b → E.σ b = none) (hg : ∀ b, b < 1000 → E.σ b = some (b, 0)) (hn : E.n ≤ n) (hok : p.ok E.ρ) : HeapOk p E (viewHeap n l) (Base.of w) w := by
  have own : ∀ b o, (viewHeap n l).get b = some o → ownO o = false := fun b o e => by
    obtain ⟨g, _, _, rfl⟩ := viewHeap_get n l b o e; rfl
  refine ⟨fun b o e => ?_, fun b b' o o' c x y h1 h2 w1 => ?_, fun b o c x e ow => ?_, fun b o c y hg _ s => ?_, fun b hb => ?_, fun b o c x e s => ?_, hg, Kept.refl _ _, (by rw [viewHeap_next]; exact hn), hok⟩
  · obtain ⟨g, hg, rfl, rfl⟩ := viewHeap_get n l b o e
    obtain ⟨c, base, vs, cells, el, fz, h1, h2, h3, h4⟩ := h g hg
    exact ⟨c, base, vs, cells, el, fz, h1, h2, h3, h4, fun h => by cases h⟩
  · rw [own b o h1] at w1; cases w1
  · rw [own b o e] at ow; cases ow
  · obtain ⟨g, hg', rfl, _⟩ := viewHeap_get n l b _ hg
    obtain ⟨c', base, h1, h2⟩ := (h g hg').lt
    rw [h1] at s; cases s; exact h2
  · rw [viewHeap_next] at hb; exact hf b hb
  · obtain ⟨g, hg', rfl, _⟩ := viewHeap_get n l b _ e
    obtain ⟨c', base, h1, h2⟩ := (h g hg').lt
    rw [h1] at s; cases s; exact h2

/-! ## Values without a block -/
mutual
def pureAV : AV → Bool
  | .bool _ => true
  | .int _ _ => true
  | .agg cs => pureAVs cs
  | .tup cs => pureAVs cs
  | .nilslice => true
  | .nilmap => true
  | .nilFunc => true
  | .nilptr => true
  | .opq _ => true
  | .sliceU _ => true
  | _ => false
def pureAVs : List AV → Bool
  | [] => true
  | a :: l => and (pureAV a) (pureAVs l)
end

mutual
theorem conc_pure {E E' : Env} (h : E'.ρ = E.ρ) : ∀ (a : AV), pureAV a = true → conc E' a = conc E a
  | .bool b, _ => by simp only [conc, h]
  | .int k e, _ => by simp only [conc, h]
  | .agg cs, k => by simp only [conc, concL_pure h cs (by simpa [pureAV] using k)]
  | .tup cs, k => by simp only [conc, concL_pure h cs (by simpa [pureAV] using k)]
  | .nilslice, _ => rfl
  | .nilmap, _ => rfl
  | .nilFunc, _ => rfl
  | .nilptr, _ => rfl
  | .opq i, _ => by simp only [conc, h]
  | .sliceU i, _ => by simp only [conc, h]
  | .ptr .., k => by simp [pureAV] at k
  | .slice .., k => by simp [pureAV] at k
  | .sliceX .., k => by simp [pureAV] at k
  | .map _, k => by simp [pureAV] at k
  | .func .., k => by simp [pureAV] at k
  | .yieldF _, k => by simp [pureAV] at k
  | .bad, k => by simp [pureAV] at k
theorem concL_pure {E E' : Env} (h : E'.ρ = E.ρ) : ∀ (l : List AV), pureAVs l = true → concL E' l = concL E l
  | [], _ => rfl
  | a :: l, k => by
    simp only [pureAVs, Bool.and_eq_true] at k
    simp only [concL, conc_pure h a k.1, concL_pure h l k.2]
end

/-! ## Calls over views -/
theorem call_view {p : Par} {ty : Nat → Option TI} {tb : Tabs} (B : TabOk p ty tb) {d : Nat} {f : FuncId} {args : List AV} {n : Nat} {l : List (Nat × List AV)} {E : Env} {w : World} {vs : List Value}
    (h : ∀ g ∈ l, ViewIn w E g) (hf : ∀ b, n ≤ b → E.σ b = none) (hg : ∀ b, b < 1000 → E.σ b = some (b, 0)) (hn : E.n ≤ n) (ha : concL E args = some vs) {Q : AV → Prop}
    (hrun : (evalN tb d false f args (viewHeap n l)).Holds E.ρ (fun r => Q r.1)) (hok : p.ok E.ρ) :
    (callFunc f vs.toArray).run p.P w = .ok (.enter f vs.toArray) w ∧ Calls p.P f vs.toArray w fun e w' => ∃ v cv E', e = .returned cv ∧ Q v ∧ E.le E' ∧ conc E' v = some cv ∧ Below w.heap.size w w' := by
  have key := eval_ok B d f args (viewHeap n l) vs E (Base.of w) w (fun r => Q r.1) (fun cv w' => ∃ v E', Q v ∧ E.le E' ∧ conc E' v = some cv ∧ Below w.heap.size w w') hrun (view_ok h hf hg hn hok) ha ?_
  · exact ⟨key.1, key.2.mono fun e w' ⟨cv, he, v, E', h1, h2, h3, h4⟩ => ⟨v, cv, E', he, h1, h2, h3, h4⟩⟩
  · intro v h' E' w' cv q hle HH hv
    exact ⟨v, E', q, hle, hv, Base.keeps_below HH.below⟩

/-- A call that hands back no block, and leaves what lay: others may take it as made. -/
theorem callOk_of {p : Par} {f : FuncId} {args : List AV} {h : Heap} {t : T (AV × Heap)}
    (H : ∀ vs E w0 w Q, HeapOk p E h w0 w → concL E args = some vs → t.Holds E.ρ Q →
      (callFunc f vs.toArray).run p.P w = .ok (.enter f vs.toArray) w ∧ Calls p.P f vs.toArray w fun e w' => ∃ v cv, e = .returned cv ∧ Q (v, h) ∧ conc E v = some cv ∧ Below w.heap.size w w') : CallOk p f args h t := by
  intro vs E w0 w Q K k HH ha P
  obtain ⟨h1, h2⟩ := H vs E w0 w Q HH ha k
  refine ⟨h1, h2.mono ?_⟩
  rintro e w' ⟨v, cv, rfl, q, hv, hb⟩
  exact ⟨cv, rfl, P v h E w' cv q (Env.le.refl E) (HH.world hb) hv⟩

/-! ## Trees out of lists -/
noncomputable def treeOf : List (Nat × AV) → PT AV
  | [] => .nil
  | g :: l => (treeOf l).set g.1 g.2

theorem treeOf_get : ∀ (l : List (Nat × AV)) (b : Nat) (o : AV), (treeOf l).get b = some o → (b, o) ∈ l
  | [], b, o, h => by rw [treeOf, PT.get_nil] at h; cases h
  | g :: l, b, o, h => by
    rw [treeOf, PT.get_set] at h
    by_cases c : b = g.1
    · rw [if_pos c] at h; cases h; subst c; exact List.mem_cons_self
    · rw [if_neg c] at h
      exact List.mem_cons_of_mem _ (treeOf_get l b o h)

/-! ## The values of a run -/
noncomputable def T.map {α β : Type} (f : α → β) (t : T α) : T β := t.bind fun a => .ret (f a)
theorem T.holds_map {α β : Type} {ρ : Rho} {f : α → β} {t : T α} {Q : β → Prop} : (t.map f).Holds ρ Q ↔ t.Holds ρ fun a => Q (f a) := T.holds_bind

noncomputable def eqTV (t u : T AV) : Bool :=
  match t, u with
  | .ret a, .ret b => eqAV a b
  | .br c x y, .br c' x' y' => and (eqBE c c') (and (eqTV x x') (eqTV y y'))
  | _, _ => false

theorem eqTV_eq : ∀ (t u : T AV), eqTV t u = true → t = u
  | .ret a, u, h => by
    cases u <;> simp [eqTV] at h
    rw [eqAV_eq _ _ h]
  | .br c x y, u, h => by
    cases u <;> simp [eqTV] at h
    rw [eqBE_eq _ _ h.1, eqTV_eq x _ h.2.1, eqTV_eq y _ h.2.2]
  | .fail w, u, h => by cases u <;> simp [eqTV] at h

/-! ## Truth values, as statements -/
theorem BE.t_lss {ρ : Rho} {a b : IE} : (BE.cmp .lss a b).den ρ = true ↔ a.den ρ < b.den ρ := by simp [BE.den, cmpDen]
theorem BE.t_leq {ρ : Rho} {a b : IE} : (BE.cmp .leq a b).den ρ = true ↔ a.den ρ ≤ b.den ρ := by simp [BE.den, cmpDen]
theorem BE.t_gtr {ρ : Rho} {a b : IE} : (BE.cmp .gtr a b).den ρ = true ↔ b.den ρ < a.den ρ := by simp [BE.den, cmpDen]
theorem BE.t_geq {ρ : Rho} {a b : IE} : (BE.cmp .geq a b).den ρ = true ↔ b.den ρ ≤ a.den ρ := by simp [BE.den, cmpDen]
theorem BE.t_eql {ρ : Rho} {a b : IE} : (BE.cmp .eql a b).den ρ = true ↔ a.den ρ = b.den ρ := by simp [BE.den, cmpDen]
theorem BE.t_neq {ρ : Rho} {a b : IE} : (BE.cmp .neq a b).den ρ = true ↔ a.den ρ ≠ b.den ρ := by simp [BE.den, cmpDen]
theorem BE.t_and {ρ : Rho} {a b : BE} : (BE.and a b).den ρ = true ↔ a.den ρ = true ∧ b.den ρ = true := by simp [BE.den]
theorem BE.t_not {ρ : Rho} {a : BE} : (BE.not a).den ρ = true ↔ ¬ a.den ρ = true := by simp [BE.den]
theorem BE.t_lit {ρ : Rho} {a : Bool} : (BE.lit a).den ρ = true ↔ a = true := by simp [BE.den]

theorem mxden (a b : Int) : (if b > a then b else a) = max a b := by
  rcases Int.lt_or_le a b with h | h
  · rw [if_pos h]; omega
  · rw [if_neg (by omega)]; omega

theorem IE.den_mx {ρ : Rho} {a b : IE} : (IE.mx a b).den ρ = max (a.den ρ) (b.den ρ) := mxden (a.den ρ) (b.den ρ)
theorem IE.den_lit {ρ : Rho} {n : Int} : (IE.lit n).den ρ = n := rfl
theorem IE.den_var {ρ : Rho} {n : Nat} : (IE.var n).den ρ = ρ.iv n := rfl
theorem IE.den_add {ρ : Rho} {a b : IE} : (IE.bin .add .i64 a b).den ρ = IntKind.i64.wrap (a.den ρ + b.den ρ) := rfl
theorem IE.den_sub {ρ : Rho} {a b : IE} : (IE.bin .sub .i64 a b).den ρ = IntKind.i64.wrap (a.den ρ - b.den ρ) := rfl
theorem IE.den_mul {ρ : Rho} {a b : IE} : (IE.bin .mul .i64 a b).den ρ = IntKind.i64.wrap (a.den ρ * b.den ρ) := rfl
theorem IE.den_rem {ρ : Rho} {a b : IE} : (IE.bin .rem .i64 a b).den ρ = (a.den ρ).tmod (b.den ρ) := rfl

end Go.Sx
/-! ENTRIES: calls that are taken as made. No theorem stands here. -/
namespace Go.Sx

abbrev Ren := List (Nat × Nat)

/-- a block of the entry is that block of the heap -/
noncomputable def bindR (n b b' : Nat) (r : Ren) : Option Ren :=
  cond (Nat.ble (Nat.succ b) 1000) (cond (Nat.beq b b') (some r) none)
    (cond (Nat.ble (Nat.succ b) n) (match lFind r b with
    | some c => cond (Nat.beq c b') (some r) none
    | none => some ((b, b') :: r)) none)

noncomputable def eqFn (a b : Fn) : Bool :=
  match a, b with
  | .func f, .func g => Nat.beq f g
  | _, _ => false
mutual
noncomputable def mtV (n : Nat) : AV → AV → Ren → Option Ren
  | .ptr b o, .ptr b' o', r => cond (Nat.beq o o') (bindR n b b' r) none
  | .slice b o l c, .slice b' o' l' c', r => cond (and (Nat.beq o o') (and (Nat.beq l l') (Nat.beq c c'))) (bindR n b b' r) none
  | .sliceX b o l c, .sliceX b' o' l' c', r => cond (and (Nat.beq o o') (and (Nat.beq l l') (Nat.beq c c'))) (bindR n b b' r) none
  | .map b, .map b', r => bindR n b b' r
  | .agg x, .agg y, r => mtL n x y r
  | .tup x, .tup y, r => mtL n x y r
  | .func fn x y, .func fn' x' y', r => cond (eqFn fn fn') (match mtL n x x' r with
    | some r' => mtL n y y' r'
    | none => none) none
  | .bool a, .bool b, r => cond (eqBE a b) (some r) none
  | .int k a, .int k' b, r => cond (and (kindEq k k') (eqIE a b)) (some r) none
  | .nilptr, .nilptr, r => some r
  | .nilslice, .nilslice, r => some r
  | .nilmap, .nilmap, r => some r
  | .nilFunc, .nilFunc, r => some r
  | _, _, _ => none
noncomputable def mtL (n : Nat) : List AV → List AV → Ren → Option Ren
  | [], [], r => some r
  | a :: l, b :: m, r => (match mtV n a b r with
    | some r' => mtL n l m r'
    | none => none)
  | _, _, _ => none
end

noncomputable def mtE (n : Nat) : List (AV × AV × Nat) → List (AV × AV × Nat) → Ren → Option Ren
  | [], [], r => some r
  | a :: l, b :: m, r => cond (Nat.beq a.2.2 b.2.2) (match mtV n a.1 b.1 r with
    | some r1 => (match mtV n a.2.1 b.2.1 r1 with
      | some r2 => mtE n l m r2
      | none => none)
    | none => none) none
  | _, _, _ => none

/-- what is read of a block -/
inductive VO where
  | cells (cs : List AV)
  | map (es : List (AV × AV × Nat)) (clock : Nat)
  | own (cs : List AV) (el : TypeId) (ext : Bool)
  | ownMap (es : List (AV × AV × Nat)) (clock : Nat)

noncomputable def VO.obj (v : VO) : AObj :=
  match v with
  | .cells cs => .cells cs 0 false false
  | .map es k => .rmap es k
  | .own cs el ext => .cells cs el true ext
  | .ownMap es k => .map es k

noncomputable def beqB (a b : Bool) : Bool := cond a b (cond b false true)

noncomputable def mtO (n : Nat) (v : VO) (o : Option AObj) (r : Ren) : Option Ren :=
  match v with
  | .cells cs => (match o with
    | some (.cells cs' _ _ _) => mtL n cs cs' r
    | _ => none)
  | .map es k => (match o with
    | some (.map es' k') => cond (Nat.beq k k') (mtE n es es' r) none
    | some (.rmap es' k') => cond (Nat.beq k k') (mtE n es es' r) none
    | _ => none)
  | .own cs el ext => (match o with
    | some (.cells cs' el' own ext') => cond (and own (and (Nat.beq el el') (beqB ext ext'))) (mtL n cs cs' r) none
    | _ => none)
  | .ownMap es k => (match o with
    | some (.map es' k') => cond (Nat.beq k k') (mtE n es es' r) none
    | _ => none)

/-- the blocks that are read, as a heap -/
noncomputable def viewO (n : Nat) : List (Nat × VO) → Heap
  | [] => ⟨.nil, n⟩
  | g :: l => (viewO n l).put g.1 g.2.obj

/-- the blocks that are read -/
noncomputable def mtView (n : Nat) (h : Heap) : List (Nat × VO) → Ren → Option Ren
  | [], r => some r
  | g :: l, r => (match cond (Nat.ble (Nat.succ g.1) 1000) (some g.1) (cond (Nat.ble (Nat.succ g.1) n) (lFind r g.1) none) with
    | some b => (match mtO n g.2 (h.get b) r with
      | some r' => mtView n h l r'
      | none => none)
    | none => none)

/-- a block's name: as the entry has it, and as it is here; 'nb': those that are new -/
noncomputable def blR (n : Nat) (r nb : Ren) (b : Nat) : Option Nat :=
  cond (Nat.ble (Nat.succ b) 1000) (some b) (cond (Nat.ble (Nat.succ b) n) (lFind r b) (lFind nb b))

mutual
noncomputable def rnV (g : Nat → Option Nat) : AV → Option AV
  | .ptr b o => (match g b with
    | some b' => some (.ptr b' o)
    | none => none)
  | .slice b o l c => (match g b with
    | some b' => some (.slice b' o l c)
    | none => none)
  | .sliceX b o l c => (match g b with
    | some b' => some (.sliceX b' o l c)
    | none => none)
  | .map b => (match g b with
    | some b' => some (.map b')
    | none => none)
  | .agg x => (match rnL g x with
    | some y => some (.agg y)
    | none => none)
  | .tup x => (match rnL g x with
    | some y => some (.tup y)
    | none => none)
  | .bool a => some (.bool a)
  | .int k a => some (.int k a)
  | .nilptr => some .nilptr
  | .nilslice => some .nilslice
  | .nilmap => some .nilmap
  | .nilFunc => some .nilFunc
  | _ => none
noncomputable def rnL (g : Nat → Option Nat) : List AV → Option (List AV)
  | [] => some []
  | a :: l => (match rnV g a with
    | some b => (match rnL g l with
      | some m => some (b :: m)
      | none => none)
    | none => none)
end

noncomputable def rnE (g : Nat → Option Nat) : List (AV × AV × Nat) → Option (List (AV × AV × Nat))
  | [] => some []
  | a :: l => (match rnV g a.1, rnV g a.2.1, rnE g l with
    | some k, some v, some m => some ((k, v, a.2.2) :: m)
    | _, _, _ => none)

/-- what lies in a new block -/
inductive NB where
  | cells (cs : List AV) (el : TypeId) (ext : Bool)
  | map (es : List (AV × AV × Nat)) (clock : Nat)

noncomputable def NB.raw (q : NB) : AObj :=
  match q with
  | .cells cs el ext => .cells cs el true ext
  | .map es k => .map es k

noncomputable def NB.ren (g : Nat → Option Nat) (q : NB) : Option AObj :=
  match q with
  | .cells cs el ext => (match rnL g cs with
    | some cs' => some (.cells cs' el true ext)
    | none => none)
  | .map es k => (match rnE g es with
    | some es' => some (.map es' k)
    | none => none)

/-- the new blocks, as they are here -/
noncomputable def newsH (g : Nat → Option Nat) : List (Nat × NB) → Heap → Option Heap
  | [], h => some h
  | q :: l, h => (match q.2.ren g with
    | some o => newsH g l (h.new o)
    | none => none)

/-- their names: those of the entry, and those here, from a number on -/
noncomputable def newsR : List (Nat × NB) → Nat → Ren
  | [], _ => []
  | q :: l, k => (q.1, k) :: newsR l (Nat.succ k)

/-- the names of the entry are new, and rise -/
noncomputable def rises : Nat → List (Nat × NB) → Bool
  | _, [] => true
  | n, q :: l => cond (Nat.ble n q.1) (rises (Nat.succ q.1) l) false

/-- a call: what it is called with, the blocks that it reads, what it hands back, and the blocks that this has anew -/
structure Ent where
  f : Nat
  args : List AV
  n : Nat
  view : List (Nat × VO)
  res : AV
  news : List (Nat × NB)
  outs : List (Nat × NB)

noncomputable def eqEs : List (AV × AV × Nat) → List (AV × AV × Nat) → Bool
  | [], [] => true
  | a :: l, b :: m => and (and (eqAV a.1 b.1) (and (eqAV a.2.1 b.2.1) (Nat.beq a.2.2 b.2.2))) (eqEs l m)
  | _, _ => false
noncomputable def newOk (h : Heap) (q : Nat × NB) : Bool :=
  match q.2 with
  | .cells cs el ext => (match h.get q.1 with
    | some (.cells cs' el' own ext') => and own (and (eqAVs cs' cs) (and (Nat.beq el' el) (beqB ext' ext)))
    | _ => false)
  | .map es k => (match h.get q.1 with
    | some (.map es' k') => and (eqEs es' es) (Nat.beq k' k)
    | _ => false)
/-- the blocks that are written, as they are then -/
noncomputable def putsH (g : Nat → Option Nat) : List (Nat × NB) → Heap → Option Heap
  | [], h => some h
  | q :: l, h => (match g q.1 with
    | some b => (match q.2.ren g with
      | some o => putsH g l (h.put b o)
      | none => none)
    | none => none)

noncomputable def memR (c : Nat) : Ren → Bool
  | [] => false
  | p :: l => cond (Nat.beq p.2 c) true (memR c l)
/-- no two names for one block -/
noncomputable def injR : Ren → Bool
  | [] => true
  | p :: l => cond (and (Nat.ble 1000 p.2) (Bool.not (memR p.2 l))) (injR l) false
noncomputable def someInj (l : List (Nat × NB)) (r : Ren) : Bool :=
  match l with
  | [] => true
  | _ => injR r

/-- the blocks of the view rise, and those that may be written are those that are told -/
noncomputable def viewUp : Nat → List (Nat × VO) → Bool
  | _, [] => true
  | n, g :: l => cond (Nat.ble n g.1) (viewUp (Nat.succ g.1) l) false
noncomputable def outsOk (n : Nat) : List (Nat × VO) → List (Nat × NB) → Bool
  | [], [] => true
  | [], _ :: _ => false
  | g :: l, m => (match g.2 with
    | .cells _ => outsOk n l m
    | .map _ _ => outsOk n l m
    | .own _ _ _ => (match m with
      | q :: m => cond (and (Nat.beq g.1 q.1) (and (Nat.ble 1000 q.1) (Nat.ble (Nat.succ q.1) n))) (outsOk n l m) false
      | [] => false)
    | .ownMap _ _ => (match m with
      | q :: m => cond (and (Nat.beq g.1 q.1) (and (Nat.ble 1000 q.1) (Nat.ble (Nat.succ q.1) n))) (outsOk n l m) false
      | [] => false))

/-- does a call meet the entry? what it leads to -/
noncomputable def Ent.meet (e : Ent) (args : List AV) (h : Heap) : Option (T (AV × Heap)) :=
  match mtL e.n e.args args [] with
  | some r0 => (match mtView e.n h e.view r0 with
    | some r => cond (someInj e.outs r) (match rnV (blR e.n r (newsR e.news h.next)) e.res with
      | some v => (match newsH (blR e.n r (newsR e.news h.next)) e.news h with
        | some h1 => (match putsH (blR e.n r (newsR e.news h.next)) e.outs h1 with
          | some h2 => some (.ret (v, h2))
          | none => none)
        | none => none)
      | none => none) none
    | none => none)
  | none => none

/-- a number of what a call is called with, by which its entries are found -/
noncomputable def keyI (e : IE) (k : Nat) : Nat :=
  match e with
  | .lit n => (match n with
    | .ofNat m => Nat.add (Nat.mul (Nat.mod k 1000003) 31) (Nat.succ m)
    | .negSucc m => Nat.add (Nat.mul (Nat.mod k 1000003) 37) (Nat.succ m))
  | _ => k
mutual
noncomputable def keyV : AV → Nat → Nat
  | .int _ e, k => keyI e k
  | .agg l, k => keyL l k
  | .tup l, k => keyL l k
  | .func _ a c, k => keyL c (keyL a k)
  | .slice _ o n _, k => Nat.add (Nat.mul (Nat.mod k 1000003) 41) (Nat.add o n)
  | .sliceX _ _ _ n, k => Nat.add (Nat.mul (Nat.mod k 1000003) 41) n
  | _, k => k
noncomputable def keyL : List AV → Nat → Nat
  | [], k => k
  | a :: l, k => keyL l (keyV a k)
end

/-- entries, as an oracle -/
noncomputable def entOrc (f : FuncId) (args : List AV) (h : Heap) (l : List Ent) : Option (T (AV × Heap)) :=
  @List.rec Ent (fun _ => Option (T (AV × Heap))) none (fun e _ ih => cond (Nat.beq f e.f) (match e.meet args h with
    | some t => some t
    | none => ih) ih) l


noncomputable def entPT (m : Nat) (pt : PT (List Ent)) (f : FuncId) (args : List AV) (h : Heap) : Option (T (AV × Heap)) :=
  match pt.get (Nat.mod (keyL args f) m) with
  | some l => entOrc f args h l
  | none => none

end Go.Sx
