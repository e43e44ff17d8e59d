/- THE EVALUATOR's HEAP AGAINST THE MODEL's. -/
import Derived.Test.YtaapomafjjikhaaGreatDoorSxBase
import Derived.Test.YtaapomafjjikhaaGreatDoorSxComp
/-! THE EVALUATOR's HEAP AGAINST THE MODEL's. -/
namespace Go.Sx
open Go.RowKit

/-- but for what is not kept, the world is as it was -/
structure Kept (S : Nat → Prop) (w w' : World) : Prop where
  os : w'.os = w.os
  tape : w'.tape = w.tape
  output : w'.output = w.output
  size : w.heap.size ≤ w'.heap.size
  block : ∀ k, S k → w'.heap[k]? = w.heap[k]?
theorem Kept.refl (S : Nat → Prop) (w : World) : Kept S w w := ⟨rfl, rfl, rfl, Nat.le_refl _, fun _ _ => rfl⟩
theorem Kept.trans {S : Nat → Prop} {a b c : World} (h : Kept S a b) (k : Kept S b c) : Kept S a c :=
  ⟨k.os.trans h.os, k.tape.trans h.tape, k.output.trans h.output, Nat.le_trans h.size k.size, fun i hi => (k.block i hi).trans (h.block i hi)⟩
theorem Kept.of_below {S : Nat → Prop} {n : Nat} {w w' : World} (h : Below n w w') (hS : ∀ c, S c → c < n) : Kept S w w' :=
  ⟨h.os, h.tape, h.output, h.size, fun k hk => h.block k (hS k hk)⟩
theorem Kept.alloc {S : Nat → Prop} {a w : World} (h : Kept S a w) (hS : ∀ c, S c → c < w.heap.size) (o : Obj) : Kept S a (w.alloc o) :=
  h.trans ⟨rfl, rfl, rfl, by simp, fun k hk => Below.heap_alloc _ _ _ (hS k hk)⟩

/-- where a run began, and which blocks it keeps -/
structure Base where
  w : World
  S : Nat → Prop
  lt : ∀ c, S c → c < w.heap.size
/-- what is kept -/
def Base.has (b : Base) (c : Nat) (o : Obj) : Prop := b.S c ∧ b.w.heap[c]? = some o
/-- all that lay there is kept -/
def Base.of (w : World) : Base := ⟨w, fun c => c < w.heap.size, fun _ h => h⟩
abbrev Base.Keeps (b : Base) (w : World) : Prop := Kept b.S b.w w
theorem Base.Keeps.lt {b : Base} {w : World} (h : b.Keeps w) {c : Nat} (hc : b.S c) : c < w.heap.size := Nat.lt_of_lt_of_le (b.lt c hc) h.size
theorem Base.Keeps.fresh {b : Base} {w : World} (h : b.Keeps w) : ¬ b.S w.heap.size := fun hc => Nat.lt_irrefl _ (h.lt hc)
theorem Base.keeps_below {w w' : World} (h : (Base.of w).Keeps w') : Below w.heap.size w w' := ⟨h.os, h.tape, h.output, h.size, fun k hk => h.block k hk⟩

structure Par where
  P : Program
  RC : Nat → Nat → List Nat → Code → Code → Prop
  ok : Rho → (Nat → Obj → Prop) → Prop

/-- what is said of the numbers, and of blocks that are kept -/
def Par.okB (p : Par) (ρ : Rho) (b : Base) : Prop := ∃ m : Nat → Obj → Prop, p.ok ρ m ∧ ∀ c o, m c o → b.has c o
theorem Par.okB_all {p : Par} (h : ∀ ρ m, p.ok ρ m) (ρ : Rho) (b : Base) : p.okB ρ b := ⟨fun _ _ => False, h _ _, fun _ _ h => h.elim⟩
theorem Par.okB.mono {p : Par} {ρ : Rho} {b b' : Base} (h : p.okB ρ b) (hb : ∀ c o, b.has c o → b'.has c o) : p.okB ρ b' :=
  let ⟨m, h1, h2⟩ := h; ⟨m, h1, fun c o e => hb c o (h2 c o e)⟩
/-- what was kept is kept on -/
theorem Base.Keeps.has {b : Base} {w : World} (h : b.Keeps w) {c : Nat} {o : Obj} (e : b.has c o) : w.heap[c]? = some o := (h.block c e.1).trans e.2
theorem Par.okB.of {p : Par} {ρ : Rho} {b : Base} {w : World} (h : p.okB ρ b) (hk : b.Keeps w) : p.okB ρ (Base.of w) :=
  h.mono fun _ _ e => ⟨hk.lt e.1, hk.has e⟩

def good (E : Env) (arr : Array Value) (i : Nat) (a : AV) : Prop := ∃ v, conc E a = some v ∧ arr[i]? = some v
theorem good.mono {E E' : Env} {arr : Array Value} {i : Nat} {a : AV} (h : good E arr i a) (l : E.le0 E') : good E' arr i a :=
  let ⟨v, h1, h2⟩ := h; ⟨v, conc_mono l _ _ h1, h2⟩

structure TreeOk (keep : List Nat) (E : Env) (t : PT AV) (arr : Array Value) : Prop where
  at_ : ∀ i a, t.get i = some a → memN keep (some i) = true ∧ good E arr i a

structure TmOk (n : Nat) (keep : List Nat) (E : Env) (tm : Tm) (arr : Array Value) : Prop where
  size : n ≤ arr.size
  loc : ∀ i a, lFind tm.loc i = some a → good E arr i a
  tree : TreeOk keep E tm.tree arr

theorem TreeOk.mono {keep : List Nat} {E E' : Env} {t : PT AV} {arr : Array Value} (h : TreeOk keep E t arr) (l : E.le0 E') : TreeOk keep E' t arr :=
  ⟨fun i a e => ⟨(h.at_ i a e).1, (h.at_ i a e).2.mono l⟩⟩
theorem TmOk.mono {n : Nat} {keep : List Nat} {E E' : Env} {tm : Tm} {arr : Array Value} (h : TmOk n keep E tm arr) (l : E.le0 E') : TmOk n keep E' tm arr :=
  ⟨h.size, fun i a e => (h.loc i a e).mono l, h.tree.mono l⟩

theorem TmOk.look {n : Nat} {keep : List Nat} {E : Env} {tm : Tm} {arr : Array Value} (h : TmOk n keep E tm arr) {i : Nat} {a : AV} (e : tm.look i = some a) : good E arr i a := by
  unfold Tm.look at e
  cases hl : lFind tm.loc i with
  | some v => rw [hl] at e; cases e; exact h.loc i _ hl
  | none => rw [hl] at e; exact (h.tree.at_ i a e).2

theorem TmOk.shut {n : Nat} {keep : List Nat} {E : Env} {tm : Tm} {arr : Array Value} (h : TmOk n keep E tm arr) : TmOk n keep E tm.shut arr :=
  ⟨h.size, fun i a e => (by cases e), h.tree⟩

theorem TmOk.put {n : Nat} {keep : List Nat} {E : Env} {tm : Tm} {arr : Array Value} (h : TmOk n keep E tm arr) {d : Nat} {a : AV} {v : Value} (hd : d < n) (hv : conc E a = some v) :
    TmOk n keep E (tm.put d (memN keep (some d)) a) (arr.setIfInBounds d v) := by
  have hs := h.size
  have hnew : (arr.setIfInBounds d v)[d]? = some v := by simp [Array.getElem?_setIfInBounds]; omega
  have hold : ∀ i, i ≠ d → (arr.setIfInBounds d v)[i]? = arr[i]? := fun i e => by rw [Array.getElem?_setIfInBounds_ne (by omega)]
  refine ⟨by simpa using hs, fun i b e => ?_, ⟨fun i b e => ?_⟩⟩
  · simp only [Tm.put, lFind_cons] at e
    by_cases c : d = i
    · subst c; rw [beq_t.2 rfl] at e; cases e; exact ⟨v, hv, hnew⟩
    · rw [beq_f.2 c] at e
      obtain ⟨u, h1, h2⟩ := h.loc i b e
      exact ⟨u, h1, by rw [hold i (Ne.symm c)]; exact h2⟩
  · simp only [Tm.put] at e
    cases hk : memN keep (some d) with
    | true =>
      rw [hk, cond_true, PT.get_set] at e
      by_cases c : i = d
      · subst c; rw [if_pos rfl] at e; cases e; exact ⟨hk, v, hv, hnew⟩
      · rw [if_neg c] at e
        obtain ⟨h0, u, h1, h2⟩ := h.tree.at_ i b e
        exact ⟨h0, u, h1, by rw [hold i c]; exact h2⟩
    | false =>
      rw [hk, cond_false] at e
      obtain ⟨h0, u, h1, h2⟩ := h.tree.at_ i b e
      have c : i ≠ d := by rintro rfl; rw [hk] at h0; cases h0
      exact ⟨h0, u, h1, by rw [hold i c]; exact h2⟩

/-! ## Objects -/
def concE (E : Env) : List (AV × AV × Nat) → List MapEntry → Prop
  | [], [] => True
  | e :: es, m :: ms => conc E e.1 = some m.key ∧ conc E e.2.1 = some m.val ∧ m.born = e.2.2 ∧ concE E es ms
  | _, _ => False

theorem concE_mono {E E' : Env} (l : E.le0 E') : ∀ (es : List (AV × AV × Nat)) (ms : List MapEntry), concE E es ms → concE E' es ms
  | [], [], _ => trivial
  | _ :: es, _ :: ms, ⟨h1, h2, h3, h4⟩ => ⟨conc_mono l _ _ h1, conc_mono l _ _ h2, h3, concE_mono l es ms h4⟩

def jumpOf (x : Ex) : Option Code :=
  match x with
  | .norm => none
  | .exit id => some (.exit id)
  | .ret => some .ret

def ownO (o : AObj) : Bool :=
  match o with
  | .cells _ _ own _ => own
  | .dead => false
  | .rmap _ _ => false
  | .ucells _ _ => false
  | _ => true

/-- what is only read -/
def roO (o : AObj) : Bool :=
  match o with
  | .cells _ _ own _ => !own
  | .rmap _ _ => true
  | .ucells _ _ => true
  | _ => false

noncomputable def psOk (n : Nat) (keep ps : List Nat) : Bool := ps.all fun q => and (memN keep (some q)) (okDst n (some q))

/-- what lies in a list that is not known -/
def cellOf (ρ : Rho) (i : Nat) (n : Int) (off : Nat) (k : Bool) : Value := if k then .bool (ρ.fb (1000 + i) n off 0) else .int .i64 (ρ.fi (1000 + i) n off 0)
def objOk (p : Par) (E : Env) (b : Nat) (o : AObj) (heap : Array Obj) : Prop :=
  match o with
  | .cells cs elem own ext => ∃ c base vs cells el fz, E.σ b = some (c, base) ∧ concL E cs = some vs ∧ heap[c]? = some (.cells cells el fz) ∧
      (∀ i, i < vs.length → cells[base + i]? = vs[i]?) ∧
      (own = true → base = 0 ∧ fz = (0, 0) ∧ (ext = false → cells.size = vs.length) ∧
        (ext = true → ∃ i, p.P.info? elem = some i ∧ cells.size = E.κ b * i.size))
  | .map es clock => ∃ c ms, E.σ b = some (c, 0) ∧ concE E es ms ∧ heap[c]? = some (.map ms.toArray clock)
  | .rmap es clock => ∃ c ms, E.σ b = some (c, 0) ∧ concE E es ms ∧ heap[c]? = some (.map ms.toArray clock)
  | .ucells i ks => ∃ c base cells el fz, E.σ b = some (c, base) ∧ heap[c]? = some (.cells cells el fz) ∧
      ∀ (n off : Nat) (k : Bool), (n : Int) < E.ρ.iv i → ks[off]? = some k → cells[base + n * ks.length + off]? = some (cellOf E.ρ i n off k)
  | .loop st pend _ tm ps code d => ∃ c d' n keep r, E.σ b = some (c, 0) ∧ E.σ d = some (d', 0) ∧ heap[c]? = some (.loop r) ∧ r.state = st ∧ r.pending = jumpOf pend ∧
      n ≤ r.tmps.size ∧ TreeOk keep E tm r.tmps ∧ r.params.toList = ps ∧ (p.RC code n keep r.assign r.body ∧ psOk n keep ps = true) ∧ r.defers = d'
  | .defd there => ∃ c, E.σ b = some (c, 0) ∧ heap[c]? = some (.deferred (if there then some [] else none))
  | .resv => E.σ b = none ∨ ∃ c el, E.σ b = some (c, 0) ∧ heap[c]? = some (.cells (E.rc b) el (0, 0))
  | .dead => True

/-- an object's block, and what lies there, are all that is asked of the heap -/
theorem objOk.mono {p : Par} {E E' : Env} {b : Nat} {o : AObj} {heap heap' : Array Obj} (h : objOk p E b o heap) (l : E.le0 E') (hb : E.σ b = none → E'.σ b = none)
    (hh : ∀ c x, E.σ b = some (c, x) → ownO o = true ∨ roO o = true → heap'[c]? = heap[c]?) : objOk p E' b o heap' := by
  cases o with
  | cells cs elem own ext =>
    obtain ⟨c, base, vs, cells, el, fz, h1, h2, h3, h4, h5⟩ := h
    refine ⟨c, base, vs, cells, el, fz, l.σ _ _ h1, concL_mono l _ _ h2, ?_, h4, ?_⟩
    · rw [hh c base h1 (by cases own; exact .inr rfl; exact .inl rfl)]; exact h3
    · rw [l.κ _ _ h1]; exact h5
  | map es clock =>
    obtain ⟨c, ms, h1, h2, h3⟩ := h
    exact ⟨c, ms, l.σ _ _ h1, concE_mono l _ _ h2, by rw [hh c 0 h1 (.inl rfl)]; exact h3⟩
  | rmap es clock =>
    obtain ⟨c, ms, h1, h2, h3⟩ := h
    exact ⟨c, ms, l.σ _ _ h1, concE_mono l _ _ h2, by rw [hh c 0 h1 (.inr rfl)]; exact h3⟩
  | ucells i ks =>
    obtain ⟨c, base, cells, el, fz, h1, h3, h4⟩ := h
    exact ⟨c, base, cells, el, fz, l.σ _ _ h1, by rw [hh c base h1 (.inr rfl)]; exact h3, by rw [l.ρ]; exact h4⟩
  | loop st pend fn tm ps code d =>
    obtain ⟨c, d', n, keep, r, h1, h2, h3, h4, h5, hn, h6, h7, h8, h9⟩ := h
    exact ⟨c, d', n, keep, r, l.σ _ _ h1, l.σ _ _ h2, by rw [hh c 0 h1 (.inl rfl)]; exact h3, h4, h5, hn, h6.mono l, h7, h8, h9⟩
  | defd there =>
    obtain ⟨c, h1, h2⟩ := h
    exact ⟨c, l.σ _ _ h1, by rw [hh c 0 h1 (.inl rfl)]; exact h2⟩
  | resv =>
    rcases h with h | ⟨c, el, h1, h2⟩
    · exact .inl (hb h)
    · exact .inr ⟨c, el, l.σ _ _ h1, by rw [hh c 0 h1 (.inl rfl), l.rc _ _ h1]; exact h2⟩
  | dead => trivial

structure HeapOk (p : Par) (E : Env) (h : Heap) (w0 : Base) (w : World) : Prop where
  obj : ∀ b o, h.get b = some o → objOk p E b o w.heap
  inj : ∀ b b' o o' c x y, h.get b = some o → h.get b' = some o' → ownO o = true → ownO o' = true → E.σ b = some (c, x) → E.σ b' = some (c, y) → b = b'
  base : ∀ b o c x, h.get b = some o → ownO o = true → E.σ b = some (c, x) → ¬ w0.S c
  ro : ∀ b o c y, h.get b = some o → roO o = true → E.σ b = some (c, y) → w0.S c
  fresh : ∀ b, h.next ≤ b → E.σ b = none
  lt : ∀ b o c x, h.get b = some o → E.σ b = some (c, x) → c < w.heap.size
  glob : ∀ b, b < 1000 → E.σ b = some (b, 0)
  below : w0.Keeps w
  nx : E.n ≤ h.next
  ok : p.okB E.ρ w0

/-- the same heap, and what is kept below: all that is asked of a world -/
theorem HeapOk.world {p : Par} {E : Env} {h : Heap} {w0 : Base} {w w' : World} (k : HeapOk p E h w0 w) (hw : Below w.heap.size w w') : HeapOk p E h w0 w' := by
  have hs : ∀ b o c x, h.get b = some o → E.σ b = some (c, x) → w'.heap[c]? = w.heap[c]? := fun b o c x g e => hw.block c (k.lt b o c x g e)
  refine ⟨fun b o e => (k.obj b o e).mono (Env.le.refl E) (fun h => h) (fun c x hc _ => hs b o c x e hc), k.inj, k.base, k.ro, k.fresh, fun b o c x g e => ?_, k.glob, ?_, k.nx, k.ok⟩
  · exact Nat.lt_of_lt_of_le (k.lt b o c x g e) hw.size
  · exact k.below.trans (Kept.of_below hw fun c hc => k.below.lt hc)

theorem Heap.get_put (h : Heap) (b j : Nat) (o : AObj) : (h.put b o).get j = if j = b then some o else h.get j := PT.get_set _ _ _ _
theorem Heap.get_new (h : Heap) (j : Nat) (o : AObj) : (h.new o).get j = if j = h.next then some o else h.get j := PT.get_set _ _ _ _
theorem Heap.next_put (h : Heap) (b : Nat) (o : AObj) : (h.put b o).next = h.next := rfl
theorem Heap.next_new (h : Heap) (o : AObj) : (h.new o).next = h.next + 1 := rfl

/-- one number more -/
def Env.with (E : Env) (b : Nat) (q : Nat × Nat) (k : Nat) : Env := ⟨E.ρ, fun i => if i = b then some q else E.σ i, fun i => if i = b then k else E.κ i, b + 1, E.rc⟩
theorem Env.with_le {E : Env} {b : Nat} (h : E.σ b = none) (hn : E.n ≤ b) (q : Nat × Nat) (k : Nat) : E.le (E.with b q k) := by
  refine ⟨⟨rfl, fun i p e => ?_, fun i p e => ?_, fun _ _ _ => rfl⟩, Nat.le_succ_of_le hn, fun i hi e => by simp only [Env.with, if_neg (show i ≠ b by omega)]; exact e⟩ <;> have hne : i ≠ b := by (rintro rfl; rw [h] at e; cases e)
  · simp only [Env.with, if_neg hne]; exact e
  · simp only [Env.with, if_neg hne]
theorem Env.with_at (E : Env) (b : Nat) (q : Nat × Nat) (k : Nat) : (E.with b q k).σ b = some q := by simp [Env.with]
theorem Env.with_κ (E : Env) (b : Nat) (q : Nat × Nat) (k : Nat) : (E.with b q k).κ b = k := by simp [Env.with]
theorem Env.with_ne (E : Env) {b i : Nat} (q : Nat × Nat) (k : Nat) (h : i ≠ b) : (E.with b q k).σ i = E.σ i := by simp [Env.with, h]

theorem roO_own {o : AObj} (h : ownO o = true) : roO o = false := by
  cases o with
  | cells cs e own x => cases own; cases h; rfl
  | rmap es c => cases h
  | ucells i ks => cases h
  | _ => rfl

/-- A NEW BLOCK. -/
theorem HeapOk.alloc {p : Par} {E : Env} {h : Heap} {w0 : Base} {w : World} (k : HeapOk p E h w0 w) {o : AObj} {O : Obj} {κ : Nat} (hown : ownO o = true)
    (ho : objOk p (E.with h.next (w.heap.size, 0) κ) h.next o (w.heap.push O)) :
    HeapOk p (E.with h.next (w.heap.size, 0) κ) (h.new o) w0 (w.alloc O) := by
  have hf : E.σ h.next = none := k.fresh _ (Nat.le_refl _)
  have hle := Env.with_le hf k.nx (w.heap.size, 0) κ
  have hsz : (w.alloc O).heap = w.heap.push O := rfl
  have hold : ∀ c, c < w.heap.size → (w.heap.push O)[c]? = w.heap[c]? := fun c hc => by rw [Array.getElem?_push, if_neg (by omega)]
  have hσ : ∀ i q, i ≠ h.next → (E.with h.next (w.heap.size, 0) κ).σ i = some q → E.σ i = some q := fun i q hi e => by rw [Env.with_ne _ _ _ hi] at e; exact e
  refine ⟨fun b o' e => ?_, fun b b' o1 o2 c x y h1 h2 w1 w2 e1 e2 => ?_, fun b o' c x e ow s => ?_, fun b o' c y hg hr s => ?_, fun b hb => ?_, fun b o' c x g e => ?_, fun b hb => ?_, ?_, Nat.le_refl _, k.ok⟩
  · rw [Heap.get_new] at e
    by_cases hb : b = h.next
    · rw [if_pos hb] at e; cases e; subst hb; exact ho
    · rw [if_neg hb] at e
      refine (k.obj b o' e).mono hle (fun hn => by rw [Env.with_ne _ _ _ hb]; exact hn) (fun c x hc _ => hold c (k.lt b o' c x e hc))
  · rw [Heap.get_new] at h1 h2
    by_cases hb : b = h.next
    · by_cases hb' : b' = h.next
      · rw [hb, hb']
      · rw [hb, Env.with_at] at e1; cases e1
        rw [if_neg hb'] at h2
        exact absurd (k.lt b' _ _ _ h2 (hσ b' _ hb' e2)) (Nat.lt_irrefl _)
    · by_cases hb' : b' = h.next
      · rw [hb', Env.with_at] at e2; cases e2
        rw [if_neg hb] at h1
        exact absurd (k.lt b _ _ _ h1 (hσ b _ hb e1)) (Nat.lt_irrefl _)
      · rw [if_neg hb] at h1; rw [if_neg hb'] at h2
        exact k.inj b b' o1 o2 c x y h1 h2 w1 w2 (hσ b _ hb e1) (hσ b' _ hb' e2)
  · rw [Heap.get_new] at e
    by_cases hb : b = h.next
    · rw [hb, Env.with_at] at s; cases s; exact k.below.fresh
    · rw [if_neg hb] at e; exact k.base b o' c x e ow (hσ b _ hb s)
  · rw [Heap.get_new] at hg
    by_cases hb : b = h.next
    · rw [if_pos hb] at hg; cases hg; exact absurd hr (by rw [roO_own hown]; exact Bool.false_ne_true)
    · rw [if_neg hb] at hg; exact k.ro b o' c y hg hr (hσ b _ hb s)
  · rw [Heap.next_new] at hb
    rw [Env.with_ne _ _ _ (by omega)]; exact k.fresh b (by omega)
  · rw [hsz, Array.size_push]
    rw [Heap.get_new] at g
    by_cases hb : b = h.next
    · rw [hb, Env.with_at] at e; cases e; omega
    · rw [if_neg hb] at g; have := k.lt b o' c x g (hσ b _ hb e); omega
  · refine hle.σ _ _ (k.glob b hb)
  · exact k.below.alloc (fun c hc => k.below.lt hc) O

/-- AN OBJECT OF ONE's OWN TURNED. -/
theorem HeapOk.turn {p : Par} {E : Env} {h : Heap} {w0 : Base} {w w' : World} (k : HeapOk p E h w0 w) {b c : Nat} {o o' : AObj} (hg : h.get b = some o) (hown : ownO o = true) (hc : E.σ b = some (c, 0))
    (hown' : ownO o' = true) (ho : objOk p E b o' w'.heap) (hh : ∀ i, i ≠ c → w'.heap[i]? = w.heap[i]?) (hos : w'.os = w.os) (ht : w'.tape = w.tape) (hout : w'.output = w.output)
    (hsz : w.heap.size ≤ w'.heap.size) : HeapOk p E (h.put b o') w0 w' := by
  have hcb := k.base b o c 0 hg hown hc
  refine ⟨fun j x e => ?_, fun j j' o1 o2 d x y h1 h2 w1 w2 e1 e2 => ?_, fun j x d y e ow s => ?_, fun j x d y hj hr s => ?_, k.fresh, fun j x d y e s => ?_, k.glob, ?_, k.nx, k.ok⟩
  · rw [Heap.get_put] at e
    by_cases hj : j = b
    · rw [if_pos hj] at e; cases e; subst hj; exact ho
    · rw [if_neg hj] at e
      refine (k.obj j x e).mono (Env.le.refl E) (fun hn => hn) (fun d y hd hx => hh d ?_)
      rintro rfl
      rcases hx with hx | hx
      · exact hj (k.inj j b x o d y 0 e hg hx hown hd hc)
      · exact absurd (k.ro j x d y e hx hd) hcb
  · rw [Heap.get_put] at h1 h2
    have f : ∀ i z, (if i = b then some o' else h.get i) = some z → ownO z = true → ∃ z', h.get i = some z' ∧ ownO z' = true := fun i z e wz => by
      by_cases hi : i = b
      · subst hi; exact ⟨o, hg, hown⟩
      · rw [if_neg hi] at e; exact ⟨z, e, wz⟩
    obtain ⟨z1, g1, v1⟩ := f j o1 h1 w1
    obtain ⟨z2, g2, v2⟩ := f j' o2 h2 w2
    exact k.inj j j' z1 z2 d x y g1 g2 v1 v2 e1 e2
  · rw [Heap.get_put] at e
    by_cases hj : j = b
    · subst hj; exact k.base j o d y hg hown s
    · rw [if_neg hj] at e; exact k.base j x d y e ow s
  · rw [Heap.get_put] at hj
    by_cases hjb : j = b
    · rw [if_pos hjb] at hj; cases hj; exact absurd hr (by rw [roO_own hown']; exact Bool.false_ne_true)
    · rw [if_neg hjb] at hj; exact k.ro j x d y hj hr s
  · rw [Heap.get_put] at e
    by_cases hj : j = b
    · subst hj; exact Nat.lt_of_lt_of_le (k.lt j o d y hg s) hsz
    · rw [if_neg hj] at e; exact Nat.lt_of_lt_of_le (k.lt j x d y e s) hsz
  · refine k.below.trans ⟨hos, ht, hout, hsz, fun i hi => hh i (by rintro rfl; exact hcb hi)⟩

/-- a block let go -/
theorem HeapOk.kill {p : Par} {E : Env} {h : Heap} {w0 : Base} {w : World} (k : HeapOk p E h w0 w) {b : Nat} {o : AObj} (hg : h.get b = some o) : HeapOk p E (h.put b .dead) w0 w := by
  have f : ∀ i z, (h.put b .dead).get i = some z → (i = b ∧ z = .dead) ∨ (i ≠ b ∧ h.get i = some z) := fun i z e => by
    rw [Heap.get_put] at e
    by_cases hi : i = b
    · rw [if_pos hi] at e; cases e; exact .inl ⟨hi, rfl⟩
    · rw [if_neg hi] at e; exact .inr ⟨hi, e⟩
  refine ⟨fun j x e => ?_, fun j j' o1 o2 d x y h1 h2 w1 w2 e1 e2 => ?_, fun j x d y e ow s => ?_, fun j x d y hj hr s => ?_, k.fresh, fun j x d y e s => ?_, k.glob, k.below, k.nx, k.ok⟩
  · rcases f j x e with ⟨_, rfl⟩ | ⟨_, e⟩
    · trivial
    · exact k.obj j x e
  · rcases f j o1 h1 with ⟨_, rfl⟩ | ⟨_, g1⟩
    · cases w1
    · rcases f j' o2 h2 with ⟨_, rfl⟩ | ⟨_, g2⟩
      · cases w2
      · exact k.inj j j' o1 o2 d x y g1 g2 w1 w2 e1 e2
  · rcases f j x e with ⟨_, rfl⟩ | ⟨_, e⟩
    · cases ow
    · exact k.base j x d y e ow s
  · rcases f j _ hj with ⟨_, rfl⟩ | ⟨_, g⟩
    · cases hr
    · exact k.ro j x d y g hr s
  · rcases f j x e with ⟨rfl, _⟩ | ⟨_, e⟩
    · exact k.lt j o d y hg s
    · exact k.lt j x d y e s

end Go.Sx
