/- CLOSED CALLS, IN WHATEVER WORLD THE LISTED VARIABLES LIE AS SAID. -/
import Derived.Test.YtegeacnehkpinaaDoorSxTab
/-! CLOSED CALLS, IN WHATEVER WORLD THE LISTED VARIABLES LIE AS SAID. -/
namespace Go.Sx
open Go.RowKit

/-- the start: every block below 1000 is its own name -/
def E0 (ρ : Rho) : Env := ⟨ρ, fun b => if b < 1000 then some (b, 0) else none, fun _ => 0, 1000, fun _ => #[]⟩

/-- package variables: their blocks, and what lies there -/
noncomputable def globHeap : List (Nat × List AV) → Heap
  | [] => ⟨.nil, 1000⟩
  | g :: l => (globHeap l).put g.1 (.cells g.2 0 false false)

theorem globHeap_next : ∀ l, (globHeap l).next = 1000
  | [] => rfl
  | g :: l => by rw [globHeap, Heap.next_put]; exact globHeap_next l

theorem globHeap_get : ∀ (l : List (Nat × List AV)) (b : Nat) (o : AObj), (globHeap l).get b = some o → ∃ g ∈ l, g.1 = b ∧ o = .cells g.2 0 false false
  | [], b, o, h => by
    have : (PT.nil : PT AObj).get b = some o := h
    rw [PT.get_nil] at this; cases this
  | g :: l, b, o, h => by
    rw [globHeap, Heap.get_put] at h
    by_cases c : b = g.1
    · rw [if_pos c] at h; cases h; exact ⟨g, List.mem_cons_self, c.symm, rfl⟩
    · rw [if_neg c] at h
      obtain ⟨g', h1, h2⟩ := globHeap_get l b o h
      exact ⟨g', List.mem_cons_of_mem _ h1, h2⟩

/-- a package variable lies in the world as said -/
def GlobIn (w : World) (ρ : Rho) (g : Nat × List AV) : Prop := g.1 < 1000 ∧ ∃ vs cells el fz, concL (E0 ρ) g.2 = some vs ∧ w.heap[g.1]? = some (.cells cells el fz) ∧ ∀ i, i < vs.length → cells[i]? = vs[i]?

theorem start_ok {p : Par} {ρ : Rho} {w : World} {l : List (Nat × List AV)} (h : ∀ g ∈ l, GlobIn w ρ g) : HeapOk p (E0 ρ) (globHeap l) (Base.of w) w := by
  have own : ∀ b o, (globHeap l).get b = some o → ownO o = false := fun b o e => by
    obtain ⟨g, _, _, rfl⟩ := globHeap_get l b o e; rfl
  refine ⟨fun b o e => ?_, fun b b' o o' c x y h1 h2 w1 => ?_, fun b o c x e ow => ?_, fun b o c y hg _ s => ?_, fun b hb => ?_, fun b o c x e s => ?_, fun b hb => by simp [E0, hb], Kept.refl _ _, by rw [globHeap_next]; exact Nat.le_refl _⟩
  · obtain ⟨g, hg, rfl, rfl⟩ := globHeap_get l b o e
    obtain ⟨hlt, vs, cells, el, fz, h1, h2, h3⟩ := h g hg
    exact ⟨g.1, 0, vs, cells, el, fz, by simp [E0, hlt], h1, h2, fun i hi => by rw [Nat.zero_add]; exact h3 i hi, fun h => by cases h⟩
  · rw [own b o h1] at w1; cases w1
  · rw [own b o e] at ow; cases ow
  · obtain ⟨g, hg', rfl, _⟩ := globHeap_get l b _ hg
    obtain ⟨hlt, vs, cells, el, fz, h1, h2, h3⟩ := h g hg'
    simp only [E0, hlt, if_true, Option.some.injEq, Prod.mk.injEq] at s
    rw [← s.1]
    exact (Array.getElem?_eq_some_iff.1 h2).1
  · rw [globHeap_next] at hb
    simp only [E0]
    rw [if_neg (by omega)]
  · obtain ⟨g, hg', rfl, _⟩ := globHeap_get l b _ e
    obtain ⟨hlt, vs, cells, el, fz, h1, h2, h3⟩ := h g hg'
    simp only [E0, hlt, if_true, Option.some.injEq, Prod.mk.injEq] at s
    rw [← s.1]
    exact (Array.getElem?_eq_some_iff.1 h2).1

/-- A CLOSED CALL. -/
theorem closed_ok {p : Par} {ty : Nat → Option TI} {tb : Tabs} (B : TabOk p ty tb) {d : Nat} {f : FuncId} {args : List AV} {l : List (Nat × List AV)} {v : AV} {h1 : Heap} (hrun : evalN tb d false f args (globHeap l) = .ret (v, h1))
    {ρ : Rho} {w : World} (hg : ∀ g ∈ l, GlobIn w ρ g) {vs : List Value} (ha : concL (E0 ρ) args = some vs) :
    Calls p.P f vs.toArray w fun e w' => ∃ cv E, e = .returned cv ∧ conc E v = some cv ∧ HeapOk p E h1 (Base.of w) w' := by
  have := (eval_ok B d f args (globHeap l) vs (E0 ρ) (Base.of w) w (fun r => r = (v, h1)) (fun cv w' => ∃ E, conc E v = some cv ∧ HeapOk p E h1 (Base.of w) w') (by rw [hrun]; rfl) (start_ok hg) ha ?_).2
  · exact this.mono fun e w' ⟨cv, he, E, h2, h3⟩ => ⟨cv, E, he, h2, h3⟩
  · intro v' h' E' w' cv q hle HH hv
    cases q
    exact ⟨E', hv, HH⟩

/-- A closed call that hands back true, and leaves what lay. -/
theorem closed_true {p : Par} {ty : Nat → Option TI} {tb : Tabs} (B : TabOk p ty tb) {d : Nat} {f : FuncId} {l : List (Nat × List AV)} {h1 : Heap} (hrun : evalN tb d false f [] (globHeap l) = .ret (.bool (.lit true), h1))
    {ρ : Rho} {w : World} (hg : ∀ g ∈ l, GlobIn w ρ g) : Calls p.P f #[] w fun e w' => e = .returned (.bool true) ∧ Below w.heap.size w w' := by
  refine (closed_ok B hrun hg (vs := []) rfl).mono ?_
  rintro e w' ⟨cv, E, rfl, hv, HH⟩
  simp only [conc, BE.den, Option.some.injEq] at hv
  subst hv
  exact ⟨rfl, Base.keeps_below HH.below⟩

/-- has it handed back true? -/
noncomputable def isTrue1 (t : T (AV × Heap)) : Bool :=
  match t with
  | .ret r => (match r.1 with
    | .bool b => (match b with
      | .lit b => b
      | _ => false)
    | _ => false)
  | _ => false

theorem isTrue1_some {t : T (AV × Heap)} (h : isTrue1 t = true) : ∃ h1, t = .ret (.bool (.lit true), h1) := by
  unfold isTrue1 at h
  split at h
  · rename_i r
    split at h
    · rename_i b hb
      split at h
      · rename_i c
        obtain ⟨v, h1⟩ := r
        simp only at hb
        subst hb
        subst h
        exact ⟨h1, rfl⟩
      · cases h
    · cases h
  · cases h

theorem closed_true1 {p : Par} {ty : Nat → Option TI} {tb : Tabs} (B : TabOk p ty tb) {d : Nat} {f : FuncId} {l : List (Nat × List AV)} (hrun : isTrue1 (evalN tb d false f [] (globHeap l)) = true)
    {ρ : Rho} {w : World} (hg : ∀ g ∈ l, GlobIn w ρ g) : Calls p.P f #[] w fun e w' => e = .returned (.bool true) ∧ Below w.heap.size w w' := by
  obtain ⟨h1, hr⟩ := isTrue1_some hrun
  exact closed_true B hr hg

end Go.Sx
