/- THE OPERATIONS, ON: structs and slices that are built; equality; maps. -/
import Derived.Test.YtegeacnehkpinaaDoorSxOps5
import Derived.Laws.Tables
import Derived.Laws.StructEq
/-! THE OPERATIONS, ON: structs and slices that are built; equality; maps. -/
namespace Go.Sx
open Go.RowKit

theorem rBuild_holds {ρ : Rho} {h : Heap} {z : List AV} {ps : List (Nat × Nat × AV)} {Q : AV × Heap → Prop} (k : (rBuild h z ps).Holds ρ Q) : ∃ cs, fillA ps z = some cs ∧ Q (.agg cs, h) := by
  unfold rBuild at k
  cases hf : fillA ps z with
  | none => rw [hf] at k; exact k.elim
  | some cs => rw [hf] at k; exact ⟨cs, rfl, k⟩

theorem build_ok {p : Par} {ty : Nat → Option TI} (T : TyOk p.P ty) {t : Nat} {i : TI} (ht : ty t = some i) {z : List AV} (hz : zeroOf i = some z) {parts : Array (Nat × Operand)} {place : Nat → Option (Nat × Nat)} {ps : List (Nat × Nat × Opd)}
    (hp : cParts place parts.toList = some ps) (hbuilt : ∀ (v : Value) (l : List (Nat × Value)) (cs : Array Value), (∃ j, p.P.info? t = some j ∧ j.zero = some v) → Instr.fill place v.cells l = some cs → p.P.built t l = some cs)
    {o : Oper} (ho : o.op = .build t parts) : InsOk p (iBuild z ps) o := by
  intro cx n keep E w0 tm h a w Q K _ HT HH k P
  obtain ⟨cs, hf, q⟩ := rBuild_holds k
  have hex : execOp a.eval o = (do let x ← Instr.build t (parts.map fun (i, x) => (i, a.eval x)); pure (Next.value x)) := by unfold execOp; rw [ho]
  rw [hex]
  obtain ⟨j, hj1, _, _, hj4⟩ := T.info t i ht
  obtain ⟨v, hv0, rfl, hok, _⟩ := zeroOf_some hz
  obtain ⟨u, hu1, hu2⟩ := hj4 v hv0
  have hcs := conc_cells (conc_ofV E u v hu2) hok
  obtain ⟨cl, hcl, hfill⟩ := fill_ok HT HH.glob place hp hf hcs
  have hl : (parts.map fun (i, x) => (i, a.eval x)).toList = parts.toList.map fun q => (q.1, a.eval q.2) := by simp
  rw [show (u.cells.toList).toArray = u.cells from by simp] at hfill
  have hb := hbuilt u _ _ ⟨j, hj1, hu1⟩ hfill
  rw [← hl] at hb
  exact does_value (run_build w t _ _ hb) (P.same HH q (by simp [conc, hcl]))

theorem rBslice_holds {ρ : Rho} {h : Heap} {e len : Nat} {cs : List AV} {ps : List (Nat × Nat × AV)} {Q : AV × Heap → Prop} (k : (rBslice h e cs len ps).Holds ρ Q) :
    ∃ cs', fillA ps cs = some cs' ∧ Q (.slice h.next 0 len len, h.new (.cells cs' e true false)) := by
  unfold rBslice at k
  cases hf : fillA ps cs with
  | none => rw [hf] at k; exact k.elim
  | some cs => rw [hf] at k; exact ⟨cs, rfl, k⟩

theorem bslice_ok {p : Par} {ty : Nat → Option TI} (T : TyOk p.P ty) {t e len : Nat} {i j : TI} (ht : ty t = some i) (hd : i.desc = .slice e) (he : ty e = some j) {z : List AV} (hz : zeroOf j = some z) (hlen : len * j.size ≤ 1000000)
    {parts : Array (Nat × Operand)} {ps : List (Nat × Nat × Opd)} (hp : cParts (fun n => some (n * j.size, j.size)) parts.toList = some ps) {o : Oper} (ho : o.op = .buildSlice t len parts) : InsOk p (iBslice e z len ps) o := by
  intro cx n keep E w0 tm h a w Q K _ HT HH k P
  obtain ⟨cs, hf, q⟩ := rBslice_holds k
  have hex : execOp a.eval o = (do let x ← Instr.buildSlice t len (parts.map fun (i, x) => (i, a.eval x)); pure (Next.value x)) := by unfold execOp; rw [ho]
  rw [hex]
  have hu := T.und t i ht
  rw [hd] at hu
  obtain ⟨zv, hzv, hzrun, hzs⟩ := zero_cells T he hz E w
  have hcells : concL E (rep z len) = some (rep zv.cells.toList len) := concL_rep hzv len
  obtain ⟨cl, hcl, hfill⟩ := fill_ok HT HH.glob _ hp hf hcells
  have hl : (parts.map fun (i, x) => (i, a.eval x)).toList = parts.toList.map fun q => (q.1, a.eval q.2) := by simp
  refine does_value (v := .slice (some ⟨w.heap.size, 0, none⟩) len len) (w' := w.alloc (.cells cl.toArray e)) ?_ ?_
  · unfold Instr.buildSlice
    simp only [Sem.run_bind, run_underlying hu, Result.andThen_ok, run_size T he]
    rw [if_neg (by omega)]
    rw [hl]
    have hz' : ∀ x : Array Value, x = zv.cells ∨ (x = #[] ∧ len * j.size = 0) → ((Array.range (len * j.size)).map fun i => x[i % x.size]!) = (rep zv.cells.toList len).toArray := by
      rintro x (rfl | ⟨rfl, h0⟩)
      · rw [← hzs, zeros_eq]
      · rw [← zeros_eq, hzs, h0]; simp
    by_cases h0 : len * j.size = 0
    · rw [if_pos h0]
      simp only [Sem.run_bind, pure, Sem.run, Result.andThen_ok]
      rw [hz' #[] (.inr ⟨rfl, h0⟩), hfill]
      rfl
    · rw [if_neg h0]
      simp only [Sem.run_bind, pure, Sem.run, Result.andThen_ok, hzrun]
      rw [hz' zv.cells (.inl rfl), hfill]
      rfl
  · have := HH.newCells (p := p) hcl e 0
    exact P _ _ _ _ _ q (Env.with_le (HH.fresh _ (Nat.le_refl _)) HH.nx _ _) this (by simp [conc, Env.with_at])

end Go.Sx
