/- THE OPERATIONS, ON: structs and slices that are built; equality; maps. -/
import Derived.Test.YtaapomafjjikhaaGreatDoorSxOps4
import Derived.Laws.Tables
import Derived.Laws.StructEq
/-! THE OPERATIONS, ON: new slices; what is built of parts. -/
namespace Go.Sx
open Go.RowKit

/-! ## Rows of zeros -/
theorem rep_len {α : Type} (l : List α) (n : Nat) : (rep l n).length = n * l.length := by
  induction n with
  | zero => simp [rep]
  | succ n ih => simp [rep, ih, Nat.succ_mul, Nat.add_comm]

theorem rep_get {α : Type} (l : List α) (n i : Nat) (h : i < n * l.length) : (rep l n)[i]? = l[i % l.length]? := by
  induction n generalizing i with
  | zero => omega
  | succ n ih =>
    simp only [rep]
    by_cases hi : i < l.length
    · rw [List.getElem?_append_left hi, Nat.mod_eq_of_lt hi]
    · rw [List.getElem?_append_right (by omega), ih (i - l.length) (by rw [Nat.succ_mul] at h; omega), Nat.mod_eq_sub_mod (a := i) (by omega)]

theorem concL_rep {E : Env} {z : List AV} {vs : List Value} (h : concL E z = some vs) (n : Nat) : concL E (rep z n) = some (rep vs n) := by
  induction n with
  | zero => rfl
  | succ n ih => exact concL_app h ih

theorem zeros_eq (zero : Array Value) (n : Nat) : ((Array.range (n * zero.size)).map (fun i => zero[i % zero.size]!)) = (rep zero.toList n).toArray := by
  apply Array.ext'
  apply List.ext_getElem?
  intro i
  by_cases h : i < n * zero.size
  · have hz : 0 < zero.size := by
      rcases Nat.eq_zero_or_pos zero.size with e | e
      · rw [e] at h; omega
      · exact e
    have hm : i % zero.size < zero.size := Nat.mod_lt _ hz
    rw [rep_get _ _ _ (by simpa using h)]
    simp [h, hm]
  · have : (rep zero.toList n)[i]? = none := by rw [List.getElem?_eq_none]; rw [rep_len]; simpa using Nat.le_of_not_lt h
    rw [this, List.getElem?_eq_none]; simpa using Nat.le_of_not_lt h

theorem run_askRoom (P : Program) (n : Nat) (w : World) : (askRoom n).run P w = .ok () w := by
  unfold askRoom
  split <;> rfl

theorem zero_cells {P : Program} {ty : Nat → Option TI} (T : TyOk P ty) {t : Nat} {i : TI} (ht : ty t = some i) {z : List AV} (hz : zeroOf i = some z) (E : Env) (w : World) :
    ∃ v, concL E z = some v.cells.toList ∧ (zeroValue t).run P w = .ok v w ∧ v.cells.size = i.size := by
  obtain ⟨v, hv0, rfl, hok, hl⟩ := zeroOf_some hz
  obtain ⟨u, hu, hrun⟩ := run_zero T ht hv0 E w
  have hc := conc_cells hu hok
  refine ⟨u, hc, hrun, ?_⟩
  have := concL_len hc
  simp at this
  omega

theorem rMkslice_holds {ρ : Rho} {h : Heap} {e bytes : Nat} {z : List AV} {l c : AV} {Q : AV × Heap → Prop} (k : (rMkslice h e z bytes l c).Holds ρ Q) :
    ∃ l' c', asNat l = some l' ∧ asNat c = some c' ∧ c' ≤ 1000000 ∧ bytes ≤ 1000000 ∧ l' ≤ c' ∧ Q (.slice h.next 0 l' c', h.new (.cells (rep z c') e true false)) := by
  unfold rMkslice at k
  split at k
  · rename_i l' c' e1 e2
    cases hc : and (Nat.ble c' 1000000) (and (Nat.ble bytes 1000000) (Nat.ble l' c')) with
    | false => rw [hc] at k; exact k.elim
    | true =>
      rw [hc] at k
      obtain ⟨c1, c2⟩ := Bool.and_eq_true_iff.1 hc
      obtain ⟨c2, c3⟩ := Bool.and_eq_true_iff.1 c2
      exact ⟨l', c', e1, e2, ble_t.1 c1, ble_t.1 c2, ble_t.1 c3, k⟩
  · exact k.elim

theorem wrap_small {n : Nat} (h : n ≤ 1000000) : IntKind.i64.wrap (Int.ofNat n) = n := by
  rw [IntKind.wrap_i64]; simp only [Int.ofNat_eq_natCast]; omega

theorem mkslice_ok {p : Par} {ty : Nat → Option TI} (T : TyOk p.P ty) {t e : Nat} {i j : TI} (ht : ty t = some i) (hd : i.desc = .slice e) (he : ty e = some j) {z : List AV} (hz : zeroOf j = some z) {x1 x2 : Operand} {y1 y2 : Opd}
    (h1 : cOpd x1 = some y1) (h2 : cOpd x2 = some y2) {o : Oper} (ho : o.op = .makeSlice t x1 x2) : InsOk p (iMkslice e z j.bytes y1 y2) o := by
  intro cx n keep E w0 tm h a w Q K _ HT HH k P
  obtain ⟨l, c, hl, hc, c1, c2, c3, qq⟩ := rMkslice_holds k
  have hex : execOp a.eval o = (do let x ← Instr.makeSlice t (a.eval x1) (a.eval x2); pure (Next.value x)) := by unfold execOp; rw [ho]
  rw [hex]
  obtain ⟨k1, hl'⟩ := asNat_some hl
  obtain ⟨k2, hc'⟩ := asNat_some hc
  have hv1 : a.eval x1 = .int k1 (Int.ofNat l) := opd_ok HT h1 (by rw [hl']; rfl) HH.glob
  have hv2 : a.eval x2 = .int k2 (Int.ofNat c) := opd_ok HT h2 (by rw [hc']; rfl) HH.glob
  have hu := T.und t i ht
  rw [hd] at hu
  obtain ⟨jj, hj1, hj2, hj3, _⟩ := T.info e j he
  obtain ⟨zv, hzv, hzrun, hzs⟩ := zero_cells T he hz E w
  have hcells : concL E (rep z c) = some (rep zv.cells.toList c) := concL_rep hzv c
  refine does_value (v := .slice (some ⟨w.heap.size, 0, none⟩) l c) (w' := w.alloc (.cells (rep zv.cells.toList c).toArray e)) ?_ ?_
  · rw [hv1, hv2]
    unfold Instr.makeSlice asInt asIntOf
    have hw1 := wrap_small (n := l) (by omega)
    have hw2 := wrap_small c1
    have hb : ¬ ((jj.bytes : Int) * (c : Int) > 2 ^ 48) := by
      rw [hj3]
      have h3 : j.bytes * c ≤ 1000000 * 1000000 := Nat.mul_le_mul c2 c1
      have h4 : ((j.bytes * c : Nat) : Int) = (j.bytes : Int) * (c : Int) := Int.natCast_mul _ _
      rw [← h4]
      omega
    have hn : ((decide ((c : Int) < 0) || decide ((jj.bytes : Int) * (c : Int) > 2 ^ 48)) || decide ((l : Int) < 0) || decide ((l : Int) > (c : Int))) = false := by
      simp only [Bool.or_eq_false_iff, decide_eq_false_iff_not]
      refine ⟨⟨⟨by omega, hb⟩, by omega⟩, by omega⟩
    simp only [Sem.run_bind, pure, Sem.run, Result.andThen_ok, run_underlying hu, run_typeInfo w hj1, hw1, hw2]
    rw [if_neg (by rw [hn]; simp)]
    simp only [Sem.run_bind, Result.andThen_ok, run_askRoom, run_size T he, Int.toNat_natCast]
    by_cases h0 : c * j.size = 0
    · rw [if_pos h0]
      simp only [Sem.run_bind, Sem.run, Result.andThen_ok]
      have hm : ∀ f : Nat → Value, (Array.range 0).map f = #[] := fun f => by simp
      have hr : (rep zv.cells.toList c).toArray = #[] := by
        rw [← zeros_eq, hzs, h0, hm]
      rw [hr, h0, hm]
      rfl
    · rw [if_neg h0]
      simp only [Sem.run_bind, Sem.run, Result.andThen_ok, hzrun]
      rw [← zeros_eq, hzs]
      rfl
  · have := HH.newCells (p := p) hcells e 0
    exact P _ _ _ _ _ qq (Env.with_le (HH.fresh _ (Nat.le_refl _)) HH.nx _ _) this (by simp [conc, Env.with_at])

/-! ## What is built of parts -/
theorem foldl_put (off : Nat) : ∀ (vs : List Value) (j : Nat) (cells : Array Value), off + j + vs.length ≤ cells.size →
    ((vs.zipIdx j).foldl (fun cs (q : Value × Nat) => cs.setIfInBounds (off + q.2) q.1) cells).toList = cells.toList.take (off + j) ++ (vs ++ cells.toList.drop (off + j + vs.length))
  | [], j, cells, _ => by simp
  | v :: vs, j, cells, h => by
    simp only [List.length_cons] at h
    rw [List.zipIdx_cons, List.foldl_cons, foldl_put off vs (j + 1) _ (by simp; omega)]
    have e := list_seg_step cells.toList (off + j) v vs (by simp; omega)
    simpa [Array.toList_setIfInBounds, Nat.add_assoc, List.append_assoc] using e

theorem array_foldl_put (off : Nat) (vs : Array Value) (cells : Array Value) (h : off + vs.size ≤ cells.size) :
    (vs.zipIdx.foldl (fun cs (q : Value × Nat) => cs.setIfInBounds (off + q.2) q.1) cells).toList = cells.toList.take off ++ (vs.toList ++ cells.toList.drop (off + vs.size)) := by
  have := foldl_put off vs.toList 0 cells (by simpa using h)
  rw [← Array.foldl_toList, Array.toList_zipIdx]
  simpa using this

theorem fillA_cons (p : Nat × Nat × AV) (ps : List (Nat × Nat × AV)) (cs : List AV) : fillA (p :: ps) cs = cond (and (Nat.beq (lLen p.2.2.cellsOf) p.2.1) (allOk p.2.2.cellsOf))
      (match listPut cs p.1 p.2.2.cellsOf with
      | some cs' => fillA ps cs'
      | none => none) none := rfl

theorem fill_ok {n : Nat} {keep : List Nat} {E : Env} {tm : Tm} {a : Act} (H : TmOk n keep E tm a.tmps) (G : ∀ b, b < 1000 → E.σ b = some (b, 0)) (place : Nat → Option (Nat × Nat)) :
    ∀ {l : List (Nat × Operand)} {ps : List (Nat × Nat × Opd)} {cs cs' : List AV} {cl : List Value}, cParts place l = some ps → fillA (evp tm ps) cs = some cs' → concL E cs = some cl →
      ∃ cl', concL E cs' = some cl' ∧ Instr.fill place cl.toArray (l.map fun q => (q.1, a.eval q.2)) = some cl'.toArray
  | [], ps, cs, cs', cl, h, hf, hc => by
    simp only [cParts, Option.some.injEq] at h
    subst h
    have : cs' = cs := (Option.some.inj hf).symm
    subst this
    exact ⟨cl, hc, rfl⟩
  | q :: l, ps, cs, cs', cl, h, hf, hc => by
    simp only [cParts] at h
    split at h
    · rename_i pl y r hpl hy hr
      cases h
      have he : evp tm ((pl.1, pl.2, y) :: r) = (pl.1, pl.2, ev tm y) :: evp tm r := rfl
      rw [he, fillA_cons] at hf
      cases hb : and (Nat.beq (lLen (ev tm y).cellsOf) pl.2) (allOk (ev tm y).cellsOf) with
      | false => rw [hb] at hf; cases hf
      | true =>
        rw [hb, cond_true] at hf
        obtain ⟨b1, b2⟩ := Bool.and_eq_true_iff.1 hb
        rw [lLen_eq] at b1
        have b1 := beq_t.1 b1
        simp only at hf
        cases hp : listPut cs pl.1 (ev tm y).cellsOf with
        | none => rw [hp] at hf; cases hf
        | some cs1 =>
          rw [hp] at hf
          obtain ⟨hle, rfl⟩ := listPut_eq hp
          have hv := opd_some H hy (cells_bad b2) G
          have hcs := conc_cells hv b2
          have hl1 := concL_len hcs
          have hl2 := concL_len hc
          have hc1 : concL E (cs.take pl.1 ++ ((ev tm y).cellsOf ++ cs.drop (pl.1 + (ev tm y).cellsOf.length))) = some (cl.take pl.1 ++ ((a.eval q.2).cells.toList ++ cl.drop (pl.1 + (a.eval q.2).cells.size))) := by
            refine concL_app (concL_take hc _) (concL_app hcs ?_)
            have : (a.eval q.2).cells.size = (ev tm y).cellsOf.length := by simpa using hl1
            rw [this]
            exact concL_drop hc _
          obtain ⟨cl', h1, h2⟩ := fill_ok H G place hr hf hc1
          refine ⟨cl', h1, ?_⟩
          have hsz : (a.eval q.2).cells.size = pl.2 := by simp at hl1; omega
          simp only [List.map_cons, Instr.fill, hpl]
          rw [if_neg (by simp only [ne_eq, hsz, not_true_eq_false, decide_false, Bool.false_or, decide_eq_true_eq, List.size_toArray]; simp at hl1; omega)]
          have e := array_foldl_put pl.1 (a.eval q.2).cells cl.toArray (by simp at hl1 ⊢; omega)
          have e' : ((a.eval q.2).cells.zipIdx.foldl (fun cs (q : Value × Nat) => cs.setIfInBounds (pl.1 + q.2) q.1) cl.toArray) = (cl.take pl.1 ++ ((a.eval q.2).cells.toList ++ cl.drop (pl.1 + (a.eval q.2).cells.size))).toArray := by
            apply Array.ext'
            simpa using e
          rw [← h2, ← e']
    · cases h

end Go.Sx
/-! THE OPERATIONS, ON: structs and slices that are built; equality; maps. -/
namespace Go.Sx
open Go.RowKit

theorem rBuild_holds {ρ : Rho} {h : Heap} {z : List AV} {ps : List (Nat × Nat × AV)} {Q : AV × Heap → Prop} (k : (rBuild h z ps).Holds ρ Q) : ∃ cs, fillA ps z = some cs ∧ Q (.agg cs, h) := by
  unfold rBuild at k
  cases hf : fillA ps z with
  | none => rw [hf] at k; exact k.elim
  | some cs => rw [hf] at k; exact ⟨cs, rfl, k⟩

theorem build_ok {p : Par} {ty : Nat → Option TI} (T : TyOk p.P ty) {t : Nat} {i : TI} (ht : ty t = some i) {z : List AV} (hz : zeroOf i = some z) {parts : Array (Nat × Operand)} {place : Nat → Option (Nat × Nat)} {ps : List (Nat × Nat × Opd)}
    (hp : cParts place parts.toList = some ps) (hbuilt : ∀ (v : Value) (l : List (Nat × Value)) (cs : Array Value), (∃ j, p.P.info? t = some j ∧ j.zero = some v) → Instr.fill place v.cells l = some cs → p.P.built t l = some cs)
    {o : Oper} (ho : o.op = .build t parts) : InsOk p (iBuild z ps) o := by
  intro cx n keep E w0 tm h a w Q K _ HT HH k P
  obtain ⟨cs, hf, q⟩ := rBuild_holds k
  have hex : execOp a.eval o = (do let x ← Instr.build t (parts.map fun (i, x) => (i, a.eval x)); pure (Next.value x)) := by unfold execOp; rw [ho]
  rw [hex]
  obtain ⟨j, hj1, _, _, hj4⟩ := T.info t i ht
  obtain ⟨v, hv0, rfl, hok, _⟩ := zeroOf_some hz
  obtain ⟨u, hu1, hu2⟩ := hj4 v hv0
  have hcs := conc_cells (conc_ofV E u v hu2) hok
  obtain ⟨cl, hcl, hfill⟩ := fill_ok HT HH.glob place hp hf hcs
  have hl : (parts.map fun (i, x) => (i, a.eval x)).toList = parts.toList.map fun q => (q.1, a.eval q.2) := by simp
  rw [show (u.cells.toList).toArray = u.cells from by simp] at hfill
  have hb := hbuilt u _ _ ⟨j, hj1, hu1⟩ hfill
  rw [← hl] at hb
  exact does_value (run_build w t _ _ hb) (P.same HH q (by simp [conc, hcl]))

theorem rBslice_holds {ρ : Rho} {h : Heap} {e len : Nat} {cs : List AV} {ps : List (Nat × Nat × AV)} {Q : AV × Heap → Prop} (k : (rBslice h e cs len ps).Holds ρ Q) :
    ∃ cs', fillA ps cs = some cs' ∧ Q (.slice h.next 0 len len, h.new (.cells cs' e true false)) := by
  unfold rBslice at k
  cases hf : fillA ps cs with
  | none => rw [hf] at k; exact k.elim
  | some cs => rw [hf] at k; exact ⟨cs, rfl, k⟩

theorem bslice_ok {p : Par} {ty : Nat → Option TI} (T : TyOk p.P ty) {t e len : Nat} {i j : TI} (ht : ty t = some i) (hd : i.desc = .slice e) (he : ty e = some j) {z : List AV} (hz : zeroOf j = some z) (hlen : len * j.size ≤ 1000000)
    {parts : Array (Nat × Operand)} {ps : List (Nat × Nat × Opd)} (hp : cParts (fun n => some (n * j.size, j.size)) parts.toList = some ps) {o : Oper} (ho : o.op = .buildSlice t len parts) : InsOk p (iBslice e z len ps) o := by
  intro cx n keep E w0 tm h a w Q K _ HT HH k P
  obtain ⟨cs, hf, q⟩ := rBslice_holds k
  have hex : execOp a.eval o = (do let x ← Instr.buildSlice t len (parts.map fun (i, x) => (i, a.eval x)); pure (Next.value x)) := by unfold execOp; rw [ho]
  rw [hex]
  have hu := T.und t i ht
  rw [hd] at hu
  obtain ⟨zv, hzv, hzrun, hzs⟩ := zero_cells T he hz E w
  have hcells : concL E (rep z len) = some (rep zv.cells.toList len) := concL_rep hzv len
  obtain ⟨cl, hcl, hfill⟩ := fill_ok HT HH.glob _ hp hf hcells
  have hl : (parts.map fun (i, x) => (i, a.eval x)).toList = parts.toList.map fun q => (q.1, a.eval q.2) := by simp
  refine does_value (v := .slice (some ⟨w.heap.size, 0, none⟩) len len) (w' := w.alloc (.cells cl.toArray e)) ?_ ?_
  · unfold Instr.buildSlice
    simp only [Sem.run_bind, run_underlying hu, Result.andThen_ok, run_size T he]
    rw [if_neg (by omega)]
    rw [hl]
    have hz' : ∀ x : Array Value, x = zv.cells ∨ (x = #[] ∧ len * j.size = 0) → ((Array.range (len * j.size)).map fun i => x[i % x.size]!) = (rep zv.cells.toList len).toArray := by
      rintro x (rfl | ⟨rfl, h0⟩)
      · rw [← hzs, zeros_eq]
      · rw [← zeros_eq, hzs, h0]; simp
    by_cases h0 : len * j.size = 0
    · rw [if_pos h0]
      simp only [Sem.run_bind, pure, Sem.run, Result.andThen_ok]
      rw [hz' #[] (.inr ⟨rfl, h0⟩), hfill]
      rfl
    · rw [if_neg h0]
      simp only [Sem.run_bind, pure, Sem.run, Result.andThen_ok, hzrun]
      rw [hz' zv.cells (.inl rfl), hfill]
      rfl
  · have := HH.newCells (p := p) hcl e 0
    exact P _ _ _ _ _ q (Env.with_le (HH.fresh _ (Nat.le_refl _)) HH.nx _ _) this (by simp [conc, Env.with_at])

end Go.Sx
