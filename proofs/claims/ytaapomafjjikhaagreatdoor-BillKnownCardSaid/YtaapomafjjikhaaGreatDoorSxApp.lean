/- append. -/
import Derived.Test.YtaapomafjjikhaaGreatDoorSxMap3
/-! append. -/
namespace Go.Sx
open Go.RowKit

theorem firstA_ok {p : Par} {E : Env} {h : Heap} {w0 : Base} {w : World} (H : HeapOk p E h w0 w) {size n : Nat} {x : AV} {l : List AV} (hf : firstA h size n x = some l) {v : Value} (hv : conc E x = some v) :
    ∃ vs, concL E l = some vs ∧ (Builtin.firstCells size n v).run p.P w = .ok vs.toArray w ∧ vs.length = n * size := by
  unfold firstA at hf
  split at hf
  · rename_i b off len cap
    cases hc : Nat.ble n len with
    | false => rw [hc] at hf; cases hf
    | true =>
      rw [hc, cond_true] at hf
      obtain ⟨q, hq, rfl⟩ := slice_conc hv
      cases hcs : h.cells b with
      | none => rw [hcs] at hf; cases hf
      | some cs =>
        rw [hcs] at hf
        obtain ⟨vs, h1, h2, h3⟩ := H.cellsRange hcs hf hq
        exact ⟨vs, h1, run_loadCellsAt h2 h3, h2⟩
  · rename_i b s lo len
    cases hc : and (Nat.ble n len) (Nat.beq s size) with
    | false => rw [hc] at hf; cases hf
    | true =>
      rw [hc, cond_true] at hf
      obtain ⟨c1, c2⟩ := Bool.and_eq_true_iff.1 hc
      have c1 := ble_t.1 c1
      have c2 := beq_t.1 c2
      subst c2
      obtain ⟨q, hq, hle, rfl⟩ := sliceX_conc hv
      by_cases hn : n = 0
      · subst hn
        have : l = [] := (Option.some.inj hf).symm
        subst this
        refine ⟨[], rfl, ?_, by simp⟩
        have := run_loadCellsAt (P := p.P) (w := w) (c := q.1) (o := q.2 + if E.κ b = lo then 0 else lo * s) (n := 0) (vs := []) rfl (fun j v hj => by simp at hj)
        unfold Builtin.firstCells
        simpa using this
      · rw [beq_f.2 hn, cond_false] at hf
        cases hcs : h.cells b with
        | none => rw [hcs] at hf; cases hf
        | some cs =>
          rw [hcs] at hf
          obtain ⟨vs, h1, h2, h3⟩ := H.cellsRange hcs hf hq
          rw [if_neg (by omega)]
          exact ⟨vs, h1, run_loadCellsAt h2 h3, h2⟩
  · cases hc : Nat.beq n 0 with
    | false => rw [hc] at hf; cases hf
    | true =>
      rw [hc] at hf
      have hn := beq_t.1 hc
      subst hn
      have : l = [] := (Option.some.inj hf).symm
      subst this
      simp only [conc, Option.some.injEq] at hv
      subst hv
      exact ⟨[], rfl, rfl, by simp⟩
  · cases hf

/-- THE BLOCK OF A SLICE THAT GROWS IN PLACE gets a new number; the old number is let go. -/
theorem HeapOk.reuse {p : Par} {E : Env} {h : Heap} {w0 : Base} {w w' : World} (k : HeapOk p E h w0 w) {b c : Nat} {o o' : AObj} (hg : h.get b = some o) (hown : ownO o = true) (hc : E.σ b = some (c, 0)) (hown' : ownO o' = true)
    (ho : objOk p (E.with h.next (c, 0) (E.κ b)) h.next o' w'.heap) (hh : ∀ i, i ≠ c → w'.heap[i]? = w.heap[i]?) (hos : w'.os = w.os) (ht : w'.tape = w.tape) (hout : w'.output = w.output) (hsz : w'.heap.size = w.heap.size) :
    HeapOk p (E.with h.next (c, 0) (E.κ b)) ((h.put b .dead).new o') w0 w' := by
  have hf : E.σ h.next = none := k.fresh _ (Nat.le_refl _)
  have hle := Env.with_le hf k.nx (c, 0) (E.κ b)
  have hbn : b ≠ h.next := by rintro rfl; rw [hf] at hc; cases hc
  have hcb := k.base b o c 0 hg hown hc
  have hσ : ∀ i q, i ≠ h.next → (E.with h.next (c, 0) (E.κ b)).σ i = some q → E.σ i = some q := fun i q hi e => by rw [Env.with_ne _ _ _ hi] at e; exact e
  have f : ∀ i z, ((h.put b .dead).new o').get i = some z → (i = h.next ∧ z = o') ∨ (i ≠ h.next ∧ i = b ∧ z = .dead) ∨ (i ≠ h.next ∧ i ≠ b ∧ h.get i = some z) := fun i z e => by
    rw [Heap.get_new, Heap.next_put] at e
    by_cases hi : i = h.next
    · rw [if_pos hi] at e; cases e; exact .inl ⟨hi, rfl⟩
    · rw [if_neg hi, Heap.get_put] at e
      by_cases hib : i = b
      · rw [if_pos hib] at e; cases e; exact .inr (.inl ⟨hi, hib, rfl⟩)
      · rw [if_neg hib] at e; exact .inr (.inr ⟨hi, hib, e⟩)
  refine ⟨fun j x e => ?_, fun j j' o1 o2 d x y h1 h2 w1 w2 e1 e2 => ?_, fun j x d y e ow s => ?_, fun j x d y hj hr s => ?_, fun j hj => ?_, fun j x d y e s => ?_, fun j hj => hle.σ _ _ (k.glob j hj), ?_, Nat.le_refl _, k.ok⟩
  · rcases f j x e with ⟨rfl, rfl⟩ | ⟨_, _, rfl⟩ | ⟨hj, hjb, e⟩
    · exact ho
    · trivial
    · refine (k.obj j x e).mono hle (fun hn => by rw [Env.with_ne _ _ _ hj]; exact hn) (fun d y hd hx => hh d ?_)
      rintro rfl
      rcases hx with hx | hx
      · exact hjb (k.inj j b x o d y 0 e hg hx hown hd hc)
      · exact absurd (k.ro j x d y e hx hd) hcb
  · rcases f j o1 h1 with ⟨rfl, rfl⟩ | ⟨_, _, rfl⟩ | ⟨hj, hjb, g1⟩
    · rcases f j' o2 h2 with ⟨rfl, rfl⟩ | ⟨_, _, rfl⟩ | ⟨hj', hjb', g2⟩
      · rfl
      · cases w2
      · rw [Env.with_at] at e1; cases e1
        exact absurd (k.inj j' b o2 o c y 0 g2 hg w2 hown (hσ _ _ hj' e2) hc) hjb'
    · cases w1
    · rcases f j' o2 h2 with ⟨rfl, rfl⟩ | ⟨_, _, rfl⟩ | ⟨hj', hjb', g2⟩
      · rw [Env.with_at] at e2; cases e2
        exact absurd (k.inj j b o1 o c x 0 g1 hg w1 hown (hσ _ _ hj e1) hc) hjb
      · cases w2
      · exact k.inj j j' o1 o2 d x y g1 g2 w1 w2 (hσ _ _ hj e1) (hσ _ _ hj' e2)
  · rcases f j x e with ⟨rfl, rfl⟩ | ⟨_, _, rfl⟩ | ⟨hj, hjb, g⟩
    · rw [Env.with_at] at s; cases s; exact hcb
    · cases ow
    · exact k.base j x d y g ow (hσ _ _ hj s)
  · rcases f j _ hj with ⟨rfl, rfl⟩ | ⟨_, _, rfl⟩ | ⟨hj', hjb, g⟩
    · exact absurd hr (by rw [roO_own hown']; exact Bool.false_ne_true)
    · cases hr
    · exact k.ro j x d y g hr (hσ _ _ hj' s)
  · rw [Heap.next_new, Heap.next_put] at hj
    rw [Env.with_ne _ _ _ (by omega)]; exact k.fresh j (by omega)
  · rw [hsz]
    rcases f j x e with ⟨rfl, rfl⟩ | ⟨hj, hjb, rfl⟩ | ⟨hj, hjb, g⟩
    · rw [Env.with_at] at s; cases s; exact k.lt b o c 0 hg hc
    · subst hjb; exact k.lt j o d y hg (hσ _ _ hj s)
    · exact k.lt j x d y g (hσ _ _ hj s)
  · exact k.below.trans ⟨hos, ht, hout, by omega, fun i hi => hh i (by rintro rfl; exact hcb hi)⟩

/-! ## The model's append -/
theorem run_bind_ok {α β : Type} {P : Program} {x : Sem α} {f : α → Sem β} {a : α} {w w' : World} (h : x.run P w = .ok a w') : (x >>= f).run P w = (f a).run P w' := by
  rw [Sem.run_bind, h]; rfl

theorem run_append_fit {P : Program} {w w' : World} {ts : Array Nat} {t u e e' : Nat} (h0 : ts[0]? = some t) (h1 : ts[1]? = some u) (hu : P.underlying t = some (.slice e)) (hx : P.underlying u = some (.slice e')) {size : Nat} (hs : ∀ w, (sizeOf e).run P w = .ok size w)
    {base xb : Option Addr} {len cap n xc : Nat} (hfit : len + n ≤ cap) {new : Array Value} (hnew : (Builtin.firstCells size n (.slice xb n xc)).run P w = .ok new w)
    (hst : (match base with | some a => storeCells (a.add (len * size)) new.toList | none => pure ()).run P w = .ok () w') (ty : Nat) : (Builtin.append_ ts ty #[.slice base len cap, .slice xb n xc]).run P w = .ok (.slice base (len + n) cap) w' := by
  unfold Builtin.append_
  rw [h0, h1]
  simp only [List.getElem?_toArray, List.getElem?_cons_zero, List.getElem?_cons_succ]
  rw [run_bind_ok (run_underlying hu w)]
  simp only []
  rw [run_bind_ok (hs w), run_bind_ok (run_underlying hx w), run_bind_ok (a := false) (w' := w) rfl]
  rw [if_neg (by simp)]
  rw [run_bind_ok (a := n) (w' := w) (by rfl)]
  rw [if_pos hfit]
  rw [run_bind_ok (a := new) (w' := w) (by rw [if_pos (by rfl)]; exact hnew)]
  cases base with
  | none => simp only [] at hst ⊢; cases hst; rfl
  | some a => simp only [] at hst ⊢; rw [run_bind_ok hst]; rfl

theorem run_append_grow {P : Program} {w : World} {ts : Array Nat} {t u e e' : Nat} (h0 : ts[0]? = some t) (h1 : ts[1]? = some u) (hu : P.underlying t = some (.slice e)) (hx : P.underlying u = some (.slice e')) {j : TypeInfo} (hj : P.info? e = some j)
    {base xb : Option Addr} {len cap n xc : Nat} (hfit : ¬ len + n ≤ cap) (hlen : len ≤ 1000000) (hn : n ≤ 1000000) (hb : j.bytes ≤ 1000000) {old new zero : Array Value}
    (hold : ∀ w', w'.heap = w.heap → (Builtin.firstCells j.size len (.slice base len cap)).run P w' = .ok old w') (hnew : ∀ w', w'.heap = w.heap → (Builtin.firstCells j.size n (.slice xb n xc)).run P w' = .ok new w')
    {zv : Value} (hz : ∀ w, (zeroValue e).run P w = .ok zv w) (hzero : zv.cells = zero) (ty : Nat) :
    ∃ newCap, len + n ≤ newCap ∧ (Builtin.append_ ts ty #[.slice base len cap, .slice xb n xc]).run P w =
      .ok (.slice (some ⟨w.heap.size, 0, none⟩) (len + n) newCap) ({ w with drawn := w.drawn + 1 }.alloc (.cells (old ++ new ++ Builtin.zeroCells zero (newCap - (len + n))) e)) := by
  refine ⟨Question.cut (.appendCap (len + n) cap e) (w.tape w.drawn (.appendCap (len + n) cap e)), by simp only [Question.cut]; omega, ?_⟩
  generalize hN : Question.cut (.appendCap (len + n) cap e) (w.tape w.drawn (.appendCap (len + n) cap e)) = N
  have hs : ∀ w, (sizeOf e).run P w = .ok j.size w := fun w => by unfold sizeOf; rw [run_bind_ok (run_typeInfo w hj)]; rfl
  have hcap : Builtin.nextslicecap (len + n) cap ≤ 8000000 := by
    unfold Builtin.nextslicecap
    split
    · omega
    · split
      · omega
      · simp only [Builtin.growBy]
        (repeat' split) <;> omega
  have hbig : ¬ (Builtin.nextslicecap (len + n) cap * j.bytes > 2 ^ 48) := by
    have : Builtin.nextslicecap (len + n) cap * j.bytes ≤ 8000000 * 1000000 := Nat.mul_le_mul hcap hb
    omega
  have hmax : ¬ (((len + n : Nat) : Int) > IntKind.i64.max) := by
    have : IntKind.i64.max = 9223372036854775807 := by decide
    omega
  unfold Builtin.append_
  rw [h0, h1]
  simp only [List.getElem?_toArray, List.getElem?_cons_zero, List.getElem?_cons_succ]
  rw [run_bind_ok (run_underlying hu w)]
  simp only []
  rw [run_bind_ok (hs w), run_bind_ok (run_underlying hx w), run_bind_ok (a := false) (w' := w) rfl]
  rw [if_neg (by simp)]
  rw [run_bind_ok (a := n) (w' := w) (by rfl)]
  rw [if_neg hfit]
  rw [run_bind_ok (run_typeInfo w hj)]
  rw [if_neg (fun hh => hmax hh.1)]
  rw [run_bind_ok (run_typeInfo w hj)]
  rw [if_neg hbig]
  rw [run_bind_ok (a := N) (w' := { w with drawn := w.drawn + 1 }) (by
    unfold choose
    simp only [Sem.run, Question.forced, Bool.false_eq_true, if_false, hN])]
  rw [run_bind_ok (run_typeInfo _ hj), run_bind_ok (run_askRoom P _ _)]
  rw [run_bind_ok (hold { w with drawn := w.drawn + 1 } rfl)]
  rw [run_bind_ok (a := new) (w' := { w with drawn := w.drawn + 1 }) (by rw [if_pos (by rfl)]; exact hnew _ rfl)]
  rw [run_bind_ok (hz _)]
  subst hzero
  rfl

/-! ## The instruction -/
theorem zeroCells_rep (zero : Array Value) (m : Nat) : Builtin.zeroCells zero m = (rep zero.toList m).toArray := by
  unfold Builtin.zeroCells
  exact zeros_eq zero m

theorem slice_value {E : Env} {x : AV} {n : Nat} (h : lenA x = some n) {v : Value} (hv : conc E x = some v) : ∃ b c, v = .slice b n c := by
  unfold lenA at h
  split at h
  · cases h; obtain ⟨q, _, rfl⟩ := slice_conc hv; exact ⟨_, _, rfl⟩
  · cases h; obtain ⟨q, _, _, rfl⟩ := sliceX_conc hv; exact ⟨_, _, rfl⟩
  · cases h; simp only [conc, Option.some.injEq] at hv; exact ⟨_, _, hv.symm⟩
  · cases h

theorem lenA_nb {x : AV} {n : Nat} (h : lenA x = some n) : notBad x = true := by
  unfold lenA at h
  split at h <;> first | rfl | cases h

theorem appendTo_nb {h : Heap} {e size n : Nat} {s : AV} {new : List AV} {r : AV × Heap} (k : appendTo h e size n s new = some r) : notBad s = true := by
  unfold appendTo at k
  split at k <;> first | rfl | cases k

theorem sliceX_new {E : Env} {n c K size len : Nat} (h : len ≤ K) : conc (E.with n (c, 0) K) (.sliceX n size 0 len) = some (.slice (some ⟨c, 0, none⟩) len K) := by
  simp [conc, Env.with_at, Env.with_κ, h]

theorem append_ok {p : Par} {ty : Nat → Option TI} (T : TyOk p.P ty) {c : Call} {t u e e' : Nat} (hts : c.argTypes.toList = [t, u]) {i iu j : TI} (ht : ty t = some i) (hd : i.desc = .slice e) (hu' : ty u = some iu) (hdu : iu.desc = .slice e') (he : ty e = some j) {z : List AV} (hz : zeroOf j = some z)
    {x1 x2 : Operand} (hxs : c.args.toList = [x1, x2]) {y1 y2 : Opd} (h1 : cOpd x1 = some y1) (h2 : cOpd x2 = some y2) (hb : c.callee = .builtin .append) {o : Oper} (ho : o.op = .call c) : InsOk p (iAppend e j.size j.bytes y1 y2) o := by
  intro cx n' keep E w0 tm h a w Q K _ HT HH k P
  rw [run_builtin a o ho hb]
  have hargs : c.args.map a.eval = #[a.eval x1, a.eval x2] := by
    have : c.args = #[x1, x2] := by rw [← Array.toList_inj]; exact hxs
    rw [this]; simp
  rw [hargs]
  have hut := T.und t i ht
  rw [hd] at hut
  have huu := T.und u iu hu'
  rw [hdu] at huu
  have t0 : c.argTypes[0]? = some t := by rw [← Array.getElem?_toList, hts]; rfl
  have t1 : c.argTypes[1]? = some u := by rw [← Array.getElem?_toList, hts]; rfl
  obtain ⟨jj, hj1, hj2, hj3, _⟩ := T.info e j he
  have hsz := fun w => run_size T he w
  unfold builtin
  simp only
  cases hr : aappend h e j.size j.bytes (ev tm y1) (ev tm y2) with
  | none => simp only [iAppend, hr, Sx.T.of] at k; exact k.elim
  | some r =>
    simp only [iAppend, hr, Sx.T.of] at k
    have q : Q r := k
    unfold aappend at hr
    cases hln : lenA (ev tm y2) with
    | none => rw [hln] at hr; cases hr
    | some n =>
      rw [hln] at hr
      simp only at hr
      cases hfa : firstA h j.size n (ev tm y2) with
      | none => rw [hfa] at hr; cases hr
      | some new =>
        rw [hfa] at hr
        simp only at hr
        cases hc : and (Nat.ble n 1000000) (and (Nat.ble j.bytes 1000000) (and (Nat.ble 1 j.size) (allOk new))) with
        | false => rw [hc] at hr; cases hr
        | true =>
          rw [hc, cond_true] at hr
          obtain ⟨c1, c2⟩ := Bool.and_eq_true_iff.1 hc
          obtain ⟨c2, c3⟩ := Bool.and_eq_true_iff.1 c2
          obtain ⟨c3, hok⟩ := Bool.and_eq_true_iff.1 c3
          have c1 := ble_t.1 c1
          have c2 := ble_t.1 c2
          have c3 := ble_t.1 c3
          have hv2 := opd_some HT h2 (lenA_nb hln) HH.glob
          obtain ⟨xb, xc, hx2⟩ := slice_value hln hv2
          obtain ⟨nv, hnv, hnrun, hnl⟩ := firstA_ok HH hfa hv2
          rw [hx2] at hnrun ⊢
          have hv1 := opd_some HT h1 (appendTo_nb hr) HH.glob
          -- the row that grows
          have growK : ∀ {len cap : Nat} {base : Option Addr} {old : List AV} {hh : Heap}, a.eval x1 = .slice base len cap → ¬ len + n ≤ cap → len ≤ 1000000 → firstA h j.size len (ev tm y1) = some old →
              HeapOk p E hh w0 w → hh.next = h.next → Q (.sliceX h.next j.size 0 (len + n), hh.new (.cells (old ++ new) e true true)) →
              Does p.P ((do let v ← Builtin.append_ c.argTypes o.type #[a.eval x1, .slice xb n xc]; pure (Next.value v) : Sem Next).run p.P w) K := by
            intro len cap base old hh hx1 hnf hlen hfo hH hnx hq
            obtain ⟨ov, hov, horun, hol⟩ := firstA_ok HH hfo hv1
            have heap_eq : ∀ {w' : World}, w'.heap = w.heap → HeapOk p E h w0 w' → True := fun _ _ => trivial
            have hdrew : ∀ w', w'.heap = w.heap → (Builtin.firstCells j.size len (.slice base len cap)).run p.P w' = .ok ov.toArray w' := by
              intro w' hw'
              have := (firstA_ok (p := p) (E := E) (h := h) (w0 := ⟨{ w0.w with os := w'.os, tape := w'.tape, output := w'.output }, w0.S, w0.lt⟩) (w := w') ?_ hfo hv1)
              · obtain ⟨vs, g1, g2, _⟩ := this
                rw [hov] at g1; cases g1
                rw [hx1] at g2; exact g2
              · exact ⟨fun b o e => by rw [hw']; exact HH.obj b o e, HH.inj, HH.base, HH.ro, HH.fresh, fun b o c x e s => by rw [hw']; exact HH.lt b o c x e s, HH.glob, ⟨rfl, rfl, rfl, by rw [hw']; exact HH.below.size, fun k hk => by rw [hw']; exact HH.below.block k hk⟩, HH.nx, HH.ok⟩
            have hdrew2 : ∀ w', w'.heap = w.heap → (Builtin.firstCells j.size n (.slice xb n xc)).run p.P w' = .ok nv.toArray w' := by
              intro w' hw'
              have := (firstA_ok (p := p) (E := E) (h := h) (w0 := ⟨{ w0.w with os := w'.os, tape := w'.tape, output := w'.output }, w0.S, w0.lt⟩) (w := w') ?_ hfa hv2)
              · obtain ⟨vs, g1, g2, _⟩ := this
                rw [hnv] at g1; cases g1
                rw [hx2] at g2; exact g2
              · exact ⟨fun b o e => by rw [hw']; exact HH.obj b o e, HH.inj, HH.base, HH.ro, HH.fresh, fun b o c x e s => by rw [hw']; exact HH.lt b o c x e s, HH.glob, ⟨rfl, rfl, rfl, by rw [hw']; exact HH.below.size, fun k hk => by rw [hw']; exact HH.below.block k hk⟩, HH.nx, HH.ok⟩
            obtain ⟨zv, _, hzrun0, hzs⟩ := zero_cells T he hz E w
            have hzrun : ∀ w', (zeroValue e).run p.P w' = .ok zv w' := by
              intro w'
              obtain ⟨zv', _, hzrun', _⟩ := zero_cells T he hz E w'
              have e1 : ∀ {w1 w2 : World} {a b : Value}, (zeroValue e).run p.P w1 = .ok a w1 → (zeroValue e).run p.P w2 = .ok b w2 → a = b := by
                intro w1 w2 a b g1 g2
                unfold zeroValue at g1 g2
                rw [run_bind_ok (run_typeInfo _ hj1)] at g1 g2
                cases hjz : jj.zero with
                | none => rw [hjz] at g1; cases g1
                | some v0 =>
                  rw [hjz] at g1 g2
                  simp only [pure, Sem.run, Result.ok.injEq] at g1 g2
                  rw [← g1.1, ← g2.1]
              rw [e1 hzrun0 hzrun']; exact hzrun'
            rw [hx1]
            obtain ⟨N, hN, hrun⟩ := run_append_grow (P := p.P) (w := w) t0 t1 hut huu hj1 (base := base) (xb := xb) (xc := xc) hnf hlen c1 (by rw [hj3]; exact c2) (by rw [hj2]; exact hdrew) (by rw [hj2]; exact hdrew2) hzrun rfl o.type
            refine does_value hrun ?_
            have hH' : HeapOk p E hh w0 { w with drawn := w.drawn + 1 } := hH.world ⟨rfl, rfl, rfl, Nat.le_refl _, fun _ _ => rfl⟩
            have hfr : E.σ hh.next = none := hH.fresh _ (Nat.le_refl _)
            have hle := Env.with_le hfr hH.nx (w.heap.size, 0) N
            refine P _ _ (E.with hh.next (w.heap.size, 0) N) _ _ hq hle ?_ ?_
            · refine hH'.alloc (κ := N) (o := .cells (old ++ new) e true true) rfl ⟨w.heap.size, 0, ov ++ nv, _, e, (0, 0), Env.with_at _ _ _ _, concL_app (concL_mono hle _ _ hov) (concL_mono hle _ _ hnv), by simp; rfl, ?_, fun _ => ⟨rfl, rfl, (fun x => by cases x), fun _ => ⟨jj, hj1, ?_⟩⟩⟩
              · intro k hk
                simp only [Nat.zero_add]
                rw [Array.getElem?_append_left (by simpa using hk)]
                simp
              · rw [Env.with_κ, zeroCells_rep]
                simp only [Array.size_append, List.size_toArray, rep_len, Array.length_toList, List.length_append, hol, hnl, hzs, hj2]
                rw [← Nat.add_mul, ← Nat.add_mul]
                congr 1
                omega
            · rw [← hnx]
              simp only [conc]
              rw [Env.with_κ, if_pos (by omega), Env.with_at]
              simp
          unfold appendTo at hr
          split at hr
          · -- nil
            rename_i hs
            have hx1 : a.eval x1 = .slice none 0 0 := opd_ok HT h1 (by rw [hs]; rfl) HH.glob
            by_cases hn : n = 0
            · subst hn
              cases hr
              rw [hx1]
              have hnv0 : nv = [] := List.length_eq_zero_iff.1 (by simpa using hnl)
              refine does_value (run_append_fit t0 t1 hut huu hsz (by omega) hnrun (w' := w) ?_ o.type) (P.same HH q rfl)
              rfl
            · rw [beq_f.2 hn, cond_false] at hr
              cases hr
              refine growK hx1 (by omega) (by omega) (old := []) (by rw [hs]; rfl) HH rfl ?_
              have e1 : lApp ([] : List AV) new = [] ++ new := lApp_eq _ _
              unfold grow at q
              rw [e1] at q
              exact q
          · rename_i b off len cap hs
            have hv1' := hv1
            rw [hs] at hv1'
            obtain ⟨qb, hqb, hx1⟩ := slice_conc hv1'
            cases hfit : Nat.ble (len + n) cap with
            | true =>
              rw [hfit, cond_true] at hr
              have hfit := ble_t.1 hfit
              by_cases hn : n = 0
              · subst hn
                cases hr
                have hnv0 : nv = [] := List.length_eq_zero_iff.1 (by simpa using hnl)
                rw [hx1]
                refine does_value (run_append_fit t0 t1 hut huu hsz hfit hnrun (w' := w) ?_ o.type) (P.same HH q ?_)
                · simp only [hnv0]; rfl
                · rw [Nat.add_zero, ← hs]; exact hx1 ▸ hv1
              · rw [beq_f.2 hn, cond_false] at hr
                split at hr
                · rename_i h' hst
                  cases hr
                  obtain ⟨cs, el, xx, cs', hg, hlen', _, hp, rfl⟩ := astoreC_some hst
                  obtain ⟨w', hrun, H'⟩ := HH.storeCells hg hnv hok hp hqb
                  rw [hx1]
                  refine does_value (run_append_fit t0 t1 hut huu hsz hfit hnrun (w' := w') ?_ o.type) ?_
                  · simp only [add_mk]
                    rw [Nat.add_assoc]
                    simpa using hrun
                  · exact P _ _ E w' _ q (Env.le.refl E) H' (by simp [conc, hqb])
                · cases hr
            | false =>
              rw [hfit, cond_false] at hr
              have hfit : ¬ len + n ≤ cap := fun hh => by rw [ble_t.2 hh] at hfit; cases hfit
              split at hr
              · rename_i old hfo
                cases hl : Nat.ble len 1000000 with
                | false => rw [hl] at hr; cases hr
                | true =>
                  rw [hl] at hr; cases hr
                  refine growK hx1 hfit (ble_t.1 hl) (old := old) hfo HH rfl ?_
                  unfold grow at q
                  rw [lApp_eq] at q
                  exact q
              · cases hr
          · rename_i b sz zz len hs
            have hv1' := hv1
            rw [hs] at hv1'
            obtain ⟨qb, hqb, hle0, hx1⟩ := sliceX_conc hv1'
            by_cases hn : n = 0
            · subst hn
              cases hr
              have hnv0 : nv = [] := List.length_eq_zero_iff.1 (by simpa using hnl)
              rw [hx1]
              refine does_value (run_append_fit t0 t1 hut huu hsz (by omega) hnrun (w' := w) ?_ o.type) (P.same HH q ?_)
              · simp only [hnv0]; rfl
              · have := hv1
                rw [hx1] at this
                simpa using this
            · rw [beq_f.2 hn, cond_false] at hr
              split at hr
              · rename_i old ocs el own ext hfo hg
                cases hcc : and (and own ext) (and (Nat.ble len 1000000) (and (Nat.beq el e) (and (Nat.beq sz j.size) (Nat.beq zz 0)))) with
                | false => rw [hcc] at hr; cases hr
                | true =>
                  rw [hcc] at hr; cases hr
                  obtain ⟨d1, d2⟩ := Bool.and_eq_true_iff.1 hcc
                  obtain ⟨d1, d3⟩ := Bool.and_eq_true_iff.1 d1
                  obtain ⟨d2, d4⟩ := Bool.and_eq_true_iff.1 d2
                  obtain ⟨d4, d5⟩ := Bool.and_eq_true_iff.1 d4
                  obtain ⟨d5, d6⟩ := Bool.and_eq_true_iff.1 d5
                  have hl2 := ble_t.1 d2
                  have d4 := beq_t.1 d4
                  have d5 := beq_t.1 d5
                  have d6 := beq_t.1 d6
                  subst d1; subst d3; subst d4; subst d5; subst d6
                  have hk := HH.kill hg
                  by_cases hfit : len + n ≤ E.κ b - 0
                  · -- in place
                    obtain ⟨c, base, us, cells, el', fz, g1, g2, g3, g4, g5⟩ := HH.obj b _ hg
                    rw [hqb] at g1; cases g1
                    obtain ⟨rfl, rfl, _, g7⟩ := g5 rfl
                    obtain ⟨ii, g8, g9⟩ := g7 rfl
                    rw [hj1] at g8; cases g8
                    rw [hj2] at g9
                    obtain ⟨ov, hov, horun, hol⟩ := firstA_ok HH hfo hv1
                    have hcell : ∀ m, m < len * j.size → cells[m]? = ov[m]? := by
                      intro m hm
                      rw [hx1] at horun
                      unfold firstA at hfo
                      rw [hs] at hfo
                      simp only at hfo
                      rw [show and (Nat.ble len len) (Nat.beq j.size j.size) = true from by rw [ble_t.2 (Nat.le_refl _), beq_t.2 rfl]; rfl, cond_true] at hfo
                      by_cases hl0 : len = 0
                      · subst hl0; omega
                      · rw [beq_f.2 hl0, cond_false] at hfo
                        have hcells : h.cells b = some ocs := by unfold Heap.cells; rw [hg]
                        rw [hcells] at hfo
                        simp only [Nat.zero_mul] at hfo
                        obtain ⟨hle1, rfl⟩ := listSub_eq hfo
                        have e1 := concL_take (concL_drop g2 0) (len * j.size)
                        rw [hov] at e1
                        cases e1
                        have hul := concL_len g2
                        have := g4 m (by omega)
                        rw [Nat.zero_add] at this
                        rw [this, List.getElem?_take, if_pos hm, List.drop_zero]
                    have hfits : len * j.size + nv.length ≤ cells.size := by
                      rw [hnl, g9, ← Nat.add_mul]
                      exact Nat.mul_le_mul_right _ (by omega)
                    have hstore := run_storeCells_at p.P c (len * j.size) el' nv 0 cells w g3 (by omega) (allOk_one hnv hok)
                    simp only [Nat.add_zero] at hstore
                    have hnew := setRow_heap w c cells (cells.toList.take (len * j.size) ++ nv ++ cells.toList.drop (len * j.size + nv.length)).toArray el' (0, 0) g3
                    have hfr : E.σ h.next = none := HH.fresh _ (Nat.le_refl _)
                    have hle := Env.with_le hfr HH.nx (c, 0) (E.κ b)
                    have hlc : (cells.toList.take (len * j.size)).length = len * j.size := by simp; omega
                    have HR := HH.reuse (o' := .cells (old ++ new) el true true) (w' := w.setRow c (cells.toList.take (len * j.size) ++ nv ++ cells.toList.drop (len * j.size + nv.length)).toArray) hg rfl hqb rfl
                      ⟨c, 0, ov ++ nv, _, el', (0, 0), Env.with_at _ _ _ _, concL_app (concL_mono hle _ _ hov) (concL_mono hle _ _ hnv), hnew, (by
                        intro m hm
                        simp only [Nat.zero_add, List.getElem?_toArray]
                        rw [List.append_assoc]
                        by_cases hm1 : m < len * j.size
                        · rw [List.getElem?_append_left (by omega), List.getElem?_append_left (by omega), List.getElem?_take, if_pos hm1, ← hcell m hm1]
                          simp
                        · rw [List.getElem?_append_right (l₁ := cells.toList.take _) (by omega), List.getElem?_append_right (l₁ := ov) (by omega), hlc, hol]
                          rw [List.getElem?_append_left (by simp at hm; omega)]),
                       (fun _ => ⟨rfl, rfl, (fun x => by cases x), fun _ => ⟨jj, hj1, by
                          rw [Env.with_κ, hj2]
                          simp
                          omega⟩⟩)⟩
                      (fun i hi => setRow_other w c i _ hi) rfl rfl rfl (by simp)
                    rw [hx1]
                    refine does_value (run_append_fit t0 t1 hut huu hsz hfit hnrun (w' := w.setRow c (cells.toList.take (len * j.size) ++ nv ++ cells.toList.drop (len * j.size + nv.length)).toArray) ?_ o.type) ?_
                    · simp only [add_mk]
                      have : (0 + (if E.κ b = 0 then 0 else 0 * j.size) + len * j.size) = len * j.size := by simp
                      rw [this]
                      simpa using hstore
                    · unfold grow at q
                      rw [lApp_eq] at q
                      refine P _ _ _ _ _ q ?_ HR ?_
                      · exact hle
                      · show conc (E.with h.next (c, 0) (E.κ b)) (.sliceX h.next j.size 0 (len + n)) = _
                        rw [sliceX_new (by omega)]
                        simp
                  · refine growK hx1 hfit hl2 (old := old) hfo hk rfl ?_
                    unfold grow at q
                    rw [lApp_eq] at q
                    exact q
              · cases hr
          · cases hr

/-! ## copy -/
theorem copy_ok {p : Par} {ty : Nat → Option TI} (T : TyOk p.P ty) {c : Call} {t u e : Nat} (hts : c.argTypes.toList = [t, u]) {i j : TI} (ht : ty t = some i) (hd : i.desc = .slice e) (he : ty e = some j)
    {x1 x2 : Operand} (hxs : c.args.toList = [x1, x2]) {y1 y2 : Opd} (h1 : cOpd x1 = some y1) (h2 : cOpd x2 = some y2) (hb : c.callee = .builtin .copy) {o : Oper} (ho : o.op = .call c) : InsOk p (iCopy j.size y1 y2) o := by
  intro cx n' keep E w0 tm h a w Q K _ HT HH k P
  rw [run_builtin a o ho hb]
  have hargs : c.args.map a.eval = #[a.eval x1, a.eval x2] := by
    have : c.args = #[x1, x2] := by rw [← Array.toList_inj]; exact hxs
    rw [this]; simp
  rw [hargs]
  have hut := T.und t i ht
  rw [hd] at hut
  have t0 : c.argTypes[0]? = some t := by rw [← Array.getElem?_toList, hts]; rfl
  have hsz := fun w => run_size T he w
  unfold builtin
  simp only
  cases hr : acopy h j.size (ev tm y1) (ev tm y2) with
  | none => simp only [iCopy, hr, Sx.T.of] at k; exact k.elim
  | some r =>
    simp only [iCopy, hr, Sx.T.of] at k
    have q : Q r := k
    unfold acopy at hr
    split at hr
    · rename_i b off dlen cap hs
      cases hln : lenA (ev tm y2) with
      | none => rw [hln] at hr; cases hr
      | some m =>
        rw [hln] at hr
        simp only at hr
        have hmin : (cond (Nat.ble m dlen) m dlen) = Nat.min m dlen := by
          cases hbl : Nat.ble m dlen with
          | true => have := ble_t.1 hbl; simp only [cond_true]; show m = min m dlen; omega
          | false =>
            have : ¬ m ≤ dlen := fun hh => by rw [ble_t.2 hh] at hbl; cases hbl
            simp only [cond_false]; show dlen = min m dlen; omega
        generalize (cond (Nat.ble m dlen) m dlen) = n at hmin hr
        cases hfa : firstA h j.size n (ev tm y2) with
        | none => rw [hfa] at hr; cases hr
        | some new =>
          rw [hfa] at hr
          simp only at hr
          cases hok : allOk new with
          | false => rw [hok] at hr; cases hr
          | true =>
            rw [hok, cond_true] at hr
            split at hr
            · rename_i h' hst
              cases hr
              have hv2 := opd_some HT h2 (lenA_nb hln) HH.glob
              obtain ⟨xb, xc, hx2⟩ := slice_value hln hv2
              obtain ⟨nv, hnv, hnrun, hnl⟩ := firstA_ok HH hfa hv2
              rw [hx2] at hnrun ⊢
              have hv1 : conc E (ev tm y1) = some (a.eval x1) := opd_some HT h1 (by rw [hs]; rfl) HH.glob
              rw [hs] at hv1
              obtain ⟨qb, hqb, hx1⟩ := slice_conc hv1
              rw [hx1]
              obtain ⟨cs, el, xx, cs', hg, hlen', _, hp, rfl⟩ := astoreC_some hst
              obtain ⟨w', hrun, H'⟩ := HH.storeCells hg hnv hok hp hqb
              refine does_value (v := goInt n) (w' := w') ?_ (P _ _ E w' _ q (Env.le.refl E) H' rfl)
              unfold Builtin.copy_
              rw [t0]
              simp only [List.getElem?_toArray, List.getElem?_cons_zero, List.getElem?_cons_succ]
              rw [run_bind_ok (run_underlying hut w)]
              simp only []
              rw [run_bind_ok (a := m) (w' := w) (by rfl)]
              rw [run_bind_ok (hsz w)]
              rw [← hmin]
              rw [run_bind_ok (a := nv.toArray) (w' := w) hnrun]
              simp only []
              rw [run_bind_ok (a := ()) (w' := w') (by simpa using hrun)]
              rfl
            · cases hr
    · cases hr

end Go.Sx
