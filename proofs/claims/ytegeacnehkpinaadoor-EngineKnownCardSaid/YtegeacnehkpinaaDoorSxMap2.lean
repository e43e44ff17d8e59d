/- MAPS: a lookup; a store. -/
import Derived.Test.YtegeacnehkpinaaDoorSxMap
/-! MAPS: a lookup; a store. -/
namespace Go.Sx
open Go.RowKit

theorem cMap_some {ty : Nat → Option TI} {t : Nat} {q : TI × List (Nat × Leaf) × TI} (h : cMap ty t = some q) :
    ∃ i k e, ty t = some i ∧ i.desc = .map k e ∧ ty k = some q.1 ∧ leaves ty 12 k 0 = some q.2.1 ∧ ty e = some q.2.2 ∧ coversB q.1.size q.2.1 = true := by
  unfold cMap at h
  cases ht : ty t with
  | none => rw [ht] at h; cases h
  | some i =>
    rw [ht] at h
    simp only at h
    split at h
    · rename_i k e hd
      split at h
      · rename_i ik ls ie h1 h2 h3
        cases hc : coversB ik.size ls with
        | false => rw [hc] at h; cases h
        | true =>
          rw [hc] at h; cases h
          exact ⟨i, k, e, rfl, hd, h1, h2, h3, hc⟩
      · cases h
    · cases h

theorem eqLeaf_bad (l : Leaf) (y : AV) : eqLeaf l .bad y = none := by
  unfold eqLeaf
  cases l <;> cases y <;> rfl

theorem keyOk_nb {whole : Bool} {n : Nat} {ls : List (Nat × Leaf)} {k : AV} (h : keyOk whole n ls k = true) (hne : ls ≠ [] ∨ whole = true) : notBad k = true := by
  unfold keyOk at h
  split at h
  · rename_i be hbe
    cases whole with
    | true => obtain ⟨xs, ys, rfl, _⟩ := eqV_agg hbe; rfl
    | false =>
      have hc := eqV_one hbe
      cases ls with
      | nil => rcases hne with h | h
               · exact absurd rfl h
               · cases h
      | cons q ls =>
        obtain ⟨x, y, c, hx, hy, hl, _, _⟩ := eqCells_step hc (⟨fun _ => 0, fun _ => false, fun _ _ _ _ => 0, fun _ _ _ _ => false, fun _ => undef⟩ : Rho)
        have : x = k := by
          cases hq : q.1 with
          | zero => rw [hq] at hx; simpa using hx.symm
          | succ m => rw [hq] at hx; simp at hx
        subst this
        have : y = x := by
          cases hq : q.1 with
          | zero => rw [hq] at hy; simpa using hy.symm
          | succ m => rw [hq] at hy; simp at hy
        subst this
        cases y <;> first | rfl | (rw [eqLeaf_bad] at hl; cases hl)
  · cases h

theorem leaves_ne {ty : Nat → Option TI} {t : Nat} {i : TI} (ht : ty t = some i) {ls : List (Nat × Leaf)} (h : leaves ty 12 t 0 = some ls) : ls ≠ [] ∨ i.isAgg = true := by
  simp only [leaves, ht] at h
  split at h
  · cases h; exact .inl (by simp)
  · cases h; exact .inl (by simp)
  · cases h; exact .inl (by simp)
  · cases h; exact .inl (by simp)
  · cases h; exact .inl (by simp)
  · cases h; exact .inl (by simp)
  · rename_i fs hd; exact .inr (by unfold TI.isAgg; rw [hd])
  · rename_i n e hd; exact .inr (by unfold TI.isAgg; rw [hd])
  · cases h

theorem entries_some {p : Par} {E : Env} {h : Heap} {w0 : Base} {w : World} (H : HeapOk p E h w0 w) {x : AV} {es : List (AV × AV × Nat)} (he : h.entries x = some es) {v : Value} (hv : conc E x = some v) :
    ∃ ms, concE E es ms ∧ ((v = .map none ∧ ms = []) ∨ ∃ c clock, v = .map (some c) ∧ w.heap[c]? = some (.map ms.toArray clock)) := by
  unfold Heap.entries at he
  split at he
  · cases he
    simp only [conc, Option.some.injEq] at hv
    subst hv
    exact ⟨[], trivial, .inl ⟨rfl, rfl⟩⟩
  · rename_i b
    split at he
    · rename_i es' clock hg
      cases he
      obtain ⟨q, hq, rfl⟩ := map_conc hv
      obtain ⟨ms, h0, hms, hheap⟩ := H.mapAt hg hq
      exact ⟨ms, hms, .inr ⟨q.1, clock, rfl, hheap⟩⟩
    · rename_i es' clock hg
      cases he
      obtain ⟨q, hq, rfl⟩ := map_conc hv
      obtain ⟨ms, h0, hms, hheap⟩ := H.rmapAt hg hq
      exact ⟨ms, hms, .inr ⟨q.1, clock, rfl, hheap⟩⟩
    · cases he
  · cases he

theorem entries_nb {h : Heap} {x : AV} {es : List (AV × AV × Nat)} (he : h.entries x = some es) : notBad x = true := by
  unfold Heap.entries at he
  split at he
  · rfl
  · rfl
  · cases he

theorem run_lookup {P : Program} {w : World} {t kt e : Nat} (hu : P.underlying t = some (.map kt e)) {mv kv zv : Value} {ms : List MapEntry} (hm : (mv = .map none ∧ ms = []) ∨ ∃ c clock, mv = .map (some c) ∧ w.heap[c]? = some (.map ms.toArray clock))
    (hck : ∀ em, (Instr.checkKey em 10000 kt kv).run P w = .ok () w) {r' : Option (Nat × Value)} (hf : (Instr.findKey kt kv ms).run P w = .ok r' w) (hz : (zeroValue e).run P w = .ok zv w) (ok : Bool) :
    (Instr.lookup t mv kv ok).run P w = .ok (match r' with | some q => (if ok then .tuple #[q.2, .bool true] else q.2) | none => (if ok then .tuple #[zv, .bool false] else zv)) w := by
  rcases hm with ⟨rfl, rfl⟩ | ⟨c, clock, rfl, hheap⟩
  · unfold Instr.lookup
    have hf' : (Instr.findKey kt kv (#[] : Array MapEntry).toList).run P w = .ok r' w := hf
    simp only [Sem.run_bind, run_underlying hu, Result.andThen_ok, pure, Sem.run, hck, hf']
    cases r' with
    | none => simp only [Sem.run_bind, hz, Result.andThen_ok]; rfl
    | some q => rfl
  · unfold Instr.lookup
    have hf' : (Instr.findKey kt kv ms.toArray.toList).run P w = .ok r' w := by simpa using hf
    simp only [Sem.run_bind, run_underlying hu, Result.andThen_ok, run_getObj hheap (by simp), pure, Sem.run, hck, hf']
    cases r' with
    | none => simp only [Sem.run_bind, hz, Result.andThen_ok]; rfl
    | some q => rfl

theorem lookup_ok {p : Par} {ty : Nat → Option TI} (T : TyOk p.P ty) {t : Nat} {q : TI × List (Nat × Leaf) × TI} (hq : cMap ty t = some q) {z : AV} (hz : q.2.2.zero = some z) {ok : Bool} {x1 x2 : Operand} {y1 y2 : Opd}
    (h1 : cOpd x1 = some y1) (h2 : cOpd x2 = some y2) {o : Oper} (ho : o.op = .lookup t x1 x2 ok) : InsOk p (iLookup z q.1.isAgg q.1.size q.2.1 ok y1 y2) o := by
  intro cx n keep E w0 tm h a w Q K _ HT HH k P
  obtain ⟨r, hr, qq⟩ := holds_mk2 k
  have hex : execOp a.eval o = (do let x ← Instr.lookup t (a.eval x1) (a.eval x2) ok; pure (Next.value x)) := by unfold execOp; rw [ho]
  rw [hex]
  obtain ⟨i, kt, e, ht, hd, hk, hl, he, _⟩ := cMap_some hq
  have hu := T.und t i ht
  rw [hd] at hu
  unfold alookup at hr
  cases hko : keyOk q.1.isAgg q.1.size q.2.1 (ev tm y2) with
  | false => rw [hko] at hr; cases hr
  | true =>
    rw [hko, cond_true] at hr
    have hkv := opd_some HT h2 (keyOk_nb hko (leaves_ne hk hl)) HH.glob
    split at hr
    · rename_i es hes
      have hxv := opd_some HT h1 (entries_nb hes) HH.glob
      obtain ⟨ms, hms, hcase⟩ := entries_some HH hes hxv
      have hck := fun em => key_check T w em hk hl hko hkv
      obtain ⟨zv, hzv, hzrun⟩ := run_zero T he hz E w
      split at hr
      · rename_i pr hf
        cases hr
        obtain ⟨r', hfa, hrun⟩ := findKey_ok T w hk hl hkv hms hf
        cases r' with
        | none => exact hfa.elim
        | some pv =>
          refine does_value (run_lookup hu hcase hck hrun hzrun ok) (P.same HH qq ?_)
          cases ok with
          | true => simp [conc, concL, hfa.2, BE.den]
          | false => simpa using hfa.2
      · rename_i hf
        cases hr
        obtain ⟨r', hfa, hrun⟩ := findKey_ok T w hk hl hkv hms hf
        cases r' with
        | some pv => exact hfa.elim
        | none =>
          refine does_value (run_lookup hu hcase hck hrun hzrun ok) (P.same HH qq ?_)
          cases ok with
          | true => simp [conc, concL, hzv, BE.den]
          | false => simpa using hzv
      · cases hr
    · cases hr

/-! ## A store -/
theorem eqLeaf_true {l : Leaf} (hk : keyLeaf l = true) {x y : AV} (h : eqLeaf l x y = some (.lit true)) {E : Env} {u v : Value} (hx : conc E x = some u) (hy : conc E y = some v) : u = v ∧ Instr.sameBits 9999 u u = true ∧ ∀ n, Instr.sameBits n u u = true := by
  unfold eqLeaf at h
  cases l <;> first | (cases hk; done) | skip
  · simp only at h
    split at h
    · rename_i j a j' b
      cases hkk : kindEq j j' with
      | false => rw [hkk] at h; cases h
      | true =>
        have := kindEq_eq hkk
        subst this
        rw [hkk, cond_true] at h
        simp only [conc, Option.some.injEq] at hx hy
        subst hx; subst hy
        obtain ⟨_, hd⟩ := mkCmp_den (ρ := E.ρ) h
        simp only [BE.den, cmpDen] at hd
        have he : a.den E.ρ = b.den E.ρ := by simpa using hd.symm
        rw [he]
        exact ⟨rfl, by simp [Instr.sameBits], fun n => by simp [Instr.sameBits]⟩
    · cases h
  · simp only at h
    split at h
    · rename_i a b
      simp only [conc, Option.some.injEq] at hx hy
      subst hx; subst hy
      have hd := congrArg (Option.map (BE.den E.ρ)) h
      simp only [Option.map_some, mkIff_den, BE.den, Option.some.injEq] at hd
      have he : a.den E.ρ = b.den E.ρ := by simpa using hd
      rw [he]
      exact ⟨rfl, by simp [Instr.sameBits], fun n => by simp [Instr.sameBits]⟩
    · cases h
  · simp only at h
    split at h
    · simp only [conc, Option.some.injEq] at hx hy
      subst hx; subst hy
      exact ⟨rfl, by simp [Instr.sameBits], fun n => by simp [Instr.sameBits]⟩
    · cases h
    · cases h
    · cases h

theorem eqCells_true {xs ys : List AV} {ls : List (Nat × Leaf)} (h : eqCells xs ys ls = some (.lit true)) {q : Nat × Leaf} (hq : q ∈ ls) : ∃ x y, xs[q.1]? = some x ∧ ys[q.1]? = some y ∧ eqLeaf q.2 x y = some (.lit true) := by
  induction ls with
  | nil => cases hq
  | cons p ls ih =>
    rw [eqCells_cons] at h
    simp only [listGet_eq] at h
    split at h
    · rename_i x y hx hy
      split at h
      · rename_i c hc
        cases c with
        | false => cases h
        | true =>
          rcases List.mem_cons.1 hq with rfl | hq
          · exact ⟨x, y, hx, hy, hc⟩
          · exact ih h hq
      · split at h <;> cases h
      · cases h
    · cases h

theorem coversB_some {n : Nat} {ls : List (Nat × Leaf)} (h : coversB n ls = true) : ls.length = n ∧ (∀ q ∈ ls, keyLeaf q.2 = true) ∧ ∀ k, k < n → ∃ l, (k, l) ∈ ls := by
  unfold coversB at h
  obtain ⟨c1, c2⟩ := Bool.and_eq_true_iff.1 h
  obtain ⟨c2, c3⟩ := Bool.and_eq_true_iff.1 c2
  refine ⟨beq_t.1 c2, fun q hq => List.all_eq_true.1 c1 q hq, fun k hk => ?_⟩
  have := List.all_eq_true.1 c3 k (by simpa using hk)
  split at this
  · rename_i p hp
    rw [listGet_eq] at hp
    have := beq_t.1 this
    subst this
    exact ⟨p.2, List.mem_of_getElem? hp⟩
  · cases this

theorem same_key {ty : Nat → Option TI} {t : Nat} {i : TI} (ht : ty t = some i) {ls : List (Nat × Leaf)} (hl : leaves ty 12 t 0 = some ls) (hc : coversB i.size ls = true) {x y : AV} (h : eqV i.isAgg i.size ls x y = some (.lit true)) {E : Env} {u v : Value}
    (hx : conc E x = some u) (hy : conc E y = some v) : Instr.sameBits 10000 v u = true ∧ u = v := by
  obtain ⟨c1, c2, c3⟩ := coversB_some hc
  cases hagg : i.isAgg with
  | true =>
    rw [hagg] at h
    obtain ⟨xs, ys, rfl, rfl, l1, l2, he⟩ := eqV_agg h
    obtain ⟨vs, hvs, rfl⟩ := agg_conc hx
    obtain ⟨us, hus, rfl⟩ := agg_conc hy
    have n1 := concL_len hvs
    have n2 := concL_len hus
    have each : ∀ k, k < i.size → ∃ a, vs[k]? = some a ∧ us[k]? = some a ∧ Instr.sameBits 9999 a a = true := by
      intro k hk
      obtain ⟨l, hm⟩ := c3 k hk
      obtain ⟨x, y, hx', hy', hle⟩ := eqCells_true he hm
      obtain ⟨a, ha1, ha2⟩ := concL_get hvs hx'
      obtain ⟨b, hb1, hb2⟩ := concL_get hus hy'
      obtain ⟨rfl, hs, _⟩ := eqLeaf_true (c2 _ hm) hle ha1 hb1
      exact ⟨a, ha2, hb2, hs⟩
    have heq : vs = us := by
      apply List.ext_getElem?
      intro k
      by_cases hk : k < i.size
      · obtain ⟨a, h1, h2, _⟩ := each k hk
        rw [h1, h2]
      · rw [List.getElem?_eq_none (by omega), List.getElem?_eq_none (by omega)]
    subst heq
    refine ⟨?_, rfl⟩
    rw [show (10000 : Nat) = 9999 + 1 from rfl]
    have hall : (vs.zip vs).all (fun q => Instr.sameBits 9999 q.1 q.2) = true := by
      rw [List.all_eq_true]
      intro q hq
      obtain ⟨k, hk⟩ := List.mem_iff_getElem?.1 hq
      rw [List.getElem?_zip_eq_some] at hk
      have hlt : k < vs.length := (List.getElem?_eq_some_iff.1 hk.1).1
      obtain ⟨a, h1, _, h3⟩ := each k (by omega)
      rw [h1] at hk
      obtain ⟨e1, e2⟩ := hk
      cases e1
      have e2' := Option.some.inj e2
      rw [← e2']
      exact h3
    simp only [Instr.sameBits]
    simpa using hall
  | false =>
    rw [hagg] at h
    have he := eqV_one h
    have hmem : ∃ q, q ∈ ls := by
      cases ls with
      | nil => rcases leaves_ne ht hl with h | h
               · exact absurd rfl h
               · rw [hagg] at h; cases h
      | cons q ls => exact ⟨q, by simp⟩
    obtain ⟨q, hq⟩ := hmem
    obtain ⟨x', y', hx', hy', hle⟩ := eqCells_true he hq
    have e1 : x' = x := by
      cases hz : q.1 with
      | zero => rw [hz] at hx'; simpa using hx'.symm
      | succ m => rw [hz] at hx'; simp at hx'
    have e2 : y' = y := by
      cases hz : q.1 with
      | zero => rw [hz] at hy'; simpa using hy'.symm
      | succ m => rw [hz] at hy'; simp at hy'
    subst e1; subst e2
    obtain ⟨rfl, _, hs⟩ := eqLeaf_true (c2 _ hq) hle hx hy
    exact ⟨hs _, rfl⟩

end Go.Sx
