/- EQUALITY AS AN OPERATION; MAPS. -/
import Derived.Test.YtegeacnehkpinaaDoorSxEq
/-! EQUALITY AS AN OPERATION; MAPS. -/
namespace Go.Sx
open Go.RowKit

def EqPlain (u v : Value) : Prop :=
  (∀ t x y, eqGuard .eql t x y u v = pure () ∧ eqGuard .neq t x y u v = pure ()) ∧
  (∀ t, binOp .eql t u v = (do let b ← Op.equal t u v; pure (.bool b)) ∧ binOp .neq t u v = (do let b ← Op.equal t u v; pure (.bool !b)))

theorem eqLeaf_plain {l : Leaf} {x y : AV} {be : BE} (h : eqLeaf l x y = some be) (hl : l ≠ .int) {E : Env} {u v : Value} (hx : conc E x = some u) (hy : conc E y = some v) : EqPlain u v := by
  unfold eqLeaf at h
  split at h
  · exact absurd rfl hl
  · split at h
    · simp only [conc, Option.some.injEq] at hx hy; subst hx; subst hy; exact ⟨fun _ _ _ => ⟨rfl, rfl⟩, fun _ => ⟨rfl, rfl⟩⟩
    · cases h
  · split at h
    · simp only [conc, Option.some.injEq] at hx hy; subst hx; subst hy; exact ⟨fun _ _ _ => ⟨rfl, rfl⟩, fun _ => ⟨rfl, rfl⟩⟩
    · obtain ⟨q, _, rfl⟩ := slice_conc hy; simp only [conc, Option.some.injEq] at hx; subst hx; exact ⟨fun _ _ _ => ⟨rfl, rfl⟩, fun _ => ⟨rfl, rfl⟩⟩
    · obtain ⟨q, _, _, rfl⟩ := sliceX_conc hy; simp only [conc, Option.some.injEq] at hx; subst hx; exact ⟨fun _ _ _ => ⟨rfl, rfl⟩, fun _ => ⟨rfl, rfl⟩⟩
    · obtain ⟨q, _, rfl⟩ := slice_conc hx; simp only [conc, Option.some.injEq] at hy; subst hy; exact ⟨fun _ _ _ => ⟨rfl, rfl⟩, fun _ => ⟨rfl, rfl⟩⟩
    · obtain ⟨q, _, _, rfl⟩ := sliceX_conc hx; simp only [conc, Option.some.injEq] at hy; subst hy; exact ⟨fun _ _ _ => ⟨rfl, rfl⟩, fun _ => ⟨rfl, rfl⟩⟩
    · cases h
  · split at h
    · simp only [conc, Option.some.injEq] at hx hy; subst hx; subst hy; exact ⟨fun _ _ _ => ⟨rfl, rfl⟩, fun _ => ⟨rfl, rfl⟩⟩
    · obtain ⟨q, _, rfl⟩ := map_conc hy; simp only [conc, Option.some.injEq] at hx; subst hx; exact ⟨fun _ _ _ => ⟨rfl, rfl⟩, fun _ => ⟨rfl, rfl⟩⟩
    · obtain ⟨q, _, rfl⟩ := map_conc hx; simp only [conc, Option.some.injEq] at hy; subst hy; exact ⟨fun _ _ _ => ⟨rfl, rfl⟩, fun _ => ⟨rfl, rfl⟩⟩
    · cases h
  · split at h
    · simp only [conc, Option.some.injEq] at hx hy; subst hx; subst hy; exact ⟨fun _ _ _ => ⟨rfl, rfl⟩, fun _ => ⟨rfl, rfl⟩⟩
    · obtain ⟨q, _, rfl⟩ := ptr_conc hy; simp only [conc, Option.some.injEq] at hx; subst hx; exact ⟨fun _ _ _ => ⟨rfl, rfl⟩, fun _ => ⟨rfl, rfl⟩⟩
    · obtain ⟨q, _, rfl⟩ := ptr_conc hx; simp only [conc, Option.some.injEq] at hy; subst hy; exact ⟨fun _ _ _ => ⟨rfl, rfl⟩, fun _ => ⟨rfl, rfl⟩⟩
    · cases h
  · split at h
    · simp only [conc, Option.some.injEq] at hx hy; subst hx; subst hy; exact ⟨fun _ _ _ => ⟨rfl, rfl⟩, fun _ => ⟨rfl, rfl⟩⟩
    · obtain ⟨_, _, _, rfl⟩ := func_conc hy; simp only [conc, Option.some.injEq] at hx; subst hx; exact ⟨fun _ _ _ => ⟨rfl, rfl⟩, fun _ => ⟨rfl, rfl⟩⟩
    · obtain ⟨_, _, _, rfl⟩ := func_conc hx; simp only [conc, Option.some.injEq] at hy; subst hy; exact ⟨fun _ _ _ => ⟨rfl, rfl⟩, fun _ => ⟨rfl, rfl⟩⟩
    · obtain ⟨_, _, rfl⟩ := yield_conc hy; simp only [conc, Option.some.injEq] at hx; subst hx; exact ⟨fun _ _ _ => ⟨rfl, rfl⟩, fun _ => ⟨rfl, rfl⟩⟩
    · obtain ⟨_, _, rfl⟩ := yield_conc hx; simp only [conc, Option.some.injEq] at hy; subst hy; exact ⟨fun _ _ _ => ⟨rfl, rfl⟩, fun _ => ⟨rfl, rfl⟩⟩
    · cases h

theorem leaves_one {ty : Nat → Option TI} {t : Nat} {i : TI} (ht : ty t = some i) {ls : List (Nat × Leaf)} (h : leaves ty 12 t 0 = some ls) (ha : i.isAgg = false) (hi : isInt i = false) : ∃ l, ls = [(0, l)] ∧ l ≠ .int := by
  simp only [leaves, ht] at h
  unfold TI.isAgg at ha
  unfold isInt at hi
  split at h
  · exact ⟨_, (Option.some.inj h).symm, by simp⟩
  · rename_i k hd; rw [hd] at hi; cases hi
  · exact ⟨_, (Option.some.inj h).symm, by simp⟩
  · exact ⟨_, (Option.some.inj h).symm, by simp⟩
  · exact ⟨_, (Option.some.inj h).symm, by simp⟩
  · exact ⟨_, (Option.some.inj h).symm, by simp⟩
  · rename_i fs hd; rw [hd] at ha; cases ha
  · rename_i n e hd; rw [hd] at ha; cases ha
  · cases h

theorem leaves_eqOk {ty : Nat → Option TI} {t : Nat} {i : TI} (ht : ty t = some i) {ls : List (Nat × Leaf)} (h : leaves ty 12 t 0 = some ls) (ha : i.isAgg = true) : i.eqOk = true := by
  simp only [leaves, ht] at h
  unfold TI.isAgg at ha
  split at h
  · rename_i hd; rw [hd] at ha; cases ha
  · rename_i k hd; rw [hd] at ha; cases ha
  · rename_i k hd; rw [hd] at ha; cases ha
  · rename_i k e hd; rw [hd] at ha; cases ha
  · rename_i k hd; rw [hd] at ha; cases ha
  · rename_i k1 k2 k3 hd; rw [hd] at ha; cases ha
  · cases hok : i.eqOk with
    | true => rfl
    | false => rw [hok] at h; cases h
  · cases hok : i.eqOk with
    | true => rfl
    | false => rw [hok] at h; cases h
  · cases h

theorem eq_ok {p : Par} {ty : Nat → Option TI} (T : TyOk p.P ty) {t t' : Nat} {i : TI} (ht : ty t = some i) (hi : isInt i = false) {ls : List (Nat × Leaf)} (hl : leaves ty 12 t 0 = some ls) {ng : Bool} {x1 x2 : Operand} {y1 y2 : Opd}
    (h1 : cOpd x1 = some y1) (h2 : cOpd x2 = some y2) {o : Oper} (ho : o.op = .binOp (if ng then .neq else .eql) t x1 x2 t') : InsOk p (iEq ng i.isAgg i.size ls y1 y2) o := by
  intro cx n keep E w0 tm h a w Q K _ HT HH k P
  obtain ⟨r, hr, q⟩ := holds_mk2 k
  have hex : execOp a.eval o = (do let x ← (do eqGuard (if ng then .neq else .eql) t x1 x2 (a.eval x1) (a.eval x2); binOp (if ng then .neq else .eql) t (a.eval x1) (a.eval x2)); pure (Next.value x)) := by unfold execOp; rw [ho]
  rw [hex]
  unfold aeq at hr
  split at hr
  · rename_i be hbe
    cases hr
    have main : ∀ {u v : Value}, conc E (ev tm y1) = some u → conc E (ev tm y2) = some v →
        (((eqGuard (if ng then .neq else .eql) t x1 x2 u v).run p.P w = .ok () w) ∧ binOp (if ng then .neq else .eql) t u v = (do let b ← Op.equal t u v; pure (.bool (if ng then !b else b)))) →
        Does p.P ((do let x ← (do eqGuard (if ng then .neq else .eql) t x1 x2 (a.eval x1) (a.eval x2); binOp (if ng then .neq else .eql) t (a.eval x1) (a.eval x2)); pure (Next.value x) : Sem Next).run p.P w) K := by
      intro u v hu hv ⟨g1, g2⟩
      rw [opd_ok HT h1 hu HH.glob, opd_ok HT h2 hv HH.glob]
      have heq := eqV_ok T w ht hl hbe hu hv
      refine does_value (v := .bool (if ng then !(be.den E.ρ) else be.den E.ρ)) (w' := w) ?_ (P.same HH q ?_)
      · simp only [Sem.run_bind, g1, Result.andThen_ok, g2, heq]
        rfl
      · cases ng
        · rfl
        · simp [conc, mkNot_den]
    cases hagg : i.isAgg with
    | true =>
      have hbe' := hbe
      unfold eqV at hbe'
      rw [hagg, cond_true] at hbe'
      split at hbe'
      · rename_i xs ys e1 e2
        have hb1 := opd_some HT h1 (by rw [e1]; rfl) HH.glob
        have hb2 := opd_some HT h2 (by rw [e2]; rfl) HH.glob
        have hb1' := hb1
        have hb2' := hb2
        rw [e1] at hb1'
        rw [e2] at hb2'
        obtain ⟨vs, hvs, ev1⟩ := agg_conc hb1'
        obtain ⟨us, hus, ev2⟩ := agg_conc hb2'
        refine main hb1 hb2 ?_
        rw [ev1, ev2]
        have hg := (T.eqOk t i ht (leaves_eqOk ht hl hagg)).2
        refine ⟨?_, ?_⟩
        · exact run_eqGuard_agg w _ t x1 x2 _ _ hg
        · cases ng <;> rfl
      · cases hbe'
    | false =>
      obtain ⟨l, rfl, hne⟩ := leaves_one ht hl hagg hi
      have hbe' := hbe
      unfold eqV at hbe'
      rw [hagg, cond_false] at hbe'
      have hxy : eqCells [ev tm y1] [ev tm y2] [(0, l)] = some be := by
        revert hbe'
        split
        · intro h; cases h
        · intro h; cases h
        · exact fun h => h
      obtain ⟨x, y, c, hx', hy', hc, _, _⟩ := eqCells_step hxy E.ρ
      simp only [List.getElem?_cons_zero, Option.some.injEq] at hx' hy'
      subst hx'; subst hy'
      have nb : notBad (ev tm y1) = true ∧ notBad (ev tm y2) = true := by
        unfold eqLeaf at hc
        constructor
        · cases hz : ev tm y1 <;> first | rfl | (rw [hz] at hc; cases l <;> simp at hc)
        · cases hz : ev tm y2 <;> first | rfl | (rw [hz] at hc; cases l <;> cases ev tm y1 <;> simp at hc)
      have hu := opd_some HT h1 nb.1 HH.glob
      have hv := opd_some HT h2 nb.2 HH.glob
      have hpl := eqLeaf_plain hc hne hu hv
      refine main hu hv ⟨?_, ?_⟩
      · cases ng
        · rw [if_neg (by simp), (hpl.1 t x1 x2).1]; rfl
        · rw [if_pos rfl, (hpl.1 t x1 x2).2]; rfl
      · cases ng
        · exact (hpl.2 t).1
        · exact (hpl.2 t).2
  · cases hr

/-! ## Keys -/
theorem mkCmp_self {a : IE} {c : BE} (h : mkCmp .eql a a = some c) (ρ : Rho) : c.den ρ = true := by
  obtain ⟨_, hd⟩ := mkCmp_den (ρ := ρ) h
  rw [hd]; simp [cmpDen]

theorem eqLeaf_self {l : Leaf} {x : AV} {c : BE} (h : eqLeaf l x x = some c) (ρ : Rho) : c.den ρ = true := by
  unfold eqLeaf at h
  cases l <;> cases x <;> simp only at h <;> first | (cases h; done) | skip
  · rename_i k e
    cases hk : kindEq k k with
    | false => rw [hk] at h; cases h
    | true => rw [hk, cond_true] at h; exact mkCmp_self h ρ
  · cases h; rw [mkIff_den]; simp
  all_goals (cases h; rfl)

def CheckOk (P : Program) (em : Bool) (D : Nat) (t : Nat) (u : Value) (w : World) : Prop := (Instr.checkKey em D t u).run P w = .ok () w

theorem run_check_struct {P : Program} (w : World) (em : Bool) (D t : Nat) (cs : Array Value) (fs : Array Field) (hu : P.underlying t = some (.struct fs)) :
    (∀ f ∈ fs.toList, f.name ≠ "_" → ∃ u, (part f.type cs f.offset).run P w = .ok u w ∧ CheckOk P em D f.type u w) → CheckOk P em (D + 1) t (.agg cs) w := by
  intro h
  unfold CheckOk Instr.checkKey
  simp only [Sem.run_bind, run_underlying hu, Result.andThen_ok]
  rw [← Array.forIn_toList]
  generalize fs.toList = l at h
  have : (Sem.run P (forIn l PUnit.unit fun f _ => do
      if f.name ≠ "_" then do
        let x ← part f.type cs f.offset
        Instr.checkKey em D f.type x
        pure (ForInStep.yield PUnit.unit)
      else pure (ForInStep.yield PUnit.unit)) w) = .ok PUnit.unit w := by
    induction l with
    | nil => rfl
    | cons f l ih =>
      simp only [List.forIn_cons, Sem.run_bind, Sem.run_ite]
      have ih' := ih (fun g hg => h g (by simp [hg]))
      split
      · rename_i hn
        obtain ⟨u, h1, h2⟩ := h f (by simp) hn
        unfold CheckOk at h2
        simp only [h1, h2, Result.andThen_ok, Sem.run_pure]
        exact ih'
      · simp only [Sem.run_pure, Result.andThen_ok]
        exact ih'
  rw [this]
  rfl

theorem run_check_array {P : Program} (w : World) (em : Bool) (D t e len n : Nat) (cs : Array Value) (hu : P.underlying t = some (.array len e)) (hn : ∀ w, (sizeOf e).run P w = .ok n w) :
    (∀ k, k < len → ∃ u, (part e cs (k * n)).run P w = .ok u w ∧ CheckOk P em D e u w) → CheckOk P em (D + 1) t (.agg cs) w := by
  intro h
  unfold CheckOk Instr.checkKey
  simp only [Sem.run_bind, run_underlying hu, Result.andThen_ok]
  rw [Std.Legacy.Range.forIn_eq_forIn_range']
  have hs : (Std.Legacy.Range.size { stop := len, step_pos := Nat.zero_lt_one : Std.Legacy.Range }) = len := by simp [Std.Legacy.Range.size]
  rw [hs]
  have h' : ∀ k ∈ List.range' 0 len 1, ∃ u, (part e cs (k * n)).run P w = .ok u w ∧ CheckOk P em D e u w := fun k hk => h k (by simp at hk; omega)
  have : (Sem.run P (forIn (List.range' 0 len 1) PUnit.unit fun i _ => do
      let s ← sizeOf e
      let x ← part e cs (i * s)
      Instr.checkKey em D e x
      pure (ForInStep.yield PUnit.unit)) w) = .ok PUnit.unit w := by
    revert h'
    generalize List.range' 0 len 1 = l
    intro h'
    induction l with
    | nil => rfl
    | cons k l ih =>
      obtain ⟨u, h1, h2⟩ := h' k (by simp)
      unfold CheckOk at h2
      simp only [List.forIn_cons, Sem.run_bind, hn, h1, h2, Result.andThen_ok, Sem.run_pure]
      exact ih (fun g hg => h' g (by simp [hg]))
  refine Eq.trans (b := (Result.ok PUnit.unit w).andThen fun _ w' => Sem.run P (pure ()) w') ?_ rfl
  rw [← this]

theorem check_leaf {P : Program} {t : Nat} {d : TypeDesc} (hu : P.underlying t = some d) {l : Leaf} (hl : LeafOf d l) (u : Value) (em : Bool) (D : Nat) (w : World) : CheckOk P em (D + 1) t u w := by
  unfold CheckOk Instr.checkKey
  simp only [Sem.run_bind, run_underlying hu, Result.andThen_ok]
  cases l
  · obtain ⟨k, rfl⟩ := hl; cases u <;> rfl
  · have : d = .bool := hl
    subst this; cases u <;> rfl
  · obtain ⟨e, rfl⟩ := hl; cases u <;> rfl
  · obtain ⟨k, e, rfl⟩ := hl; cases u <;> rfl
  · obtain ⟨e, rfl⟩ := hl; cases u <;> rfl
  · obtain ⟨_, _, _, rfl⟩ := hl; cases u <;> rfl

theorem check_leaves {P : Program} {ty : Nat → Option TI} (T : TyOk P ty) (w : World) (em : Bool) {E : Env} {xs : List AV} {vs : List Value} (hx : concL E xs = some vs) :
    ∀ (d t off : Nat) (ls : List (Nat × Leaf)) (i : TI), leaves ty d t off = some ls → ty t = some i → ∀ (D : Nat), d ≤ D → ∀ (rest : List (Nat × Leaf)) (be : BE), eqCells xs xs (ls ++ rest) = some be →
      ∃ u, PartAt i vs off u ∧ CheckOk P em D t u w ∧ ∃ e, eqCells xs xs rest = some e := by
  intro d
  induction d with
  | zero => intro t off ls i h; cases h
  | succ d ih =>
    intro t off ls i h ht D hD rest be he
    obtain ⟨D, rfl⟩ : ∃ D', D = D' + 1 := ⟨D - 1, by omega⟩
    have hu := T.und t i ht
    simp only [leaves, ht] at h
    have leaf : ∀ l : Leaf, LeafOf i.desc l → i.isAgg = false → ls = [(off, l)] → ∃ u, PartAt i vs off u ∧ CheckOk P em (D + 1) t u w ∧ ∃ e, eqCells xs xs rest = some e := by
      intro l hl hagg e
      subst e
      obtain ⟨x, y, c, hx', hy', hc, hf, htt⟩ := eqCells_step he E.ρ
      rw [hx'] at hy'
      cases hy'
      obtain ⟨u, hu1, hu2⟩ := concL_get hx hx'
      obtain ⟨e', he', _⟩ := htt (eqLeaf_self hc E.ρ)
      exact ⟨u, by unfold PartAt; rw [hagg, if_neg (by simp)]; exact hu2, check_leaf hu hl u em D w, e', he'⟩
    split at h
    · rename_i hd; exact leaf .bool hd (by unfold TI.isAgg; rw [hd]) (Option.some.inj h).symm
    · rename_i k hd; exact leaf .int ⟨k, hd⟩ (by unfold TI.isAgg; rw [hd]) (Option.some.inj h).symm
    · rename_i e hd; exact leaf .nilS ⟨e, hd⟩ (by unfold TI.isAgg; rw [hd]) (Option.some.inj h).symm
    · rename_i k e hd; exact leaf .nilM ⟨k, e, hd⟩ (by unfold TI.isAgg; rw [hd]) (Option.some.inj h).symm
    · rename_i e hd; exact leaf .nilP ⟨e, hd⟩ (by unfold TI.isAgg; rw [hd]) (Option.some.inj h).symm
    · rename_i x1 x2 x3 hd; exact leaf .nilF ⟨x1, x2, x3, hd⟩ (by unfold TI.isAgg; rw [hd]) (Option.some.inj h).symm
    · rename_i fs hd
      have hagg : i.isAgg = true := by unfold TI.isAgg; rw [hd]
      cases hok : i.eqOk with
      | false => rw [hok] at h; cases h
      | true =>
        rw [hok, cond_true] at h
        rw [hd] at hu
        have key : ∀ (fl : List Field) (ls : List (Nat × Leaf)) (be : BE), leavesF ty (leaves ty d) off i.size fl = some ls → eqCells xs xs (ls ++ rest) = some be →
            (∀ f ∈ fl, f.name ≠ "_" → ∃ u, (part f.type ((vs.drop off).take i.size).toArray f.offset).run P w = .ok u w ∧ CheckOk P em D f.type u w) ∧ ∃ e, eqCells xs xs rest = some e := by
          intro fl
          induction fl with
          | nil =>
            intro ls be hl he
            simp only [leavesF, Option.some.injEq] at hl
            subst hl
            exact ⟨fun f hf => (by cases hf), be, he⟩
          | cons f fl ihf =>
            intro ls be hl he
            obtain ⟨j, a, b, hj, hname, h1, hle, ha, hb, rfl⟩ := leavesF_cons hl
            rw [List.append_assoc] at he
            obtain ⟨u, hpu, hck, e', he'⟩ := ih f.type (off + f.offset) a j ha hj D (by omega) (b ++ rest) be he
            obtain ⟨h2, h3⟩ := ihf b e' hb he'
            refine ⟨fun g hg hn => ?_, h3⟩
            rcases List.mem_cons.1 hg with rfl | hg
            · exact ⟨u, part_sub T hj hpu hle h1 w, hck⟩
            · exact h2 g hg hn
        obtain ⟨hp, he'⟩ := key fs.toList ls be h he
        exact ⟨_, by unfold PartAt; rw [if_pos hagg], run_check_struct w em D t _ fs hu hp, he'⟩
    · rename_i n e hd
      have hagg : i.isAgg = true := by unfold TI.isAgg; rw [hd]
      cases hok : i.eqOk with
      | false => rw [hok] at h; cases h
      | true =>
        rw [hok, cond_true] at h
        rw [hd] at hu
        cases hj : ty e with
        | none => rw [hj] at h; cases h
        | some j =>
          rw [hj] at h
          simp only at h
          cases hc : and (Nat.ble 1 j.size) (Nat.ble (n * j.size) i.size) with
          | false => rw [hc] at h; cases h
          | true =>
            rw [hc, cond_true] at h
            obtain ⟨c1, c2⟩ := Bool.and_eq_true_iff.1 hc
            have c1 := ble_t.1 c1
            have c2 := ble_t.1 c2
            have key : ∀ (m k : Nat) (ls : List (Nat × Leaf)) (be : BE), k + m = n → leavesA (leaves ty d e) j.size m (off + k * j.size) = some ls → eqCells xs xs (ls ++ rest) = some be →
                (∀ q, k ≤ q → q < n → ∃ u, (part e ((vs.drop off).take i.size).toArray (q * j.size)).run P w = .ok u w ∧ CheckOk P em D e u w) ∧ ∃ e, eqCells xs xs rest = some e := by
              intro m
              induction m with
              | zero =>
                intro k ls be hk hl he
                simp only [leavesA, Option.some.injEq] at hl
                subst hl
                exact ⟨fun q h1 h2 => absurd h2 (by omega), be, he⟩
              | succ m ihm =>
                intro k ls be hk hl he
                obtain ⟨a, b, ha, hb, rfl⟩ := leavesA_cons hl
                rw [List.append_assoc] at he
                obtain ⟨u, hpu, hck, e', he'⟩ := ih e (off + k * j.size) a j ha hj D (by omega) (b ++ rest) be he
                have hle : k * j.size + j.size ≤ i.size := by
                  have : (k + 1) * j.size ≤ n * j.size := Nat.mul_le_mul_right _ (by omega)
                  rw [Nat.succ_mul] at this
                  omega
                obtain ⟨h2, h3⟩ := ihm (k + 1) b e' (by omega) (by rw [Nat.succ_mul, ← Nat.add_assoc]; exact hb) he'
                refine ⟨fun q h4 h5 => ?_, h3⟩
                by_cases hq : q = k
                · subst hq; exact ⟨u, part_sub T hj hpu hle c1 w, hck⟩
                · exact h2 q (by omega) h5
            obtain ⟨hp, he'⟩ := key n 0 ls be (by omega) (by simpa using h) he
            exact ⟨_, by unfold PartAt; rw [if_pos hagg], run_check_array w em D t e n j.size _ hu (fun w => run_size T hj w) (fun k hk => hp k (by omega) hk), he'⟩
    · cases h

theorem eqV_agg {n : Nat} {ls : List (Nat × Leaf)} {x y : AV} {be : BE} (h : eqV true n ls x y = some be) : ∃ xs ys, x = .agg xs ∧ y = .agg ys ∧ xs.length = n ∧ ys.length = n ∧ eqCells xs ys ls = some be := by
  unfold eqV at h
  rw [cond_true] at h
  split at h
  · rename_i xs ys
    cases hb : and (Nat.beq (lLen xs) n) (Nat.beq (lLen ys) n) with
    | false => rw [hb] at h; cases h
    | true =>
      rw [hb, cond_true] at h
      obtain ⟨c1, c2⟩ := Bool.and_eq_true_iff.1 hb
      rw [lLen_eq] at c1 c2
      exact ⟨xs, ys, rfl, rfl, beq_t.1 c1, beq_t.1 c2, h⟩
  · cases h

theorem eqV_one {n : Nat} {ls : List (Nat × Leaf)} {x y : AV} {be : BE} (h : eqV false n ls x y = some be) : eqCells [x] [y] ls = some be := by
  unfold eqV at h
  rw [cond_false] at h
  revert h
  split
  · intro h; cases h
  · intro h; cases h
  · exact fun h => h

theorem key_check {P : Program} {ty : Nat → Option TI} (T : TyOk P ty) (w : World) (em : Bool) {E : Env} {t : Nat} {i : TI} (ht : ty t = some i) {ls : List (Nat × Leaf)} (hl : leaves ty 12 t 0 = some ls) {x : AV} (h : keyOk i.isAgg i.size ls x = true)
    {u : Value} (hx : conc E x = some u) : (Instr.checkKey em 10000 t u).run P w = .ok () w := by
  unfold keyOk at h
  split at h
  · rename_i be hbe
    cases hagg : i.isAgg with
    | true =>
      rw [hagg] at hbe
      obtain ⟨xs, ys, rfl, e2, l1, _, hc⟩ := eqV_agg hbe
      cases e2
      obtain ⟨vs, hvs, rfl⟩ := agg_conc hx
      rw [← List.append_nil ls] at hc
      obtain ⟨u', hp, hck, _⟩ := check_leaves T w em hvs 12 t 0 ls i hl ht 10000 (by decide) [] be hc
      unfold PartAt at hp
      rw [if_pos hagg, List.drop_zero, ← l1, ← concL_len hvs, List.take_length] at hp
      rw [← hp]
      exact hck
    | false =>
      rw [hagg] at hbe
      have hc := eqV_one hbe
      rw [← List.append_nil ls] at hc
      obtain ⟨u', hp, hck, _⟩ := check_leaves T w em (xs := [x]) (concL_cons.2 ⟨u, [], hx, rfl, rfl⟩) 12 t 0 ls i hl ht 10000 (by decide) [] be hc
      unfold PartAt at hp
      rw [hagg, if_neg (by simp)] at hp
      simp only [List.getElem?_cons_zero, Option.some.injEq] at hp
      subst hp
      exact hck
  · cases h

/-! ## Finding a key -/
theorem findKeyA_cons (whole : Bool) (n : Nat) (ls : List (Nat × Leaf)) (k : AV) (e : AV × AV × Nat) (es : List (AV × AV × Nat)) (i : Nat) : findKeyA whole n ls k (e :: es) i =
    (match eqV whole n ls k e.1 with
      | some (.lit c) => cond c (some (some (i, e.2.1))) (findKeyA whole n ls k es (Nat.succ i))
      | _ => none) := rfl

def FoundAs (E : Env) (r : Option (Nat × AV)) (r' : Option (Nat × Value)) : Prop :=
  match r, r' with
  | none, none => True
  | some p, some q => p.1 = q.1 ∧ conc E p.2 = some q.2
  | _, _ => False

theorem find_step {whole : Bool} {n : Nat} {ls : List (Nat × Leaf)} {k : AV} {e : AV × AV × Nat} {es : List (AV × AV × Nat)} {i : Nat} {r : Option (Nat × AV)} (h : findKeyA whole n ls k (e :: es) i = some r) :
    ∃ c, eqV whole n ls k e.1 = some (.lit c) ∧ ((c = true ∧ r = some (i, e.2.1)) ∨ (c = false ∧ findKeyA whole n ls k es (i + 1) = some r)) := by
  rw [findKeyA_cons] at h
  split at h
  · rename_i c hc
    refine ⟨c, hc, ?_⟩
    cases c with
    | true => exact .inl ⟨rfl, (Option.some.inj h).symm⟩
    | false => exact .inr ⟨rfl, h⟩
  · cases h

theorem findAsking_ok {P : Program} {ty : Nat → Option TI} (T : TyOk P ty) (w : World) {E : Env} {t : Nat} {ti : TI} (ht : ty t = some ti) {ls : List (Nat × Leaf)} (hl : leaves ty 12 t 0 = some ls) {k : AV} {kv : Value} (hk : conc E k = some kv) :
    ∀ (es : List (AV × AV × Nat)) (ms : List MapEntry) (i : Nat) (r : Option (Nat × AV)), concE E es ms → findKeyA ti.isAgg ti.size ls k es i = some r → ∃ r', FoundAs E r r' ∧ (Instr.findAsking t kv ms i).run P w = .ok r' w
  | [], [], i, r, _, h => by
    have : r = none := (Option.some.inj h).symm
    subst this
    exact ⟨none, trivial, rfl⟩
  | e :: es, m :: ms, i, r, ⟨h1, h2, h3, h4⟩, h => by
    obtain ⟨c, hc, hr⟩ := find_step h
    have heq := eqV_ok T w ht hl hc hk h1
    simp only [BE.den] at heq
    rcases hr with ⟨rfl, rfl⟩ | ⟨rfl, hr⟩
    · refine ⟨some (i, m.val), ⟨rfl, h2⟩, ?_⟩
      simp only [Instr.findAsking, Sem.run_bind, heq, Result.andThen_ok, if_true]
      rfl
    · obtain ⟨r', hf, hrun⟩ := findAsking_ok T w ht hl hk es ms (i + 1) r h4 hr
      refine ⟨r', hf, ?_⟩
      simp only [Instr.findAsking, Sem.run_bind, heq, Result.andThen_ok, Bool.false_eq_true, if_false]
      exact hrun

theorem sameNow_eq {P : Program} {t : Nat} {d : TypeDesc} (hu : P.underlying t = some d) {u v : Value} {b c : Bool} {w : World} (h : Instr.sameNow d u v = some b) (he : (Op.equal t u v).run P w = .ok c w) : b = c := by
  unfold Op.equal at he
  rw [show Op.maxDepth = 9999 + 1 from rfl] at he
  generalize (9999 : Nat) = D at he
  unfold Instr.sameNow at h
  split at h
  · rename_i k a k' b' 
    split at h
    · rename_i hk
      subst hk
      cases h
      simp only [Op.equalIn, Sem.run_bind, run_underlying hu, Result.andThen_ok, if_true, pure, Sem.run] at he
      cases he; rfl
    · cases h
  · cases h
    simp only [Op.equalIn, Sem.run_bind, run_underlying hu, Result.andThen_ok, pure, Sem.run] at he
    cases he; rfl
  · cases h
    simp only [Op.equalIn, Sem.run_bind, run_underlying hu, Result.andThen_ok, pure, Sem.run] at he
    cases he; rfl
  · cases h

theorem findNow_ok {P : Program} {ty : Nat → Option TI} (T : TyOk P ty) (w : World) {E : Env} {t : Nat} {ti : TI} (ht : ty t = some ti) {ls : List (Nat × Leaf)} (hl : leaves ty 12 t 0 = some ls) {k : AV} {kv : Value} (hk : conc E k = some kv) :
    ∀ (es : List (AV × AV × Nat)) (ms : List MapEntry) (i : Nat) (r : Option (Nat × AV)) (r' : Option (Nat × Value)), concE E es ms → findKeyA ti.isAgg ti.size ls k es i = some r → Instr.findNow ti.desc kv ms i = some r' → FoundAs E r r'
  | [], [], i, r, r', _, h, h' => by
    have : r = none := (Option.some.inj h).symm
    subst this
    have : r' = none := (Option.some.inj h').symm
    subst this
    trivial
  | e :: es, m :: ms, i, r, r', ⟨h1, h2, h3, h4⟩, h, h' => by
    obtain ⟨c, hc, hr⟩ := find_step h
    have heq := eqV_ok T w ht hl hc hk h1
    simp only [BE.den] at heq
    have hu := T.und t ti ht
    simp only [Instr.findNow] at h'
    split at h'
    · rename_i hs
      have := sameNow_eq hu hs heq
      subst this
      rcases hr with ⟨_, rfl⟩ | ⟨hf, _⟩
      · cases h'; exact ⟨rfl, h2⟩
      · cases hf
    · rename_i hs
      have := sameNow_eq hu hs heq
      subst this
      rcases hr with ⟨hf, _⟩ | ⟨_, hr⟩
      · cases hf
      · exact findNow_ok T w ht hl hk es ms (i + 1) r r' h4 hr h'
    · cases h'

theorem findKey_ok {P : Program} {ty : Nat → Option TI} (T : TyOk P ty) (w : World) {E : Env} {t : Nat} {ti : TI} (ht : ty t = some ti) {ls : List (Nat × Leaf)} (hl : leaves ty 12 t 0 = some ls) {k : AV} {kv : Value} (hk : conc E k = some kv)
    {es : List (AV × AV × Nat)} {ms : List MapEntry} {r : Option (Nat × AV)} (he : concE E es ms) (h : findKeyA ti.isAgg ti.size ls k es 0 = some r) : ∃ r', FoundAs E r r' ∧ (Instr.findKey t kv ms).run P w = .ok r' w := by
  unfold Instr.findKey
  simp only [Sem.run_bind, run_underlying (T.und t ti ht), Result.andThen_ok]
  cases hn : Instr.findNow ti.desc kv ms 0 with
  | some r' => exact ⟨r', findNow_ok T w ht hl hk es ms 0 r r' he h hn, rfl⟩
  | none => exact findAsking_ok T w ht hl hk es ms 0 r he h

end Go.Sx
