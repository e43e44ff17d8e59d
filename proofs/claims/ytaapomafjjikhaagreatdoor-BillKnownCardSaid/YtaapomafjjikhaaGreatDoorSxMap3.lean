/- MAPS: a store. -/
import Derived.Test.YtaapomafjjikhaaGreatDoorSxEq
/-! EQUALITY AS AN OPERATION; MAPS. -/
namespace Go.Sx
open Go.RowKit

def EqPlain (u v : Value) : Prop :=
  (∀ t x y, eqGuard .eql t x y u v = pure () ∧ eqGuard .neq t x y u v = pure ()) ∧
  (∀ t, binOp .eql t u v = (do let b ← Op.equal t u v; pure (.bool b)) ∧ binOp .neq t u v = (do let b ← Op.equal t u v; pure (.bool !b)))

theorem eqLeaf_plain {l : Leaf} {x y : AV} {be : BE} (h : eqLeaf l x y = some be) (hl : l ≠ .int) {E : Env} {u v : Value} (hx : conc E x = some u) (hy : conc E y = some v) : EqPlain u v := by
  unfold eqLeaf at h
  split at h
  · exact absurd rfl hl
  · split at h
    · simp only [conc, Option.some.injEq] at hx hy; subst hx; subst hy; exact ⟨fun _ _ _ => ⟨rfl, rfl⟩, fun _ => ⟨rfl, rfl⟩⟩
    · cases h
  · split at h
    · simp only [conc, Option.some.injEq] at hx hy; subst hx; subst hy; exact ⟨fun _ _ _ => ⟨rfl, rfl⟩, fun _ => ⟨rfl, rfl⟩⟩
    · obtain ⟨q, _, rfl⟩ := slice_conc hy; simp only [conc, Option.some.injEq] at hx; subst hx; exact ⟨fun _ _ _ => ⟨rfl, rfl⟩, fun _ => ⟨rfl, rfl⟩⟩
    · obtain ⟨q, _, _, rfl⟩ := sliceX_conc hy; simp only [conc, Option.some.injEq] at hx; subst hx; exact ⟨fun _ _ _ => ⟨rfl, rfl⟩, fun _ => ⟨rfl, rfl⟩⟩
    · obtain ⟨q, _, rfl⟩ := slice_conc hx; simp only [conc, Option.some.injEq] at hy; subst hy; exact ⟨fun _ _ _ => ⟨rfl, rfl⟩, fun _ => ⟨rfl, rfl⟩⟩
    · obtain ⟨q, _, _, rfl⟩ := sliceX_conc hx; simp only [conc, Option.some.injEq] at hy; subst hy; exact ⟨fun _ _ _ => ⟨rfl, rfl⟩, fun _ => ⟨rfl, rfl⟩⟩
    · cases h
  · split at h
    · simp only [conc, Option.some.injEq] at hx hy; subst hx; subst hy; exact ⟨fun _ _ _ => ⟨rfl, rfl⟩, fun _ => ⟨rfl, rfl⟩⟩
    · obtain ⟨q, _, rfl⟩ := map_conc hy; simp only [conc, Option.some.injEq] at hx; subst hx; exact ⟨fun _ _ _ => ⟨rfl, rfl⟩, fun _ => ⟨rfl, rfl⟩⟩
    · obtain ⟨q, _, rfl⟩ := map_conc hx; simp only [conc, Option.some.injEq] at hy; subst hy; exact ⟨fun _ _ _ => ⟨rfl, rfl⟩, fun _ => ⟨rfl, rfl⟩⟩
    · cases h
  · split at h
    · simp only [conc, Option.some.injEq] at hx hy; subst hx; subst hy; exact ⟨fun _ _ _ => ⟨rfl, rfl⟩, fun _ => ⟨rfl, rfl⟩⟩
    · obtain ⟨q, _, rfl⟩ := ptr_conc hy; simp only [conc, Option.some.injEq] at hx; subst hx; exact ⟨fun _ _ _ => ⟨rfl, rfl⟩, fun _ => ⟨rfl, rfl⟩⟩
    · obtain ⟨q, _, rfl⟩ := ptr_conc hx; simp only [conc, Option.some.injEq] at hy; subst hy; exact ⟨fun _ _ _ => ⟨rfl, rfl⟩, fun _ => ⟨rfl, rfl⟩⟩
    · cases h
  · split at h
    · simp only [conc, Option.some.injEq] at hx hy; subst hx; subst hy; exact ⟨fun _ _ _ => ⟨rfl, rfl⟩, fun _ => ⟨rfl, rfl⟩⟩
    · obtain ⟨_, _, _, rfl⟩ := func_conc hy; simp only [conc, Option.some.injEq] at hx; subst hx; exact ⟨fun _ _ _ => ⟨rfl, rfl⟩, fun _ => ⟨rfl, rfl⟩⟩
    · obtain ⟨_, _, _, rfl⟩ := func_conc hx; simp only [conc, Option.some.injEq] at hy; subst hy; exact ⟨fun _ _ _ => ⟨rfl, rfl⟩, fun _ => ⟨rfl, rfl⟩⟩
    · obtain ⟨_, _, rfl⟩ := yield_conc hy; simp only [conc, Option.some.injEq] at hx; subst hx; exact ⟨fun _ _ _ => ⟨rfl, rfl⟩, fun _ => ⟨rfl, rfl⟩⟩
    · obtain ⟨_, _, rfl⟩ := yield_conc hx; simp only [conc, Option.some.injEq] at hy; subst hy; exact ⟨fun _ _ _ => ⟨rfl, rfl⟩, fun _ => ⟨rfl, rfl⟩⟩
    · cases h

theorem leaves_one {ty : Nat → Option TI} {t : Nat} {i : TI} (ht : ty t = some i) {ls : List (Nat × Leaf)} (h : leaves ty 12 t 0 = some ls) (ha : i.isAgg = false) (hi : isInt i = false) : ∃ l, ls = [(0, l)] ∧ l ≠ .int := by
  simp only [leaves, ht] at h
  unfold TI.isAgg at ha
  unfold isInt at hi
  split at h
  · exact ⟨_, (Option.some.inj h).symm, by simp⟩
  · rename_i k hd; rw [hd] at hi; cases hi
  · exact ⟨_, (Option.some.inj h).symm, by simp⟩
  · exact ⟨_, (Option.some.inj h).symm, by simp⟩
  · exact ⟨_, (Option.some.inj h).symm, by simp⟩
  · exact ⟨_, (Option.some.inj h).symm, by simp⟩
  · rename_i fs hd; rw [hd] at ha; cases ha
  · rename_i n e hd; rw [hd] at ha; cases ha
  · cases h

theorem leaves_eqOk {ty : Nat → Option TI} {t : Nat} {i : TI} (ht : ty t = some i) {ls : List (Nat × Leaf)} (h : leaves ty 12 t 0 = some ls) (ha : i.isAgg = true) : i.eqOk = true := by
  simp only [leaves, ht] at h
  unfold TI.isAgg at ha
  split at h
  · rename_i hd; rw [hd] at ha; cases ha
  · rename_i k hd; rw [hd] at ha; cases ha
  · rename_i k hd; rw [hd] at ha; cases ha
  · rename_i k e hd; rw [hd] at ha; cases ha
  · rename_i k hd; rw [hd] at ha; cases ha
  · rename_i k1 k2 k3 hd; rw [hd] at ha; cases ha
  · cases hok : i.eqOk with
    | true => rfl
    | false => rw [hok] at h; cases h
  · cases hok : i.eqOk with
    | true => rfl
    | false => rw [hok] at h; cases h
  · cases h

theorem eq_ok {p : Par} {ty : Nat → Option TI} (T : TyOk p.P ty) {t t' : Nat} {i : TI} (ht : ty t = some i) (hi : isInt i = false) {ls : List (Nat × Leaf)} (hl : leaves ty 12 t 0 = some ls) {ng : Bool} {x1 x2 : Operand} {y1 y2 : Opd}
    (h1 : cOpd x1 = some y1) (h2 : cOpd x2 = some y2) {o : Oper} (ho : o.op = .binOp (if ng then .neq else .eql) t x1 x2 t') : InsOk p (iEq ng i.isAgg i.size ls y1 y2) o := by
  intro cx n keep E w0 tm h a w Q K _ HT HH k P
  obtain ⟨r, hr, q⟩ := holds_mk2 k
  have hex : execOp a.eval o = (do let x ← (do eqGuard (if ng then .neq else .eql) t x1 x2 (a.eval x1) (a.eval x2); binOp (if ng then .neq else .eql) t (a.eval x1) (a.eval x2)); pure (Next.value x)) := by unfold execOp; rw [ho]
  rw [hex]
  unfold aeq at hr
  split at hr
  · rename_i be hbe
    cases hr
    have main : ∀ {u v : Value}, conc E (ev tm y1) = some u → conc E (ev tm y2) = some v →
        (((eqGuard (if ng then .neq else .eql) t x1 x2 u v).run p.P w = .ok () w) ∧ binOp (if ng then .neq else .eql) t u v = (do let b ← Op.equal t u v; pure (.bool (if ng then !b else b)))) →
        Does p.P ((do let x ← (do eqGuard (if ng then .neq else .eql) t x1 x2 (a.eval x1) (a.eval x2); binOp (if ng then .neq else .eql) t (a.eval x1) (a.eval x2)); pure (Next.value x) : Sem Next).run p.P w) K := by
      intro u v hu hv ⟨g1, g2⟩
      rw [opd_ok HT h1 hu HH.glob, opd_ok HT h2 hv HH.glob]
      have heq := eqV_ok T w ht hl hbe hu hv
      refine does_value (v := .bool (if ng then !(be.den E.ρ) else be.den E.ρ)) (w' := w) ?_ (P.same HH q ?_)
      · simp only [Sem.run_bind, g1, Result.andThen_ok, g2, heq]
        rfl
      · cases ng
        · rfl
        · simp [conc, mkNot_den]
    cases hagg : i.isAgg with
    | true =>
      have hbe' := hbe
      unfold eqV at hbe'
      rw [hagg, cond_true] at hbe'
      split at hbe'
      · rename_i xs ys e1 e2
        have hb1 := opd_some HT h1 (by rw [e1]; rfl) HH.glob
        have hb2 := opd_some HT h2 (by rw [e2]; rfl) HH.glob
        have hb1' := hb1
        have hb2' := hb2
        rw [e1] at hb1'
        rw [e2] at hb2'
        obtain ⟨vs, hvs, ev1⟩ := agg_conc hb1'
        obtain ⟨us, hus, ev2⟩ := agg_conc hb2'
        refine main hb1 hb2 ?_
        rw [ev1, ev2]
        have hg := (T.eqOk t i ht (leaves_eqOk ht hl hagg)).2
        refine ⟨?_, ?_⟩
        · exact run_eqGuard_agg w _ t x1 x2 _ _ hg
        · cases ng <;> rfl
      · cases hbe'
    | false =>
      obtain ⟨l, rfl, hne⟩ := leaves_one ht hl hagg hi
      have hbe' := hbe
      unfold eqV at hbe'
      rw [hagg, cond_false] at hbe'
      have hxy : eqCells [ev tm y1] [ev tm y2] [(0, l)] = some be := by
        revert hbe'
        split
        · intro h; cases h
        · intro h; cases h
        · exact fun h => h
      obtain ⟨x, y, c, hx', hy', hc, _, _⟩ := eqCells_step hxy E.ρ
      simp only [List.getElem?_cons_zero, Option.some.injEq] at hx' hy'
      subst hx'; subst hy'
      have nb : notBad (ev tm y1) = true ∧ notBad (ev tm y2) = true := by
        unfold eqLeaf at hc
        constructor
        · cases hz : ev tm y1 <;> first | rfl | (rw [hz] at hc; cases l <;> simp at hc)
        · cases hz : ev tm y2 <;> first | rfl | (rw [hz] at hc; cases l <;> cases ev tm y1 <;> simp at hc)
      have hu := opd_some HT h1 nb.1 HH.glob
      have hv := opd_some HT h2 nb.2 HH.glob
      have hpl := eqLeaf_plain hc hne hu hv
      refine main hu hv ⟨?_, ?_⟩
      · cases ng
        · rw [if_neg (by simp), (hpl.1 t x1 x2).1]; rfl
        · rw [if_pos rfl, (hpl.1 t x1 x2).2]; rfl
      · cases ng
        · exact (hpl.2 t).1
        · exact (hpl.2 t).2
  · cases hr

/-! ## Keys -/
theorem mkCmp_self {a : IE} {c : BE} (h : mkCmp .eql a a = some c) (ρ : Rho) : c.den ρ = true := by
  obtain ⟨_, hd⟩ := mkCmp_den (ρ := ρ) h
  rw [hd]; simp [cmpDen]

theorem eqLeaf_self {l : Leaf} {x : AV} {c : BE} (h : eqLeaf l x x = some c) (ρ : Rho) : c.den ρ = true := by
  unfold eqLeaf at h
  cases l <;> cases x <;> simp only at h <;> first | (cases h; done) | skip
  · rename_i k e
    cases hk : kindEq k k with
    | false => rw [hk] at h; cases h
    | true => rw [hk, cond_true] at h; exact mkCmp_self h ρ
  · cases h; rw [mkIff_den]; simp
  all_goals (cases h; rfl)

def CheckOk (P : Program) (em : Bool) (D : Nat) (t : Nat) (u : Value) (w : World) : Prop := (Instr.checkKey em D t u).run P w = .ok () w

theorem run_check_struct {P : Program} (w : World) (em : Bool) (D t : Nat) (cs : Array Value) (fs : Array Field) (hu : P.underlying t = some (.struct fs)) :
    (∀ f ∈ fs.toList, f.name ≠ "_" → ∃ u, (part f.type cs f.offset).run P w = .ok u w ∧ CheckOk P em D f.type u w) → CheckOk P em (D + 1) t (.agg cs) w := by
  intro h
  unfold CheckOk Instr.checkKey
  simp only [Sem.run_bind, run_underlying hu, Result.andThen_ok]
  rw [← Array.forIn_toList]
  generalize fs.toList = l at h
  have : (Sem.run P (forIn l PUnit.unit fun f _ => do
      if f.name ≠ "_" then do
        let x ← part f.type cs f.offset
        Instr.checkKey em D f.type x
        pure (ForInStep.yield PUnit.unit)
      else pure (ForInStep.yield PUnit.unit)) w) = .ok PUnit.unit w := by
    induction l with
    | nil => rfl
    | cons f l ih =>
      simp only [List.forIn_cons, Sem.run_bind, Sem.run_ite]
      have ih' := ih (fun g hg => h g (by simp [hg]))
      split
      · rename_i hn
        obtain ⟨u, h1, h2⟩ := h f (by simp) hn
        unfold CheckOk at h2
        simp only [h1, h2, Result.andThen_ok, Sem.run_pure]
        exact ih'
      · simp only [Sem.run_pure, Result.andThen_ok]
        exact ih'
  rw [this]
  rfl

theorem run_check_array {P : Program} (w : World) (em : Bool) (D t e len n : Nat) (cs : Array Value) (hu : P.underlying t = some (.array len e)) (hn : ∀ w, (sizeOf e).run P w = .ok n w) :
    (∀ k, k < len → ∃ u, (part e cs (k * n)).run P w = .ok u w ∧ CheckOk P em D e u w) → CheckOk P em (D + 1) t (.agg cs) w := by
  intro h
  unfold CheckOk Instr.checkKey
  simp only [Sem.run_bind, run_underlying hu, Result.andThen_ok]
  rw [Std.Legacy.Range.forIn_eq_forIn_range']
  have hs : (Std.Legacy.Range.size { stop := len, step_pos := Nat.zero_lt_one : Std.Legacy.Range }) = len := by simp [Std.Legacy.Range.size]
  rw [hs]
  have h' : ∀ k ∈ List.range' 0 len 1, ∃ u, (part e cs (k * n)).run P w = .ok u w ∧ CheckOk P em D e u w := fun k hk => h k (by simp at hk; omega)
  have : (Sem.run P (forIn (List.range' 0 len 1) PUnit.unit fun i _ => do
      let s ← sizeOf e
      let x ← part e cs (i * s)
      Instr.checkKey em D e x
      pure (ForInStep.yield PUnit.unit)) w) = .ok PUnit.unit w := by
    revert h'
    generalize List.range' 0 len 1 = l
    intro h'
    induction l with
    | nil => rfl
    | cons k l ih =>
      obtain ⟨u, h1, h2⟩ := h' k (by simp)
      unfold CheckOk at h2
      simp only [List.forIn_cons, Sem.run_bind, hn, h1, h2, Result.andThen_ok, Sem.run_pure]
      exact ih (fun g hg => h' g (by simp [hg]))
  refine Eq.trans (b := (Result.ok PUnit.unit w).andThen fun _ w' => Sem.run P (pure ()) w') ?_ rfl
  rw [← this]

theorem check_leaf {P : Program} {t : Nat} {d : TypeDesc} (hu : P.underlying t = some d) {l : Leaf} (hl : LeafOf d l) (u : Value) (em : Bool) (D : Nat) (w : World) : CheckOk P em (D + 1) t u w := by
  unfold CheckOk Instr.checkKey
  simp only [Sem.run_bind, run_underlying hu, Result.andThen_ok]
  cases l
  · obtain ⟨k, rfl⟩ := hl; cases u <;> rfl
  · have : d = .bool := hl
    subst this; cases u <;> rfl
  · obtain ⟨e, rfl⟩ := hl; cases u <;> rfl
  · obtain ⟨k, e, rfl⟩ := hl; cases u <;> rfl
  · obtain ⟨e, rfl⟩ := hl; cases u <;> rfl
  · obtain ⟨_, _, _, rfl⟩ := hl; cases u <;> rfl

theorem check_leaves {P : Program} {ty : Nat → Option TI} (T : TyOk P ty) (w : World) (em : Bool) {E : Env} {xs : List AV} {vs : List Value} (hx : concL E xs = some vs) :
    ∀ (d t off : Nat) (ls : List (Nat × Leaf)) (i : TI), leaves ty d t off = some ls → ty t = some i → ∀ (D : Nat), d ≤ D → ∀ (rest : List (Nat × Leaf)) (be : BE), eqCells xs xs (ls ++ rest) = some be →
      ∃ u, PartAt i vs off u ∧ CheckOk P em D t u w ∧ ∃ e, eqCells xs xs rest = some e := by
  intro d
  induction d with
  | zero => intro t off ls i h; cases h
  | succ d ih =>
    intro t off ls i h ht D hD rest be he
    obtain ⟨D, rfl⟩ : ∃ D', D = D' + 1 := ⟨D - 1, by omega⟩
    have hu := T.und t i ht
    simp only [leaves, ht] at h
    have leaf : ∀ l : Leaf, LeafOf i.desc l → i.isAgg = false → ls = [(off, l)] → ∃ u, PartAt i vs off u ∧ CheckOk P em (D + 1) t u w ∧ ∃ e, eqCells xs xs rest = some e := by
      intro l hl hagg e
      subst e
      obtain ⟨x, y, c, hx', hy', hc, hf, htt⟩ := eqCells_step he E.ρ
      rw [hx'] at hy'
      cases hy'
      obtain ⟨u, hu1, hu2⟩ := concL_get hx hx'
      obtain ⟨e', he', _⟩ := htt (eqLeaf_self hc E.ρ)
      exact ⟨u, by unfold PartAt; rw [hagg, if_neg (by simp)]; exact hu2, check_leaf hu hl u em D w, e', he'⟩
    split at h
    · rename_i hd; exact leaf .bool hd (by unfold TI.isAgg; rw [hd]) (Option.some.inj h).symm
    · rename_i k hd; exact leaf .int ⟨k, hd⟩ (by unfold TI.isAgg; rw [hd]) (Option.some.inj h).symm
    · rename_i e hd; exact leaf .nilS ⟨e, hd⟩ (by unfold TI.isAgg; rw [hd]) (Option.some.inj h).symm
    · rename_i k e hd; exact leaf .nilM ⟨k, e, hd⟩ (by unfold TI.isAgg; rw [hd]) (Option.some.inj h).symm
    · rename_i e hd; exact leaf .nilP ⟨e, hd⟩ (by unfold TI.isAgg; rw [hd]) (Option.some.inj h).symm
    · rename_i x1 x2 x3 hd; exact leaf .nilF ⟨x1, x2, x3, hd⟩ (by unfold TI.isAgg; rw [hd]) (Option.some.inj h).symm
    · rename_i fs hd
      have hagg : i.isAgg = true := by unfold TI.isAgg; rw [hd]
      cases hok : i.eqOk with
      | false => rw [hok] at h; cases h
      | true =>
        rw [hok, cond_true] at h
        rw [hd] at hu
        have key : ∀ (fl : List Field) (ls : List (Nat × Leaf)) (be : BE), leavesF ty (leaves ty d) off i.size fl = some ls → eqCells xs xs (ls ++ rest) = some be →
            (∀ f ∈ fl, f.name ≠ "_" → ∃ u, (part f.type ((vs.drop off).take i.size).toArray f.offset).run P w = .ok u w ∧ CheckOk P em D f.type u w) ∧ ∃ e, eqCells xs xs rest = some e := by
          intro fl
          induction fl with
          | nil =>
            intro ls be hl he
            simp only [leavesF, Option.some.injEq] at hl
            subst hl
            exact ⟨fun f hf => (by cases hf), be, he⟩
          | cons f fl ihf =>
            intro ls be hl he
            obtain ⟨j, a, b, hj, hname, h1, hle, ha, hb, rfl⟩ := leavesF_cons hl
            rw [List.append_assoc] at he
            obtain ⟨u, hpu, hck, e', he'⟩ := ih f.type (off + f.offset) a j ha hj D (by omega) (b ++ rest) be he
            obtain ⟨h2, h3⟩ := ihf b e' hb he'
            refine ⟨fun g hg hn => ?_, h3⟩
            rcases List.mem_cons.1 hg with rfl | hg
            · exact ⟨u, part_sub T hj hpu hle h1 w, hck⟩
            · exact h2 g hg hn
        obtain ⟨hp, he'⟩ := key fs.toList ls be h he
        exact ⟨_, by unfold PartAt; rw [if_pos hagg], run_check_struct w em D t _ fs hu hp, he'⟩
    · rename_i n e hd
      have hagg : i.isAgg = true := by unfold TI.isAgg; rw [hd]
      cases hok : i.eqOk with
      | false => rw [hok] at h; cases h
      | true =>
        rw [hok, cond_true] at h
        rw [hd] at hu
        cases hj : ty e with
        | none => rw [hj] at h; cases h
        | some j =>
          rw [hj] at h
          simp only at h
          cases hc : and (Nat.ble 1 j.size) (Nat.ble (n * j.size) i.size) with
          | false => rw [hc] at h; cases h
          | true =>
            rw [hc, cond_true] at h
            obtain ⟨c1, c2⟩ := Bool.and_eq_true_iff.1 hc
            have c1 := ble_t.1 c1
            have c2 := ble_t.1 c2
            have key : ∀ (m k : Nat) (ls : List (Nat × Leaf)) (be : BE), k + m = n → leavesA (leaves ty d e) j.size m (off + k * j.size) = some ls → eqCells xs xs (ls ++ rest) = some be →
                (∀ q, k ≤ q → q < n → ∃ u, (part e ((vs.drop off).take i.size).toArray (q * j.size)).run P w = .ok u w ∧ CheckOk P em D e u w) ∧ ∃ e, eqCells xs xs rest = some e := by
              intro m
              induction m with
              | zero =>
                intro k ls be hk hl he
                simp only [leavesA, Option.some.injEq] at hl
                subst hl
                exact ⟨fun q h1 h2 => absurd h2 (by omega), be, he⟩
              | succ m ihm =>
                intro k ls be hk hl he
                obtain ⟨a, b, ha, hb, rfl⟩ := leavesA_cons hl
                rw [List.append_assoc] at he
                obtain ⟨u, hpu, hck, e', he'⟩ := ih e (off + k * j.size) a j ha hj D (by omega) (b ++ rest) be he
                have hle : k * j.size + j.size ≤ i.size := by
                  have : (k + 1) * j.size ≤ n * j.size := Nat.mul_le_mul_right _ (by omega)
                  rw [Nat.succ_mul] at this
                  omega
                obtain ⟨h2, h3⟩ := ihm (k + 1) b e' (by omega) (by rw [Nat.succ_mul, ← Nat.add_assoc]; exact hb) he'
                refine ⟨fun q h4 h5 => ?_, h3⟩
                by_cases hq : q = k
                · subst hq; exact ⟨u, part_sub T hj hpu hle c1 w, hck⟩
                · exact h2 q (by omega) h5
            obtain ⟨hp, he'⟩ := key n 0 ls be (by omega) (by simpa using h) he
            exact ⟨_, by unfold PartAt; rw [if_pos hagg], run_check_array w em D t e n j.size _ hu (fun w => run_size T hj w) (fun k hk => hp k (by omega) hk), he'⟩
    · cases h

theorem eqV_agg {n : Nat} {ls : List (Nat × Leaf)} {x y : AV} {be : BE} (h : eqV true n ls x y = some be) : ∃ xs ys, x = .agg xs ∧ y = .agg ys ∧ xs.length = n ∧ ys.length = n ∧ eqCells xs ys ls = some be := by
  unfold eqV at h
  rw [cond_true] at h
  split at h
  · rename_i xs ys
    cases hb : and (Nat.beq (lLen xs) n) (Nat.beq (lLen ys) n) with
    | false => rw [hb] at h; cases h
    | true =>
      rw [hb, cond_true] at h
      obtain ⟨c1, c2⟩ := Bool.and_eq_true_iff.1 hb
      rw [lLen_eq] at c1 c2
      exact ⟨xs, ys, rfl, rfl, beq_t.1 c1, beq_t.1 c2, h⟩
  · cases h

theorem eqV_one {n : Nat} {ls : List (Nat × Leaf)} {x y : AV} {be : BE} (h : eqV false n ls x y = some be) : eqCells [x] [y] ls = some be := by
  unfold eqV at h
  rw [cond_false] at h
  revert h
  split
  · intro h; cases h
  · intro h; cases h
  · exact fun h => h

theorem key_check {P : Program} {ty : Nat → Option TI} (T : TyOk P ty) (w : World) (em : Bool) {E : Env} {t : Nat} {i : TI} (ht : ty t = some i) {ls : List (Nat × Leaf)} (hl : leaves ty 12 t 0 = some ls) {x : AV} (h : keyOk i.isAgg i.size ls x = true)
    {u : Value} (hx : conc E x = some u) : (Instr.checkKey em 10000 t u).run P w = .ok () w := by
  unfold keyOk at h
  split at h
  · rename_i be hbe
    cases hagg : i.isAgg with
    | true =>
      rw [hagg] at hbe
      obtain ⟨xs, ys, rfl, e2, l1, _, hc⟩ := eqV_agg hbe
      cases e2
      obtain ⟨vs, hvs, rfl⟩ := agg_conc hx
      rw [← List.append_nil ls] at hc
      obtain ⟨u', hp, hck, _⟩ := check_leaves T w em hvs 12 t 0 ls i hl ht 10000 (by decide) [] be hc
      unfold PartAt at hp
      rw [if_pos hagg, List.drop_zero, ← l1, ← concL_len hvs, List.take_length] at hp
      rw [← hp]
      exact hck
    | false =>
      rw [hagg] at hbe
      have hc := eqV_one hbe
      rw [← List.append_nil ls] at hc
      obtain ⟨u', hp, hck, _⟩ := check_leaves T w em (xs := [x]) (concL_cons.2 ⟨u, [], hx, rfl, rfl⟩) 12 t 0 ls i hl ht 10000 (by decide) [] be hc
      unfold PartAt at hp
      rw [hagg, if_neg (by simp)] at hp
      simp only [List.getElem?_cons_zero, Option.some.injEq] at hp
      subst hp
      exact hck
  · cases h

/-! ## Finding a key -/
theorem findKeyA_cons (whole : Bool) (n : Nat) (ls : List (Nat × Leaf)) (k : AV) (e : AV × AV × Nat) (es : List (AV × AV × Nat)) (i : Nat) : findKeyA whole n ls k (e :: es) i =
    (match eqV whole n ls k e.1 with
      | some (.lit c) => cond c (some (some (i, e.2.1))) (findKeyA whole n ls k es (Nat.succ i))
      | _ => none) := rfl

def FoundAs (E : Env) (r : Option (Nat × AV)) (r' : Option (Nat × Value)) : Prop :=
  match r, r' with
  | none, none => True
  | some p, some q => p.1 = q.1 ∧ conc E p.2 = some q.2
  | _, _ => False

theorem find_step {whole : Bool} {n : Nat} {ls : List (Nat × Leaf)} {k : AV} {e : AV × AV × Nat} {es : List (AV × AV × Nat)} {i : Nat} {r : Option (Nat × AV)} (h : findKeyA whole n ls k (e :: es) i = some r) :
    ∃ c, eqV whole n ls k e.1 = some (.lit c) ∧ ((c = true ∧ r = some (i, e.2.1)) ∨ (c = false ∧ findKeyA whole n ls k es (i + 1) = some r)) := by
  rw [findKeyA_cons] at h
  split at h
  · rename_i c hc
    refine ⟨c, hc, ?_⟩
    cases c with
    | true => exact .inl ⟨rfl, (Option.some.inj h).symm⟩
    | false => exact .inr ⟨rfl, h⟩
  · cases h

theorem findAsking_ok {P : Program} {ty : Nat → Option TI} (T : TyOk P ty) (w : World) {E : Env} {t : Nat} {ti : TI} (ht : ty t = some ti) {ls : List (Nat × Leaf)} (hl : leaves ty 12 t 0 = some ls) {k : AV} {kv : Value} (hk : conc E k = some kv) :
    ∀ (es : List (AV × AV × Nat)) (ms : List MapEntry) (i : Nat) (r : Option (Nat × AV)), concE E es ms → findKeyA ti.isAgg ti.size ls k es i = some r → ∃ r', FoundAs E r r' ∧ (Instr.findAsking t kv ms i).run P w = .ok r' w
  | [], [], i, r, _, h => by
    have : r = none := (Option.some.inj h).symm
    subst this
    exact ⟨none, trivial, rfl⟩
  | e :: es, m :: ms, i, r, ⟨h1, h2, h3, h4⟩, h => by
    obtain ⟨c, hc, hr⟩ := find_step h
    have heq := eqV_ok T w ht hl hc hk h1
    simp only [BE.den] at heq
    rcases hr with ⟨rfl, rfl⟩ | ⟨rfl, hr⟩
    · refine ⟨some (i, m.val), ⟨rfl, h2⟩, ?_⟩
      simp only [Instr.findAsking, Sem.run_bind, heq, Result.andThen_ok, if_true]
      rfl
    · obtain ⟨r', hf, hrun⟩ := findAsking_ok T w ht hl hk es ms (i + 1) r h4 hr
      refine ⟨r', hf, ?_⟩
      simp only [Instr.findAsking, Sem.run_bind, heq, Result.andThen_ok, Bool.false_eq_true, if_false]
      exact hrun

theorem sameNow_eq {P : Program} {t : Nat} {d : TypeDesc} (hu : P.underlying t = some d) {u v : Value} {b c : Bool} {w : World} (h : Instr.sameNow d u v = some b) (he : (Op.equal t u v).run P w = .ok c w) : b = c := by
  unfold Op.equal at he
  rw [show Op.maxDepth = 9999 + 1 from rfl] at he
  generalize (9999 : Nat) = D at he
  unfold Instr.sameNow at h
  split at h
  · rename_i k a k' b' 
    split at h
    · rename_i hk
      subst hk
      cases h
      simp only [Op.equalIn, Sem.run_bind, run_underlying hu, Result.andThen_ok, if_true, pure, Sem.run] at he
      cases he; rfl
    · cases h
  · cases h
    simp only [Op.equalIn, Sem.run_bind, run_underlying hu, Result.andThen_ok, pure, Sem.run] at he
    cases he; rfl
  · cases h
    simp only [Op.equalIn, Sem.run_bind, run_underlying hu, Result.andThen_ok, pure, Sem.run] at he
    cases he; rfl
  · cases h

theorem findNow_ok {P : Program} {ty : Nat → Option TI} (T : TyOk P ty) (w : World) {E : Env} {t : Nat} {ti : TI} (ht : ty t = some ti) {ls : List (Nat × Leaf)} (hl : leaves ty 12 t 0 = some ls) {k : AV} {kv : Value} (hk : conc E k = some kv) :
    ∀ (es : List (AV × AV × Nat)) (ms : List MapEntry) (i : Nat) (r : Option (Nat × AV)) (r' : Option (Nat × Value)), concE E es ms → findKeyA ti.isAgg ti.size ls k es i = some r → Instr.findNow ti.desc kv ms i = some r' → FoundAs E r r'
  | [], [], i, r, r', _, h, h' => by
    have : r = none := (Option.some.inj h).symm
    subst this
    have : r' = none := (Option.some.inj h').symm
    subst this
    trivial
  | e :: es, m :: ms, i, r, r', ⟨h1, h2, h3, h4⟩, h, h' => by
    obtain ⟨c, hc, hr⟩ := find_step h
    have heq := eqV_ok T w ht hl hc hk h1
    simp only [BE.den] at heq
    have hu := T.und t ti ht
    simp only [Instr.findNow] at h'
    split at h'
    · rename_i hs
      have := sameNow_eq hu hs heq
      subst this
      rcases hr with ⟨_, rfl⟩ | ⟨hf, _⟩
      · cases h'; exact ⟨rfl, h2⟩
      · cases hf
    · rename_i hs
      have := sameNow_eq hu hs heq
      subst this
      rcases hr with ⟨hf, _⟩ | ⟨_, hr⟩
      · cases hf
      · exact findNow_ok T w ht hl hk es ms (i + 1) r r' h4 hr h'
    · cases h'

theorem findKey_ok {P : Program} {ty : Nat → Option TI} (T : TyOk P ty) (w : World) {E : Env} {t : Nat} {ti : TI} (ht : ty t = some ti) {ls : List (Nat × Leaf)} (hl : leaves ty 12 t 0 = some ls) {k : AV} {kv : Value} (hk : conc E k = some kv)
    {es : List (AV × AV × Nat)} {ms : List MapEntry} {r : Option (Nat × AV)} (he : concE E es ms) (h : findKeyA ti.isAgg ti.size ls k es 0 = some r) : ∃ r', FoundAs E r r' ∧ (Instr.findKey t kv ms).run P w = .ok r' w := by
  unfold Instr.findKey
  simp only [Sem.run_bind, run_underlying (T.und t ti ht), Result.andThen_ok]
  cases hn : Instr.findNow ti.desc kv ms 0 with
  | some r' => exact ⟨r', findNow_ok T w ht hl hk es ms 0 r r' he h hn, rfl⟩
  | none => exact findAsking_ok T w ht hl hk es ms 0 r he h

end Go.Sx
/-! MAPS: a lookup; a store. -/
namespace Go.Sx
open Go.RowKit

theorem cMap_some {ty : Nat → Option TI} {t : Nat} {q : TI × List (Nat × Leaf) × TI} (h : cMap ty t = some q) :
    ∃ i k e, ty t = some i ∧ i.desc = .map k e ∧ ty k = some q.1 ∧ leaves ty 12 k 0 = some q.2.1 ∧ ty e = some q.2.2 ∧ coversB q.1.size q.2.1 = true := by
  unfold cMap at h
  cases ht : ty t with
  | none => rw [ht] at h; cases h
  | some i =>
    rw [ht] at h
    simp only at h
    split at h
    · rename_i k e hd
      split at h
      · rename_i ik ls ie h1 h2 h3
        cases hc : coversB ik.size ls with
        | false => rw [hc] at h; cases h
        | true =>
          rw [hc] at h; cases h
          exact ⟨i, k, e, rfl, hd, h1, h2, h3, hc⟩
      · cases h
    · cases h

theorem eqLeaf_bad (l : Leaf) (y : AV) : eqLeaf l .bad y = none := by
  unfold eqLeaf
  cases l <;> cases y <;> rfl

theorem keyOk_nb {whole : Bool} {n : Nat} {ls : List (Nat × Leaf)} {k : AV} (h : keyOk whole n ls k = true) (hne : ls ≠ [] ∨ whole = true) : notBad k = true := by
  unfold keyOk at h
  split at h
  · rename_i be hbe
    cases whole with
    | true => obtain ⟨xs, ys, rfl, _⟩ := eqV_agg hbe; rfl
    | false =>
      have hc := eqV_one hbe
      cases ls with
      | nil => rcases hne with h | h
               · exact absurd rfl h
               · cases h
      | cons q ls =>
        obtain ⟨x, y, c, hx, hy, hl, _, _⟩ := eqCells_step hc (⟨fun _ => 0, fun _ => false, fun _ _ _ _ => 0, fun _ _ _ _ => false, fun _ => undef⟩ : Rho)
        have : x = k := by
          cases hq : q.1 with
          | zero => rw [hq] at hx; simpa using hx.symm
          | succ m => rw [hq] at hx; simp at hx
        subst this
        have : y = x := by
          cases hq : q.1 with
          | zero => rw [hq] at hy; simpa using hy.symm
          | succ m => rw [hq] at hy; simp at hy
        subst this
        cases y <;> first | rfl | (rw [eqLeaf_bad] at hl; cases hl)
  · cases h

theorem leaves_ne {ty : Nat → Option TI} {t : Nat} {i : TI} (ht : ty t = some i) {ls : List (Nat × Leaf)} (h : leaves ty 12 t 0 = some ls) : ls ≠ [] ∨ i.isAgg = true := by
  simp only [leaves, ht] at h
  split at h
  · cases h; exact .inl (by simp)
  · cases h; exact .inl (by simp)
  · cases h; exact .inl (by simp)
  · cases h; exact .inl (by simp)
  · cases h; exact .inl (by simp)
  · cases h; exact .inl (by simp)
  · rename_i fs hd; exact .inr (by unfold TI.isAgg; rw [hd])
  · rename_i n e hd; exact .inr (by unfold TI.isAgg; rw [hd])
  · cases h

theorem entries_some {p : Par} {E : Env} {h : Heap} {w0 : Base} {w : World} (H : HeapOk p E h w0 w) {x : AV} {es : List (AV × AV × Nat)} (he : h.entries x = some es) {v : Value} (hv : conc E x = some v) :
    ∃ ms, concE E es ms ∧ ((v = .map none ∧ ms = []) ∨ ∃ c clock, v = .map (some c) ∧ w.heap[c]? = some (.map ms.toArray clock)) := by
  unfold Heap.entries at he
  split at he
  · cases he
    simp only [conc, Option.some.injEq] at hv
    subst hv
    exact ⟨[], trivial, .inl ⟨rfl, rfl⟩⟩
  · rename_i b
    split at he
    · rename_i es' clock hg
      cases he
      obtain ⟨q, hq, rfl⟩ := map_conc hv
      obtain ⟨ms, h0, hms, hheap⟩ := H.mapAt hg hq
      exact ⟨ms, hms, .inr ⟨q.1, clock, rfl, hheap⟩⟩
    · rename_i es' clock hg
      cases he
      obtain ⟨q, hq, rfl⟩ := map_conc hv
      obtain ⟨ms, h0, hms, hheap⟩ := H.rmapAt hg hq
      exact ⟨ms, hms, .inr ⟨q.1, clock, rfl, hheap⟩⟩
    · cases he
  · cases he

theorem entries_nb {h : Heap} {x : AV} {es : List (AV × AV × Nat)} (he : h.entries x = some es) : notBad x = true := by
  unfold Heap.entries at he
  split at he
  · rfl
  · rfl
  · cases he

theorem run_lookup {P : Program} {w : World} {t kt e : Nat} (hu : P.underlying t = some (.map kt e)) {mv kv zv : Value} {ms : List MapEntry} (hm : (mv = .map none ∧ ms = []) ∨ ∃ c clock, mv = .map (some c) ∧ w.heap[c]? = some (.map ms.toArray clock))
    (hck : ∀ em, (Instr.checkKey em 10000 kt kv).run P w = .ok () w) {r' : Option (Nat × Value)} (hf : (Instr.findKey kt kv ms).run P w = .ok r' w) (hz : (zeroValue e).run P w = .ok zv w) (ok : Bool) :
    (Instr.lookup t mv kv ok).run P w = .ok (match r' with | some q => (if ok then .tuple #[q.2, .bool true] else q.2) | none => (if ok then .tuple #[zv, .bool false] else zv)) w := by
  rcases hm with ⟨rfl, rfl⟩ | ⟨c, clock, rfl, hheap⟩
  · unfold Instr.lookup
    have hf' : (Instr.findKey kt kv (#[] : Array MapEntry).toList).run P w = .ok r' w := hf
    simp only [Sem.run_bind, run_underlying hu, Result.andThen_ok, pure, Sem.run, hck, hf']
    cases r' with
    | none => simp only [Sem.run_bind, hz, Result.andThen_ok]; rfl
    | some q => rfl
  · unfold Instr.lookup
    have hf' : (Instr.findKey kt kv ms.toArray.toList).run P w = .ok r' w := by simpa using hf
    simp only [Sem.run_bind, run_underlying hu, Result.andThen_ok, run_getObj hheap (by simp), pure, Sem.run, hck, hf']
    cases r' with
    | none => simp only [Sem.run_bind, hz, Result.andThen_ok]; rfl
    | some q => rfl

theorem lookup_ok {p : Par} {ty : Nat → Option TI} (T : TyOk p.P ty) {t : Nat} {q : TI × List (Nat × Leaf) × TI} (hq : cMap ty t = some q) {z : AV} (hz : q.2.2.zero = some z) {ok : Bool} {x1 x2 : Operand} {y1 y2 : Opd}
    (h1 : cOpd x1 = some y1) (h2 : cOpd x2 = some y2) {o : Oper} (ho : o.op = .lookup t x1 x2 ok) : InsOk p (iLookup z q.1.isAgg q.1.size q.2.1 ok y1 y2) o := by
  intro cx n keep E w0 tm h a w Q K _ HT HH k P
  obtain ⟨r, hr, qq⟩ := holds_mk2 k
  have hex : execOp a.eval o = (do let x ← Instr.lookup t (a.eval x1) (a.eval x2) ok; pure (Next.value x)) := by unfold execOp; rw [ho]
  rw [hex]
  obtain ⟨i, kt, e, ht, hd, hk, hl, he, _⟩ := cMap_some hq
  have hu := T.und t i ht
  rw [hd] at hu
  unfold alookup at hr
  cases hko : keyOk q.1.isAgg q.1.size q.2.1 (ev tm y2) with
  | false => rw [hko] at hr; cases hr
  | true =>
    rw [hko, cond_true] at hr
    have hkv := opd_some HT h2 (keyOk_nb hko (leaves_ne hk hl)) HH.glob
    split at hr
    · rename_i es hes
      have hxv := opd_some HT h1 (entries_nb hes) HH.glob
      obtain ⟨ms, hms, hcase⟩ := entries_some HH hes hxv
      have hck := fun em => key_check T w em hk hl hko hkv
      obtain ⟨zv, hzv, hzrun⟩ := run_zero T he hz E w
      split at hr
      · rename_i pr hf
        cases hr
        obtain ⟨r', hfa, hrun⟩ := findKey_ok T w hk hl hkv hms hf
        cases r' with
        | none => exact hfa.elim
        | some pv =>
          refine does_value (run_lookup hu hcase hck hrun hzrun ok) (P.same HH qq ?_)
          cases ok with
          | true => simp [conc, concL, hfa.2, BE.den]
          | false => simpa using hfa.2
      · rename_i hf
        cases hr
        obtain ⟨r', hfa, hrun⟩ := findKey_ok T w hk hl hkv hms hf
        cases r' with
        | some pv => exact hfa.elim
        | none =>
          refine does_value (run_lookup hu hcase hck hrun hzrun ok) (P.same HH qq ?_)
          cases ok with
          | true => simp [conc, concL, hzv, BE.den]
          | false => simpa using hzv
      · cases hr
    · cases hr

/-! ## A store -/
theorem eqLeaf_true {l : Leaf} (hk : keyLeaf l = true) {x y : AV} (h : eqLeaf l x y = some (.lit true)) {E : Env} {u v : Value} (hx : conc E x = some u) (hy : conc E y = some v) : u = v ∧ Instr.sameBits 9999 u u = true ∧ ∀ n, Instr.sameBits n u u = true := by
  unfold eqLeaf at h
  cases l <;> first | (cases hk; done) | skip
  · simp only at h
    split at h
    · rename_i j a j' b
      cases hkk : kindEq j j' with
      | false => rw [hkk] at h; cases h
      | true =>
        have := kindEq_eq hkk
        subst this
        rw [hkk, cond_true] at h
        simp only [conc, Option.some.injEq] at hx hy
        subst hx; subst hy
        obtain ⟨_, hd⟩ := mkCmp_den (ρ := E.ρ) h
        simp only [BE.den, cmpDen] at hd
        have he : a.den E.ρ = b.den E.ρ := by simpa using hd.symm
        rw [he]
        exact ⟨rfl, by simp [Instr.sameBits], fun n => by simp [Instr.sameBits]⟩
    · cases h
  · simp only at h
    split at h
    · rename_i a b
      simp only [conc, Option.some.injEq] at hx hy
      subst hx; subst hy
      have hd := congrArg (Option.map (BE.den E.ρ)) h
      simp only [Option.map_some, mkIff_den, BE.den, Option.some.injEq] at hd
      have he : a.den E.ρ = b.den E.ρ := by simpa using hd
      rw [he]
      exact ⟨rfl, by simp [Instr.sameBits], fun n => by simp [Instr.sameBits]⟩
    · cases h
  · simp only at h
    split at h
    · simp only [conc, Option.some.injEq] at hx hy
      subst hx; subst hy
      exact ⟨rfl, by simp [Instr.sameBits], fun n => by simp [Instr.sameBits]⟩
    · cases h
    · cases h
    · cases h

theorem eqCells_true {xs ys : List AV} {ls : List (Nat × Leaf)} (h : eqCells xs ys ls = some (.lit true)) {q : Nat × Leaf} (hq : q ∈ ls) : ∃ x y, xs[q.1]? = some x ∧ ys[q.1]? = some y ∧ eqLeaf q.2 x y = some (.lit true) := by
  induction ls with
  | nil => cases hq
  | cons p ls ih =>
    rw [eqCells_cons] at h
    simp only [listGet_eq] at h
    split at h
    · rename_i x y hx hy
      split at h
      · rename_i c hc
        cases c with
        | false => cases h
        | true =>
          rcases List.mem_cons.1 hq with rfl | hq
          · exact ⟨x, y, hx, hy, hc⟩
          · exact ih h hq
      · split at h <;> cases h
      · cases h
    · cases h

theorem coversB_some {n : Nat} {ls : List (Nat × Leaf)} (h : coversB n ls = true) : ls.length = n ∧ (∀ q ∈ ls, keyLeaf q.2 = true) ∧ ∀ k, k < n → ∃ l, (k, l) ∈ ls := by
  unfold coversB at h
  obtain ⟨c1, c2⟩ := Bool.and_eq_true_iff.1 h
  obtain ⟨c2, c3⟩ := Bool.and_eq_true_iff.1 c2
  refine ⟨beq_t.1 c2, fun q hq => List.all_eq_true.1 c1 q hq, fun k hk => ?_⟩
  have := List.all_eq_true.1 c3 k (by simpa using hk)
  split at this
  · rename_i p hp
    rw [listGet_eq] at hp
    have := beq_t.1 this
    subst this
    exact ⟨p.2, List.mem_of_getElem? hp⟩
  · cases this

theorem same_key {ty : Nat → Option TI} {t : Nat} {i : TI} (ht : ty t = some i) {ls : List (Nat × Leaf)} (hl : leaves ty 12 t 0 = some ls) (hc : coversB i.size ls = true) {x y : AV} (h : eqV i.isAgg i.size ls x y = some (.lit true)) {E : Env} {u v : Value}
    (hx : conc E x = some u) (hy : conc E y = some v) : Instr.sameBits 10000 v u = true ∧ u = v := by
  obtain ⟨c1, c2, c3⟩ := coversB_some hc
  cases hagg : i.isAgg with
  | true =>
    rw [hagg] at h
    obtain ⟨xs, ys, rfl, rfl, l1, l2, he⟩ := eqV_agg h
    obtain ⟨vs, hvs, rfl⟩ := agg_conc hx
    obtain ⟨us, hus, rfl⟩ := agg_conc hy
    have n1 := concL_len hvs
    have n2 := concL_len hus
    have each : ∀ k, k < i.size → ∃ a, vs[k]? = some a ∧ us[k]? = some a ∧ Instr.sameBits 9999 a a = true := by
      intro k hk
      obtain ⟨l, hm⟩ := c3 k hk
      obtain ⟨x, y, hx', hy', hle⟩ := eqCells_true he hm
      obtain ⟨a, ha1, ha2⟩ := concL_get hvs hx'
      obtain ⟨b, hb1, hb2⟩ := concL_get hus hy'
      obtain ⟨rfl, hs, _⟩ := eqLeaf_true (c2 _ hm) hle ha1 hb1
      exact ⟨a, ha2, hb2, hs⟩
    have heq : vs = us := by
      apply List.ext_getElem?
      intro k
      by_cases hk : k < i.size
      · obtain ⟨a, h1, h2, _⟩ := each k hk
        rw [h1, h2]
      · rw [List.getElem?_eq_none (by omega), List.getElem?_eq_none (by omega)]
    subst heq
    refine ⟨?_, rfl⟩
    rw [show (10000 : Nat) = 9999 + 1 from rfl]
    have hall : (vs.zip vs).all (fun q => Instr.sameBits 9999 q.1 q.2) = true := by
      rw [List.all_eq_true]
      intro q hq
      obtain ⟨k, hk⟩ := List.mem_iff_getElem?.1 hq
      rw [List.getElem?_zip_eq_some] at hk
      have hlt : k < vs.length := (List.getElem?_eq_some_iff.1 hk.1).1
      obtain ⟨a, h1, _, h3⟩ := each k (by omega)
      rw [h1] at hk
      obtain ⟨e1, e2⟩ := hk
      cases e1
      have e2' := Option.some.inj e2
      rw [← e2']
      exact h3
    simp only [Instr.sameBits]
    simpa using hall
  | false =>
    rw [hagg] at h
    have he := eqV_one h
    have hmem : ∃ q, q ∈ ls := by
      cases ls with
      | nil => rcases leaves_ne ht hl with h | h
               · exact absurd rfl h
               · rw [hagg] at h; cases h
      | cons q ls => exact ⟨q, by simp⟩
    obtain ⟨q, hq⟩ := hmem
    obtain ⟨x', y', hx', hy', hle⟩ := eqCells_true he hq
    have e1 : x' = x := by
      cases hz : q.1 with
      | zero => rw [hz] at hx'; simpa using hx'.symm
      | succ m => rw [hz] at hx'; simp at hx'
    have e2 : y' = y := by
      cases hz : q.1 with
      | zero => rw [hz] at hy'; simpa using hy'.symm
      | succ m => rw [hz] at hy'; simp at hy'
    subst e1; subst e2
    obtain ⟨rfl, _, hs⟩ := eqLeaf_true (c2 _ hq) hle hx hy
    exact ⟨hs _, rfl⟩

end Go.Sx
/-! MAPS: a store. -/
namespace Go.Sx
open Go.RowKit

theorem run_setMap {P : Program} {w : World} {r : Nat} {es : Array MapEntry} {clock : Nat} (o : Obj) (hb : w.heap[r]? = some (.map es clock)) : (setObj r o).run P w = .ok () { w with heap := w.heap.setIfInBounds r o } := by
  simp [setObj, Sem.run, hb]

theorem find_at {whole : Bool} {n : Nat} {ls : List (Nat × Leaf)} {k : AV} : ∀ {es : List (AV × AV × Nat)} {i : Nat} {p : Nat × AV}, findKeyA whole n ls k es i = some (some p) →
    ∃ e, i ≤ p.1 ∧ es[p.1 - i]? = some e ∧ eqV whole n ls k e.1 = some (.lit true)
  | [], i, p, h => by
    have : (none : Option (Nat × AV)) = some p := Option.some.inj h
    cases this
  | e :: es, i, p, h => by
    obtain ⟨c, hc, hr⟩ := find_step h
    rcases hr with ⟨rfl, hp⟩ | ⟨rfl, hp⟩
    · cases hp
      exact ⟨e, Nat.le_refl _, by simp, hc⟩
    · obtain ⟨e', h1, h2, h3⟩ := find_at hp
      refine ⟨e', by omega, ?_, h3⟩
      have : p.1 - i = (p.1 - (i + 1)) + 1 := by omega
      rw [this, List.getElem?_cons_succ]
      exact h2

theorem concE_get {E : Env} : ∀ {es : List (AV × AV × Nat)} {ms : List MapEntry} {i : Nat} {e : AV × AV × Nat}, concE E es ms → es[i]? = some e → ∃ m, ms[i]? = some m ∧ conc E e.1 = some m.key
  | [], [], i, e, _, h => by simp at h
  | e' :: es, m :: ms, i, e, ⟨h1, _, _, h4⟩, h => by
    cases i with
    | zero => simp at h; subst h; exact ⟨m, rfl, h1⟩
    | succ i => simp at h; simpa using concE_get h4 h

theorem concE_app {E : Env} {f : List (AV × AV × Nat)} {n : List MapEntry} (h' : concE E f n) : ∀ {es : List (AV × AV × Nat)} {ms : List MapEntry}, concE E es ms → concE E (es ++ f) (ms ++ n)
  | [], [], _ => h'
  | _ :: _, _ :: _, ⟨h1, h2, h3, h4⟩ => ⟨h1, h2, h3, concE_app h' h4⟩

theorem concE_mod {E : Env} {k v : AV} {kv vv : Value} (hk : conc E k = some kv) (hv : conc E v = some vv) : ∀ {es : List (AV × AV × Nat)} {ms : List MapEntry} (i : Nat), concE E es ms →
    concE E (modAt (fun e => (k, v, e.2.2)) es i) (ms.modify i fun e => { e with key := kv, val := vv })
  | [], [], i, _ => by cases i <;> simp [modAt, concE]
  | _ :: _, _ :: _, 0, ⟨_, _, h3, h4⟩ => by simp only [modAt, List.modify_zero_cons, concE]; exact ⟨hk, hv, h3, h4⟩
  | _ :: _, _ :: _, i + 1, ⟨h1, h2, h3, h4⟩ => by simp only [modAt, List.modify_succ_cons, concE]; exact ⟨h1, h2, h3, concE_mod hk hv i h4⟩

theorem HeapOk.setMap {p : Par} {E : Env} {h : Heap} {w0 : Base} {w : World} (H : HeapOk p E h w0 w) {b clock clock' : Nat} {es es' : List (AV × AV × Nat)} (hg : h.get b = some (.map es clock)) {q : Nat × Nat} (hq : E.σ b = some q) {ms' : List MapEntry} (he : concE E es' ms') {arr : Array MapEntry} (harr : arr = ms'.toArray) :
    HeapOk p E (h.put b (.map es' clock')) w0 { w with heap := w.heap.setIfInBounds q.1 (.map arr clock') } := by
  obtain ⟨ms, h0, hms, hheap⟩ := H.mapAt hg hq
  have hlt : q.1 < w.heap.size := (Array.getElem?_eq_some_iff.1 hheap).1
  have hq' : E.σ b = some (q.1, 0) := by rw [hq, ← h0]
  subst harr
  refine H.turn hg rfl hq' rfl ⟨q.1, ms', hq', he, by simp [hlt]⟩ (fun i hi => by simp [Array.getElem?_setIfInBounds_ne (Ne.symm hi)]) rfl rfl rfl (by simp)

theorem rMapset_holds {ρ : Rho} {h : Heap} {whole : Bool} {n : Nat} {ls : List (Nat × Leaf)} {m k v : AV} {Q : AV × Heap → Prop} (kk : (rMapset h whole n ls m k v).Holds ρ Q) : ∃ h', amapset h whole n ls m k v = some h' ∧ Q (undefA, h') := by
  unfold rMapset at kk
  split at kk
  · rename_i h' e; exact ⟨h', e, kk⟩
  · exact kk.elim

theorem mapset_ok {p : Par} {ty : Nat → Option TI} (T : TyOk p.P ty) {t : Nat} {q : TI × List (Nat × Leaf) × TI} (hq : cMap ty t = some q) {x1 x2 x3 : Operand} {y1 y2 y3 : Opd}
    (h1 : cOpd x1 = some y1) (h2 : cOpd x2 = some y2) (h3 : cOpd x3 = some y3) {o : Oper} (ho : o.op = .mapUpdate t x1 x2 x3 ∨ o.op = .insert t x1 x2 x3) : InsOk p (iMapset q.1.isAgg q.1.size q.2.1 y1 y2 y3) o := by
  intro cx n keep E w0 tm h a w Q K _ HT HH k P
  obtain ⟨h', hr, qq⟩ := rMapset_holds k
  have hex : execOp a.eval o = (do Instr.mapUpdate t (a.eval x1) (a.eval x2) (a.eval x3); pure Next.skip) := by unfold execOp; rcases ho with ho | ho <;> rw [ho]
  rw [hex]
  obtain ⟨i, kt, e, ht, hd, hk, hl, he, hcov⟩ := cMap_some hq
  have hu := T.und t i ht
  rw [hd] at hu
  unfold amapset at hr
  split at hr
  · rename_i b hb
    cases hc : and (keyOk q.1.isAgg q.1.size q.2.1 (ev tm y2)) (notBad (ev tm y3)) with
    | false => rw [hc] at hr; cases hr
    | true =>
      rw [hc, cond_true] at hr
      obtain ⟨hko, hnb⟩ := Bool.and_eq_true_iff.1 hc
      have hkv := opd_some HT h2 (keyOk_nb hko (leaves_ne hk hl)) HH.glob
      have hvv := opd_some HT h3 hnb HH.glob
      have hmv := opd_some HT h1 (by rw [hb]; rfl) HH.glob
      rw [hb] at hmv
      obtain ⟨qq', hqq, hmv'⟩ := map_conc hmv
      have hck := key_check T w false hk hl hko hkv
      split at hr
      · rename_i es clock hg
        obtain ⟨ms, h0, hms, hheap⟩ := HH.mapAt hg hqq
        have pre : ∀ {r' : Option (Nat × Value)}, (Instr.findKey kt (a.eval x2) ms).run p.P w = .ok r' w → (Instr.mapUpdate t (a.eval x1) (a.eval x2) (a.eval x3)).run p.P w =
            (match r' with
            | some pr => (do
              let key ← Instr.keyThatStays (((ms.toArray[pr.1]?).map (·.key)).getD (a.eval x2)) (a.eval x2)
              setObj qq'.1 (.map (ms.toArray.modify pr.1 fun e => { e with key, val := a.eval x3 }) clock) : Sem Unit).run p.P w
            | none => (setObj qq'.1 (.map (ms.toArray.push { key := a.eval x2, val := a.eval x3, born := clock }) (clock + 1))).run p.P w) := by
          intro r' hrun
          rw [hmv']
          have hf' : (Instr.findKey kt (a.eval x2) ms.toArray.toList).run p.P w = .ok r' w := by simpa using hrun
          unfold Instr.mapUpdate
          simp only [Sem.run_bind, run_underlying hu, Result.andThen_ok, run_getObj hheap (by simp), hck, hf']
          cases r' with
          | none => rfl
          | some pr => simp only [Sem.run_bind]
        split at hr
        · rename_i pr hf
          cases hr
          obtain ⟨r', hfa, hrun⟩ := findKey_ok T w hk hl hkv hms hf
          cases r' with
          | none => exact hfa.elim
          | some pv =>
            obtain ⟨e', _, he1, he2⟩ := find_at hf
            obtain ⟨m, hm1, hm2⟩ := concE_get hms he1
            obtain ⟨hs, _⟩ := same_key hk hl hcov he2 hkv hm2
            rw [Nat.sub_zero, hfa.1] at hm1
            have hold : ((ms.toArray[pv.1]?).map (·.key)).getD (a.eval x2) = m.key := by simp [hm1]
            refine does_unit (w' := { w with heap := w.heap.setIfInBounds qq'.1 (.map (ms.toArray.modify pv.1 fun e => { e with key := a.eval x2, val := a.eval x3 }) clock) }) ?_ ?_
            · rw [pre hrun]
              simp only [hold]
              unfold Instr.keyThatStays
              simp only [hs, if_true, Sem.run_bind, pure, Sem.run, Result.andThen_ok]
              exact run_setMap _ hheap
            · refine P _ _ E _ undef qq (Env.le.refl E) ?_ rfl
              rw [hfa.1]
              refine HH.setMap hg hqq (concE_mod hkv hvv pv.1 hms) ?_
              apply Array.ext'
              simp
        · rename_i hf
          cases hr
          obtain ⟨r', hfa, hrun⟩ := findKey_ok T w hk hl hkv hms hf
          cases r' with
          | some pv => exact hfa.elim
          | none =>
            refine does_unit (w' := { w with heap := w.heap.setIfInBounds qq'.1 (.map (ms.toArray.push { key := a.eval x2, val := a.eval x3, born := clock }) (clock + 1)) }) ?_ ?_
            · rw [pre hrun]
              exact run_setMap _ hheap
            · refine P _ _ E _ undef qq (Env.le.refl E) ?_ rfl
              rw [lApp_eq]
              refine HH.setMap hg hqq (concE_app (f := [(ev tm y2, ev tm y3, clock)]) (n := [{ key := a.eval x2, val := a.eval x3, born := clock }]) ⟨hkv, hvv, rfl, trivial⟩ hms) ?_
              apply Array.ext'
              simp
        · cases hr
      · cases hr
  · cases hr

end Go.Sx
