/- EVERY INSTRUCTION THAT THE COMPILER MAKES STANDS FOR ITS OPERATION. -/
import Derived.Test.YtgohpnfoogdlaaaDoorSxEq
/-! EQUALITY AS AN OPERATION; MAPS. -/
namespace Go.Sx
open Go.RowKit

def EqPlain (u v : Value) : Prop :=
  (∀ t x y, eqGuard .eql t x y u v = pure () ∧ eqGuard .neq t x y u v = pure ()) ∧
  (∀ t, binOp .eql t u v = (do let b ← Op.equal t u v; pure (.bool b)) ∧ binOp .neq t u v = (do let b ← Op.equal t u v; pure (.bool !b)))

theorem eqLeaf_plain {l : Leaf} {x y : AV} {be : BE} (h : eqLeaf l x y = some be) (hl : l ≠ .int) {E : Env} {u v : Value} (hx : conc E x = some u) (hy : conc E y = some v) : EqPlain u v := by
  unfold eqLeaf at h
  split at h
  · exact absurd rfl hl
  · split at h
    · simp only [conc, Option.some.injEq] at hx hy; subst hx; subst hy; exact ⟨fun _ _ _ => ⟨rfl, rfl⟩, fun _ => ⟨rfl, rfl⟩⟩
    · cases h
  · split at h
    · simp only [conc, Option.some.injEq] at hx hy; subst hx; subst hy; exact ⟨fun _ _ _ => ⟨rfl, rfl⟩, fun _ => ⟨rfl, rfl⟩⟩
    · obtain ⟨q, _, rfl⟩ := slice_conc hy; simp only [conc, Option.some.injEq] at hx; subst hx; exact ⟨fun _ _ _ => ⟨rfl, rfl⟩, fun _ => ⟨rfl, rfl⟩⟩
    · obtain ⟨q, _, _, rfl⟩ := sliceX_conc hy; simp only [conc, Option.some.injEq] at hx; subst hx; exact ⟨fun _ _ _ => ⟨rfl, rfl⟩, fun _ => ⟨rfl, rfl⟩⟩
    · obtain ⟨q, _, rfl⟩ := slice_conc hx; simp only [conc, Option.some.injEq] at hy; subst hy; exact ⟨fun _ _ _ => ⟨rfl, rfl⟩, fun _ => ⟨rfl, rfl⟩⟩
    · obtain ⟨q, _, _, rfl⟩ := sliceX_conc hx; simp only [conc, Option.some.injEq] at hy; subst hy; exact ⟨fun _ _ _ => ⟨rfl, rfl⟩, fun _ => ⟨rfl, rfl⟩⟩
    · cases h
  · split at h
    · simp only [conc, Option.some.injEq] at hx hy; subst hx; subst hy; exact ⟨fun _ _ _ => ⟨rfl, rfl⟩, fun _ => ⟨rfl, rfl⟩⟩
    · obtain ⟨q, _, rfl⟩ := map_conc hy; simp only [conc, Option.some.injEq] at hx; subst hx; exact ⟨fun _ _ _ => ⟨rfl, rfl⟩, fun _ => ⟨rfl, rfl⟩⟩
    · obtain ⟨q, _, rfl⟩ := map_conc hx; simp only [conc, Option.some.injEq] at hy; subst hy; exact ⟨fun _ _ _ => ⟨rfl, rfl⟩, fun _ => ⟨rfl, rfl⟩⟩
    · cases h
  · split at h
    · simp only [conc, Option.some.injEq] at hx hy; subst hx; subst hy; exact ⟨fun _ _ _ => ⟨rfl, rfl⟩, fun _ => ⟨rfl, rfl⟩⟩
    · obtain ⟨q, _, rfl⟩ := ptr_conc hy; simp only [conc, Option.some.injEq] at hx; subst hx; exact ⟨fun _ _ _ => ⟨rfl, rfl⟩, fun _ => ⟨rfl, rfl⟩⟩
    · obtain ⟨q, _, rfl⟩ := ptr_conc hx; simp only [conc, Option.some.injEq] at hy; subst hy; exact ⟨fun _ _ _ => ⟨rfl, rfl⟩, fun _ => ⟨rfl, rfl⟩⟩
    · cases h
  · split at h
    · simp only [conc, Option.some.injEq] at hx hy; subst hx; subst hy; exact ⟨fun _ _ _ => ⟨rfl, rfl⟩, fun _ => ⟨rfl, rfl⟩⟩
    · obtain ⟨_, _, _, rfl⟩ := func_conc hy; simp only [conc, Option.some.injEq] at hx; subst hx; exact ⟨fun _ _ _ => ⟨rfl, rfl⟩, fun _ => ⟨rfl, rfl⟩⟩
    · obtain ⟨_, _, _, rfl⟩ := func_conc hx; simp only [conc, Option.some.injEq] at hy; subst hy; exact ⟨fun _ _ _ => ⟨rfl, rfl⟩, fun _ => ⟨rfl, rfl⟩⟩
    · obtain ⟨_, _, rfl⟩ := yield_conc hy; simp only [conc, Option.some.injEq] at hx; subst hx; exact ⟨fun _ _ _ => ⟨rfl, rfl⟩, fun _ => ⟨rfl, rfl⟩⟩
    · obtain ⟨_, _, rfl⟩ := yield_conc hx; simp only [conc, Option.some.injEq] at hy; subst hy; exact ⟨fun _ _ _ => ⟨rfl, rfl⟩, fun _ => ⟨rfl, rfl⟩⟩
    · cases h

theorem leaves_one {ty : Nat → Option TI} {t : Nat} {i : TI} (ht : ty t = some i) {ls : List (Nat × Leaf)} (h : leaves ty 12 t 0 = some ls) (ha : i.isAgg = false) (hi : isInt i = false) : ∃ l, ls = [(0, l)] ∧ l ≠ .int := by
  simp only [leaves, ht] at h
  unfold TI.isAgg at ha
  unfold isInt at hi
  split at h
  · exact ⟨_, (Option.some.inj h).symm, by simp⟩
  · rename_i k hd; rw [hd] at hi; cases hi
  · exact ⟨_, (Option.some.inj h).symm, by simp⟩
  · exact ⟨_, (Option.some.inj h).symm, by simp⟩
  · exact ⟨_, (Option.some.inj h).symm, by simp⟩
  · exact ⟨_, (Option.some.inj h).symm, by simp⟩
  · rename_i fs hd; rw [hd] at ha; cases ha
  · rename_i n e hd; rw [hd] at ha; cases ha
  · cases h

theorem leaves_eqOk {ty : Nat → Option TI} {t : Nat} {i : TI} (ht : ty t = some i) {ls : List (Nat × Leaf)} (h : leaves ty 12 t 0 = some ls) (ha : i.isAgg = true) : i.eqOk = true := by
  simp only [leaves, ht] at h
  unfold TI.isAgg at ha
  split at h
  · rename_i hd; rw [hd] at ha; cases ha
  · rename_i k hd; rw [hd] at ha; cases ha
  · rename_i k hd; rw [hd] at ha; cases ha
  · rename_i k e hd; rw [hd] at ha; cases ha
  · rename_i k hd; rw [hd] at ha; cases ha
  · rename_i k1 k2 k3 hd; rw [hd] at ha; cases ha
  · cases hok : i.eqOk with
    | true => rfl
    | false => rw [hok] at h; cases h
  · cases hok : i.eqOk with
    | true => rfl
    | false => rw [hok] at h; cases h
  · cases h

theorem eq_ok {p : Par} {ty : Nat → Option TI} (T : TyOk p.P ty) {t t' : Nat} {i : TI} (ht : ty t = some i) (hi : isInt i = false) {ls : List (Nat × Leaf)} (hl : leaves ty 12 t 0 = some ls) {ng : Bool} {x1 x2 : Operand} {y1 y2 : Opd}
    (h1 : cOpd x1 = some y1) (h2 : cOpd x2 = some y2) {o : Oper} (ho : o.op = .binOp (if ng then .neq else .eql) t x1 x2 t') : InsOk p (iEq ng i.isAgg i.size ls y1 y2) o := by
  intro cx n keep E w0 tm h a w Q K _ HT HH k P
  obtain ⟨r, hr, q⟩ := holds_mk2 k
  have hex : execOp a.eval o = (do let x ← (do eqGuard (if ng then .neq else .eql) t x1 x2 (a.eval x1) (a.eval x2); binOp (if ng then .neq else .eql) t (a.eval x1) (a.eval x2)); pure (Next.value x)) := by unfold execOp; rw [ho]
  rw [hex]
  unfold aeq at hr
  split at hr
  · rename_i be hbe
    cases hr
    have main : ∀ {u v : Value}, conc E (ev tm y1) = some u → conc E (ev tm y2) = some v →
        (((eqGuard (if ng then .neq else .eql) t x1 x2 u v).run p.P w = .ok () w) ∧ binOp (if ng then .neq else .eql) t u v = (do let b ← Op.equal t u v; pure (.bool (if ng then !b else b)))) →
        Does p.P ((do let x ← (do eqGuard (if ng then .neq else .eql) t x1 x2 (a.eval x1) (a.eval x2); binOp (if ng then .neq else .eql) t (a.eval x1) (a.eval x2)); pure (Next.value x) : Sem Next).run p.P w) K := by
      intro u v hu hv ⟨g1, g2⟩
      rw [opd_ok HT h1 hu HH.glob, opd_ok HT h2 hv HH.glob]
      have heq := eqV_ok T w ht hl hbe hu hv
      refine does_value (v := .bool (if ng then !(be.den E.ρ) else be.den E.ρ)) (w' := w) ?_ (P.same HH q ?_)
      · simp only [Sem.run_bind, g1, Result.andThen_ok, g2, heq]
        rfl
      · cases ng
        · rfl
        · simp [conc, mkNot_den]
    cases hagg : i.isAgg with
    | true =>
      have hbe' := hbe
      unfold eqV at hbe'
      rw [hagg, cond_true] at hbe'
      split at hbe'
      · rename_i xs ys e1 e2
        have hb1 := opd_some HT h1 (by rw [e1]; rfl) HH.glob
        have hb2 := opd_some HT h2 (by rw [e2]; rfl) HH.glob
        have hb1' := hb1
        have hb2' := hb2
        rw [e1] at hb1'
        rw [e2] at hb2'
        obtain ⟨vs, hvs, ev1⟩ := agg_conc hb1'
        obtain ⟨us, hus, ev2⟩ := agg_conc hb2'
        refine main hb1 hb2 ?_
        rw [ev1, ev2]
        have hg := (T.eqOk t i ht (leaves_eqOk ht hl hagg)).2
        refine ⟨?_, ?_⟩
        · exact run_eqGuard_agg w _ t x1 x2 _ _ hg
        · cases ng <;> rfl
      · cases hbe'
    | false =>
      obtain ⟨l, rfl, hne⟩ := leaves_one ht hl hagg hi
      have hbe' := hbe
      unfold eqV at hbe'
      rw [hagg, cond_false] at hbe'
      have hxy : eqCells [ev tm y1] [ev tm y2] [(0, l)] = some be := by
        revert hbe'
        split
        · intro h; cases h
        · intro h; cases h
        · exact fun h => h
      obtain ⟨x, y, c, hx', hy', hc, _, _⟩ := eqCells_step hxy E.ρ
      simp only [List.getElem?_cons_zero, Option.some.injEq] at hx' hy'
      subst hx'; subst hy'
      have nb : notBad (ev tm y1) = true ∧ notBad (ev tm y2) = true := by
        unfold eqLeaf at hc
        constructor
        · cases hz : ev tm y1 <;> first | rfl | (rw [hz] at hc; cases l <;> simp at hc)
        · cases hz : ev tm y2 <;> first | rfl | (rw [hz] at hc; cases l <;> cases ev tm y1 <;> simp at hc)
      have hu := opd_some HT h1 nb.1 HH.glob
      have hv := opd_some HT h2 nb.2 HH.glob
      have hpl := eqLeaf_plain hc hne hu hv
      refine main hu hv ⟨?_, ?_⟩
      · cases ng
        · rw [if_neg (by simp), (hpl.1 t x1 x2).1]; rfl
        · rw [if_pos rfl, (hpl.1 t x1 x2).2]; rfl
      · cases ng
        · exact (hpl.2 t).1
        · exact (hpl.2 t).2
  · cases hr

/-! ## Keys -/
theorem mkCmp_self {a : IE} {c : BE} (h : mkCmp .eql a a = some c) (ρ : Rho) : c.den ρ = true := by
  obtain ⟨_, hd⟩ := mkCmp_den (ρ := ρ) h
  rw [hd]; simp [cmpDen]

theorem eqLeaf_self {l : Leaf} {x : AV} {c : BE} (h : eqLeaf l x x = some c) (ρ : Rho) : c.den ρ = true := by
  unfold eqLeaf at h
  cases l <;> cases x <;> simp only at h <;> first | (cases h; done) | skip
  · rename_i k e
    cases hk : kindEq k k with
    | false => rw [hk] at h; cases h
    | true => rw [hk, cond_true] at h; exact mkCmp_self h ρ
  · cases h; rw [mkIff_den]; simp
  all_goals (cases h; rfl)

def CheckOk (P : Program) (em : Bool) (D : Nat) (t : Nat) (u : Value) (w : World) : Prop := (Instr.checkKey em D t u).run P w = .ok () w

theorem run_check_struct {P : Program} (w : World) (em : Bool) (D t : Nat) (cs : Array Value) (fs : Array Field) (hu : P.underlying t = some (.struct fs)) :
    (∀ f ∈ fs.toList, f.name ≠ "_" → ∃ u, (part f.type cs f.offset).run P w = .ok u w ∧ CheckOk P em D f.type u w) → CheckOk P em (D + 1) t (.agg cs) w := by
  intro h
  unfold CheckOk Instr.checkKey
  simp only [Sem.run_bind, run_underlying hu, Result.andThen_ok]
  rw [← Array.forIn_toList]
  generalize fs.toList = l at h
  have : (Sem.run P (forIn l PUnit.unit fun f _ => do
      if f.name ≠ "_" then do
        let x ← part f.type cs f.offset
        Instr.checkKey em D f.type x
        pure (ForInStep.yield PUnit.unit)
      else pure (ForInStep.yield PUnit.unit)) w) = .ok PUnit.unit w := by
    induction l with
    | nil => rfl
    | cons f l ih =>
      simp only [List.forIn_cons, Sem.run_bind, Sem.run_ite]
      have ih' := ih (fun g hg => h g (by simp [hg]))
      split
      · rename_i hn
        obtain ⟨u, h1, h2⟩ := h f (by simp) hn
        unfold CheckOk at h2
        simp only [h1, h2, Result.andThen_ok, Sem.run_pure]
        exact ih'
      · simp only [Sem.run_pure, Result.andThen_ok]
        exact ih'
  rw [this]
  rfl

theorem run_check_array {P : Program} (w : World) (em : Bool) (D t e len n : Nat) (cs : Array Value) (hu : P.underlying t = some (.array len e)) (hn : ∀ w, (sizeOf e).run P w = .ok n w) :
    (∀ k, k < len → ∃ u, (part e cs (k * n)).run P w = .ok u w ∧ CheckOk P em D e u w) → CheckOk P em (D + 1) t (.agg cs) w := by
  intro h
  unfold CheckOk Instr.checkKey
  simp only [Sem.run_bind, run_underlying hu, Result.andThen_ok]
  rw [Std.Legacy.Range.forIn_eq_forIn_range']
  have hs : (Std.Legacy.Range.size { stop := len, step_pos := Nat.zero_lt_one : Std.Legacy.Range }) = len := by simp [Std.Legacy.Range.size]
  rw [hs]
  have h' : ∀ k ∈ List.range' 0 len 1, ∃ u, (part e cs (k * n)).run P w = .ok u w ∧ CheckOk P em D e u w := fun k hk => h k (by simp at hk; omega)
  have : (Sem.run P (forIn (List.range' 0 len 1) PUnit.unit fun i _ => do
      let s ← sizeOf e
      let x ← part e cs (i * s)
      Instr.checkKey em D e x
      pure (ForInStep.yield PUnit.unit)) w) = .ok PUnit.unit w := by
    revert h'
    generalize List.range' 0 len 1 = l
    intro h'
    induction l with
    | nil => rfl
    | cons k l ih =>
      obtain ⟨u, h1, h2⟩ := h' k (by simp)
      unfold CheckOk at h2
      simp only [List.forIn_cons, Sem.run_bind, hn, h1, h2, Result.andThen_ok, Sem.run_pure]
      exact ih (fun g hg => h' g (by simp [hg]))
  refine Eq.trans (b := (Result.ok PUnit.unit w).andThen fun _ w' => Sem.run P (pure ()) w') ?_ rfl
  rw [← this]

theorem check_leaf {P : Program} {t : Nat} {d : TypeDesc} (hu : P.underlying t = some d) {l : Leaf} (hl : LeafOf d l) (u : Value) (em : Bool) (D : Nat) (w : World) : CheckOk P em (D + 1) t u w := by
  unfold CheckOk Instr.checkKey
  simp only [Sem.run_bind, run_underlying hu, Result.andThen_ok]
  cases l
  · obtain ⟨k, rfl⟩ := hl; cases u <;> rfl
  · have : d = .bool := hl
    subst this; cases u <;> rfl
  · obtain ⟨e, rfl⟩ := hl; cases u <;> rfl
  · obtain ⟨k, e, rfl⟩ := hl; cases u <;> rfl
  · obtain ⟨e, rfl⟩ := hl; cases u <;> rfl
  · obtain ⟨_, _, _, rfl⟩ := hl; cases u <;> rfl

theorem check_leaves {P : Program} {ty : Nat → Option TI} (T : TyOk P ty) (w : World) (em : Bool) {E : Env} {xs : List AV} {vs : List Value} (hx : concL E xs = some vs) :
    ∀ (d t off : Nat) (ls : List (Nat × Leaf)) (i : TI), leaves ty d t off = some ls → ty t = some i → ∀ (D : Nat), d ≤ D → ∀ (rest : List (Nat × Leaf)) (be : BE), eqCells xs xs (ls ++ rest) = some be →
      ∃ u, PartAt i vs off u ∧ CheckOk P em D t u w ∧ ∃ e, eqCells xs xs rest = some e := by
  intro d
  induction d with
  | zero => intro t off ls i h; cases h
  | succ d ih =>
    intro t off ls i h ht D hD rest be he
    obtain ⟨D, rfl⟩ : ∃ D', D = D' + 1 := ⟨D - 1, by omega⟩
    have hu := T.und t i ht
    simp only [leaves, ht] at h
    have leaf : ∀ l : Leaf, LeafOf i.desc l → i.isAgg = false → ls = [(off, l)] → ∃ u, PartAt i vs off u ∧ CheckOk P em (D + 1) t u w ∧ ∃ e, eqCells xs xs rest = some e := by
      intro l hl hagg e
      subst e
      obtain ⟨x, y, c, hx', hy', hc, hf, htt⟩ := eqCells_step he E.ρ
      rw [hx'] at hy'
      cases hy'
      obtain ⟨u, hu1, hu2⟩ := concL_get hx hx'
      obtain ⟨e', he', _⟩ := htt (eqLeaf_self hc E.ρ)
      exact ⟨u, by unfold PartAt; rw [hagg, if_neg (by simp)]; exact hu2, check_leaf hu hl u em D w, e', he'⟩
    split at h
    · rename_i hd; exact leaf .bool hd (by unfold TI.isAgg; rw [hd]) (Option.some.inj h).symm
    · rename_i k hd; exact leaf .int ⟨k, hd⟩ (by unfold TI.isAgg; rw [hd]) (Option.some.inj h).symm
    · rename_i e hd; exact leaf .nilS ⟨e, hd⟩ (by unfold TI.isAgg; rw [hd]) (Option.some.inj h).symm
    · rename_i k e hd; exact leaf .nilM ⟨k, e, hd⟩ (by unfold TI.isAgg; rw [hd]) (Option.some.inj h).symm
    · rename_i e hd; exact leaf .nilP ⟨e, hd⟩ (by unfold TI.isAgg; rw [hd]) (Option.some.inj h).symm
    · rename_i x1 x2 x3 hd; exact leaf .nilF ⟨x1, x2, x3, hd⟩ (by unfold TI.isAgg; rw [hd]) (Option.some.inj h).symm
    · rename_i fs hd
      have hagg : i.isAgg = true := by unfold TI.isAgg; rw [hd]
      cases hok : i.eqOk with
      | false => rw [hok] at h; cases h
      | true =>
        rw [hok, cond_true] at h
        rw [hd] at hu
        have key : ∀ (fl : List Field) (ls : List (Nat × Leaf)) (be : BE), leavesF ty (leaves ty d) off i.size fl = some ls → eqCells xs xs (ls ++ rest) = some be →
            (∀ f ∈ fl, f.name ≠ "_" → ∃ u, (part f.type ((vs.drop off).take i.size).toArray f.offset).run P w = .ok u w ∧ CheckOk P em D f.type u w) ∧ ∃ e, eqCells xs xs rest = some e := by
          intro fl
          induction fl with
          | nil =>
            intro ls be hl he
            simp only [leavesF, Option.some.injEq] at hl
            subst hl
            exact ⟨fun f hf => (by cases hf), be, he⟩
          | cons f fl ihf =>
            intro ls be hl he
            obtain ⟨j, a, b, hj, hname, h1, hle, ha, hb, rfl⟩ := leavesF_cons hl
            rw [List.append_assoc] at he
            obtain ⟨u, hpu, hck, e', he'⟩ := ih f.type (off + f.offset) a j ha hj D (by omega) (b ++ rest) be he
            obtain ⟨h2, h3⟩ := ihf b e' hb he'
            refine ⟨fun g hg hn => ?_, h3⟩
            rcases List.mem_cons.1 hg with rfl | hg
            · exact ⟨u, part_sub T hj hpu hle h1 w, hck⟩
            · exact h2 g hg hn
        obtain ⟨hp, he'⟩ := key fs.toList ls be h he
        exact ⟨_, by unfold PartAt; rw [if_pos hagg], run_check_struct w em D t _ fs hu hp, he'⟩
    · rename_i n e hd
      have hagg : i.isAgg = true := by unfold TI.isAgg; rw [hd]
      cases hok : i.eqOk with
      | false => rw [hok] at h; cases h
      | true =>
        rw [hok, cond_true] at h
        rw [hd] at hu
        cases hj : ty e with
        | none => rw [hj] at h; cases h
        | some j =>
          rw [hj] at h
          simp only at h
          cases hc : and (Nat.ble 1 j.size) (Nat.ble (n * j.size) i.size) with
          | false => rw [hc] at h; cases h
          | true =>
            rw [hc, cond_true] at h
            obtain ⟨c1, c2⟩ := Bool.and_eq_true_iff.1 hc
            have c1 := ble_t.1 c1
            have c2 := ble_t.1 c2
            have key : ∀ (m k : Nat) (ls : List (Nat × Leaf)) (be : BE), k + m = n → leavesA (leaves ty d e) j.size m (off + k * j.size) = some ls → eqCells xs xs (ls ++ rest) = some be →
                (∀ q, k ≤ q → q < n → ∃ u, (part e ((vs.drop off).take i.size).toArray (q * j.size)).run P w = .ok u w ∧ CheckOk P em D e u w) ∧ ∃ e, eqCells xs xs rest = some e := by
              intro m
              induction m with
              | zero =>
                intro k ls be hk hl he
                simp only [leavesA, Option.some.injEq] at hl
                subst hl
                exact ⟨fun q h1 h2 => absurd h2 (by omega), be, he⟩
              | succ m ihm =>
                intro k ls be hk hl he
                obtain ⟨a, b, ha, hb, rfl⟩ := leavesA_cons hl
                rw [List.append_assoc] at he
                obtain ⟨u, hpu, hck, e', he'⟩ := ih e (off + k * j.size) a j ha hj D (by omega) (b ++ rest) be he
                have hle : k * j.size + j.size ≤ i.size := by
                  have : (k + 1) * j.size ≤ n * j.size := Nat.mul_le_mul_right _ (by omega)
                  rw [Nat.succ_mul] at this
                  omega
                obtain ⟨h2, h3⟩ := ihm (k + 1) b e' (by omega) (by rw [Nat.succ_mul, ← Nat.add_assoc]; exact hb) he'
                refine ⟨fun q h4 h5 => ?_, h3⟩
                by_cases hq : q = k
                · subst hq; exact ⟨u, part_sub T hj hpu hle c1 w, hck⟩
                · exact h2 q (by omega) h5
            obtain ⟨hp, he'⟩ := key n 0 ls be (by omega) (by simpa using h) he
            exact ⟨_, by unfold PartAt; rw [if_pos hagg], run_check_array w em D t e n j.size _ hu (fun w => run_size T hj w) (fun k hk => hp k (by omega) hk), he'⟩
    · cases h

theorem eqV_agg {n : Nat} {ls : List (Nat × Leaf)} {x y : AV} {be : BE} (h : eqV true n ls x y = some be) : ∃ xs ys, x = .agg xs ∧ y = .agg ys ∧ xs.length = n ∧ ys.length = n ∧ eqCells xs ys ls = some be := by
  unfold eqV at h
  rw [cond_true] at h
  split at h
  · rename_i xs ys
    cases hb : and (Nat.beq (lLen xs) n) (Nat.beq (lLen ys) n) with
    | false => rw [hb] at h; cases h
    | true =>
      rw [hb, cond_true] at h
      obtain ⟨c1, c2⟩ := Bool.and_eq_true_iff.1 hb
      rw [lLen_eq] at c1 c2
      exact ⟨xs, ys, rfl, rfl, beq_t.1 c1, beq_t.1 c2, h⟩
  · cases h

theorem eqV_one {n : Nat} {ls : List (Nat × Leaf)} {x y : AV} {be : BE} (h : eqV false n ls x y = some be) : eqCells [x] [y] ls = some be := by
  unfold eqV at h
  rw [cond_false] at h
  revert h
  split
  · intro h; cases h
  · intro h; cases h
  · exact fun h => h

theorem key_check {P : Program} {ty : Nat → Option TI} (T : TyOk P ty) (w : World) (em : Bool) {E : Env} {t : Nat} {i : TI} (ht : ty t = some i) {ls : List (Nat × Leaf)} (hl : leaves ty 12 t 0 = some ls) {x : AV} (h : keyOk i.isAgg i.size ls x = true)
    {u : Value} (hx : conc E x = some u) : (Instr.checkKey em 10000 t u).run P w = .ok () w := by
  unfold keyOk at h
  split at h
  · rename_i be hbe
    cases hagg : i.isAgg with
    | true =>
      rw [hagg] at hbe
      obtain ⟨xs, ys, rfl, e2, l1, _, hc⟩ := eqV_agg hbe
      cases e2
      obtain ⟨vs, hvs, rfl⟩ := agg_conc hx
      rw [← List.append_nil ls] at hc
      obtain ⟨u', hp, hck, _⟩ := check_leaves T w em hvs 12 t 0 ls i hl ht 10000 (by decide) [] be hc
      unfold PartAt at hp
      rw [if_pos hagg, List.drop_zero, ← l1, ← concL_len hvs, List.take_length] at hp
      rw [← hp]
      exact hck
    | false =>
      rw [hagg] at hbe
      have hc := eqV_one hbe
      rw [← List.append_nil ls] at hc
      obtain ⟨u', hp, hck, _⟩ := check_leaves T w em (xs := [x]) (concL_cons.2 ⟨u, [], hx, rfl, rfl⟩) 12 t 0 ls i hl ht 10000 (by decide) [] be hc
      unfold PartAt at hp
      rw [hagg, if_neg (by simp)] at hp
      simp only [List.getElem?_cons_zero, Option.some.injEq] at hp
      subst hp
      exact hck
  · cases h

/-! ## Finding a key -/
theorem findKeyA_cons (whole : Bool) (n : Nat) (ls : List (Nat × Leaf)) (k : AV) (e : AV × AV × Nat) (es : List (AV × AV × Nat)) (i : Nat) : findKeyA whole n ls k (e :: es) i =
    (match eqV whole n ls k e.1 with
      | some (.lit c) => cond c (some (some (i, e.2.1))) (findKeyA whole n ls k es (Nat.succ i))
      | _ => none) := rfl

def FoundAs (E : Env) (r : Option (Nat × AV)) (r' : Option (Nat × Value)) : Prop :=
  match r, r' with
  | none, none => True
  | some p, some q => p.1 = q.1 ∧ conc E p.2 = some q.2
  | _, _ => False

theorem find_step {whole : Bool} {n : Nat} {ls : List (Nat × Leaf)} {k : AV} {e : AV × AV × Nat} {es : List (AV × AV × Nat)} {i : Nat} {r : Option (Nat × AV)} (h : findKeyA whole n ls k (e :: es) i = some r) :
    ∃ c, eqV whole n ls k e.1 = some (.lit c) ∧ ((c = true ∧ r = some (i, e.2.1)) ∨ (c = false ∧ findKeyA whole n ls k es (i + 1) = some r)) := by
  rw [findKeyA_cons] at h
  split at h
  · rename_i c hc
    refine ⟨c, hc, ?_⟩
    cases c with
    | true => exact .inl ⟨rfl, (Option.some.inj h).symm⟩
    | false => exact .inr ⟨rfl, h⟩
  · cases h

theorem findAsking_ok {P : Program} {ty : Nat → Option TI} (T : TyOk P ty) (w : World) {E : Env} {t : Nat} {ti : TI} (ht : ty t = some ti) {ls : List (Nat × Leaf)} (hl : leaves ty 12 t 0 = some ls) {k : AV} {kv : Value} (hk : conc E k = some kv) :
    ∀ (es : List (AV × AV × Nat)) (ms : List MapEntry) (i : Nat) (r : Option (Nat × AV)), concE E es ms → findKeyA ti.isAgg ti.size ls k es i = some r → ∃ r', FoundAs E r r' ∧ (Instr.findAsking t kv ms i).run P w = .ok r' w
  | [], [], i, r, _, h => by
    have : r = none := (Option.some.inj h).symm
    subst this
    exact ⟨none, trivial, rfl⟩
  | e :: es, m :: ms, i, r, ⟨h1, h2, h3, h4⟩, h => by
    obtain ⟨c, hc, hr⟩ := find_step h
    have heq := eqV_ok T w ht hl hc hk h1
    simp only [BE.den] at heq
    rcases hr with ⟨rfl, rfl⟩ | ⟨rfl, hr⟩
    · refine ⟨some (i, m.val), ⟨rfl, h2⟩, ?_⟩
      simp only [Instr.findAsking, Sem.run_bind, heq, Result.andThen_ok, if_true]
      rfl
    · obtain ⟨r', hf, hrun⟩ := findAsking_ok T w ht hl hk es ms (i + 1) r h4 hr
      refine ⟨r', hf, ?_⟩
      simp only [Instr.findAsking, Sem.run_bind, heq, Result.andThen_ok, Bool.false_eq_true, if_false]
      exact hrun

theorem sameNow_eq {P : Program} {t : Nat} {d : TypeDesc} (hu : P.underlying t = some d) {u v : Value} {b c : Bool} {w : World} (h : Instr.sameNow d u v = some b) (he : (Op.equal t u v).run P w = .ok c w) : b = c := by
  unfold Op.equal at he
  rw [show Op.maxDepth = 9999 + 1 from rfl] at he
  generalize (9999 : Nat) = D at he
  unfold Instr.sameNow at h
  split at h
  · rename_i k a k' b' 
    split at h
    · rename_i hk
      subst hk
      cases h
      simp only [Op.equalIn, Sem.run_bind, run_underlying hu, Result.andThen_ok, if_true, pure, Sem.run] at he
      cases he; rfl
    · cases h
  · cases h
    simp only [Op.equalIn, Sem.run_bind, run_underlying hu, Result.andThen_ok, pure, Sem.run] at he
    cases he; rfl
  · cases h
    simp only [Op.equalIn, Sem.run_bind, run_underlying hu, Result.andThen_ok, pure, Sem.run] at he
    cases he; rfl
  · cases h

theorem findNow_ok {P : Program} {ty : Nat → Option TI} (T : TyOk P ty) (w : World) {E : Env} {t : Nat} {ti : TI} (ht : ty t = some ti) {ls : List (Nat × Leaf)} (hl : leaves ty 12 t 0 = some ls) {k : AV} {kv : Value} (hk : conc E k = some kv) :
    ∀ (es : List (AV × AV × Nat)) (ms : List MapEntry) (i : Nat) (r : Option (Nat × AV)) (r' : Option (Nat × Value)), concE E es ms → findKeyA ti.isAgg ti.size ls k es i = some r → Instr.findNow ti.desc kv ms i = some r' → FoundAs E r r'
  | [], [], i, r, r', _, h, h' => by
    have : r = none := (Option.some.inj h).symm
    subst this
    have : r' = none := (Option.some.inj h').symm
    subst this
    trivial
  | e :: es, m :: ms, i, r, r', ⟨h1, h2, h3, h4⟩, h, h' => by
    obtain ⟨c, hc, hr⟩ := find_step h
    have heq := eqV_ok T w ht hl hc hk h1
    simp only [BE.den] at heq
    have hu := T.und t ti ht
    simp only [Instr.findNow] at h'
    split at h'
    · rename_i hs
      have := sameNow_eq hu hs heq
      subst this
      rcases hr with ⟨_, rfl⟩ | ⟨hf, _⟩
      · cases h'; exact ⟨rfl, h2⟩
      · cases hf
    · rename_i hs
      have := sameNow_eq hu hs heq
      subst this
      rcases hr with ⟨hf, _⟩ | ⟨_, hr⟩
      · cases hf
      · exact findNow_ok T w ht hl hk es ms (i + 1) r r' h4 hr h'
    · cases h'

theorem findKey_ok {P : Program} {ty : Nat → Option TI} (T : TyOk P ty) (w : World) {E : Env} {t : Nat} {ti : TI} (ht : ty t = some ti) {ls : List (Nat × Leaf)} (hl : leaves ty 12 t 0 = some ls) {k : AV} {kv : Value} (hk : conc E k = some kv)
    {es : List (AV × AV × Nat)} {ms : List MapEntry} {r : Option (Nat × AV)} (he : concE E es ms) (h : findKeyA ti.isAgg ti.size ls k es 0 = some r) : ∃ r', FoundAs E r r' ∧ (Instr.findKey t kv ms).run P w = .ok r' w := by
  unfold Instr.findKey
  simp only [Sem.run_bind, run_underlying (T.und t ti ht), Result.andThen_ok]
  cases hn : Instr.findNow ti.desc kv ms 0 with
  | some r' => exact ⟨r', findNow_ok T w ht hl hk es ms 0 r r' he h hn, rfl⟩
  | none => exact findAsking_ok T w ht hl hk es ms 0 r he h

end Go.Sx
/-! MAPS of which is told what lies in them, if something does: keys and values as numbers. -/
namespace Go.Sx
open Go.RowKit

theorem umAt_some {h : Heap} {x : AV} {p : Nat × MU} (e : umAt h x = some p) : x = .map p.1 ∧ h.get p.1 = some (.umap p.2) := by
  unfold umAt at e
  split at e
  · split at e
    · rename_i b _ m hg; cases e; exact ⟨rfl, hg⟩
    · cases e
  · cases e

def keyN (nk : Nat) : Prop := nk = 1 ∨ nk = 2 ∨ nk = 3

theorem isI64_eqU {k : IntKind} (h : isI64 k = true) : k = .i64 := by cases k <;> first | rfl | cases h

/-- a key's numbers, read -/
theorem umKey_some {nk : Nat} {k : AV} {q : IE × IE × IE} (h : umKey nk k = some q) : keyN nk ∧
    (∀ ρ : Rho, (nk < 2 → q.2.1.den ρ = 0) ∧ (nk < 3 → q.2.2.den ρ = 0)) ∧ notBad k = true ∧ ∀ E : Env, conc E k = conc E (keyU nk (q.1.den E.ρ) (q.2.1.den E.ρ) (q.2.2.den E.ρ)) := by
  unfold umKey at h
  split at h
  · split at h
    · rename_i k1 a
      obtain ⟨hc, e⟩ := cond_some' h
      simp only [Bool.and_eq_true] at hc
      have h1 := isI64_eqU hc.1; have h2 := beq_t.1 hc.2; subst h1; subst h2
      cases e
      exact ⟨.inl rfl, fun ρ => ⟨fun _ => rfl, fun _ => rfl⟩, rfl, fun E => rfl⟩
    · rename_i k1 a k2 b
      obtain ⟨hc, e⟩ := cond_some' h
      simp only [Bool.and_eq_true] at hc
      have h1 := isI64_eqU hc.1; have h2 := isI64_eqU hc.2.1; have h3 := beq_t.1 hc.2.2; subst h1; subst h2; subst h3
      cases e
      exact ⟨.inr (.inl rfl), fun ρ => ⟨fun h => absurd h (by omega), fun _ => rfl⟩, rfl, fun E => rfl⟩
    · rename_i k1 a k2 b k3 c
      obtain ⟨hc, e⟩ := cond_some' h
      simp only [Bool.and_eq_true] at hc
      have h1 := isI64_eqU hc.1; have h2 := isI64_eqU hc.2.1; have h3 := isI64_eqU hc.2.2.1; have h4 := beq_t.1 hc.2.2.2; subst h1; subst h2; subst h3; subst h4
      cases e
      exact ⟨.inr (.inr rfl), fun ρ => ⟨fun h => absurd h (by omega), fun h => absurd h (by omega)⟩, rfl, fun E => rfl⟩
    · cases h
  · cases h
where
  cond_some' {α : Type} {c : Bool} {x : Option α} {y : α} (h : cond c x none = some y) : c = true ∧ x = some y := by
    cases c with
    | true => exact ⟨rfl, h⟩
    | false => cases h

theorem isIntL_eq {l : Leaf} (h : isIntL l = true) : l = .int := by cases l <;> first | rfl | cases h

theorem lvInts_eq {ls : List (Nat × Leaf)} {n : Nat} (h : lvInts ls n = true) : (n = 1 ∧ ls = [(0, .int)]) ∨ (n = 2 ∧ ls = [(0, .int), (1, .int)]) ∨ (n = 3 ∧ ls = [(0, .int), (1, .int), (2, .int)]) := by
  unfold lvInts at h
  split at h
  · rename_i p
    simp only [Bool.and_eq_true] at h
    obtain ⟨h1, h2, h3⟩ := h
    have h1 := beq_t.1 h1; have h2 := beq_t.1 h2; have h3 := isIntL_eq h3
    have hp : p = (0, .int) := Prod.ext h2 h3
    subst hp; exact .inl ⟨h1, rfl⟩
  · rename_i p q
    simp only [Bool.and_eq_true] at h
    obtain ⟨h1, ⟨h2, h3⟩, h4, h5⟩ := h
    have h1 := beq_t.1 h1; have h2 := beq_t.1 h2; have h3 := isIntL_eq h3; have h4 := beq_t.1 h4; have h5 := isIntL_eq h5
    have hp : p = (0, .int) := Prod.ext h2 h3
    have hq : q = (1, .int) := Prod.ext h4 h5
    subst hp; subst hq; exact .inr (.inl ⟨h1, rfl⟩)
  · rename_i p q r
    simp only [Bool.and_eq_true] at h
    obtain ⟨h1, ⟨h2, h3⟩, ⟨h4, h5⟩, h6, h7⟩ := h
    have h1 := beq_t.1 h1; have h2 := beq_t.1 h2; have h3 := isIntL_eq h3; have h4 := beq_t.1 h4; have h5 := isIntL_eq h5; have h6 := beq_t.1 h6; have h7 := isIntL_eq h7
    have hp : p = (0, .int) := Prod.ext h2 h3
    have hq : q = (1, .int) := Prod.ext h4 h5
    have hr : r = (2, .int) := Prod.ext h6 h7
    subst hp; subst hq; subst hr; exact .inr (.inr ⟨h1, rfl⟩)
  · cases h

theorem ieq_dec (x y : Int) : ieq x y = decide (x = y) := by
  cases x with
  | ofNat m => cases y with
    | ofNat n =>
      simp only [ieq]
      cases h : Nat.beq m n with
      | true => have := Nat.eq_of_beq_eq_true h; subst this; simp
      | false => have := Nat.ne_of_beq_eq_false h; simp; omega
    | negSucc n => simp [ieq]
  | negSucc m => cases y with
    | ofNat n => simp [ieq]
    | negSucc n =>
      simp only [ieq]
      cases h : Nat.beq m n with
      | true => have := Nat.eq_of_beq_eq_true h; subst this; simp
      | false => have := Nat.ne_of_beq_eq_false h; simp; omega

/-- keys of numbers are alike, or not -/
theorem eqV_key {nk : Nat} {ls : List (Nat × Leaf)} (hl : lvInts ls nk = true) (a b c a' b' c' : Int) (hb : nk < 2 → b = 0) (hc : nk < 3 → c = 0) (hb' : nk < 2 → b' = 0) (hc' : nk < 3 → c' = 0) :
    eqV true nk ls (keyU nk a b c) (keyU nk a' b' c') = some (.lit (decide (a = a' ∧ b = b' ∧ c = c'))) := by
  rcases lvInts_eq hl with ⟨rfl, rfl⟩ | ⟨rfl, rfl⟩ | ⟨rfl, rfl⟩
  · have := hb (by omega); have := hc (by omega); have := hb' (by omega); have := hc' (by omega); subst_vars
    have : eqV true 1 [(0, Leaf.int)] (keyU 1 a 0 0) (keyU 1 a' 0 0) = cond (ieq a a') (some (.lit true)) (some (.lit false)) := rfl
    rw [this, ieq_dec]
    by_cases h : a = a' <;> simp [h]
  · have := hc (by omega); have := hc' (by omega); subst_vars
    have : eqV true 2 [(0, Leaf.int), (1, .int)] (keyU 2 a b 0) (keyU 2 a' b' 0) = cond (ieq a a') (cond (ieq b b') (some (.lit true)) (some (.lit false))) (some (.lit false)) := rfl
    rw [this, ieq_dec, ieq_dec]
    by_cases h : a = a' <;> by_cases h2 : b = b' <;> simp [h, h2]
  · have : eqV true 3 [(0, Leaf.int), (1, .int), (2, .int)] (keyU 3 a b c) (keyU 3 a' b' c') = cond (ieq a a') (cond (ieq b b') (cond (ieq c c') (some (.lit true)) (some (.lit false))) (some (.lit false))) (some (.lit false)) := rfl
    rw [this, ieq_dec, ieq_dec, ieq_dec]
    by_cases h : a = a' <;> by_cases h2 : b = b' <;> by_cases h3 : c = c' <;> simp [h, h2, h3]

theorem keyU_inj {nk : Nat} (hn : keyN nk) {a b c a' b' c' : Int} (hb : nk < 2 → b = 0) (hc : nk < 3 → c = 0) (hb' : nk < 2 → b' = 0) (hc' : nk < 3 → c' = 0) (h : keyU nk a b c = keyU nk a' b' c') : a = a' ∧ b = b' ∧ c = c' := by
  rcases hn with rfl | rfl | rfl
  · have := hb (by omega); have := hc (by omega); have := hb' (by omega); have := hc' (by omega); subst_vars
    simp [keyU] at h; exact ⟨h, rfl, rfl⟩
  · have := hc (by omega); have := hc' (by omega); subst_vars
    simp [keyU] at h; exact ⟨h.1, h.2, rfl⟩
  · simp [keyU] at h; exact h

/-- a key of numbers is found, or not -/
theorem find_key {ρ : Rho} {m : MU} {ls : List (Nat × Leaf)} (hl : lvInts ls m.nk = true) (hn : keyN m.nk) {a b c : Int} (hb : m.nk < 2 → b = 0) (hc : m.nk < 3 → c = 0) : ∀ (es : List (AV × AV × Nat)) (i : Nat), (∀ e ∈ es, ∃ a b c, (m.nk < 2 → b = 0) ∧ (m.nk < 3 → c = 0) ∧ e.1 = keyU m.nk a b c ∧ e.2.1 = umValL ρ m a b c) →
    (findKeyA true m.nk ls (keyU m.nk a b c) es i = some none ∧ ∀ e ∈ es, e.1 ≠ keyU m.nk a b c) ∨ (∃ j, i ≤ j ∧ findKeyA true m.nk ls (keyU m.nk a b c) es i = some (some (j, umValL ρ m a b c)) ∧ (∃ e, es[j - i]? = some e ∧ e.1 = keyU m.nk a b c))
  | [], i, _ => .inl ⟨rfl, fun e he => by cases he⟩
  | e :: es, i, h => by
    obtain ⟨a', b', c', h1, h2, h3, h4⟩ := h e List.mem_cons_self
    rw [findKeyA_cons, h3, eqV_key hl a b c a' b' c' hb hc h1 h2]
    by_cases hd : a = a' ∧ b = b' ∧ c = c'
    · obtain ⟨rfl, rfl, rfl⟩ := hd
      refine .inr ⟨i, Nat.le_refl _, by simp [h4], e, by simp, h3⟩
    · rw [decide_eq_false hd]
      simp only [cond_false]
      rcases find_key (ρ := ρ) hl hn hb hc es (i + 1) (fun e' he' => h e' (List.mem_cons_of_mem _ he')) with ⟨k1, k2⟩ | ⟨j, k1, k2, e', k3, k4⟩
      · refine .inl ⟨k1, fun e' he' => ?_⟩
        rcases List.mem_cons.1 he' with rfl | he'
        · rw [h3]; intro hq
          obtain ⟨x, y, z⟩ := keyU_inj hn h1 h2 hb hc hq
          exact hd ⟨x.symm, y.symm, z.symm⟩
        · exact k2 e' he'
      · refine .inr ⟨j, by omega, k2, e', ?_, k4⟩
        have : j - i = (j - (i + 1)) + 1 := by omega
        rw [this, List.getElem?_cons_succ]; exact k3

theorem umCell_conc {E : Env} (q : IE × IE × IE) (p : Bool × Nat) : conc E (umCell q p) = conc E (umCellL E.ρ (q.1.den E.ρ) (q.2.1.den E.ρ) (q.2.2.den E.ρ) p) := by
  unfold umCell umCellL
  cases p.1 <;> rfl
theorem umCells_conc {E : Env} (q : IE × IE × IE) : ∀ l : List (Bool × Nat), concL E (lMap (umCell q) l) = concL E (l.map (umCellL E.ρ (q.1.den E.ρ) (q.2.1.den E.ρ) (q.2.2.den E.ρ)))
  | [] => rfl
  | p :: l => by
    have : lMap (umCell q) (p :: l) = umCell q p :: lMap (umCell q) l := rfl
    rw [this, List.map_cons]
    simp only [concL, umCell_conc, umCells_conc q l]
theorem umVal_conc {E : Env} (m : MU) (q : IE × IE × IE) : conc E (umVal m q) = conc E (umValL E.ρ m (q.1.den E.ρ) (q.2.1.den E.ρ) (q.2.2.den E.ρ)) := by
  unfold umVal umValL
  cases m.ag with
  | true => simp only [cond_true, conc, umCells_conc]
  | false =>
    simp only [cond_false]
    cases m.fi with
    | nil => rfl
    | cons p l => cases l with
      | nil => exact umCell_conc q p
      | cons _ _ => rfl

theorem needAll_holds {α : Type} {ρ : Rho} {Q : α → Prop} {t : T α} : ∀ {l : List BE}, (needAll t l).Holds ρ Q → (∀ c ∈ l, c.den ρ = true) ∧ t.Holds ρ Q
  | [], h => ⟨fun c hc => (by cases hc), h⟩
  | c :: l, h => by
    simp only [needAll, T.Holds] at h
    split at h
    · rename_i hc
      obtain ⟨a1, a2⟩ := needAll_holds h
      exact ⟨fun d hd => by
        rcases List.mem_cons.1 hd with rfl | hd
        · exact hc
        · exact a1 d hd, a2⟩
    · exact h.elim

/-- a value that is what is told -/
theorem umNeed_conc {E : Env} {q : IE × IE × IE} : ∀ {l : List (Bool × Nat)} {vs : List AV} {cs : List BE}, umNeed q l vs = some cs → (∀ c ∈ cs, c.den E.ρ = true) →
    concL E vs = concL E (l.map (umCellL E.ρ (q.1.den E.ρ) (q.2.1.den E.ρ) (q.2.2.den E.ρ)))
  | [], [], cs, _, _ => rfl
  | [], _ :: _, cs, h, _ => by simp only [umNeed] at h; cases h
  | _ :: _, [], cs, h, _ => by simp only [umNeed] at h; cases h
  | p :: l, v :: vs, cs, h, hd => by
    simp only [umNeed] at h
    split at h
    · cases h
    · rename_i cs' hcs'
      rw [List.map_cons]
      split at h
      · rename_i k e
        cases hc : and (isI64 k) (Bool.not p.1) with
        | false => rw [hc] at h; cases h
        | true =>
          rw [hc, cond_true] at h; cases h
          simp only [Bool.and_eq_true, Bool.not_eq_true'] at hc
          have hk := isI64_eqU hc.1; subst hk
          have h1 := hd _ List.mem_cons_self
          have ih := umNeed_conc hcs' fun c hc => hd c (List.mem_cons_of_mem _ hc)
          have h2 : e.den E.ρ = FI E.ρ.fi p.2 (q.1.den E.ρ) (q.2.1.den E.ρ) (q.2.2.den E.ρ) := by
            simpa [BE.den, cmpDen, IE.den] using h1
          simp only [concL, conc, umCellL, hc.2, cond_false, ih, IE.den, h2]
      · rename_i c
        cases hc : p.1 with
        | false => rw [hc] at h; cases h
        | true =>
          rw [hc, cond_true] at h; cases h
          have h1 := hd _ List.mem_cons_self
          have ih := umNeed_conc hcs' fun c hc => hd c (List.mem_cons_of_mem _ hc)
          have h2 : c.den E.ρ = FB E.ρ.fb p.2 (q.1.den E.ρ) (q.2.1.den E.ρ) (q.2.2.den E.ρ) := by
            simpa [BE.den] using h1
          simp only [concL, conc, umCellL, hc, cond_true, ih, BE.den, h2]
      · cases h
end Go.Sx
/-! MAPS: a lookup; a store. -/
namespace Go.Sx
open Go.RowKit

theorem cMap_some {ty : Nat → Option TI} {t : Nat} {q : TI × List (Nat × Leaf) × TI} (h : cMap ty t = some q) :
    ∃ i k e, ty t = some i ∧ i.desc = .map k e ∧ ty k = some q.1 ∧ leaves ty 12 k 0 = some q.2.1 ∧ ty e = some q.2.2 ∧ coversB q.1.size q.2.1 = true := by
  unfold cMap at h
  cases ht : ty t with
  | none => rw [ht] at h; cases h
  | some i =>
    rw [ht] at h
    simp only at h
    split at h
    · rename_i k e hd
      split at h
      · rename_i ik ls ie h1 h2 h3
        cases hc : coversB ik.size ls with
        | false => rw [hc] at h; cases h
        | true =>
          rw [hc] at h; cases h
          exact ⟨i, k, e, rfl, hd, h1, h2, h3, hc⟩
      · cases h
    · cases h

theorem eqLeaf_bad (l : Leaf) (y : AV) : eqLeaf l .bad y = none := by
  unfold eqLeaf
  cases l <;> cases y <;> rfl

theorem keyOk_nb {whole : Bool} {n : Nat} {ls : List (Nat × Leaf)} {k : AV} (h : keyOk whole n ls k = true) (hne : ls ≠ [] ∨ whole = true) : notBad k = true := by
  unfold keyOk at h
  split at h
  · rename_i be hbe
    cases whole with
    | true => obtain ⟨xs, ys, rfl, _⟩ := eqV_agg hbe; rfl
    | false =>
      have hc := eqV_one hbe
      cases ls with
      | nil => rcases hne with h | h
               · exact absurd rfl h
               · cases h
      | cons q ls =>
        obtain ⟨x, y, c, hx, hy, hl, _, _⟩ := eqCells_step hc (⟨fun _ => 0, fun _ => false, fun _ _ _ _ => 0, fun _ _ _ _ => false, fun _ => undef⟩ : Rho)
        have : x = k := by
          cases hq : q.1 with
          | zero => rw [hq] at hx; simpa using hx.symm
          | succ m => rw [hq] at hx; simp at hx
        subst this
        have : y = x := by
          cases hq : q.1 with
          | zero => rw [hq] at hy; simpa using hy.symm
          | succ m => rw [hq] at hy; simp at hy
        subst this
        cases y <;> first | rfl | (rw [eqLeaf_bad] at hl; cases hl)
  · cases h

theorem leaves_ne {ty : Nat → Option TI} {t : Nat} {i : TI} (ht : ty t = some i) {ls : List (Nat × Leaf)} (h : leaves ty 12 t 0 = some ls) : ls ≠ [] ∨ i.isAgg = true := by
  simp only [leaves, ht] at h
  split at h
  · cases h; exact .inl (by simp)
  · cases h; exact .inl (by simp)
  · cases h; exact .inl (by simp)
  · cases h; exact .inl (by simp)
  · cases h; exact .inl (by simp)
  · cases h; exact .inl (by simp)
  · rename_i fs hd; exact .inr (by unfold TI.isAgg; rw [hd])
  · rename_i n e hd; exact .inr (by unfold TI.isAgg; rw [hd])
  · cases h

theorem entries_some {p : Par} {E : Env} {h : Heap} {w0 : Base} {w : World} (H : HeapOk p E h w0 w) {x : AV} {es : List (AV × AV × Nat)} (he : h.entries x = some es) {v : Value} (hv : conc E x = some v) :
    ∃ ms, concE E es ms ∧ ((v = .map none ∧ ms = []) ∨ ∃ c clock, v = .map (some c) ∧ w.heap[c]? = some (.map ms.toArray clock)) := by
  unfold Heap.entries at he
  split at he
  · cases he
    simp only [conc, Option.some.injEq] at hv
    subst hv
    exact ⟨[], trivial, .inl ⟨rfl, rfl⟩⟩
  · rename_i b
    split at he
    · rename_i es' clock hg
      cases he
      obtain ⟨q, hq, rfl⟩ := map_conc hv
      obtain ⟨ms, h0, hms, hheap⟩ := H.mapAt hg hq
      exact ⟨ms, hms, .inr ⟨q.1, clock, rfl, hheap⟩⟩
    · rename_i es' clock hg
      cases he
      obtain ⟨q, hq, rfl⟩ := map_conc hv
      obtain ⟨ms, h0, hms, hheap⟩ := H.rmapAt hg hq
      exact ⟨ms, hms, .inr ⟨q.1, clock, rfl, hheap⟩⟩
    · cases he
  · cases he

theorem entries_nb {h : Heap} {x : AV} {es : List (AV × AV × Nat)} (he : h.entries x = some es) : notBad x = true := by
  unfold Heap.entries at he
  split at he
  · rfl
  · rfl
  · cases he

theorem run_lookup {P : Program} {w : World} {t kt e : Nat} (hu : P.underlying t = some (.map kt e)) {mv kv zv : Value} {ms : List MapEntry} (hm : (mv = .map none ∧ ms = []) ∨ ∃ c clock, mv = .map (some c) ∧ w.heap[c]? = some (.map ms.toArray clock))
    (hck : ∀ em, (Instr.checkKey em 10000 kt kv).run P w = .ok () w) {r' : Option (Nat × Value)} (hf : (Instr.findKey kt kv ms).run P w = .ok r' w) (hz : (zeroValue e).run P w = .ok zv w) (ok : Bool) :
    (Instr.lookup t mv kv ok).run P w = .ok (match r' with | some q => (if ok then .tuple #[q.2, .bool true] else q.2) | none => (if ok then .tuple #[zv, .bool false] else zv)) w := by
  rcases hm with ⟨rfl, rfl⟩ | ⟨c, clock, rfl, hheap⟩
  · unfold Instr.lookup
    have hf' : (Instr.findKey kt kv (#[] : Array MapEntry).toList).run P w = .ok r' w := hf
    simp only [Sem.run_bind, run_underlying hu, Result.andThen_ok, pure, Sem.run, hck, hf']
    cases r' with
    | none => simp only [Sem.run_bind, hz, Result.andThen_ok]; rfl
    | some q => rfl
  · unfold Instr.lookup
    have hf' : (Instr.findKey kt kv ms.toArray.toList).run P w = .ok r' w := by simpa using hf
    simp only [Sem.run_bind, run_underlying hu, Result.andThen_ok, run_getObj hheap (by simp), pure, Sem.run, hck, hf']
    cases r' with
    | none => simp only [Sem.run_bind, hz, Result.andThen_ok]; rfl
    | some q => rfl

theorem um_keyOk {nk : Nat} {ls : List (Nat × Leaf)} (hl : lvInts ls nk = true) {a b c : Int} (hb : nk < 2 → b = 0) (hc : nk < 3 → c = 0) : keyOk true nk ls (keyU nk a b c) = true := by
  unfold keyOk; rw [eqV_key hl a b c a b c hb hc hb hc]

theorem lookup_ok {p : Par} {ty : Nat → Option TI} (T : TyOk p.P ty) {t : Nat} {q : TI × List (Nat × Leaf) × TI} (hq : cMap ty t = some q) {z : AV} (hz : q.2.2.zero = some z) {ok : Bool} {x1 x2 : Operand} {y1 y2 : Opd}
    (h1 : cOpd x1 = some y1) (h2 : cOpd x2 = some y2) {o : Oper} (ho : o.op = .lookup t x1 x2 ok) : InsOk p (iLookup z q.1.isAgg q.1.size q.2.1 ok y1 y2) o := by
  intro cx n keep E w0 tm h a w Q K _ HT HH k P
  have hex : execOp a.eval o = (do let x ← Instr.lookup t (a.eval x1) (a.eval x2) ok; pure (Next.value x)) := by unfold execOp; rw [ho]
  rw [hex]
  obtain ⟨i, kt, e, ht, hd, hk, hl, he, _⟩ := cMap_some hq
  have hu := T.und t i ht
  rw [hd] at hu
  cases hu0 : umAt h (ev tm y1) with
  | some pm =>
    obtain ⟨hx, hg⟩ := umAt_some hu0
    simp only [iLookup, rLookup, hu0] at k
    unfold rLookupU at k
    split at k
    · rename_i q0 hq0
      cases hc : and (and pm.2.live (umOk pm.2)) (and q.1.isAgg (and (Nat.beq q.1.size pm.2.nk) (lvInts q.2.1 q.1.size))) with
      | false => rw [hc] at k; exact k.elim
      | true =>
        rw [hc, cond_true] at k
        simp only [Bool.and_eq_true] at hc
        obtain ⟨⟨hlive, _⟩, hagg, hsz, hlv⟩ := hc
        have hsz := beq_t.1 hsz
        rw [hsz] at hlv
        obtain ⟨hN, hnorm, hnb, hkc⟩ := umKey_some hq0
        obtain ⟨n1, n2⟩ := hnorm E.ρ
        have hkv := opd_some HT h2 hnb HH.glob
        rw [hkc E] at hkv
        have hmv := opd_some HT h1 (by rw [hx]; rfl) HH.glob
        rw [hx] at hmv
        obtain ⟨qq', hqq, hmv'⟩ := map_conc hmv
        obtain ⟨c, es, ms, clock, g1, hms, hheap, hU, hL⟩ := HH.obj _ _ hg
        rw [hqq] at g1; cases g1
        have hL := hL hlive
        have hko : keyOk q.1.isAgg q.1.size q.2.1 (keyU pm.2.nk (q0.1.den E.ρ) (q0.2.1.den E.ρ) (q0.2.2.den E.ρ)) = true := by
          rw [hagg, hsz]; exact um_keyOk hlv n1 n2
        have hck := fun em => key_check T w em hk hl hko hkv
        obtain ⟨zv, hzv, hzrun⟩ := run_zero T he hz E w
        have hcase : (a.eval x1 = .map none ∧ ms = []) ∨ ∃ c clock, a.eval x1 = .map (some c) ∧ w.heap[c]? = some (.map ms.toArray clock) := .inr ⟨_, clock, hmv', hheap⟩
        simp only [Sx.T.Holds] at k
        rcases find_key (ρ := E.ρ) hlv hN n1 n2 es 0 hU with ⟨hf, hne⟩ | ⟨j, _, hf, e', he', hek⟩
        · have hfb : (BE.app pm.2.fb q0.1 q0.2.1 q0.2.2).den E.ρ = false := by
            cases hb : (BE.app pm.2.fb q0.1 q0.2.1 q0.2.2).den E.ρ with
            | false => rfl
            | true => obtain ⟨e1, m1, m2⟩ := (hL _ _ _ n1 n2).1 hb; exact absurd m2 (hne e1 m1)
          rw [hfb, if_neg Bool.false_ne_true] at k
          have hf : findKeyA q.1.isAgg q.1.size q.2.1 (keyU pm.2.nk (q0.1.den E.ρ) (q0.2.1.den E.ρ) (q0.2.2.den E.ρ)) es 0 = some none := by rw [hagg, hsz]; exact hf
          obtain ⟨r', hfa, hrun⟩ := findKey_ok T w hk hl hkv hms hf
          cases r' with
          | some pv => exact hfa.elim
          | none =>
            refine does_value (run_lookup hu hcase hck hrun hzrun ok) (P.same HH k ?_)
            cases ok with
            | true => simp [conc, concL, hzv, BE.den]
            | false => simpa using hzv
        · have hfb : (BE.app pm.2.fb q0.1 q0.2.1 q0.2.2).den E.ρ = true := (hL _ _ _ n1 n2).2 ⟨e', List.mem_of_getElem? he', hek⟩
          rw [hfb, if_pos rfl] at k
          have hf : findKeyA q.1.isAgg q.1.size q.2.1 (keyU pm.2.nk (q0.1.den E.ρ) (q0.2.1.den E.ρ) (q0.2.2.den E.ρ)) es 0 = some (some (j, umValL E.ρ pm.2 (q0.1.den E.ρ) (q0.2.1.den E.ρ) (q0.2.2.den E.ρ))) := by rw [hagg, hsz]; exact hf
          obtain ⟨r', hfa, hrun⟩ := findKey_ok T w hk hl hkv hms hf
          cases r' with
          | none => exact hfa.elim
          | some pv =>
            have hval : conc E (umVal pm.2 q0) = some pv.2 := by rw [umVal_conc]; exact hfa.2
            refine does_value (run_lookup hu hcase hck hrun hzrun ok) (P.same HH k ?_)
            cases ok with
            | true => simp [conc, concL, hval, BE.den]
            | false => simpa using hval
    · exact k.elim
  | none =>
  simp only [iLookup, rLookup, hu0] at k
  obtain ⟨r, hr, qq⟩ := holds_mk2 k
  unfold alookup at hr
  cases hko : keyOk q.1.isAgg q.1.size q.2.1 (ev tm y2) with
  | false => rw [hko] at hr; cases hr
  | true =>
    rw [hko, cond_true] at hr
    have hkv := opd_some HT h2 (keyOk_nb hko (leaves_ne hk hl)) HH.glob
    split at hr
    · rename_i es hes
      have hxv := opd_some HT h1 (entries_nb hes) HH.glob
      obtain ⟨ms, hms, hcase⟩ := entries_some HH hes hxv
      have hck := fun em => key_check T w em hk hl hko hkv
      obtain ⟨zv, hzv, hzrun⟩ := run_zero T he hz E w
      split at hr
      · rename_i pr hf
        cases hr
        obtain ⟨r', hfa, hrun⟩ := findKey_ok T w hk hl hkv hms hf
        cases r' with
        | none => exact hfa.elim
        | some pv =>
          refine does_value (run_lookup hu hcase hck hrun hzrun ok) (P.same HH qq ?_)
          cases ok with
          | true => simp [conc, concL, hfa.2, BE.den]
          | false => simpa using hfa.2
      · rename_i hf
        cases hr
        obtain ⟨r', hfa, hrun⟩ := findKey_ok T w hk hl hkv hms hf
        cases r' with
        | some pv => exact hfa.elim
        | none =>
          refine does_value (run_lookup hu hcase hck hrun hzrun ok) (P.same HH qq ?_)
          cases ok with
          | true => simp [conc, concL, hzv, BE.den]
          | false => simpa using hzv
      · cases hr
    · cases hr

/-! ## A store -/
theorem eqLeaf_true {l : Leaf} (hk : keyLeaf l = true) {x y : AV} (h : eqLeaf l x y = some (.lit true)) {E : Env} {u v : Value} (hx : conc E x = some u) (hy : conc E y = some v) : u = v ∧ Instr.sameBits 9999 u u = true ∧ ∀ n, Instr.sameBits n u u = true := by
  unfold eqLeaf at h
  cases l <;> first | (cases hk; done) | skip
  · simp only at h
    split at h
    · rename_i j a j' b
      cases hkk : kindEq j j' with
      | false => rw [hkk] at h; cases h
      | true =>
        have := kindEq_eq hkk
        subst this
        rw [hkk, cond_true] at h
        simp only [conc, Option.some.injEq] at hx hy
        subst hx; subst hy
        obtain ⟨_, hd⟩ := mkCmp_den (ρ := E.ρ) h
        simp only [BE.den, cmpDen] at hd
        have he : a.den E.ρ = b.den E.ρ := by simpa using hd.symm
        rw [he]
        exact ⟨rfl, by simp [Instr.sameBits], fun n => by simp [Instr.sameBits]⟩
    · cases h
  · simp only at h
    split at h
    · rename_i a b
      simp only [conc, Option.some.injEq] at hx hy
      subst hx; subst hy
      have hd := congrArg (Option.map (BE.den E.ρ)) h
      simp only [Option.map_some, mkIff_den, BE.den, Option.some.injEq] at hd
      have he : a.den E.ρ = b.den E.ρ := by simpa using hd
      rw [he]
      exact ⟨rfl, by simp [Instr.sameBits], fun n => by simp [Instr.sameBits]⟩
    · cases h
  · simp only at h
    split at h
    · simp only [conc, Option.some.injEq] at hx hy
      subst hx; subst hy
      exact ⟨rfl, by simp [Instr.sameBits], fun n => by simp [Instr.sameBits]⟩
    · cases h
    · cases h
    · cases h

theorem eqCells_true {xs ys : List AV} {ls : List (Nat × Leaf)} (h : eqCells xs ys ls = some (.lit true)) {q : Nat × Leaf} (hq : q ∈ ls) : ∃ x y, xs[q.1]? = some x ∧ ys[q.1]? = some y ∧ eqLeaf q.2 x y = some (.lit true) := by
  induction ls with
  | nil => cases hq
  | cons p ls ih =>
    rw [eqCells_cons] at h
    simp only [listGet_eq] at h
    split at h
    · rename_i x y hx hy
      split at h
      · rename_i c hc
        cases c with
        | false => cases h
        | true =>
          rcases List.mem_cons.1 hq with rfl | hq
          · exact ⟨x, y, hx, hy, hc⟩
          · exact ih h hq
      · split at h <;> cases h
      · cases h
    · cases h

theorem coversB_some {n : Nat} {ls : List (Nat × Leaf)} (h : coversB n ls = true) : ls.length = n ∧ (∀ q ∈ ls, keyLeaf q.2 = true) ∧ ∀ k, k < n → ∃ l, (k, l) ∈ ls := by
  unfold coversB at h
  obtain ⟨c1, c2⟩ := Bool.and_eq_true_iff.1 h
  obtain ⟨c2, c3⟩ := Bool.and_eq_true_iff.1 c2
  refine ⟨beq_t.1 c2, fun q hq => List.all_eq_true.1 c1 q hq, fun k hk => ?_⟩
  have := List.all_eq_true.1 c3 k (by simpa using hk)
  split at this
  · rename_i p hp
    rw [listGet_eq] at hp
    have := beq_t.1 this
    subst this
    exact ⟨p.2, List.mem_of_getElem? hp⟩
  · cases this

theorem same_key {ty : Nat → Option TI} {t : Nat} {i : TI} (ht : ty t = some i) {ls : List (Nat × Leaf)} (hl : leaves ty 12 t 0 = some ls) (hc : coversB i.size ls = true) {x y : AV} (h : eqV i.isAgg i.size ls x y = some (.lit true)) {E : Env} {u v : Value}
    (hx : conc E x = some u) (hy : conc E y = some v) : Instr.sameBits 10000 v u = true ∧ u = v := by
  obtain ⟨c1, c2, c3⟩ := coversB_some hc
  cases hagg : i.isAgg with
  | true =>
    rw [hagg] at h
    obtain ⟨xs, ys, rfl, rfl, l1, l2, he⟩ := eqV_agg h
    obtain ⟨vs, hvs, rfl⟩ := agg_conc hx
    obtain ⟨us, hus, rfl⟩ := agg_conc hy
    have n1 := concL_len hvs
    have n2 := concL_len hus
    have each : ∀ k, k < i.size → ∃ a, vs[k]? = some a ∧ us[k]? = some a ∧ Instr.sameBits 9999 a a = true := by
      intro k hk
      obtain ⟨l, hm⟩ := c3 k hk
      obtain ⟨x, y, hx', hy', hle⟩ := eqCells_true he hm
      obtain ⟨a, ha1, ha2⟩ := concL_get hvs hx'
      obtain ⟨b, hb1, hb2⟩ := concL_get hus hy'
      obtain ⟨rfl, hs, _⟩ := eqLeaf_true (c2 _ hm) hle ha1 hb1
      exact ⟨a, ha2, hb2, hs⟩
    have heq : vs = us := by
      apply List.ext_getElem?
      intro k
      by_cases hk : k < i.size
      · obtain ⟨a, h1, h2, _⟩ := each k hk
        rw [h1, h2]
      · rw [List.getElem?_eq_none (by omega), List.getElem?_eq_none (by omega)]
    subst heq
    refine ⟨?_, rfl⟩
    rw [show (10000 : Nat) = 9999 + 1 from rfl]
    have hall : (vs.zip vs).all (fun q => Instr.sameBits 9999 q.1 q.2) = true := by
      rw [List.all_eq_true]
      intro q hq
      obtain ⟨k, hk⟩ := List.mem_iff_getElem?.1 hq
      rw [List.getElem?_zip_eq_some] at hk
      have hlt : k < vs.length := (List.getElem?_eq_some_iff.1 hk.1).1
      obtain ⟨a, h1, _, h3⟩ := each k (by omega)
      rw [h1] at hk
      obtain ⟨e1, e2⟩ := hk
      cases e1
      have e2' := Option.some.inj e2
      rw [← e2']
      exact h3
    simp only [Instr.sameBits]
    simpa using hall
  | false =>
    rw [hagg] at h
    have he := eqV_one h
    have hmem : ∃ q, q ∈ ls := by
      cases ls with
      | nil => rcases leaves_ne ht hl with h | h
               · exact absurd rfl h
               · rw [hagg] at h; cases h
      | cons q ls => exact ⟨q, by simp⟩
    obtain ⟨q, hq⟩ := hmem
    obtain ⟨x', y', hx', hy', hle⟩ := eqCells_true he hq
    have e1 : x' = x := by
      cases hz : q.1 with
      | zero => rw [hz] at hx'; simpa using hx'.symm
      | succ m => rw [hz] at hx'; simp at hx'
    have e2 : y' = y := by
      cases hz : q.1 with
      | zero => rw [hz] at hy'; simpa using hy'.symm
      | succ m => rw [hz] at hy'; simp at hy'
    subst e1; subst e2
    obtain ⟨rfl, _, hs⟩ := eqLeaf_true (c2 _ hq) hle hx hy
    exact ⟨hs _, rfl⟩

end Go.Sx
/-! MAPS: a store. -/
namespace Go.Sx
open Go.RowKit

theorem run_setMap {P : Program} {w : World} {r : Nat} {es : Array MapEntry} {clock : Nat} (o : Obj) (hb : w.heap[r]? = some (.map es clock)) : (setObj r o).run P w = .ok () { w with heap := w.heap.setIfInBounds r o } := by
  simp [setObj, Sem.run, hb]

theorem find_at {whole : Bool} {n : Nat} {ls : List (Nat × Leaf)} {k : AV} : ∀ {es : List (AV × AV × Nat)} {i : Nat} {p : Nat × AV}, findKeyA whole n ls k es i = some (some p) →
    ∃ e, i ≤ p.1 ∧ es[p.1 - i]? = some e ∧ eqV whole n ls k e.1 = some (.lit true)
  | [], i, p, h => by
    have : (none : Option (Nat × AV)) = some p := Option.some.inj h
    cases this
  | e :: es, i, p, h => by
    obtain ⟨c, hc, hr⟩ := find_step h
    rcases hr with ⟨rfl, hp⟩ | ⟨rfl, hp⟩
    · cases hp
      exact ⟨e, Nat.le_refl _, by simp, hc⟩
    · obtain ⟨e', h1, h2, h3⟩ := find_at hp
      refine ⟨e', by omega, ?_, h3⟩
      have : p.1 - i = (p.1 - (i + 1)) + 1 := by omega
      rw [this, List.getElem?_cons_succ]
      exact h2

theorem concE_get {E : Env} : ∀ {es : List (AV × AV × Nat)} {ms : List MapEntry} {i : Nat} {e : AV × AV × Nat}, concE E es ms → es[i]? = some e → ∃ m, ms[i]? = some m ∧ conc E e.1 = some m.key
  | [], [], i, e, _, h => by simp at h
  | e' :: es, m :: ms, i, e, ⟨h1, _, _, h4⟩, h => by
    cases i with
    | zero => simp at h; subst h; exact ⟨m, rfl, h1⟩
    | succ i => simp at h; simpa using concE_get h4 h

theorem concE_app {E : Env} {f : List (AV × AV × Nat)} {n : List MapEntry} (h' : concE E f n) : ∀ {es : List (AV × AV × Nat)} {ms : List MapEntry}, concE E es ms → concE E (es ++ f) (ms ++ n)
  | [], [], _ => h'
  | _ :: _, _ :: _, ⟨h1, h2, h3, h4⟩ => ⟨h1, h2, h3, concE_app h' h4⟩

theorem concE_mod {E : Env} {k v : AV} {kv vv : Value} (hk : conc E k = some kv) (hv : conc E v = some vv) : ∀ {es : List (AV × AV × Nat)} {ms : List MapEntry} (i : Nat), concE E es ms →
    concE E (modAt (fun e => (k, v, e.2.2)) es i) (ms.modify i fun e => { e with key := kv, val := vv })
  | [], [], i, _ => by cases i <;> simp [modAt, concE]
  | _ :: _, _ :: _, 0, ⟨_, _, h3, h4⟩ => by simp only [modAt, List.modify_zero_cons, concE]; exact ⟨hk, hv, h3, h4⟩
  | _ :: _, _ :: _, i + 1, ⟨h1, h2, h3, h4⟩ => by simp only [modAt, List.modify_succ_cons, concE]; exact ⟨h1, h2, h3, concE_mod hk hv i h4⟩

theorem HeapOk.setMap {p : Par} {E : Env} {h : Heap} {w0 : Base} {w : World} (H : HeapOk p E h w0 w) {b clock clock' : Nat} {es es' : List (AV × AV × Nat)} (hg : h.get b = some (.map es clock)) {q : Nat × Nat} (hq : E.σ b = some q) {ms' : List MapEntry} (he : concE E es' ms') {arr : Array MapEntry} (harr : arr = ms'.toArray) :
    HeapOk p E (h.put b (.map es' clock')) w0 { w with heap := w.heap.setIfInBounds q.1 (.map arr clock') } := by
  obtain ⟨ms, h0, hms, hheap⟩ := H.mapAt hg hq
  have hlt : q.1 < w.heap.size := (Array.getElem?_eq_some_iff.1 hheap).1
  have hq' : E.σ b = some (q.1, 0) := by rw [hq, ← h0]
  subst harr
  refine H.turn hg rfl hq' rfl ⟨q.1, ms', hq', he, by simp [hlt]⟩ (fun i hi => by simp [Array.getElem?_setIfInBounds_ne (Ne.symm hi)]) rfl rfl rfl (by simp)

theorem rMapset_holds {ρ : Rho} {h : Heap} {whole : Bool} {n : Nat} {ls : List (Nat × Leaf)} {m k v : AV} {Q : AV × Heap → Prop} (hn : umAt h m = none) (kk : (rMapset h whole n ls m k v).Holds ρ Q) : ∃ h', amapset h whole n ls m k v = some h' ∧ Q (undefA, h') := by
  unfold rMapset at kk
  rw [hn] at kk
  simp only at kk
  split at kk
  · rename_i h' e; exact ⟨h', e, kk⟩
  · exact kk.elim

theorem HeapOk.congr {p : Par} {E : Env} {h h' : Heap} {w0 : Base} {w : World} (H : HeapOk p E h w0 w) (hget : ∀ j, h'.get j = h.get j) (hn : h'.next = h.next) : HeapOk p E h' w0 w :=
  ⟨fun b o e => H.obj b o (by rw [← hget]; exact e), fun b b' o o' c x y e e' => H.inj b b' o o' c x y (by rw [← hget]; exact e) (by rw [← hget]; exact e'), fun b o c x e => H.base b o c x (by rw [← hget]; exact e),
    fun b o c y e => H.ro b o c y (by rw [← hget]; exact e), fun b hb => H.fresh b (by rw [← hn]; exact hb), fun b o c x e => H.lt b o c x (by rw [← hget]; exact e), H.glob, H.below, by rw [hn]; exact H.nx, H.ok⟩

/-- what a store leaves, of entries that are known -/
noncomputable def stored (h : Heap) (b : Nat) (es : List (AV × AV × Nat)) (clock : Nat) (k v : AV) (r : Option (Nat × AV)) : Heap :=
  match r with
  | some pr => h.put b (.map (modAt (fun e => (k, v, e.2.2)) es pr.1) clock)
  | none => h.put b (.map (lApp es [(k, v, clock)]) (Nat.succ clock))

theorem mapset_core {p : Par} {ty : Nat → Option TI} (T : TyOk p.P ty) {t kt et : Nat} (hu : p.P.underlying t = some (.map kt et)) {ki : TI} (hk : ty kt = some ki) {ls : List (Nat × Leaf)} (hl : leaves ty 12 kt 0 = some ls) (hcov : coversB ki.size ls = true)
    {E : Env} {h : Heap} {w0 : Base} {w : World} (HH : HeapOk p E h w0 w) {b : Nat} {es : List (AV × AV × Nat)} {clock : Nat} (hg : h.get b = some (.map es clock)) {q' : Nat × Nat} (hqq : E.σ b = some q')
    {k v : AV} {kv vv : Value} (hko : keyOk ki.isAgg ki.size ls k = true) (hkv : conc E k = some kv) (hvv : conc E v = some vv) {r : Option (Nat × AV)} (hf : findKeyA ki.isAgg ki.size ls k es 0 = some r) :
    ∃ w', (Instr.mapUpdate t (.map (some q'.1)) kv vv).run p.P w = .ok () w' ∧ HeapOk p E (stored h b es clock k v r) w0 w' := by
  have hck := key_check T w false hk hl hko hkv
  obtain ⟨ms, h0, hms, hheap⟩ := HH.mapAt hg hqq
  have pre : ∀ {r' : Option (Nat × Value)}, (Instr.findKey kt kv ms).run p.P w = .ok r' w → (Instr.mapUpdate t (.map (some q'.1)) kv vv).run p.P w =
      (match r' with
      | some pr => (do
        let key ← Instr.keyThatStays (((ms.toArray[pr.1]?).map (·.key)).getD kv) kv
        setObj q'.1 (.map (ms.toArray.modify pr.1 fun e => { e with key, val := vv }) clock) : Sem Unit).run p.P w
      | none => (setObj q'.1 (.map (ms.toArray.push { key := kv, val := vv, born := clock }) (clock + 1))).run p.P w) := by
    intro r' hrun
    have hf' : (Instr.findKey kt kv ms.toArray.toList).run p.P w = .ok r' w := by simpa using hrun
    unfold Instr.mapUpdate
    simp only [Sem.run_bind, run_underlying hu, Result.andThen_ok, run_getObj hheap (by simp), hck, hf']
    cases r' with
    | none => rfl
    | some pr => simp only [Sem.run_bind]
  cases r with
  | some pr =>
    obtain ⟨r', hfa, hrun⟩ := findKey_ok T w hk hl hkv hms hf
    cases r' with
    | none => exact hfa.elim
    | some pv =>
      obtain ⟨e', _, he1, he2⟩ := find_at hf
      obtain ⟨m, hm1, hm2⟩ := concE_get hms he1
      obtain ⟨hs, _⟩ := same_key hk hl hcov he2 hkv hm2
      rw [Nat.sub_zero, hfa.1] at hm1
      have hold : ((ms.toArray[pv.1]?).map (·.key)).getD kv = m.key := by simp [hm1]
      refine ⟨{ w with heap := w.heap.setIfInBounds q'.1 (.map (ms.toArray.modify pv.1 fun e => { e with key := kv, val := vv }) clock) }, ?_, ?_⟩
      · rw [pre hrun]
        simp only [hold]
        unfold Instr.keyThatStays
        simp only [hs, if_true, Sem.run_bind, pure, Sem.run, Result.andThen_ok]
        exact run_setMap _ hheap
      · unfold stored
        simp only
        rw [hfa.1]
        refine HH.setMap hg hqq (concE_mod hkv hvv pv.1 hms) ?_
        apply Array.ext'
        simp
  | none =>
    obtain ⟨r', hfa, hrun⟩ := findKey_ok T w hk hl hkv hms hf
    cases r' with
    | some pv => exact hfa.elim
    | none =>
      refine ⟨{ w with heap := w.heap.setIfInBounds q'.1 (.map (ms.toArray.push { key := kv, val := vv, born := clock }) (clock + 1)) }, ?_, ?_⟩
      · rw [pre hrun]
        exact run_setMap _ hheap
      · unfold stored
        simp only
        rw [lApp_eq]
        refine HH.setMap hg hqq (concE_app (f := [(k, v, clock)]) (n := [{ key := kv, val := vv, born := clock }]) ⟨hkv, hvv, rfl, trivial⟩ hms) ?_
        apply Array.ext'
        simp

theorem mem_modAt {α : Type} {f : α → α} : ∀ {l : List α} {i : Nat} {a : α}, a ∈ modAt f l i → a ∈ l ∨ ∃ b ∈ l, a = f b
  | [], i, a, h => by cases i <;> simp [modAt] at h
  | x :: l, 0, a, h => by
    simp only [modAt] at h
    rcases List.mem_cons.1 h with rfl | h
    · exact .inr ⟨x, List.mem_cons_self, rfl⟩
    · exact .inl (List.mem_cons_of_mem _ h)
  | x :: l, i + 1, a, h => by
    simp only [modAt] at h
    rcases List.mem_cons.1 h with rfl | h
    · exact .inl List.mem_cons_self
    · rcases mem_modAt h with h | ⟨b, h1, h2⟩
      · exact .inl (List.mem_cons_of_mem _ h)
      · exact .inr ⟨b, List.mem_cons_of_mem _ h1, h2⟩

theorem umStored_val {E : Env} {m : MU} {q : IE × IE × IE} {v : AV} {cs : List BE} (h : umNeed q m.fi v.cellsOf = some cs) (hd : ∀ c ∈ cs, c.den E.ρ = true) (ho : umOk m = true) (ha : eqBool (isAggV v) m.ag = true) :
    notBad v = true ∧ conc E v = conc E (umValL E.ρ m (q.1.den E.ρ) (q.2.1.den E.ρ) (q.2.2.den E.ρ)) := by
  have hc := umNeed_conc (E := E) h hd
  unfold umValL
  cases hag : m.ag with
  | true =>
    rw [hag] at ha
    cases v with
    | agg vs => simp only [AV.cellsOf] at hc; exact ⟨rfl, by simp only [conc, cond_true, hc]⟩
    | _ => simp [isAggV, eqBool] at ha
  | false =>
    rw [hag] at ha
    unfold umOk at ho
    rw [hag] at ho
    simp only [cond_false] at ho ⊢
    obtain ⟨p, hp⟩ : ∃ p, m.fi = [p] := by
      cases hfi : m.fi with
      | nil => rw [hfi] at ho; first | cases ho | simp at ho
      | cons p l => cases l with
        | nil => exact ⟨p, rfl⟩
        | cons a b => rw [hfi] at ho; first | cases ho | simp at ho
    rw [hp] at hc h ⊢
    have hcell : v.cellsOf = [v] := by
      cases v with
      | agg vs => simp [isAggV, eqBool] at ha
      | _ => rfl
    rw [hcell] at hc h
    refine ⟨?_, ?_⟩
    · simp only [umNeed] at h
      cases v <;> first | rfl | cases h
    · simp only [List.map_cons, List.map_nil, concL] at hc
      cases h1 : conc E v with
      | none => rw [h1] at hc; cases h2 : conc E (umCellL E.ρ (q.1.den E.ρ) (q.2.1.den E.ρ) (q.2.2.den E.ρ) p) with
        | none => rfl
        | some y => rw [h2] at hc; cases hc
      | some x => rw [h1] at hc; cases h2 : conc E (umCellL E.ρ (q.1.den E.ρ) (q.2.1.den E.ρ) (q.2.2.den E.ρ) p) with
        | none => rw [h2] at hc; cases hc
        | some y => rw [h2] at hc; simp at hc; rw [hc]

theorem mapset_ok {p : Par} {ty : Nat → Option TI} (T : TyOk p.P ty) {t : Nat} {q : TI × List (Nat × Leaf) × TI} (hq : cMap ty t = some q) {x1 x2 x3 : Operand} {y1 y2 y3 : Opd}
    (h1 : cOpd x1 = some y1) (h2 : cOpd x2 = some y2) (h3 : cOpd x3 = some y3) {o : Oper} (ho : o.op = .mapUpdate t x1 x2 x3 ∨ o.op = .insert t x1 x2 x3) : InsOk p (iMapset q.1.isAgg q.1.size q.2.1 y1 y2 y3) o := by
  intro cx n keep E w0 tm h a w Q K _ HT HH k P
  have hex : execOp a.eval o = (do Instr.mapUpdate t (a.eval x1) (a.eval x2) (a.eval x3); pure Next.skip) := by unfold execOp; rcases ho with ho | ho <;> rw [ho]
  rw [hex]
  obtain ⟨i, kt, e, ht, hd, hk, hl, he, hcov⟩ := cMap_some hq
  have hu := T.und t i ht
  rw [hd] at hu
  cases hu0 : umAt h (ev tm y1) with
  | some pm =>
    obtain ⟨hx, hg⟩ := umAt_some hu0
    simp only [iMapset, rMapset, hu0] at k
    unfold rMapsetU at k
    split at k
    · rename_i q0 hq0
      split at k
      · rename_i cs hcs
        cases hc : and (and (umOk pm.2) (eqBool (isAggV (ev tm y3)) pm.2.ag)) (and q.1.isAgg (and (Nat.beq q.1.size pm.2.nk) (lvInts q.2.1 q.1.size))) with
        | false => rw [hc] at k; exact k.elim
        | true =>
          rw [hc, cond_true] at k
          simp only [Bool.and_eq_true] at hc
          obtain ⟨⟨hok, hag⟩, hagg, hsz, hlv⟩ := hc
          have hsz := beq_t.1 hsz
          rw [hsz] at hlv
          obtain ⟨hneed, k⟩ := needAll_holds k
          obtain ⟨hN, hnorm, hnb, hkc⟩ := umKey_some hq0
          obtain ⟨n1, n2⟩ := hnorm E.ρ
          have hkv := opd_some HT h2 hnb HH.glob
          rw [hkc E] at hkv
          obtain ⟨hnb3, hvc⟩ := umStored_val (E := E) hcs hneed hok hag
          have hvv := opd_some HT h3 hnb3 HH.glob
          rw [hvc] at hvv
          have hmv := opd_some HT h1 (by rw [hx]; rfl) HH.glob
          rw [hx] at hmv
          obtain ⟨qq', hqq, hmv'⟩ := map_conc hmv
          obtain ⟨c, es, ms, clock, g1, hms, hheap, hU, _⟩ := HH.obj _ _ hg
          have g0 := g1
          rw [hqq] at g1; cases g1
          have hko : keyOk q.1.isAgg q.1.size q.2.1 (keyU pm.2.nk (q0.1.den E.ρ) (q0.2.1.den E.ρ) (q0.2.2.den E.ρ)) = true := by
            rw [hagg, hsz]; exact um_keyOk hlv n1 n2
          have HH2 : HeapOk p E (h.put pm.1 (.map es clock)) w0 w := HH.turn hg rfl g0 rfl ⟨c, ms, g0, hms, hheap⟩ (fun _ _ => rfl) rfl rfl rfl (Nat.le_refl _)
          have hg2 : (h.put pm.1 (.map es clock)).get pm.1 = some (.map es clock) := by rw [Heap.get_put, if_pos rfl]
          have fin : ∀ r, findKeyA q.1.isAgg q.1.size q.2.1 (keyU pm.2.nk (q0.1.den E.ρ) (q0.2.1.den E.ρ) (q0.2.2.den E.ρ)) es 0 = some r → Does p.P ((do Instr.mapUpdate t (a.eval x1) (a.eval x2) (a.eval x3); pure Next.skip : Sem Next).run p.P w) K := by
            intro r hf
            obtain ⟨w', hrun, H3⟩ := mapset_core T hu hk hl hcov HH2 hg2 hqq hko hkv hvv hf
            rw [← hmv'] at hrun
            refine does_unit hrun (P _ _ E _ undef k (Env.le.refl E) ?_ rfl)
            have key : ∃ es' clock', stored (h.put pm.1 (.map es clock)) pm.1 es clock (keyU pm.2.nk (q0.1.den E.ρ) (q0.2.1.den E.ρ) (q0.2.2.den E.ρ)) (umValL E.ρ pm.2 (q0.1.den E.ρ) (q0.2.1.den E.ρ) (q0.2.2.den E.ρ)) r = (h.put pm.1 (.map es clock)).put pm.1 (.map es' clock') ∧
                ∀ e ∈ es', e ∈ es ∨ (e.1 = keyU pm.2.nk (q0.1.den E.ρ) (q0.2.1.den E.ρ) (q0.2.2.den E.ρ) ∧ e.2.1 = umValL E.ρ pm.2 (q0.1.den E.ρ) (q0.2.1.den E.ρ) (q0.2.2.den E.ρ)) := by
              cases r with
              | none => exact ⟨_, _, rfl, fun e he => by
                  rw [lApp_eq] at he
                  rcases List.mem_append.1 he with he | he
                  · exact .inl he
                  · rw [List.mem_singleton] at he; subst he; exact .inr ⟨rfl, rfl⟩⟩
              | some pr => exact ⟨_, _, rfl, fun e he => by
                  rcases mem_modAt he with he | ⟨b, _, rfl⟩
                  · exact .inl he
                  · exact .inr ⟨rfl, rfl⟩⟩
            obtain ⟨es', clock', hst, hes'⟩ := key
            rw [hst] at H3
            have hg3 : ((h.put pm.1 (.map es clock)).put pm.1 (.map es' clock')).get pm.1 = some (.map es' clock') := by rw [Heap.get_put, if_pos rfl]
            obtain ⟨c3, ms3, s1, s2, s3⟩ := H3.obj _ _ hg3
            have H4 := H3.turn (o' := .umap pm.2.dull) hg3 rfl s1 rfl ⟨c3, es', ms3, clock', s1, s2, s3, fun e he => by
              rcases hes' e he with he | ⟨e1, e2⟩
              · exact hU e he
              · exact ⟨_, _, _, n1, n2, e1, e2⟩, fun h => by cases h⟩ (fun _ _ => rfl) rfl rfl rfl (Nat.le_refl _)
            refine H4.congr (fun j => ?_) rfl
            rw [Heap.get_put, Heap.get_put, Heap.get_put, Heap.get_put]
            by_cases hj : j = pm.1
            · rw [if_pos hj, if_pos hj]
            · rw [if_neg hj, if_neg hj, if_neg hj, if_neg hj]
          rcases find_key (ρ := E.ρ) hlv hN n1 n2 es 0 hU with ⟨hf, hne⟩ | ⟨j, _, hf, e', he', hek⟩
          · exact fin none (by rw [hagg, hsz]; exact hf)
          · exact fin _ (by rw [hagg, hsz]; exact hf)
      · exact k.elim
    · exact k.elim
  | none =>
  obtain ⟨h', hr, qq⟩ := rMapset_holds hu0 k
  unfold amapset at hr
  split at hr
  · rename_i b hb
    cases hc : and (keyOk q.1.isAgg q.1.size q.2.1 (ev tm y2)) (notBad (ev tm y3)) with
    | false => rw [hc] at hr; cases hr
    | true =>
      rw [hc, cond_true] at hr
      obtain ⟨hko, hnb⟩ := Bool.and_eq_true_iff.1 hc
      have hkv := opd_some HT h2 (keyOk_nb hko (leaves_ne hk hl)) HH.glob
      have hvv := opd_some HT h3 hnb HH.glob
      have hmv := opd_some HT h1 (by rw [hb]; rfl) HH.glob
      rw [hb] at hmv
      obtain ⟨qq', hqq, hmv'⟩ := map_conc hmv
      split at hr
      · rename_i es clock hg
        have fin : ∀ r, findKeyA q.1.isAgg q.1.size q.2.1 (ev tm y2) es 0 = some r → h' = stored h b es clock (ev tm y2) (ev tm y3) r → Does p.P ((do Instr.mapUpdate t (a.eval x1) (a.eval x2) (a.eval x3); pure Next.skip : Sem Next).run p.P w) K := by
          intro r hf hh
          obtain ⟨w', hrun, H3⟩ := mapset_core T hu hk hl hcov HH hg hqq hko hkv hvv hf
          rw [← hmv'] at hrun
          rw [← hh] at H3
          exact does_unit hrun (P _ _ E _ undef qq (Env.le.refl E) H3 rfl)
        split at hr
        · rename_i pr hf
          cases hr
          exact fin _ hf rfl
        · rename_i hf
          cases hr
          exact fin _ hf rfl
        · cases hr
      · cases hr
  · cases hr

end Go.Sx
/-! MAPS: an entry that is written in two steps. -/
namespace Go.Sx
open Go.RowKit

theorem concE_modK {E : Env} {k : AV} {kv : Value} (hk : conc E k = some kv) : ∀ {es : List (AV × AV × Nat)} {ms : List MapEntry} (i : Nat), concE E es ms →
    concE E (modAt (fun e => (k, e.2.1, e.2.2)) es i) (ms.modify i fun e => { e with key := kv })
  | [], [], i, _ => by cases i <;> simp [modAt, concE]
  | _ :: _, _ :: _, 0, ⟨_, h2, h3, h4⟩ => by simp only [modAt, List.modify_zero_cons, concE]; exact ⟨hk, h2, h3, h4⟩
  | _ :: _, _ :: _, i + 1, ⟨h1, h2, h3, h4⟩ => by simp only [modAt, List.modify_succ_cons, concE]; exact ⟨h1, h2, h3, concE_modK hk i h4⟩

theorem concE_modV {E : Env} {v : AV} {vv : Value} (hv : conc E v = some vv) : ∀ {es : List (AV × AV × Nat)} {ms : List MapEntry} (i : Nat), concE E es ms →
    concE E (modAt (fun e => (e.1, v, e.2.2)) es i) (ms.modify i fun e => { e with val := vv })
  | [], [], i, _ => by cases i <;> simp [modAt, concE]
  | _ :: _, _ :: _, 0, ⟨h1, _, h3, h4⟩ => by simp only [modAt, List.modify_zero_cons, concE]; exact ⟨h1, hv, h3, h4⟩
  | _ :: _, _ :: _, i + 1, ⟨h1, h2, h3, h4⟩ => by simp only [modAt, List.modify_succ_cons, concE]; exact ⟨h1, h2, h3, concE_modV hv i h4⟩

theorem concE_get2 {E : Env} : ∀ {es : List (AV × AV × Nat)} {ms : List MapEntry} {i : Nat} {e : AV × AV × Nat}, concE E es ms → es[i]? = some e → ∃ m, ms[i]? = some m ∧ conc E e.1 = some m.key ∧ m.born = e.2.2
  | [], [], i, e, _, h => by simp at h
  | e' :: es, m :: ms, i, e, ⟨h1, _, h3, h4⟩, h => by
    cases i with
    | zero => simp at h; subst h; exact ⟨m, rfl, h1, h3⟩
    | succ i => simp at h; simpa using concE_get2 h4 h

theorem born_at {E : Env} {n : Nat} : ∀ {es : List (AV × AV × Nat)} {ms : List MapEntry} {j i : Nat}, concE E es ms → bornAt n es j = some i → j ≤ i ∧ ms.findIdx? (fun e => (e.born : Int) == (n : Int)) = some (i - j)
  | [], [], j, i, _, h => by cases h
  | e :: es, m :: ms, j, i, ⟨_, _, h3, h4⟩, h => by
    have h : cond (Nat.beq e.2.2 n) (some j) (bornAt n es (Nat.succ j)) = some i := h
    cases hb : Nat.beq e.2.2 n with
    | true =>
      rw [hb] at h; cases h
      have := beq_t.1 hb
      exact ⟨Nat.le_refl _, by simp [List.findIdx?_cons, h3, this]⟩
    | false =>
      rw [hb] at h
      have hne := beq_f.1 hb
      obtain ⟨h5, h6⟩ := born_at h4 h
      refine ⟨by omega, ?_⟩
      have : ((m.born : Int) == (n : Int)) = false := by simp [h3]; omega
      rw [List.findIdx?_cons, this, h6]
      have : i - j = i - (j + 1) + 1 := by omega
      simp [this]

theorem mapent_ok {p : Par} {ty : Nat → Option TI} (T : TyOk p.P ty) {t : Nat} {q : TI × List (Nat × Leaf) × TI} (hq : cMap ty t = some q) {z : AV} (hz : q.2.2.zero = some z) {x1 x2 : Operand} {y1 y2 : Opd}
    (h1 : cOpd x1 = some y1) (h2 : cOpd x2 = some y2) {o : Oper} (ho : o.op = .mapEntry t x1 x2) : InsOk p (iMapent z q.1.isAgg q.1.size q.2.1 y1 y2) o := by
  intro cx n keep E w0 tm h a w Q K _ HT HH k P
  have hex : execOp a.eval o = (do let x ← Instr.mapEntry t (a.eval x1) (a.eval x2); pure (Next.value x)) := by unfold execOp; rw [ho]
  rw [hex]
  obtain ⟨i, kt, e, ht, hd, hk, hl, he, hcov⟩ := cMap_some hq
  have hu := T.und t i ht
  rw [hd] at hu
  cases hr : amapent h z q.1.isAgg q.1.size q.2.1 (ev tm y1) (ev tm y2) with
  | none => simp only [iMapent, hr, Sx.T.of] at k; exact k.elim
  | some r =>
  simp only [iMapent, hr, Sx.T.of] at k
  have qq : Q r := k
  unfold amapent at hr
  split at hr
  · rename_i b hb
    cases hko : keyOk q.1.isAgg q.1.size q.2.1 (ev tm y2) with
    | false => rw [hko] at hr; cases hr
    | true =>
      rw [hko, cond_true] at hr
      have hkv := opd_some HT h2 (keyOk_nb hko (leaves_ne hk hl)) HH.glob
      have hmv := opd_some HT h1 (by rw [hb]; rfl) HH.glob
      rw [hb] at hmv
      obtain ⟨qq', hqq, hmv'⟩ := map_conc hmv
      split at hr
      · rename_i es clock hg
        have hck := key_check T w false hk hl hko hkv
        obtain ⟨ms, h0, hms, hheap⟩ := HH.mapAt hg hqq
        obtain ⟨zv, hzv, hzrun⟩ := run_zero T he hz E w
        split at hr
        · rename_i pr hf
          unfold entA at hr
          obtain ⟨r', hfa, hrun⟩ := findKey_ok T w hk hl hkv hms hf
          cases r' with
          | none => exact hfa.elim
          | some pv =>
            obtain ⟨e', _, he1, he2⟩ := find_at hf
            rw [Nat.sub_zero] at he1
            rw [listGet_eq, he1] at hr
            cases hr
            obtain ⟨m, hm1, hm2, hm3⟩ := concE_get2 hms he1
            obtain ⟨hs, _⟩ := same_key hk hl hcov he2 hkv hm2
            rw [hfa.1] at hm1
            have hold : ((ms.toArray[pv.1]?).map (·.key)).getD (a.eval x2) = m.key := by simp [hm1]
            have hborn : ((ms.toArray[pv.1]?).map (fun e => (e.born : Int))).getD 0 = (e'.2.2 : Int) := by simp [hm1, hm3]
            have hf' : (Instr.findKey kt (a.eval x2) ms.toArray.toList).run p.P w = .ok (some pv) w := by simpa using hrun
            refine does_value (v := .tuple #[pv.2, goInt e'.2.2]) (w' := { w with heap := w.heap.setIfInBounds qq'.1 (.map (ms.toArray.modify pv.1 fun e => { e with key := a.eval x2 }) clock) }) ?_ ?_
            · rw [hmv']
              unfold Instr.mapEntry
              simp only [Sem.run_bind, run_underlying hu, Result.andThen_ok, run_getObj hheap (by simp), hck, hf', hold, hborn]
              unfold Instr.keyThatStays
              simp only [hs, if_true, pure, Sem.run, Result.andThen_ok, run_setMap _ hheap]
            · refine P _ _ E _ _ qq (Env.le.refl E) ?_ ?_
              · rw [hfa.1]
                refine HH.setMap hg hqq (concE_modK hkv pv.1 hms) ?_
                apply Array.ext'
                simp
              · simp [conc, concL, hfa.2, goInt, IE.den]
        · rename_i hf
          cases hr
          obtain ⟨r', hfa, hrun⟩ := findKey_ok T w hk hl hkv hms hf
          cases r' with
          | some pv => exact hfa.elim
          | none =>
            have hf' : (Instr.findKey kt (a.eval x2) ms.toArray.toList).run p.P w = .ok none w := by simpa using hrun
            refine does_value (v := .tuple #[zv, goInt clock]) (w' := { w with heap := w.heap.setIfInBounds qq'.1 (.map (ms.toArray.push { key := a.eval x2, val := zv, born := clock }) (clock + 1)) }) ?_ ?_
            · rw [hmv']
              unfold Instr.mapEntry
              simp only [Sem.run_bind, run_underlying hu, Result.andThen_ok, run_getObj hheap (by simp), hck, hf', hzrun, run_setMap _ hheap, pure, Sem.run]
            · refine P _ _ E _ _ qq (Env.le.refl E) ?_ ?_
              · rw [lApp_eq]
                refine HH.setMap hg hqq (concE_app (f := [(ev tm y2, z, clock)]) (n := [{ key := a.eval x2, val := zv, born := clock }]) ⟨hkv, hzv, rfl, trivial⟩ hms) ?_
                apply Array.ext'
                simp
              · simp [conc, concL, hzv, goInt, IE.den]
        · cases hr
      · cases hr
  · cases hr

theorem entset_ok {p : Par} {t : Nat} {x1 x2 x3 : Operand} {y1 y2 y3 : Opd} (h1 : cOpd x1 = some y1) (h2 : cOpd x2 = some y2) (h3 : cOpd x3 = some y3) {o : Oper} (ho : o.op = .entryStore t x1 x2 x3) : InsOk p (iEntset y1 y2 y3) o := by
  intro cx n keep E w0 tm h a w Q K _ HT HH k P
  have hex : execOp a.eval o = (do Instr.entryStore t (a.eval x1) (a.eval x2) (a.eval x3); pure Next.skip) := by unfold execOp; rw [ho]
  rw [hex]
  simp only [iEntset] at k
  unfold rEntset at k
  split at k
  · rename_i h' hr
    unfold aentset at hr
    split at hr
    · rename_i b hb
      split at hr
      · rename_i m hm
        cases hnb : notBad (ev tm y3) with
        | false => rw [hnb] at hr; cases hr
        | true =>
          rw [hnb, cond_true] at hr
          have hvv := opd_some HT h3 hnb HH.glob
          have hmv := opd_some HT h1 (by rw [hb]; rfl) HH.glob
          rw [hb] at hmv
          obtain ⟨qq', hqq, hmv'⟩ := map_conc hmv
          obtain ⟨k2, hm'⟩ := asNat_some hm
          have hsv : a.eval x2 = .int k2 (Int.ofNat m) := opd_ok HT h2 (by rw [hm']; rfl) HH.glob
          split at hr
          · rename_i es clock hg
            obtain ⟨ms, h0, hms, hheap⟩ := HH.mapAt hg hqq
            split at hr
            · rename_i i hi
              cases hr
              obtain ⟨_, hfi⟩ := born_at hms hi
              rw [Nat.sub_zero] at hfi
              refine does_unit (w' := { w with heap := w.heap.setIfInBounds qq'.1 (.map (ms.toArray.modify i fun e => { e with val := a.eval x3 }) clock) }) ?_ (P _ _ E _ undef k (Env.le.refl E) ?_ rfl)
              · rw [hmv', hsv]
                unfold Instr.entryStore asInt asIntOf
                have hfi' : ms.toArray.findIdx? (fun e => (e.born : Int) == Int.ofNat m) = some i := by simpa using hfi
                simp only [Sem.run_bind, run_getObj hheap (by simp), Result.andThen_ok, pure, Sem.run, hfi', run_setMap _ hheap]
              · refine HH.setMap hg hqq (concE_modV hvv i hms) ?_
                apply Array.ext'
                simp
            · cases hr
          · cases hr
      · cases hr
    · cases hr
  · exact k.elim

end Go.Sx
/-! append. -/
namespace Go.Sx
open Go.RowKit

theorem firstA_ok {p : Par} {E : Env} {h : Heap} {w0 : Base} {w : World} (H : HeapOk p E h w0 w) {size n : Nat} {x : AV} {l : List AV} (hf : firstA h size n x = some l) {v : Value} (hv : conc E x = some v) :
    ∃ vs, concL E l = some vs ∧ (Builtin.firstCells size n v).run p.P w = .ok vs.toArray w ∧ vs.length = n * size := by
  unfold firstA at hf
  split at hf
  · rename_i b off len cap
    cases hc : Nat.ble n len with
    | false => rw [hc] at hf; cases hf
    | true =>
      rw [hc, cond_true] at hf
      obtain ⟨q, hq, rfl⟩ := slice_conc hv
      cases hcs : h.cells b with
      | none => rw [hcs] at hf; cases hf
      | some cs =>
        rw [hcs] at hf
        obtain ⟨vs, h1, h2, h3⟩ := H.cellsRange hcs hf hq
        exact ⟨vs, h1, run_loadCellsAt h2 h3, h2⟩
  · rename_i b s lo len
    cases hc : and (Nat.ble n len) (Nat.beq s size) with
    | false => rw [hc] at hf; cases hf
    | true =>
      rw [hc, cond_true] at hf
      obtain ⟨c1, c2⟩ := Bool.and_eq_true_iff.1 hc
      have c1 := ble_t.1 c1
      have c2 := beq_t.1 c2
      subst c2
      obtain ⟨q, hq, hle, rfl⟩ := sliceX_conc hv
      by_cases hn : n = 0
      · subst hn
        have : l = [] := (Option.some.inj hf).symm
        subst this
        refine ⟨[], rfl, ?_, by simp⟩
        have := run_loadCellsAt (P := p.P) (w := w) (c := q.1) (o := q.2 + if E.κ b = lo then 0 else lo * s) (n := 0) (vs := []) rfl (fun j v hj => by simp at hj)
        unfold Builtin.firstCells
        simpa using this
      · rw [beq_f.2 hn, cond_false] at hf
        cases hcs : h.cells b with
        | none => rw [hcs] at hf; cases hf
        | some cs =>
          rw [hcs] at hf
          obtain ⟨vs, h1, h2, h3⟩ := H.cellsRange hcs hf hq
          rw [if_neg (by omega)]
          exact ⟨vs, h1, run_loadCellsAt h2 h3, h2⟩
  · cases hc : Nat.beq n 0 with
    | false => rw [hc] at hf; cases hf
    | true =>
      rw [hc] at hf
      have hn := beq_t.1 hc
      subst hn
      have : l = [] := (Option.some.inj hf).symm
      subst this
      simp only [conc, Option.some.injEq] at hv
      subst hv
      exact ⟨[], rfl, rfl, by simp⟩
  · cases hf

/-- THE BLOCK OF A SLICE THAT GROWS IN PLACE gets a new number; the old number is let go. -/
theorem HeapOk.reuse {p : Par} {E : Env} {h : Heap} {w0 : Base} {w w' : World} (k : HeapOk p E h w0 w) {b c : Nat} {o o' : AObj} (hg : h.get b = some o) (hown : ownO o = true) (hc : E.σ b = some (c, 0)) (hown' : ownO o' = true)
    (ho : objOk p (E.with h.next (c, 0) (E.κ b)) h.next o' w'.heap) (hh : ∀ i, i ≠ c → w'.heap[i]? = w.heap[i]?) (hos : w'.os = w.os) (ht : w'.tape = w.tape) (hout : w'.output = w.output) (hsz : w'.heap.size = w.heap.size) :
    HeapOk p (E.with h.next (c, 0) (E.κ b)) ((h.put b .dead).new o') w0 w' := by
  have hf : E.σ h.next = none := k.fresh _ (Nat.le_refl _)
  have hle := Env.with_le hf k.nx (c, 0) (E.κ b)
  have hbn : b ≠ h.next := by rintro rfl; rw [hf] at hc; cases hc
  have hcb := k.base b o c 0 hg hown hc
  have hσ : ∀ i q, i ≠ h.next → (E.with h.next (c, 0) (E.κ b)).σ i = some q → E.σ i = some q := fun i q hi e => by rw [Env.with_ne _ _ _ hi] at e; exact e
  have f : ∀ i z, ((h.put b .dead).new o').get i = some z → (i = h.next ∧ z = o') ∨ (i ≠ h.next ∧ i = b ∧ z = .dead) ∨ (i ≠ h.next ∧ i ≠ b ∧ h.get i = some z) := fun i z e => by
    rw [Heap.get_new, Heap.next_put] at e
    by_cases hi : i = h.next
    · rw [if_pos hi] at e; cases e; exact .inl ⟨hi, rfl⟩
    · rw [if_neg hi, Heap.get_put] at e
      by_cases hib : i = b
      · rw [if_pos hib] at e; cases e; exact .inr (.inl ⟨hi, hib, rfl⟩)
      · rw [if_neg hib] at e; exact .inr (.inr ⟨hi, hib, e⟩)
  refine ⟨fun j x e => ?_, fun j j' o1 o2 d x y h1 h2 w1 w2 e1 e2 => ?_, fun j x d y e ow s => ?_, fun j x d y hj hr s => ?_, fun j hj => ?_, fun j x d y e s => ?_, fun j hj => hle.σ _ _ (k.glob j hj), ?_, Nat.le_refl _, k.ok⟩
  · rcases f j x e with ⟨rfl, rfl⟩ | ⟨_, _, rfl⟩ | ⟨hj, hjb, e⟩
    · exact ho
    · trivial
    · refine (k.obj j x e).mono hle (fun hn => by rw [Env.with_ne _ _ _ hj]; exact hn) (fun d y hd hx => hh d ?_)
      rintro rfl
      rcases hx with hx | hx
      · exact hjb (k.inj j b x o d y 0 e hg hx hown hd hc)
      · exact absurd (k.ro j x d y e hx hd) hcb
  · rcases f j o1 h1 with ⟨rfl, rfl⟩ | ⟨_, _, rfl⟩ | ⟨hj, hjb, g1⟩
    · rcases f j' o2 h2 with ⟨rfl, rfl⟩ | ⟨_, _, rfl⟩ | ⟨hj', hjb', g2⟩
      · rfl
      · cases w2
      · rw [Env.with_at] at e1; cases e1
        exact absurd (k.inj j' b o2 o c y 0 g2 hg w2 hown (hσ _ _ hj' e2) hc) hjb'
    · cases w1
    · rcases f j' o2 h2 with ⟨rfl, rfl⟩ | ⟨_, _, rfl⟩ | ⟨hj', hjb', g2⟩
      · rw [Env.with_at] at e2; cases e2
        exact absurd (k.inj j b o1 o c x 0 g1 hg w1 hown (hσ _ _ hj e1) hc) hjb
      · cases w2
      · exact k.inj j j' o1 o2 d x y g1 g2 w1 w2 (hσ _ _ hj e1) (hσ _ _ hj' e2)
  · rcases f j x e with ⟨rfl, rfl⟩ | ⟨_, _, rfl⟩ | ⟨hj, hjb, g⟩
    · rw [Env.with_at] at s; cases s; exact hcb
    · cases ow
    · exact k.base j x d y g ow (hσ _ _ hj s)
  · rcases f j _ hj with ⟨rfl, rfl⟩ | ⟨_, _, rfl⟩ | ⟨hj', hjb, g⟩
    · exact absurd hr (by rw [roO_own hown']; exact Bool.false_ne_true)
    · cases hr
    · exact k.ro j x d y g hr (hσ _ _ hj' s)
  · rw [Heap.next_new, Heap.next_put] at hj
    rw [Env.with_ne _ _ _ (by omega)]; exact k.fresh j (by omega)
  · rw [hsz]
    rcases f j x e with ⟨rfl, rfl⟩ | ⟨hj, hjb, rfl⟩ | ⟨hj, hjb, g⟩
    · rw [Env.with_at] at s; cases s; exact k.lt b o c 0 hg hc
    · subst hjb; exact k.lt j o d y hg (hσ _ _ hj s)
    · exact k.lt j x d y g (hσ _ _ hj s)
  · exact k.below.trans ⟨hos, ht, hout, by omega, fun i hi => hh i (by rintro rfl; exact hcb hi)⟩

/-! ## The model's append -/
theorem run_bind_ok {α β : Type} {P : Program} {x : Sem α} {f : α → Sem β} {a : α} {w w' : World} (h : x.run P w = .ok a w') : (x >>= f).run P w = (f a).run P w' := by
  rw [Sem.run_bind, h]; rfl

theorem run_append_fit {P : Program} {w w' : World} {ts : Array Nat} {t u e e' : Nat} (h0 : ts[0]? = some t) (h1 : ts[1]? = some u) (hu : P.underlying t = some (.slice e)) (hx : P.underlying u = some (.slice e')) {size : Nat} (hs : ∀ w, (sizeOf e).run P w = .ok size w)
    {base xb : Option Addr} {len cap n xc : Nat} (hfit : len + n ≤ cap) {new : Array Value} (hnew : (Builtin.firstCells size n (.slice xb n xc)).run P w = .ok new w)
    (hst : (match base with | some a => storeCells (a.add (len * size)) new.toList | none => pure ()).run P w = .ok () w') (ty : Nat) : (Builtin.append_ ts ty #[.slice base len cap, .slice xb n xc]).run P w = .ok (.slice base (len + n) cap) w' := by
  unfold Builtin.append_
  rw [h0, h1]
  simp only [List.getElem?_toArray, List.getElem?_cons_zero, List.getElem?_cons_succ]
  rw [run_bind_ok (run_underlying hu w)]
  simp only []
  rw [run_bind_ok (hs w), run_bind_ok (run_underlying hx w), run_bind_ok (a := false) (w' := w) rfl]
  rw [if_neg (by simp)]
  rw [run_bind_ok (a := n) (w' := w) (by rfl)]
  rw [if_pos hfit]
  rw [run_bind_ok (a := new) (w' := w) (by rw [if_pos (by rfl)]; exact hnew)]
  cases base with
  | none => simp only [] at hst ⊢; cases hst; rfl
  | some a => simp only [] at hst ⊢; rw [run_bind_ok hst]; rfl

theorem run_append_grow {P : Program} {w : World} {ts : Array Nat} {t u e e' : Nat} (h0 : ts[0]? = some t) (h1 : ts[1]? = some u) (hu : P.underlying t = some (.slice e)) (hx : P.underlying u = some (.slice e')) {j : TypeInfo} (hj : P.info? e = some j)
    {base xb : Option Addr} {len cap n xc : Nat} (hfit : ¬ len + n ≤ cap) (hlen : len ≤ 1000000) (hn : n ≤ 1000000) (hb : j.bytes ≤ 1000000) {old new zero : Array Value}
    (hold : ∀ w', w'.heap = w.heap → (Builtin.firstCells j.size len (.slice base len cap)).run P w' = .ok old w') (hnew : ∀ w', w'.heap = w.heap → (Builtin.firstCells j.size n (.slice xb n xc)).run P w' = .ok new w')
    {zv : Value} (hz : ∀ w, (zeroValue e).run P w = .ok zv w) (hzero : zv.cells = zero) (ty : Nat) :
    ∃ newCap, len + n ≤ newCap ∧ (Builtin.append_ ts ty #[.slice base len cap, .slice xb n xc]).run P w =
      .ok (.slice (some ⟨w.heap.size, 0, none⟩) (len + n) newCap) ({ w with drawn := w.drawn + 1 }.alloc (.cells (old ++ new ++ Builtin.zeroCells zero (newCap - (len + n))) e)) := by
  refine ⟨Question.cut (.appendCap (len + n) cap e) (w.tape w.drawn (.appendCap (len + n) cap e)), by simp only [Question.cut]; omega, ?_⟩
  generalize hN : Question.cut (.appendCap (len + n) cap e) (w.tape w.drawn (.appendCap (len + n) cap e)) = N
  have hs : ∀ w, (sizeOf e).run P w = .ok j.size w := fun w => by unfold sizeOf; rw [run_bind_ok (run_typeInfo w hj)]; rfl
  have hcap : Builtin.nextslicecap (len + n) cap ≤ 8000000 := by
    unfold Builtin.nextslicecap
    split
    · omega
    · split
      · omega
      · simp only [Builtin.growBy]
        (repeat' split) <;> omega
  have hbig : ¬ (Builtin.nextslicecap (len + n) cap * j.bytes > 2 ^ 48) := by
    have : Builtin.nextslicecap (len + n) cap * j.bytes ≤ 8000000 * 1000000 := Nat.mul_le_mul hcap hb
    omega
  have hmax : ¬ (((len + n : Nat) : Int) > IntKind.i64.max) := by
    have : IntKind.i64.max = 9223372036854775807 := by decide
    omega
  unfold Builtin.append_
  rw [h0, h1]
  simp only [List.getElem?_toArray, List.getElem?_cons_zero, List.getElem?_cons_succ]
  rw [run_bind_ok (run_underlying hu w)]
  simp only []
  rw [run_bind_ok (hs w), run_bind_ok (run_underlying hx w), run_bind_ok (a := false) (w' := w) rfl]
  rw [if_neg (by simp)]
  rw [run_bind_ok (a := n) (w' := w) (by rfl)]
  rw [if_neg hfit]
  rw [run_bind_ok (run_typeInfo w hj)]
  rw [if_neg (fun hh => hmax hh.1)]
  rw [run_bind_ok (run_typeInfo w hj)]
  rw [if_neg hbig]
  rw [run_bind_ok (a := N) (w' := { w with drawn := w.drawn + 1 }) (by
    unfold choose
    simp only [Sem.run, Question.forced, Bool.false_eq_true, if_false, hN])]
  rw [run_bind_ok (run_typeInfo _ hj), run_bind_ok (run_askRoom P _ _)]
  rw [run_bind_ok (hold { w with drawn := w.drawn + 1 } rfl)]
  rw [run_bind_ok (a := new) (w' := { w with drawn := w.drawn + 1 }) (by rw [if_pos (by rfl)]; exact hnew _ rfl)]
  rw [run_bind_ok (hz _)]
  subst hzero
  rfl

/-! ## The instruction -/
theorem zeroCells_rep (zero : Array Value) (m : Nat) : Builtin.zeroCells zero m = (rep zero.toList m).toArray := by
  unfold Builtin.zeroCells
  exact zeros_eq zero m

theorem slice_value {E : Env} {x : AV} {n : Nat} (h : lenA x = some n) {v : Value} (hv : conc E x = some v) : ∃ b c, v = .slice b n c := by
  unfold lenA at h
  split at h
  · cases h; obtain ⟨q, _, rfl⟩ := slice_conc hv; exact ⟨_, _, rfl⟩
  · cases h; obtain ⟨q, _, _, rfl⟩ := sliceX_conc hv; exact ⟨_, _, rfl⟩
  · cases h; simp only [conc, Option.some.injEq] at hv; exact ⟨_, _, hv.symm⟩
  · cases h

theorem lenA_nb {x : AV} {n : Nat} (h : lenA x = some n) : notBad x = true := by
  unfold lenA at h
  split at h <;> first | rfl | cases h

theorem appendTo_nb {h : Heap} {e size n : Nat} {s : AV} {new : List AV} {r : AV × Heap} (k : appendTo h e size n s new = some r) : notBad s = true := by
  unfold appendTo at k
  split at k <;> first | rfl | cases k

theorem sliceX_new {E : Env} {n c K size len : Nat} (h : len ≤ K) : conc (E.with n (c, 0) K) (.sliceX n size 0 len) = some (.slice (some ⟨c, 0, none⟩) len K) := by
  simp [conc, Env.with_at, Env.with_κ, h]

theorem append_ok {p : Par} {ty : Nat → Option TI} (T : TyOk p.P ty) {c : Call} {t u e e' : Nat} (hts : c.argTypes.toList = [t, u]) {i iu j : TI} (ht : ty t = some i) (hd : i.desc = .slice e) (hu' : ty u = some iu) (hdu : iu.desc = .slice e') (he : ty e = some j) {z : List AV} (hz : zeroOf j = some z)
    {x1 x2 : Operand} (hxs : c.args.toList = [x1, x2]) {y1 y2 : Opd} (h1 : cOpd x1 = some y1) (h2 : cOpd x2 = some y2) (hb : c.callee = .builtin .append) {o : Oper} (ho : o.op = .call c) : InsOk p (iAppend e j.size j.bytes y1 y2) o := by
  intro cx n' keep E w0 tm h a w Q K _ HT HH k P
  rw [run_builtin a o ho hb]
  have hargs : c.args.map a.eval = #[a.eval x1, a.eval x2] := by
    have : c.args = #[x1, x2] := by rw [← Array.toList_inj]; exact hxs
    rw [this]; simp
  rw [hargs]
  have hut := T.und t i ht
  rw [hd] at hut
  have huu := T.und u iu hu'
  rw [hdu] at huu
  have t0 : c.argTypes[0]? = some t := by rw [← Array.getElem?_toList, hts]; rfl
  have t1 : c.argTypes[1]? = some u := by rw [← Array.getElem?_toList, hts]; rfl
  obtain ⟨jj, hj1, hj2, hj3, _⟩ := T.info e j he
  have hsz := fun w => run_size T he w
  unfold builtin
  simp only
  cases hr : aappend h e j.size j.bytes (ev tm y1) (ev tm y2) with
  | none => simp only [iAppend, hr, Sx.T.of] at k; exact k.elim
  | some r =>
    simp only [iAppend, hr, Sx.T.of] at k
    have q : Q r := k
    unfold aappend at hr
    cases hln : lenA (ev tm y2) with
    | none => rw [hln] at hr; cases hr
    | some n =>
      rw [hln] at hr
      simp only at hr
      cases hfa : firstA h j.size n (ev tm y2) with
      | none => rw [hfa] at hr; cases hr
      | some new =>
        rw [hfa] at hr
        simp only at hr
        cases hc : and (Nat.ble n 1000000) (and (Nat.ble j.bytes 1000000) (and (Nat.ble 1 j.size) (allOk new))) with
        | false => rw [hc] at hr; cases hr
        | true =>
          rw [hc, cond_true] at hr
          obtain ⟨c1, c2⟩ := Bool.and_eq_true_iff.1 hc
          obtain ⟨c2, c3⟩ := Bool.and_eq_true_iff.1 c2
          obtain ⟨c3, hok⟩ := Bool.and_eq_true_iff.1 c3
          have c1 := ble_t.1 c1
          have c2 := ble_t.1 c2
          have c3 := ble_t.1 c3
          have hv2 := opd_some HT h2 (lenA_nb hln) HH.glob
          obtain ⟨xb, xc, hx2⟩ := slice_value hln hv2
          obtain ⟨nv, hnv, hnrun, hnl⟩ := firstA_ok HH hfa hv2
          rw [hx2] at hnrun ⊢
          have hv1 := opd_some HT h1 (appendTo_nb hr) HH.glob
          -- the row that grows
          have growK : ∀ {len cap : Nat} {base : Option Addr} {old : List AV} {hh : Heap}, a.eval x1 = .slice base len cap → ¬ len + n ≤ cap → len ≤ 1000000 → firstA h j.size len (ev tm y1) = some old →
              HeapOk p E hh w0 w → hh.next = h.next → Q (.sliceX h.next j.size 0 (len + n), hh.new (.cells (old ++ new) e true true)) →
              Does p.P ((do let v ← Builtin.append_ c.argTypes o.type #[a.eval x1, .slice xb n xc]; pure (Next.value v) : Sem Next).run p.P w) K := by
            intro len cap base old hh hx1 hnf hlen hfo hH hnx hq
            obtain ⟨ov, hov, horun, hol⟩ := firstA_ok HH hfo hv1
            have heap_eq : ∀ {w' : World}, w'.heap = w.heap → HeapOk p E h w0 w' → True := fun _ _ => trivial
            have hdrew : ∀ w', w'.heap = w.heap → (Builtin.firstCells j.size len (.slice base len cap)).run p.P w' = .ok ov.toArray w' := by
              intro w' hw'
              have := (firstA_ok (p := p) (E := E) (h := h) (w0 := ⟨{ w0.w with os := w'.os, tape := w'.tape, output := w'.output }, w0.S, w0.lt⟩) (w := w') ?_ hfo hv1)
              · obtain ⟨vs, g1, g2, _⟩ := this
                rw [hov] at g1; cases g1
                rw [hx1] at g2; exact g2
              · exact ⟨fun b o e => by rw [hw']; exact HH.obj b o e, HH.inj, HH.base, HH.ro, HH.fresh, fun b o c x e s => by rw [hw']; exact HH.lt b o c x e s, HH.glob, ⟨rfl, rfl, rfl, by rw [hw']; exact HH.below.size, fun k hk => by rw [hw']; exact HH.below.block k hk⟩, HH.nx, HH.ok⟩
            have hdrew2 : ∀ w', w'.heap = w.heap → (Builtin.firstCells j.size n (.slice xb n xc)).run p.P w' = .ok nv.toArray w' := by
              intro w' hw'
              have := (firstA_ok (p := p) (E := E) (h := h) (w0 := ⟨{ w0.w with os := w'.os, tape := w'.tape, output := w'.output }, w0.S, w0.lt⟩) (w := w') ?_ hfa hv2)
              · obtain ⟨vs, g1, g2, _⟩ := this
                rw [hnv] at g1; cases g1
                rw [hx2] at g2; exact g2
              · exact ⟨fun b o e => by rw [hw']; exact HH.obj b o e, HH.inj, HH.base, HH.ro, HH.fresh, fun b o c x e s => by rw [hw']; exact HH.lt b o c x e s, HH.glob, ⟨rfl, rfl, rfl, by rw [hw']; exact HH.below.size, fun k hk => by rw [hw']; exact HH.below.block k hk⟩, HH.nx, HH.ok⟩
            obtain ⟨zv, _, hzrun0, hzs⟩ := zero_cells T he hz E w
            have hzrun : ∀ w', (zeroValue e).run p.P w' = .ok zv w' := by
              intro w'
              obtain ⟨zv', _, hzrun', _⟩ := zero_cells T he hz E w'
              have e1 : ∀ {w1 w2 : World} {a b : Value}, (zeroValue e).run p.P w1 = .ok a w1 → (zeroValue e).run p.P w2 = .ok b w2 → a = b := by
                intro w1 w2 a b g1 g2
                unfold zeroValue at g1 g2
                rw [run_bind_ok (run_typeInfo _ hj1)] at g1 g2
                cases hjz : jj.zero with
                | none => rw [hjz] at g1; cases g1
                | some v0 =>
                  rw [hjz] at g1 g2
                  simp only [pure, Sem.run, Result.ok.injEq] at g1 g2
                  rw [← g1.1, ← g2.1]
              rw [e1 hzrun0 hzrun']; exact hzrun'
            rw [hx1]
            obtain ⟨N, hN, hrun⟩ := run_append_grow (P := p.P) (w := w) t0 t1 hut huu hj1 (base := base) (xb := xb) (xc := xc) hnf hlen c1 (by rw [hj3]; exact c2) (by rw [hj2]; exact hdrew) (by rw [hj2]; exact hdrew2) hzrun rfl o.type
            refine does_value hrun ?_
            have hH' : HeapOk p E hh w0 { w with drawn := w.drawn + 1 } := hH.world ⟨rfl, rfl, rfl, Nat.le_refl _, fun _ _ => rfl⟩
            have hfr : E.σ hh.next = none := hH.fresh _ (Nat.le_refl _)
            have hle := Env.with_le hfr hH.nx (w.heap.size, 0) N
            refine P _ _ (E.with hh.next (w.heap.size, 0) N) _ _ hq hle ?_ ?_
            · refine hH'.alloc (κ := N) (o := .cells (old ++ new) e true true) rfl ⟨w.heap.size, 0, ov ++ nv, _, e, (0, 0), Env.with_at _ _ _ _, concL_app (concL_mono hle _ _ hov) (concL_mono hle _ _ hnv), by simp; rfl, ?_, fun _ => ⟨rfl, rfl, (fun x => by cases x), fun _ => ⟨jj, hj1, ?_⟩⟩⟩
              · intro k hk
                simp only [Nat.zero_add]
                rw [Array.getElem?_append_left (by simpa using hk)]
                simp
              · rw [Env.with_κ, zeroCells_rep]
                simp only [Array.size_append, List.size_toArray, rep_len, Array.length_toList, List.length_append, hol, hnl, hzs, hj2]
                rw [← Nat.add_mul, ← Nat.add_mul]
                congr 1
                omega
            · rw [← hnx]
              simp only [conc]
              rw [Env.with_κ, if_pos (by omega), Env.with_at]
              simp
          unfold appendTo at hr
          split at hr
          · -- nil
            rename_i hs
            have hx1 : a.eval x1 = .slice none 0 0 := opd_ok HT h1 (by rw [hs]; rfl) HH.glob
            by_cases hn : n = 0
            · subst hn
              cases hr
              rw [hx1]
              have hnv0 : nv = [] := List.length_eq_zero_iff.1 (by simpa using hnl)
              refine does_value (run_append_fit t0 t1 hut huu hsz (by omega) hnrun (w' := w) ?_ o.type) (P.same HH q rfl)
              rfl
            · rw [beq_f.2 hn, cond_false] at hr
              cases hr
              refine growK hx1 (by omega) (by omega) (old := []) (by rw [hs]; rfl) HH rfl ?_
              have e1 : lApp ([] : List AV) new = [] ++ new := lApp_eq _ _
              unfold grow at q
              rw [e1] at q
              exact q
          · rename_i b off len cap hs
            have hv1' := hv1
            rw [hs] at hv1'
            obtain ⟨qb, hqb, hx1⟩ := slice_conc hv1'
            cases hfit : Nat.ble (len + n) cap with
            | true =>
              rw [hfit, cond_true] at hr
              have hfit := ble_t.1 hfit
              by_cases hn : n = 0
              · subst hn
                cases hr
                have hnv0 : nv = [] := List.length_eq_zero_iff.1 (by simpa using hnl)
                rw [hx1]
                refine does_value (run_append_fit t0 t1 hut huu hsz hfit hnrun (w' := w) ?_ o.type) (P.same HH q ?_)
                · simp only [hnv0]; rfl
                · rw [Nat.add_zero, ← hs]; exact hx1 ▸ hv1
              · rw [beq_f.2 hn, cond_false] at hr
                split at hr
                · rename_i h' hst
                  cases hr
                  obtain ⟨cs, el, xx, cs', hg, hlen', _, hp, rfl⟩ := astoreC_some hst
                  obtain ⟨w', hrun, H'⟩ := HH.storeCells hg hnv hok hp hqb
                  rw [hx1]
                  refine does_value (run_append_fit t0 t1 hut huu hsz hfit hnrun (w' := w') ?_ o.type) ?_
                  · simp only [add_mk]
                    rw [Nat.add_assoc]
                    simpa using hrun
                  · exact P _ _ E w' _ q (Env.le.refl E) H' (by simp [conc, hqb])
                · cases hr
            | false =>
              rw [hfit, cond_false] at hr
              have hfit : ¬ len + n ≤ cap := fun hh => by rw [ble_t.2 hh] at hfit; cases hfit
              split at hr
              · rename_i old hfo
                cases hl : Nat.ble len 1000000 with
                | false => rw [hl] at hr; cases hr
                | true =>
                  rw [hl] at hr; cases hr
                  refine growK hx1 hfit (ble_t.1 hl) (old := old) hfo HH rfl ?_
                  unfold grow at q
                  rw [lApp_eq] at q
                  exact q
              · cases hr
          · rename_i b sz zz len hs
            have hv1' := hv1
            rw [hs] at hv1'
            obtain ⟨qb, hqb, hle0, hx1⟩ := sliceX_conc hv1'
            by_cases hn : n = 0
            · subst hn
              cases hr
              have hnv0 : nv = [] := List.length_eq_zero_iff.1 (by simpa using hnl)
              rw [hx1]
              refine does_value (run_append_fit t0 t1 hut huu hsz (by omega) hnrun (w' := w) ?_ o.type) (P.same HH q ?_)
              · simp only [hnv0]; rfl
              · have := hv1
                rw [hx1] at this
                simpa using this
            · rw [beq_f.2 hn, cond_false] at hr
              split at hr
              · rename_i old ocs el own ext hfo hg
                cases hcc : and (and own ext) (and (Nat.ble len 1000000) (and (Nat.beq el e) (and (Nat.beq sz j.size) (Nat.beq zz 0)))) with
                | false => rw [hcc] at hr; cases hr
                | true =>
                  rw [hcc] at hr; cases hr
                  obtain ⟨d1, d2⟩ := Bool.and_eq_true_iff.1 hcc
                  obtain ⟨d1, d3⟩ := Bool.and_eq_true_iff.1 d1
                  obtain ⟨d2, d4⟩ := Bool.and_eq_true_iff.1 d2
                  obtain ⟨d4, d5⟩ := Bool.and_eq_true_iff.1 d4
                  obtain ⟨d5, d6⟩ := Bool.and_eq_true_iff.1 d5
                  have hl2 := ble_t.1 d2
                  have d4 := beq_t.1 d4
                  have d5 := beq_t.1 d5
                  have d6 := beq_t.1 d6
                  subst d1; subst d3; subst d4; subst d5; subst d6
                  have hk := HH.kill hg
                  by_cases hfit : len + n ≤ E.κ b - 0
                  · -- in place
                    obtain ⟨c, base, us, cells, el', fz, g1, g2, g3, g4, g5⟩ := HH.obj b _ hg
                    rw [hqb] at g1; cases g1
                    obtain ⟨rfl, rfl, _, g7⟩ := g5 rfl
                    obtain ⟨ii, g8, g9⟩ := g7 rfl
                    rw [hj1] at g8; cases g8
                    rw [hj2] at g9
                    obtain ⟨ov, hov, horun, hol⟩ := firstA_ok HH hfo hv1
                    have hcell : ∀ m, m < len * j.size → cells[m]? = ov[m]? := by
                      intro m hm
                      rw [hx1] at horun
                      unfold firstA at hfo
                      rw [hs] at hfo
                      simp only at hfo
                      rw [show and (Nat.ble len len) (Nat.beq j.size j.size) = true from by rw [ble_t.2 (Nat.le_refl _), beq_t.2 rfl]; rfl, cond_true] at hfo
                      by_cases hl0 : len = 0
                      · subst hl0; omega
                      · rw [beq_f.2 hl0, cond_false] at hfo
                        have hcells : h.cells b = some ocs := by unfold Heap.cells; rw [hg]
                        rw [hcells] at hfo
                        simp only [Nat.zero_mul] at hfo
                        obtain ⟨hle1, rfl⟩ := listSub_eq hfo
                        have e1 := concL_take (concL_drop g2 0) (len * j.size)
                        rw [hov] at e1
                        cases e1
                        have hul := concL_len g2
                        have := g4 m (by omega)
                        rw [Nat.zero_add] at this
                        rw [this, List.getElem?_take, if_pos hm, List.drop_zero]
                    have hfits : len * j.size + nv.length ≤ cells.size := by
                      rw [hnl, g9, ← Nat.add_mul]
                      exact Nat.mul_le_mul_right _ (by omega)
                    have hstore := run_storeCells_at p.P c (len * j.size) el' nv 0 cells w g3 (by omega) (allOk_one hnv hok)
                    simp only [Nat.add_zero] at hstore
                    have hnew := setRow_heap w c cells (cells.toList.take (len * j.size) ++ nv ++ cells.toList.drop (len * j.size + nv.length)).toArray el' (0, 0) g3
                    have hfr : E.σ h.next = none := HH.fresh _ (Nat.le_refl _)
                    have hle := Env.with_le hfr HH.nx (c, 0) (E.κ b)
                    have hlc : (cells.toList.take (len * j.size)).length = len * j.size := by simp; omega
                    have HR := HH.reuse (o' := .cells (old ++ new) el true true) (w' := w.setRow c (cells.toList.take (len * j.size) ++ nv ++ cells.toList.drop (len * j.size + nv.length)).toArray) hg rfl hqb rfl
                      ⟨c, 0, ov ++ nv, _, el', (0, 0), Env.with_at _ _ _ _, concL_app (concL_mono hle _ _ hov) (concL_mono hle _ _ hnv), hnew, (by
                        intro m hm
                        simp only [Nat.zero_add, List.getElem?_toArray]
                        rw [List.append_assoc]
                        by_cases hm1 : m < len * j.size
                        · rw [List.getElem?_append_left (by omega), List.getElem?_append_left (by omega), List.getElem?_take, if_pos hm1, ← hcell m hm1]
                          simp
                        · rw [List.getElem?_append_right (l₁ := cells.toList.take _) (by omega), List.getElem?_append_right (l₁ := ov) (by omega), hlc, hol]
                          rw [List.getElem?_append_left (by simp at hm; omega)]),
                       (fun _ => ⟨rfl, rfl, (fun x => by cases x), fun _ => ⟨jj, hj1, by
                          rw [Env.with_κ, hj2]
                          simp
                          omega⟩⟩)⟩
                      (fun i hi => setRow_other w c i _ hi) rfl rfl rfl (by simp)
                    rw [hx1]
                    refine does_value (run_append_fit t0 t1 hut huu hsz hfit hnrun (w' := w.setRow c (cells.toList.take (len * j.size) ++ nv ++ cells.toList.drop (len * j.size + nv.length)).toArray) ?_ o.type) ?_
                    · simp only [add_mk]
                      have : (0 + (if E.κ b = 0 then 0 else 0 * j.size) + len * j.size) = len * j.size := by simp
                      rw [this]
                      simpa using hstore
                    · unfold grow at q
                      rw [lApp_eq] at q
                      refine P _ _ _ _ _ q ?_ HR ?_
                      · exact hle
                      · show conc (E.with h.next (c, 0) (E.κ b)) (.sliceX h.next j.size 0 (len + n)) = _
                        rw [sliceX_new (by omega)]
                        simp
                  · refine growK hx1 hfit hl2 (old := old) hfo hk rfl ?_
                    unfold grow at q
                    rw [lApp_eq] at q
                    exact q
              · cases hr
          · cases hr

/-! ## copy -/
theorem copy_ok {p : Par} {ty : Nat → Option TI} (T : TyOk p.P ty) {c : Call} {t u e : Nat} (hts : c.argTypes.toList = [t, u]) {i j : TI} (ht : ty t = some i) (hd : i.desc = .slice e) (he : ty e = some j)
    {x1 x2 : Operand} (hxs : c.args.toList = [x1, x2]) {y1 y2 : Opd} (h1 : cOpd x1 = some y1) (h2 : cOpd x2 = some y2) (hb : c.callee = .builtin .copy) {o : Oper} (ho : o.op = .call c) : InsOk p (iCopy j.size y1 y2) o := by
  intro cx n' keep E w0 tm h a w Q K _ HT HH k P
  rw [run_builtin a o ho hb]
  have hargs : c.args.map a.eval = #[a.eval x1, a.eval x2] := by
    have : c.args = #[x1, x2] := by rw [← Array.toList_inj]; exact hxs
    rw [this]; simp
  rw [hargs]
  have hut := T.und t i ht
  rw [hd] at hut
  have t0 : c.argTypes[0]? = some t := by rw [← Array.getElem?_toList, hts]; rfl
  have hsz := fun w => run_size T he w
  unfold builtin
  simp only
  cases hr : acopy h j.size (ev tm y1) (ev tm y2) with
  | none => simp only [iCopy, hr, Sx.T.of] at k; exact k.elim
  | some r =>
    simp only [iCopy, hr, Sx.T.of] at k
    have q : Q r := k
    unfold acopy at hr
    split at hr
    · rename_i b off dlen cap hs
      cases hln : lenA (ev tm y2) with
      | none => rw [hln] at hr; cases hr
      | some m =>
        rw [hln] at hr
        simp only at hr
        have hmin : (cond (Nat.ble m dlen) m dlen) = Nat.min m dlen := by
          cases hbl : Nat.ble m dlen with
          | true => have := ble_t.1 hbl; simp only [cond_true]; show m = min m dlen; omega
          | false =>
            have : ¬ m ≤ dlen := fun hh => by rw [ble_t.2 hh] at hbl; cases hbl
            simp only [cond_false]; show dlen = min m dlen; omega
        generalize (cond (Nat.ble m dlen) m dlen) = n at hmin hr
        cases hfa : firstA h j.size n (ev tm y2) with
        | none => rw [hfa] at hr; cases hr
        | some new =>
          rw [hfa] at hr
          simp only at hr
          cases hok : allOk new with
          | false => rw [hok] at hr; cases hr
          | true =>
            rw [hok, cond_true] at hr
            split at hr
            · rename_i h' hst
              cases hr
              have hv2 := opd_some HT h2 (lenA_nb hln) HH.glob
              obtain ⟨xb, xc, hx2⟩ := slice_value hln hv2
              obtain ⟨nv, hnv, hnrun, hnl⟩ := firstA_ok HH hfa hv2
              rw [hx2] at hnrun ⊢
              have hv1 : conc E (ev tm y1) = some (a.eval x1) := opd_some HT h1 (by rw [hs]; rfl) HH.glob
              rw [hs] at hv1
              obtain ⟨qb, hqb, hx1⟩ := slice_conc hv1
              rw [hx1]
              obtain ⟨cs, el, xx, cs', hg, hlen', _, hp, rfl⟩ := astoreC_some hst
              obtain ⟨w', hrun, H'⟩ := HH.storeCells hg hnv hok hp hqb
              refine does_value (v := goInt n) (w' := w') ?_ (P _ _ E w' _ q (Env.le.refl E) H' rfl)
              unfold Builtin.copy_
              rw [t0]
              simp only [List.getElem?_toArray, List.getElem?_cons_zero, List.getElem?_cons_succ]
              rw [run_bind_ok (run_underlying hut w)]
              simp only []
              rw [run_bind_ok (a := m) (w' := w) (by rfl)]
              rw [run_bind_ok (hsz w)]
              rw [← hmin]
              rw [run_bind_ok (a := nv.toArray) (w' := w) hnrun]
              simp only []
              rw [run_bind_ok (a := ()) (w' := w') (by simpa using hrun)]
              rfl
            · cases hr
    · cases hr

end Go.Sx
/-! EVERY INSTRUCTION THAT THE COMPILER MAKES STANDS FOR ITS OPERATION. -/
namespace Go.Sx
open Go.RowKit

theorem func_conc' {E : Env} {f : FuncId} {x y : List AV} {v : Value} (h : conc E (.func (.func f) x y) = some v) : ∃ a b, concL E x = some a ∧ concL E y = some b ∧ v = .func (.func f) a.toArray b.toArray := by
  simp only [conc] at h
  cases hx : concL E x with
  | none => rw [hx] at h; simp at h
  | some l =>
    cases hy : concL E y with
    | none => rw [hx, hy] at h; simp at h
    | some m => rw [hx, hy] at h; simp at h; exact ⟨l, m, rfl, rfl, h.symm⟩

theorem call_ok {p : Par} {c : Call} {f : Operand} {yf : Opd} {ys : List Opd} (hf : cOpd f = some yf) (hys : cOpds c.args.toList = some ys) (hc : c.callee = .value f) {o : Oper} (ho : o.op = .call c) : InsOk p (iCall yf ys) o := by
  intro cx n keep E w0 tm h a w Q K CX HT HH k P
  simp only [iCall, rCall] at k
  cases hb : lAll notBad (evs tm ys) with
  | false => rw [hb] at k; exact k.elim
  | true =>
    rw [hb, cond_true] at k
    have hargs := cOpds_some HT HH.glob hys hb
    have hex : (execOp a.eval o).run p.P w = (do let d ← Deferred.ofValue (a.eval f) (c.args.map a.eval); invoke d.target d.args : Sem Next).run p.P w := by
      unfold execOp
      rw [ho]
      unfold resolve
      simp only [hc]
    rw [hex]
    unfold callA at k
    split at k
    · rename_i fn first captured he
      split at k
      · rename_i fid
        have hv := opd_some HT hf (by rw [he]; rfl) HH.glob
        rw [he] at hv
        obtain ⟨l1, l2, e1, e2, hv'⟩ := func_conc' hv
        rw [hv']
        rw [run_bind_ok (a := { target := .fn (.func fid) l2.toArray, args := l1.toArray ++ c.args.map a.eval }) (w' := w) rfl]
        have : (invoke (.fn (.func fid) l2.toArray) (l1.toArray ++ c.args.map a.eval)).run p.P w = (callFunc fid ((l1.toArray ++ c.args.map a.eval) ++ l2.toArray)).run p.P w := rfl
        rw [this]
        have harr : ((l1.toArray ++ c.args.map a.eval) ++ l2.toArray) = (l1 ++ (c.args.toList.map a.eval ++ l2)).toArray := by
          apply Array.ext'
          simp
        rw [harr]
        rw [lApp_eq, lApp_eq] at k
        obtain ⟨hc1, hc2⟩ := CX.call fid _ h _ E w0 w Q K k HH (concL_app e1 (concL_app hargs e2)) P
        rw [hc1]
        exact hc2
      · exact k.elim
    · rename_i l he
      have hv := opd_some HT hf (by rw [he]; rfl) HH.glob
      rw [he] at hv
      obtain ⟨q, hq, hv'⟩ := yield_conc hv
      rw [hv']
      rw [run_bind_ok (a := { target := .fn (.yield q.1) #[], args := #[] ++ c.args.map a.eval }) (w' := w) rfl]
      have : (invoke (.fn (.yield q.1) #[]) (#[] ++ c.args.map a.eval)).run p.P w = (Instr.yield q.1 (#[] ++ c.args.map a.eval)).run p.P w := rfl
      rw [this]
      have harr : (#[] ++ c.args.map a.eval) = (c.args.toList.map a.eval).toArray := by
        apply Array.ext'
        simp
      rw [harr]
      exact CX.yield l _ h _ E w0 w Q K q k HH hargs hq P
    · exact k.elim

theorem cCall_ok {p : Par} {ty : Nat → Option TI} (T : TyOk p.P ty) {c : Call} {f : Ins} (h : cCall ty c = some f) {o : Oper} (ho : o.op = .call c) : InsOk p f o := by
  unfold cCall at h
  split at h
  · cases h
  · rename_i args hargs
    split at h
    · rename_i g hg
      split at h
      · rename_i yg hyg
        cases h
        exact call_ok hyg hargs hg ho
      · cases h
    · cases h
    · rename_i b hb
      split at h
      · -- len
        split at h
        · rename_i t ts x hts
          have hone : ∃ z, c.args.toList = [z] ∧ cOpd z = some x := by
            cases hl : c.args.toList with
            | nil => rw [hl] at hargs; cases hargs
            | cons z l =>
              rw [hl] at hargs
              simp only [cOpds] at hargs
              cases hz : cOpd z with
              | none => rw [hz] at hargs; cases hargs
              | some y =>
                cases hl' : cOpds l with
                | none => rw [hz, hl'] at hargs; cases hargs
                | some m =>
                  rw [hz, hl'] at hargs
                  cases hargs
                  cases l with
                  | nil => exact ⟨z, rfl, hz⟩
                  | cons z' l' =>
                    simp only [cOpds] at hl'
                    split at hl' <;> cases hl'
          obtain ⟨z, hz1, hz2⟩ := hone
          split at h
          · rename_i i hi
            split at h
            · rename_i n e hd; cases h; exact lenA_ok T hts hi hd hz1 hb ho
            · rename_i e hd; cases h; exact lenS_ok T hts hi hd hz1 hz2 hb ho
            · rename_i k e hd; cases h; exact lenM_ok T hts hi hd hz1 hz2 hb ho
            · cases h
          · cases h
        · cases h
      · cases h2 : Nat.ble 2 args.length with
        | false => rw [h2] at h; cases h
        | true => rw [h2] at h; cases h; exact max_ok hargs (ble_t.1 h2) hb ho
      · cases h2 : Nat.ble 2 args.length with
        | false => rw [h2] at h; cases h
        | true => rw [h2] at h; cases h; exact min_ok hargs (ble_t.1 h2) hb ho
      · split at h
        · rename_i t u s x hts
          have htwo : ∃ z1 z2, c.args.toList = [z1, z2] ∧ cOpd z1 = some s ∧ cOpd z2 = some x := by
            cases hl : c.args.toList with
            | nil => rw [hl] at hargs; cases hargs
            | cons z1 l =>
              rw [hl] at hargs
              simp only [cOpds] at hargs
              split at hargs
              · rename_i y1 m h1 h2
                cases hargs
                cases l with
                | nil => cases h2
                | cons z2 l =>
                  simp only [cOpds] at h2
                  split at h2
                  · rename_i y2 m' h3 h4
                    cases h2
                    cases l with
                    | nil => exact ⟨z1, z2, rfl, h1, h3⟩
                    | cons z3 l =>
                      simp only [cOpds] at h4
                      split at h4 <;> cases h4
                  · cases h2
              · cases hargs
          obtain ⟨z1, z2, hz1, hz2, hz3⟩ := htwo
          split at h
          · rename_i i iu hi hiu
            split at h
            · rename_i e e' hd hdu
              split at h
              · rename_i j hj
                split at h
                · rename_i z hz; cases h; exact append_ok T hts hi hd hiu hdu hj hz hz1 hz2 hz3 hb ho
                · cases h
              · cases h
            · cases h
          · cases h
        · cases h
      · split at h
        · rename_i t u s x hts
          have htwo : ∃ z1 z2, c.args.toList = [z1, z2] ∧ cOpd z1 = some s ∧ cOpd z2 = some x := by
            cases hl : c.args.toList with
            | nil => rw [hl] at hargs; cases hargs
            | cons z1 l =>
              rw [hl] at hargs
              simp only [cOpds] at hargs
              split at hargs
              · rename_i y1 m h1 h2
                cases hargs
                cases l with
                | nil => cases h2
                | cons z2 l =>
                  simp only [cOpds] at h2
                  split at h2
                  · rename_i y2 m' h3 h4
                    cases h2
                    cases l with
                    | nil => exact ⟨z1, z2, rfl, h1, h3⟩
                    | cons z3 l =>
                      simp only [cOpds] at h4
                      split at h4 <;> cases h4
                  · cases h2
              · cases hargs
          obtain ⟨z1, z2, hz1, hz2, hz3⟩ := htwo
          split at h
          · rename_i i hi
            split at h
            · rename_i e hd
              split at h
              · rename_i j hj
                cases h; exact copy_ok T hts hi hd hj hz1 hz2 hz3 hb ho
              · cases h
            · cases h
          · cases h
        · cases h
      · cases h

theorem cBin_ok {p : Par} {ty : Nat → Option TI} (T : TyOk p.P ty) {op : BinOp} {t t' : TypeId} {x1 x2 : Operand} {y1 y2 : Opd} (h1 : cOpd x1 = some y1) (h2 : cOpd x2 = some y2) {f : Ins} (h : cBin ty op t y1 y2 = some f) {o : Oper} (ho : o.op = .binOp op t x1 x2 t') : InsOk p f o := by
  unfold cBin at h
  split at h
  · cases h; exact shift_ok (.inl rfl) h1 h2 ho
  · cases h; exact shift_ok (.inr rfl) h1 h2 ho
  · cases h; exact cmp_ok h1 h2 ho
  · cases h; exact cmp_ok h1 h2 ho
  · cases h; exact cmp_ok h1 h2 ho
  · cases h; exact cmp_ok h1 h2 ho
  · split at h
    · rename_i i hi
      cases hint : isInt i with
      | true => rw [hint] at h; cases h; exact cmp_ok h1 h2 ho
      | false =>
        rw [hint, cond_false] at h
        split at h
        · rename_i ls hls; cases h; exact eq_ok (ng := false) T hi hint hls h1 h2 (by rw [ho]; rfl)
        · cases h
    · cases h
  · split at h
    · rename_i i hi
      cases hint : isInt i with
      | true => rw [hint] at h; cases h; exact cmp_ok h1 h2 ho
      | false =>
        rw [hint, cond_false] at h
        split at h
        · rename_i ls hls; cases h; exact eq_ok (ng := true) T hi hint hls h1 h2 (by rw [ho]; rfl)
        · cases h
    · cases h
  · rename_i n1 n2 n3 n4 n5 n6 n7 n8
    cases h
    refine arith_ok ?_ h1 h2 ho
    cases op <;> first | rfl | (exfalso; simp at *; done)

theorem places_ok {P : Program} {ty : Nat → Option TI} (T : TyOk P ty) : ∀ (fs : List Field), (fs.all fun f => (ty f.type).isSome) = true →
    ∃ places, fs.mapM (fun f => (P.info? f.type).map fun i => (f.offset, i.size)) = some places ∧ ∀ i, places[i]? = placeF ty fs i
  | [], _ => ⟨[], rfl, fun i => by simp [placeF]⟩
  | f :: fs, h => by
    simp only [List.all_cons, Bool.and_eq_true] at h
    obtain ⟨l, hl, hp⟩ := places_ok T fs h.2
    cases ht : ty f.type with
    | none => rw [ht] at h; cases h.1
    | some j =>
      obtain ⟨i, hi, hs, _, _⟩ := T.info _ _ ht
      refine ⟨(f.offset, j.size) :: l, by simp [List.mapM_cons, hi, hl, hs], fun n => ?_⟩
      cases n with
      | zero => simp [placeF, ht]
      | succ n => rw [List.getElem?_cons_succ, hp n]; simp [placeF]

theorem cBuild_ok {p : Par} {ty : Nat → Option TI} (T : TyOk p.P ty) {t : Nat} {parts : Array (Nat × Operand)} {f : Ins} (h : cBuild ty t parts.toList = some f) {o : Oper} (ho : o.op = .build t parts) : InsOk p f o := by
  unfold cBuild at h
  split at h
  · rename_i i hi
    split at h
    · rename_i z hz
      split at h
      · rename_i fs hd
        cases ha : (fs.toList.all fun f => (ty f.type).isSome) with
        | false => rw [ha] at h; cases h
        | true =>
          rw [ha, cond_true] at h
          cases hp : cParts (placeF ty fs.toList) parts.toList with
          | none => rw [hp] at h; cases h
          | some ps =>
            rw [hp, Option.map_some, Option.some.injEq] at h
            subst h
            refine build_ok T hi hz hp ?_ ho
            rintro v l cs ⟨j, hj, hv⟩ hf
            obtain ⟨places, hp1, hp2⟩ := places_ok T fs.toList ha
            have hu := T.und t i hi
            rw [hd] at hu
            unfold Program.built
            rw [hj, hu]
            simp only [hv, hp1]
            rw [← hf]
            congr 1
            funext n
            simp [hp2]
      · rename_i n e hd
        split at h
        · rename_i j hj
          cases hp : cParts (fun n => some (n * j.size, j.size)) parts.toList with
          | none => rw [hp] at h; cases h
          | some ps =>
            rw [hp, Option.map_some, Option.some.injEq] at h
            subst h
            refine build_ok T hi hz hp ?_ ho
            rintro v l cs ⟨k, hk, hv⟩ hf
            obtain ⟨i', hi', hs, _, _⟩ := T.info _ _ hj
            have hu := T.und t i hi
            rw [hd] at hu
            unfold Program.built
            rw [hk, hu]
            simp only [hv, hi', hs]
            exact hf
        · cases h
      · cases h
    · cases h
  · cases h

theorem cBslice_ok {p : Par} {ty : Nat → Option TI} (T : TyOk p.P ty) {t len : Nat} {parts : Array (Nat × Operand)} {f : Ins} (h : cBslice ty t len parts.toList = some f) {o : Oper} (ho : o.op = .buildSlice t len parts) : InsOk p f o := by
  unfold cBslice at h
  split at h
  · rename_i i hi
    split at h
    · rename_i e hd
      split at h
      · rename_i j hj
        split at h
        · rename_i z hz
          cases hb : Nat.ble (len * j.size) 1000000 with
          | false => rw [hb] at h; cases h
          | true =>
            rw [hb, cond_true] at h
            cases hp : cParts (fun n => some (n * j.size, j.size)) parts.toList with
            | none => rw [hp] at h; cases h
            | some ps =>
              rw [hp, Option.map_some, Option.some.injEq] at h
              subst h
              exact bslice_ok T hi hd hj hz (ble_t.1 hb) hp ho
        · cases h
      · cases h
    · cases h
  · cases h

theorem cMkslice_ok {p : Par} {ty : Nat → Option TI} (T : TyOk p.P ty) {t : Nat} {x1 x2 : Operand} {y1 y2 : Opd} (h1 : cOpd x1 = some y1) (h2 : cOpd x2 = some y2) {f : Ins} (h : cMkslice ty t y1 y2 = some f) {o : Oper} (ho : o.op = .makeSlice t x1 x2) : InsOk p f o := by
  unfold cMkslice at h
  split at h
  · rename_i i hi
    split at h
    · rename_i e hd
      split at h
      · rename_i j hj
        split at h
        · rename_i z hz
          cases h
          exact mkslice_ok T hi hd hj hz h1 h2 ho
        · cases h
      · cases h
    · cases h
  · cases h

theorem cSlice_ok {p : Par} {ty : Nat → Option TI} (T : TyOk p.P ty) {t : Nat} {x : Operand} {y : Opd} (hx : cOpd x = some y) {lo hi mx : Option Operand} {ylo yhi ymx : Option Opd} (h1 : cOpt lo = some ylo) (h2 : cOpt hi = some yhi) (h3 : cOpt mx = some ymx)
    {f : Ins} (h : cSlice ty t y ylo yhi ymx = some f) {o : Oper} (ho : o.op = .slice t x lo hi mx) : InsOk p f o := by
  have iso : ∀ {z : Option Operand} {u : Option Opd}, cOpt z = some u → z.isSome = u.isSome := fun {z u} e => by
    cases z with
    | none => simp only [cOpt, Option.some.injEq] at e; subst e; rfl
    | some z =>
      simp only [cOpt, Option.map_eq_some_iff] at e
      obtain ⟨b, _, rfl⟩ := e
      rfl
  unfold cSlice at h
  cases hc : (ymx.isNone || yhi.isSome) with
  | false => rw [hc] at h; cases h
  | true =>
    rw [hc, cond_true] at h
    have hmx : mx.isSome = true → hi.isSome = true := by
      rw [iso h3, iso h2]
      intro hm
      cases ymx with
      | none => cases hm
      | some m => simpa using hc
    split at h
    · rename_i i ht
      split at h
      · rename_i e hd
        split at h
        · rename_i j hj
          cases hb : Nat.ble 1 j.size with
          | false => rw [hb] at h; cases h
          | true =>
            rw [hb, cond_true, Option.some.injEq] at h
            subst h
            exact slice_ok T ht hd hj hx h1 h2 h3 hmx ho
        · cases h
      · rename_i n e hd
        split at h
        · rename_i j hj
          cases h
          exact sliceA_ok T ht hd hj hx h1 h2 h3 hmx ho
        · cases h
      · cases h
    · cases h

theorem cIaddr_ok {p : Par} {ty : Nat → Option TI} (T : TyOk p.P ty) {t : Nat} {x1 x2 : Operand} {y1 y2 : Opd} (h1 : cOpd x1 = some y1) (h2 : cOpd x2 = some y2) {f : Ins} (h : cIaddr ty t y1 y2 = some f) {o : Oper} (ho : o.op = .indexAddr t x1 x2) : InsOk p f o := by
  unfold cIaddr at h
  split at h
  · rename_i i hi
    split at h
    · rename_i e hd
      split at h
      · rename_i j hj; cases h; exact iaddr_ok T hi hd hj h1 h2 ho
      · cases h
    · rename_i n e hd
      split at h
      · rename_i j hj; cases h; exact iaddrA_ok T hi hd hj h1 h2 ho
      · cases h
    · cases h
  · cases h

theorem cIndex_ok {p : Par} {ty : Nat → Option TI} (T : TyOk p.P ty) {t : Nat} {x1 x2 : Operand} {y1 y2 : Opd} (h1 : cOpd x1 = some y1) (h2 : cOpd x2 = some y2) {f : Ins} (h : cIndex ty t y1 y2 = some f) {o : Oper} (ho : o.op = .index t x1 x2) : InsOk p f o := by
  unfold cIndex at h
  split at h
  · rename_i i hi
    split at h
    · rename_i n e hd
      split at h
      · rename_i j hj; cases h; exact index_ok T hi hd hj h1 h2 ho
      · cases h
    · cases h
  · cases h

/-- EVERY OPERATION THAT IS COMPILED. -/
theorem cOp_ok {p : Par} {ty : Nat → Option TI} (T : TyOk p.P ty) {o : Oper} {f : Ins} (h : cOp ty o.op = some f) : InsOk p f o := by
  generalize hop : o.op = op at h
  cases op with
  | move x => obtain ⟨y, hy, hk⟩ := with1_some h; cases hk; exact mov_ok hy (.inl hop)
  | assign x => obtain ⟨y, hy, hk⟩ := with1_some h; cases hk; exact mov_ok hy (.inr hop)
  | pick c a b => obtain ⟨y1, y2, y3, e1, e2, e3, hk⟩ := with3_some h; cases hk; exact pick_ok e1 e2 e3 hop
  | alloc t =>
    simp only [cOp] at h
    split at h
    · rename_i i hi
      cases hz : zeroOf i with
      | none => rw [hz] at h; cases h
      | some z => rw [hz] at h; cases h; exact alloc_ok T hi hz hop
    · cases h
  | box t x => obtain ⟨y, hy, hk⟩ := with1_some h; cases hk; exact box_ok hy hop
  | build t ps => exact cBuild_ok T h hop
  | buildSlice t len ps => exact cBslice_ok T h hop
  | load t x =>
    obtain ⟨y, hy, hk⟩ := with1_some h
    split at hk
    · rename_i i hi
      cases ha : i.isAgg with
      | true => rw [ha] at hk; cases hk; exact loadN_ok T hi ha hy hop
      | false => rw [ha] at hk; cases hk; exact load_ok T hi ha hy hop
    · cases hk
  | store t a x =>
    obtain ⟨y1, y2, e1, e2, hk⟩ := with2_some h
    split at hk
    · rename_i i hi; cases hk; exact store_ok T hi e1 e2 hop
    · cases hk
  | binOp op t x y t' => obtain ⟨y1, y2, e1, e2, hk⟩ := with2_some h; exact cBin_ok T e1 e2 hk hop
  | unOp op t x =>
    obtain ⟨y, hy, hk⟩ := with1_some h
    split at hk
    · cases hk; exact not_ok hy hop
    · cases hk; exact neg_ok hy hop
    · cases hk
  | convert s d x =>
    obtain ⟨y, hy, hk⟩ := with1_some h
    split at hk
    · rename_i i k hi hc; cases hk; exact conv_ok T hc hy ⟨_, T.und _ _ hi⟩ hop
    · cases hk
  | makeFunc fn first captured =>
    simp only [cOp] at h
    cases hn : notYield fn with
    | false => rw [hn] at h; cases h
    | true =>
      rw [hn, cond_true] at h
      split at h
      · rename_i a b ha hb; cases h; exact func_ok hn ha hb hop
      · cases h
  | makeMap t r =>
    simp only [cOp] at h
    split at h
    · cases h; exact mkmap_ok hop
    · cases h
  | makeSlice t l c => obtain ⟨y1, y2, e1, e2, hk⟩ := with2_some h; exact cMkslice_ok T e1 e2 hk hop
  | slice t x lo hi mx =>
    simp only [cOp] at h
    split at h
    · rename_i y l u m h1 h2 h3 h4; exact cSlice_ok T h1 h2 h3 h4 h hop
    · cases h
  | fieldAddr t x f =>
    obtain ⟨y, hy, hk⟩ := with1_some h
    split at hk
    · rename_i q hq
      cases hb : Nat.ble 1 q.2.size with
      | false => rw [hb] at hk; cases hk
      | true => rw [hb] at hk; cases hk; exact faddr_ok T hq (ble_t.1 hb) hy hop
    · cases hk
  | field t x f =>
    obtain ⟨y, hy, hk⟩ := with1_some h
    split at hk
    · rename_i q hq; cases hk; exact field_ok T hq hy hop
    · cases hk
  | indexAddr t x ix => obtain ⟨y1, y2, e1, e2, hk⟩ := with2_some h; exact cIaddr_ok T e1 e2 hk hop
  | index t x ix => obtain ⟨y1, y2, e1, e2, hk⟩ := with2_some h; exact cIndex_ok T e1 e2 hk hop
  | lookup t x k ok =>
    obtain ⟨y1, y2, e1, e2, hk⟩ := with2_some h
    split at hk
    · rename_i q hq
      split at hk
      · rename_i z hz; cases hk; exact lookup_ok T hq hz e1 e2 hop
      · cases hk
    · cases hk
  | mapUpdate t m k v =>
    obtain ⟨y1, y2, y3, e1, e2, e3, hk⟩ := with3_some h
    split at hk
    · rename_i q hq; cases hk; exact mapset_ok T hq e1 e2 e3 (.inl hop)
    · cases hk
  | mapEntry t m k =>
    obtain ⟨y1, y2, e1, e2, hk⟩ := with2_some h
    split at hk
    · rename_i q hq
      split at hk
      · rename_i z hz; cases hk; exact mapent_ok T hq hz e1 e2 hop
      · cases hk
    · cases hk
  | entryStore t m s v => obtain ⟨y1, y2, y3, e1, e2, e3, hk⟩ := with3_some h; cases hk; exact entset_ok e1 e2 e3 hop
  | insert t m k v =>
    obtain ⟨y1, y2, y3, e1, e2, e3, hk⟩ := with3_some h
    split at hk
    · rename_i q hq; cases hk; exact mapset_ok T hq e1 e2 e3 (.inr hop)
    · cases hk
  | extract t ix => obtain ⟨y, hy, hk⟩ := with1_some h; cases hk; exact extract_ok hy hop
  | call c => exact cCall_ok T h hop
  | _ => cases h

end Go.Sx
