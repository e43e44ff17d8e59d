/- EQUALITY, cell by cell. -/
import Derived.Test.YtaapomafjjikhaaGreatDoorSxOps6
/-! EQUALITY, cell by cell. -/
namespace Go.Sx
open Go.RowKit

theorem mkIff_den (ρ : Rho) (a b : BE) : (a.mkIff b).den ρ = (a.den ρ == b.den ρ) := by
  unfold BE.mkIff
  split <;> rfl

/-- one leaf -/
def LeafOf (d : TypeDesc) (l : Leaf) : Prop :=
  match l with
  | .bool => d = .bool
  | .int => ∃ k, d = .int k
  | .nilS => ∃ e, d = .slice e
  | .nilM => ∃ k e, d = .map k e
  | .nilP => ∃ e, d = .pointer e
  | .nilF => ∃ a b c, d = .func a b c

theorem func_conc {E : Env} {fn : Fn} {x y : List AV} {v : Value} (h : conc E (.func fn x y) = some v) : ∃ f a b, v = .func f a b := by
  simp only [conc] at h
  cases hx : concL E x with
  | none => rw [hx] at h; cases fn <;> simp at h
  | some l =>
    cases hy : concL E y with
    | none => rw [hx, hy] at h; cases fn <;> simp at h
    | some m => rw [hx, hy] at h; cases fn <;> simp at h <;> exact ⟨_, _, _, h.symm⟩
theorem yield_conc {E : Env} {l : Nat} {v : Value} (h : conc E (.yieldF l) = some v) : ∃ q, E.σ l = some q ∧ v = .func (.yield q.1) #[] #[] := by
  simp only [conc, Option.map_eq_some_iff] at h
  obtain ⟨q, h1, h2⟩ := h
  exact ⟨q, h1, h2.symm⟩

theorem eqLeaf_ok {P : Program} {t : Nat} {d : TypeDesc} (hu : P.underlying t = some d) {l : Leaf} (hl : LeafOf d l) {x y : AV} {be : BE} (h : eqLeaf l x y = some be) {E : Env} {u v : Value} (hx : conc E x = some u) (hy : conc E y = some v) (D : Nat) (w : World) :
    (Op.equalIn (D + 1) t u v).run P w = .ok (be.den E.ρ) w := by
  unfold eqLeaf at h
  split at h
  · -- int
    obtain ⟨k, rfl⟩ := hl
    split at h
    · rename_i j a j' b
      cases hk : kindEq j j' with
      | false => rw [hk] at h; cases h
      | true =>
        have := kindEq_eq hk
        subst this
        rw [hk, cond_true] at h
        simp only [conc, Option.some.injEq] at hx hy
        subst hx; subst hy
        obtain ⟨_, hd⟩ := mkCmp_den (ρ := E.ρ) h
        rw [hd]
        simp only [Op.equalIn, Sem.run_bind, run_underlying hu, Result.andThen_ok, if_true]
        rfl
    · cases h
  · have hd : d = .bool := hl
    subst hd
    split at h
    · rename_i a b
      cases h
      simp only [conc, Option.some.injEq] at hx hy
      subst hx; subst hy
      rw [mkIff_den]
      simp only [Op.equalIn, Sem.run_bind, run_underlying hu, Result.andThen_ok]
      rfl
    · cases h
  · obtain ⟨e, rfl⟩ := hl
    split at h
    · cases h; simp only [conc, Option.some.injEq] at hx hy; subst hx; subst hy; simp only [Op.equalIn, Sem.run_bind, run_underlying hu, Result.andThen_ok]; rfl
    · cases h; obtain ⟨q, _, rfl⟩ := slice_conc hy; simp only [conc, Option.some.injEq] at hx; subst hx; simp only [Op.equalIn, Sem.run_bind, run_underlying hu, Result.andThen_ok]; rfl
    · cases h; obtain ⟨q, _, _, rfl⟩ := sliceX_conc hy; simp only [conc, Option.some.injEq] at hx; subst hx; simp only [Op.equalIn, Sem.run_bind, run_underlying hu, Result.andThen_ok]; rfl
    · cases h; obtain ⟨q, _, rfl⟩ := slice_conc hx; simp only [conc, Option.some.injEq] at hy; subst hy; simp only [Op.equalIn, Sem.run_bind, run_underlying hu, Result.andThen_ok]; rfl
    · cases h; obtain ⟨q, _, _, rfl⟩ := sliceX_conc hx; simp only [conc, Option.some.injEq] at hy; subst hy; simp only [Op.equalIn, Sem.run_bind, run_underlying hu, Result.andThen_ok]; rfl
    · cases h
  · obtain ⟨k, e, rfl⟩ := hl
    split at h
    · cases h; simp only [conc, Option.some.injEq] at hx hy; subst hx; subst hy; simp only [Op.equalIn, Sem.run_bind, run_underlying hu, Result.andThen_ok]; rfl
    · cases h; obtain ⟨q, _, rfl⟩ := map_conc hy; simp only [conc, Option.some.injEq] at hx; subst hx; simp only [Op.equalIn, Sem.run_bind, run_underlying hu, Result.andThen_ok]; rfl
    · cases h; obtain ⟨q, _, rfl⟩ := map_conc hx; simp only [conc, Option.some.injEq] at hy; subst hy; simp only [Op.equalIn, Sem.run_bind, run_underlying hu, Result.andThen_ok]; rfl
    · cases h
  · obtain ⟨e, rfl⟩ := hl
    split at h
    · cases h; simp only [conc, Option.some.injEq] at hx hy; subst hx; subst hy; simp only [Op.equalIn, Sem.run_bind, run_underlying hu, Result.andThen_ok]; rfl
    · cases h; obtain ⟨q, _, rfl⟩ := ptr_conc hy; simp only [conc, Option.some.injEq] at hx; subst hx; simp only [Op.equalIn, Sem.run_bind, run_underlying hu, Result.andThen_ok]; rfl
    · cases h; obtain ⟨q, _, rfl⟩ := ptr_conc hx; simp only [conc, Option.some.injEq] at hy; subst hy; simp only [Op.equalIn, Sem.run_bind, run_underlying hu, Result.andThen_ok]; rfl
    · cases h
  · obtain ⟨_, _, _, rfl⟩ := hl
    split at h
    · cases h; simp only [conc, Option.some.injEq] at hx hy; subst hx; subst hy; simp only [Op.equalIn, Sem.run_bind, run_underlying hu, Result.andThen_ok]; rfl
    · cases h; obtain ⟨_, _, _, rfl⟩ := func_conc hy; simp only [conc, Option.some.injEq] at hx; subst hx; simp only [Op.equalIn, Sem.run_bind, run_underlying hu, Result.andThen_ok]; rfl
    · cases h; obtain ⟨_, _, _, rfl⟩ := func_conc hx; simp only [conc, Option.some.injEq] at hy; subst hy; simp only [Op.equalIn, Sem.run_bind, run_underlying hu, Result.andThen_ok]; rfl
    · cases h; obtain ⟨_, _, rfl⟩ := yield_conc hy; simp only [conc, Option.some.injEq] at hx; subst hx; simp only [Op.equalIn, Sem.run_bind, run_underlying hu, Result.andThen_ok]; rfl
    · cases h; obtain ⟨_, _, rfl⟩ := yield_conc hx; simp only [conc, Option.some.injEq] at hy; subst hy; simp only [Op.equalIn, Sem.run_bind, run_underlying hu, Result.andThen_ok]; rfl
    · cases h

theorem eqCells_nil (xs ys : List AV) : eqCells xs ys [] = some (.lit true) := rfl
theorem eqCells_cons (xs ys : List AV) (q : Nat × Leaf) (ls : List (Nat × Leaf)) : eqCells xs ys (q :: ls) =
    (match listGet xs q.1, listGet ys q.1 with
      | some x, some y => (match eqLeaf q.2 x y with
        | some (.lit c) => cond c (eqCells xs ys ls) (some (.lit false))
        | some c => (match eqCells xs ys ls with
          | some d => some (.and c d)
          | none => none)
        | none => none)
      | _, _ => none) := rfl

/-- the head, and what follows if the head says yes -/
theorem eqCells_step {xs ys : List AV} {q : Nat × Leaf} {ls : List (Nat × Leaf)} {be : BE} (h : eqCells xs ys (q :: ls) = some be) (ρ : Rho) :
    ∃ x y c, xs[q.1]? = some x ∧ ys[q.1]? = some y ∧ eqLeaf q.2 x y = some c ∧ (c.den ρ = false → be.den ρ = false) ∧ (c.den ρ = true → ∃ d, eqCells xs ys ls = some d ∧ be.den ρ = d.den ρ) := by
  rw [eqCells_cons] at h
  simp only [listGet_eq] at h
  split at h
  · rename_i x y hx hy
    split at h
    · rename_i c hc
      refine ⟨x, y, .lit c, hx, hy, hc, ?_, ?_⟩
      · intro hf; simp only [BE.den] at hf; subst hf; cases h; rfl
      · intro ht; simp only [BE.den] at ht; subst ht; exact ⟨be, h, rfl⟩
    · rename_i c _ hc
      split at h
      · rename_i d hd
        cases h
        refine ⟨x, y, c, hx, hy, hc, ?_, ?_⟩
        · intro hf; simp only [BE.den, hf, Bool.false_and]
        · intro ht; exact ⟨d, hd, by simp only [BE.den, ht, Bool.true_and]⟩
      · cases h
    · cases h
  · cases h

/-- a part of the cells, as a type reads it -/
def PartAt (i : TI) (vs : List Value) (off : Nat) (u : Value) : Prop :=
  if i.isAgg = true then u = .agg ((vs.drop off).take i.size).toArray else vs[off]? = some u

theorem part_sub {P : Program} {ty : Nat → Option TI} (T : TyOk P ty) {t : Nat} {j : TI} (ht : ty t = some j) {vs : List Value} {off o size : Nat} {u : Value} (h : PartAt j vs (off + o) u) (hle : o + j.size ≤ size) (h1 : 1 ≤ j.size) (w : World) :
    (part t ((vs.drop off).take size).toArray o).run P w = .ok u w := by
  unfold PartAt at h
  unfold part
  simp only [Sem.run_bind, run_isAgg T ht, Result.andThen_ok]
  cases hagg : j.isAgg with
  | true =>
    rw [hagg, if_pos rfl] at h
    subst h
    simp only [if_true, Sem.run_bind, run_size T ht, Result.andThen_ok, pure, Sem.run]
    congr 2
    apply Array.ext'
    simp only [Array.toList_extract, List.extract_eq_take_drop, List.drop_take, List.drop_drop, List.take_take]
    congr 1
    omega
  | false =>
    rw [hagg, if_neg (by simp)] at h
    simp only [Bool.false_eq_true, if_false]
    have : ((vs.drop off).take size).toArray[o]? = some u := by
      simp only [List.getElem?_toArray, List.getElem?_take, List.getElem?_drop]
      rw [if_pos (by omega), h]
    rw [this]
    rfl

def eqElems (d : Nat) (e : TypeId) (n : Nat) (xs ys : Array Value) : List Nat → Sem Bool
  | [] => pure true
  | i :: l => do
    let a ← part e xs (i * n)
    let b ← part e ys (i * n)
    let r ← Op.equalIn d e a b
    if (!r) = true then pure false else eqElems d e n xs ys l

theorem run_equalIn_array {P : Program} (w : World) (d t e len n : Nat) (xs ys : Array Value) (hu : P.underlying t = some (.array len e)) (hn : ∀ w, (sizeOf e).run P w = .ok n w) :
    (Op.equalIn (d + 1) t (.agg xs) (.agg ys)).run P w = (eqElems d e n xs ys (List.range' 0 len)).run P w := by
  simp only [Op.equalIn, Sem.run_bind, run_underlying hu, Result.andThen_ok, hn]
  rw [Std.Legacy.Range.forIn_eq_forIn_range']
  have hs : (Std.Legacy.Range.size { stop := len, step_pos := Nat.zero_lt_one : Std.Legacy.Range }) = len := by simp [Std.Legacy.Range.size]
  rw [hs]
  show ((Sem.run P (forIn (List.range' 0 len 1) _ _) w).andThen _) = _
  generalize List.range' 0 len 1 = l
  induction l generalizing w with
  | nil => simp [eqElems]
  | cons i l ih =>
    simp only [List.forIn_cons, eqElems, Sem.run_bind, Sem.run_ite]
    generalize (part e xs (i * n)).run P w = r1
    cases r1 with
    | ok a w1 =>
      simp only [Result.andThen_ok]
      generalize (part e ys (i * n)).run P w1 = r2
      cases r2 with
      | ok b w2 =>
        simp only [Result.andThen_ok]
        generalize (Op.equalIn d e a b).run P w2 = r3
        cases r3 with
        | ok r w3 =>
          cases r
          · simp only [Result.andThen_ok, Bool.not_false, if_true, Sem.run_pure]
          · simp only [Result.andThen_ok, Bool.not_true, Bool.false_eq_true, if_false, Sem.run_pure]
            exact ih w3
        | halt x w3 => simp [Result.andThen]
      | halt x w2 => simp [Result.andThen]
    | halt x w1 => simp [Result.andThen]

/-- what a comparison says, and what is owed of the rest -/
def Says (ρ : Rho) (xs ys : List AV) (rest : List (Nat × Leaf)) (be : BE) (r : Bool) : Prop :=
  (r = false → be.den ρ = false) ∧ (r = true → ∃ e, eqCells xs ys rest = some e ∧ be.den ρ = e.den ρ)

theorem leavesF_cons {ty : Nat → Option TI} {g : TypeId → Nat → Option (List (Nat × Leaf))} {off size : Nat} {f : Field} {fs : List Field} {ls : List (Nat × Leaf)} (h : leavesF ty g off size (f :: fs) = some ls) :
    ∃ j a b, ty f.type = some j ∧ f.name ≠ "_" ∧ 1 ≤ j.size ∧ f.offset + j.size ≤ size ∧ g f.type (off + f.offset) = some a ∧ leavesF ty g off size fs = some b ∧ ls = a ++ b := by
  simp only [leavesF] at h
  cases hj : ty f.type with
  | none => rw [hj] at h; cases h
  | some j =>
    rw [hj] at h
    simp only at h
    cases hc : and (and (Bool.not (f.name == "_")) (Nat.ble 1 j.size)) (Nat.ble (f.offset + j.size) size) with
    | false => rw [hc] at h; cases h
    | true =>
      rw [hc, cond_true] at h
      obtain ⟨c1, c2⟩ := Bool.and_eq_true_iff.1 hc
      obtain ⟨c1, c3⟩ := Bool.and_eq_true_iff.1 c1
      split at h
      · rename_i a b ha hb
        cases h
        exact ⟨j, a, b, rfl, by simpa using c1, ble_t.1 c3, ble_t.1 c2, ha, hb, rfl⟩
      · cases h

theorem leavesA_cons {g : Nat → Option (List (Nat × Leaf))} {size n off : Nat} {ls : List (Nat × Leaf)} (h : leavesA g size (n + 1) off = some ls) :
    ∃ a b, g off = some a ∧ leavesA g size n (off + size) = some b ∧ ls = a ++ b := by
  simp only [leavesA] at h
  split at h
  · rename_i a b ha hb
    cases h
    exact ⟨a, b, ha, hb, rfl⟩
  · cases h

theorem eq_leaves {P : Program} {ty : Nat → Option TI} (T : TyOk P ty) (w : World) {E : Env} {xs ys : List AV} {vs us : List Value} (hx : concL E xs = some vs) (hy : concL E ys = some us) :
    ∀ (d t off : Nat) (ls : List (Nat × Leaf)) (i : TI), leaves ty d t off = some ls → ty t = some i → ∀ (D : Nat), d ≤ D → ∀ (rest : List (Nat × Leaf)) (be : BE), eqCells xs ys (ls ++ rest) = some be →
      ∃ u v r, PartAt i vs off u ∧ PartAt i us off v ∧ (Op.equalIn D t u v).run P w = .ok r w ∧ Says E.ρ xs ys rest be r := by
  intro d
  induction d with
  | zero => intro t off ls i h; cases h
  | succ d ih =>
    intro t off ls i h ht D hD rest be he
    obtain ⟨D, rfl⟩ : ∃ D', D = D' + 1 := ⟨D - 1, by omega⟩
    have hu := T.und t i ht
    simp only [leaves, ht] at h
    have leaf : ∀ l : Leaf, LeafOf i.desc l → i.isAgg = false → ls = [(off, l)] → ∃ u v r, PartAt i vs off u ∧ PartAt i us off v ∧ (Op.equalIn (D + 1) t u v).run P w = .ok r w ∧ Says E.ρ xs ys rest be r := by
      intro l hl hagg e
      subst e
      obtain ⟨x, y, c, hx', hy', hc, hf, htt⟩ := eqCells_step he E.ρ
      obtain ⟨u, hu1, hu2⟩ := concL_get hx hx'
      obtain ⟨v, hv1, hv2⟩ := concL_get hy hy'
      refine ⟨u, v, c.den E.ρ, ?_, ?_, eqLeaf_ok hu hl hc hu1 hv1 D w, hf, htt⟩
      · unfold PartAt; rw [hagg, if_neg (by simp)]; exact hu2
      · unfold PartAt; rw [hagg, if_neg (by simp)]; exact hv2
    split at h
    · rename_i hd; exact leaf .bool hd (by unfold TI.isAgg; rw [hd]) (Option.some.inj h).symm
    · rename_i k hd; exact leaf .int ⟨k, hd⟩ (by unfold TI.isAgg; rw [hd]) (Option.some.inj h).symm
    · rename_i e hd; exact leaf .nilS ⟨e, hd⟩ (by unfold TI.isAgg; rw [hd]) (Option.some.inj h).symm
    · rename_i k e hd; exact leaf .nilM ⟨k, e, hd⟩ (by unfold TI.isAgg; rw [hd]) (Option.some.inj h).symm
    · rename_i e hd; exact leaf .nilP ⟨e, hd⟩ (by unfold TI.isAgg; rw [hd]) (Option.some.inj h).symm
    · rename_i x1 x2 x3 hd; exact leaf .nilF ⟨x1, x2, x3, hd⟩ (by unfold TI.isAgg; rw [hd]) (Option.some.inj h).symm
    · rename_i fs hd
      have hagg : i.isAgg = true := by unfold TI.isAgg; rw [hd]
      cases hok : i.eqOk with
      | false => rw [hok] at h; cases h
      | true =>
        rw [hok, cond_true] at h
        rw [hd] at hu
        have hfo : P.fieldsOf t = fs := by unfold Program.fieldsOf; rw [hu]
        have hu' : P.underlying t = some (.struct (P.fieldsOf t)) := by rw [hfo]; exact hu
        have key : ∀ (fl : List Field) (ls : List (Nat × Leaf)) (be : BE), leavesF ty (leaves ty d) off i.size fl = some ls → eqCells xs ys (ls ++ rest) = some be →
            ∃ r, (Op.eqFields D ((vs.drop off).take i.size).toArray ((us.drop off).take i.size).toArray fl).run P w = .ok r w ∧ Says E.ρ xs ys rest be r := by
          intro fl
          induction fl with
          | nil =>
            intro ls be hl he
            simp only [leavesF, Option.some.injEq] at hl
            subst hl
            exact ⟨true, rfl, fun e => (by cases e), fun _ => ⟨be, he, rfl⟩⟩
          | cons f fl ihf =>
            intro ls be hl he
            obtain ⟨j, a, b, hj, hname, h1, hle, ha, hb, rfl⟩ := leavesF_cons hl
            rw [List.append_assoc] at he
            obtain ⟨u, v, r, hpu, hpv, hrun, hs1, hs2⟩ := ih f.type (off + f.offset) a j ha hj D (by omega) (b ++ rest) be he
            have e1 := part_sub T hj hpu hle h1 w
            have e2 := part_sub T hj hpv hle h1 w
            simp only [Op.eqFields, if_pos hname, Sem.run_bind, e1, e2, hrun, Result.andThen_ok]
            cases r with
            | false => exact ⟨false, rfl, fun _ => hs1 rfl, fun e => (by cases e)⟩
            | true =>
              obtain ⟨e', he', hden⟩ := hs2 rfl
              obtain ⟨r', hrun', h1', h2'⟩ := ihf b e' hb he'
              exact ⟨r', by simpa using hrun', fun hr => hden.trans (h1' hr), fun hr => let ⟨e2, h3, h4⟩ := h2' hr; ⟨e2, h3, hden.trans h4⟩⟩
        obtain ⟨r, hrun, hs⟩ := key fs.toList ls be h he
        refine ⟨_, _, r, by unfold PartAt; rw [if_pos hagg], by unfold PartAt; rw [if_pos hagg], ?_, hs⟩
        rw [run_equalIn_struct w D t _ _ hu' (T.eqOk t i ht hok).1, hfo]
        exact hrun
    · rename_i n e hd
      have hagg : i.isAgg = true := by unfold TI.isAgg; rw [hd]
      cases hok : i.eqOk with
      | false => rw [hok] at h; cases h
      | true =>
        rw [hok, cond_true] at h
        rw [hd] at hu
        cases hj : ty e with
        | none => rw [hj] at h; cases h
        | some j =>
          rw [hj] at h
          simp only at h
          cases hc : and (Nat.ble 1 j.size) (Nat.ble (n * j.size) i.size) with
          | false => rw [hc] at h; cases h
          | true =>
            rw [hc, cond_true] at h
            obtain ⟨c1, c2⟩ := Bool.and_eq_true_iff.1 hc
            have c1 := ble_t.1 c1
            have c2 := ble_t.1 c2
            have key : ∀ (m k : Nat) (ls : List (Nat × Leaf)) (be : BE), k + m = n → leavesA (leaves ty d e) j.size m (off + k * j.size) = some ls → eqCells xs ys (ls ++ rest) = some be →
                ∃ r, (eqElems D e j.size ((vs.drop off).take i.size).toArray ((us.drop off).take i.size).toArray (List.range' k m)).run P w = .ok r w ∧ Says E.ρ xs ys rest be r := by
              intro m
              induction m with
              | zero =>
                intro k ls be _ hl he
                simp only [leavesA, Option.some.injEq] at hl
                subst hl
                exact ⟨true, rfl, fun e => (by cases e), fun _ => ⟨be, he, rfl⟩⟩
              | succ m ihm =>
                intro k ls be hk hl he
                obtain ⟨a, b, ha, hb, rfl⟩ := leavesA_cons hl
                rw [List.append_assoc] at he
                obtain ⟨u, v, r, hpu, hpv, hrun, hs1, hs2⟩ := ih e (off + k * j.size) a j ha hj D (by omega) (b ++ rest) be he
                have hle : k * j.size + j.size ≤ i.size := by
                  have : (k + 1) * j.size ≤ n * j.size := Nat.mul_le_mul_right _ (by omega)
                  rw [Nat.succ_mul] at this
                  omega
                have e1 := part_sub T hj hpu hle c1 w
                have e2 := part_sub T hj hpv hle c1 w
                rw [show List.range' k (m + 1) = k :: List.range' (k + 1) m from by simp [List.range'_succ]]
                simp only [eqElems, Sem.run_bind, e1, e2, hrun, Result.andThen_ok]
                cases r with
                | false => exact ⟨false, rfl, fun _ => hs1 rfl, fun e => (by cases e)⟩
                | true =>
                  obtain ⟨e', he', hden⟩ := hs2 rfl
                  obtain ⟨r', hrun', h1', h2'⟩ := ihm (k + 1) b e' (by omega) (by rw [Nat.succ_mul, ← Nat.add_assoc]; exact hb) he'
                  exact ⟨r', by simpa using hrun', fun hr => hden.trans (h1' hr), fun hr => let ⟨e2, h3, h4⟩ := h2' hr; ⟨e2, h3, hden.trans h4⟩⟩
            obtain ⟨r, hrun, hs⟩ := key n 0 ls be (by omega) (by simpa using h) he
            refine ⟨_, _, r, by unfold PartAt; rw [if_pos hagg], by unfold PartAt; rw [if_pos hagg], ?_, hs⟩
            rw [run_equalIn_array w D t e n j.size _ _ hu (fun w => run_size T hj w)]
            exact hrun
    · cases h

/-- TWO VALUES OF A TYPE. -/
theorem eqV_ok {P : Program} {ty : Nat → Option TI} (T : TyOk P ty) (w : World) {E : Env} {t : Nat} {i : TI} (ht : ty t = some i) {ls : List (Nat × Leaf)} (hl : leaves ty 12 t 0 = some ls) {x y : AV} {be : BE} (h : eqV i.isAgg i.size ls x y = some be)
    {u v : Value} (hx : conc E x = some u) (hy : conc E y = some v) : (Op.equal t u v).run P w = .ok (be.den E.ρ) w := by
  unfold Op.equal
  unfold eqV at h
  have fin : ∀ {xs ys : List AV} {r : Bool}, Says E.ρ xs ys [] be r → r = be.den E.ρ := by
    intro xs ys r hs
    cases r with
    | false => exact (hs.1 rfl).symm
    | true =>
      obtain ⟨e, he, hd⟩ := hs.2 rfl
      rw [eqCells_nil] at he
      cases he
      exact hd.symm
  cases hagg : i.isAgg with
  | true =>
    rw [hagg, cond_true] at h
    split at h
    · rename_i xs ys
      obtain ⟨vs, hvs, rfl⟩ := agg_conc hx
      obtain ⟨us, hus, rfl⟩ := agg_conc hy
      have hc : and (Nat.beq (lLen xs) i.size) (Nat.beq (lLen ys) i.size) = true := by
        cases hb : and (Nat.beq (lLen xs) i.size) (Nat.beq (lLen ys) i.size) with
        | true => rfl
        | false => rw [hb] at h; cases h
      rw [hc, cond_true] at h
      obtain ⟨c1, c2⟩ := Bool.and_eq_true_iff.1 hc
      rw [lLen_eq] at c1 c2
      rw [← List.append_nil ls] at h
      obtain ⟨u', v', r, hpu, hpv, hrun, hs⟩ := eq_leaves T w hvs hus 12 t 0 ls i hl ht Op.maxDepth (by decide) [] be h
      unfold PartAt at hpu hpv
      rw [if_pos hagg] at hpu hpv
      have l1 : vs.length = i.size := by rw [concL_len hvs]; exact beq_t.1 c1
      have l2 : us.length = i.size := by rw [concL_len hus]; exact beq_t.1 c2
      rw [List.drop_zero, ← l1, List.take_length] at hpu
      rw [List.drop_zero, ← l2, List.take_length] at hpv
      rw [hpu, hpv] at hrun
      rw [hrun, fin hs]
    · cases h
  | false =>
    rw [hagg, cond_false] at h
    have hxy : eqCells [x] [y] ls = some be := by
      revert h
      split
      · intro h; cases h
      · intro h; cases h
      · exact fun h => h
    rw [← List.append_nil ls] at hxy
    obtain ⟨u', v', r, hpu, hpv, hrun, hs⟩ := eq_leaves T w (xs := [x]) (ys := [y]) (concL_cons.2 ⟨u, [], hx, rfl, rfl⟩) (concL_cons.2 ⟨v, [], hy, rfl, rfl⟩) 12 t 0 ls i hl ht Op.maxDepth (by decide) [] be hxy
    unfold PartAt at hpu hpv
    rw [hagg, if_neg (by simp)] at hpu hpv
    simp only [List.getElem?_cons_zero, Option.some.injEq] at hpu hpv
    subst hpu; subst hpv
    rw [hrun, fin hs]

end Go.Sx
