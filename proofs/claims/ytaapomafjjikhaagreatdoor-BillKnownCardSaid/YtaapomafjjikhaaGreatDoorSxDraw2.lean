/- REGIONS WHOSE ORDER OF EVALUATION IS DRAWN: the run in the order of the list, and what it says of every order. -/
import Derived.Test.YtaapomafjjikhaaGreatDoorSxReg
/-! OPERATIONS WITHOUT AN EFFECT LEAVE THE HEAP. -/
namespace Go.Sx
open Go.RowKit

def Quiet (f : Ins) : Prop := ∀ cx tm h (ρ : Rho) r, (f cx tm h).Holds ρ (fun x => x = r) → r.2 = h

theorem quiet_mk2 {h : Heap} {why : Nat} {o : Option AV} {ρ : Rho} {r : AV × Heap} (e : (mk2 h why o).Holds ρ (fun x => x = r)) : r.2 = h := by
  cases o with
  | none => exact e.elim
  | some v => have e' : (v, h) = r := e; rw [← e']
theorem quiet_rMov {h : Heap} {v : AV} {ρ : Rho} {r : AV × Heap} (e : (rMov h v).Holds ρ (fun x => x = r)) : r.2 = h := by
  unfold rMov at e
  cases hb : notBad v with
  | false => rw [hb] at e; exact e.elim
  | true => rw [hb] at e; have e' : (v, h) = r := e; rw [← e']
theorem quiet_mov (y : Opd) : Quiet (iMov y) := fun _ _ _ _ _ e => quiet_rMov e
theorem quiet_pick (x y z : Opd) : Quiet (iPick x y z) := by
  intro cx tm h ρ r e
  simp only [iPick, rPick] at e
  split at e
  · rename_i c hc
    rw [T.holds_ite] at e
    split at e
    · exact quiet_rMov e
    · exact quiet_rMov e
  · exact e.elim
theorem quiet_pure1 (why : Nat) (f : AV → Option AV) (x : Opd) : Quiet (pure1 why f x) := fun _ _ _ _ _ e => quiet_mk2 e
theorem quiet_pure2 (why : Nat) (f : AV → AV → Option AV) (x y : Opd) : Quiet (pure2 why f x y) := fun _ _ _ _ _ e => quiet_mk2 e
theorem quiet_arith (op : BinOp) (x y : Opd) : Quiet (iArith op x y) := by
  intro cx tm h ρ r e
  unfold iArith rArith at e
  split at e
  · have e' : (_, h) = r := e; rw [← e']
  · unfold rDiv at e
    split at e
    · rename_i j u k' u' he1 he2
      cases hk : (kindEq j k' && isDiv op) with
      | false => rw [hk] at e; exact e.elim
      | true =>
        rw [hk, cond_true] at e
        simp only [T.Holds] at e
        split at e
        · have e' : (_, h) = r := e; rw [← e']
        · exact e.elim
    · exact e.elim
theorem quiet_iaddr (size : Nat) (x ix : Opd) : Quiet (iIaddr size x ix) := by
  intro cx tm h ρ r e
  unfold iIaddr rIaddr at e
  split at e
  · unfold rIaddrV at e
    split at e
    · simp only [T.Holds] at e
      split at e
      · have e' : (_, h) = r := e; rw [← e']
      · exact e.elim
    · exact e.elim
  · unfold rIaddrS at e
    split at e
    · have e' : (_, h) = r := e; rw [← e']
    · split at e
      · obtain ⟨m, _, e⟩ := rIaddrS_holds e
        exact quiet_mk2 e
      · exact e.elim
theorem quiet_case {h : Heap} {why n : Nat} {g : AV → Option AV} {ix : AV} {ρ : Rho} {r : AV × Heap} (e : (rCase h why n g ix).Holds ρ fun x => x = r) : r.2 = h := by
  obtain ⟨z, _, e⟩ := rCase_holds e
  exact quiet_mk2 e
theorem quiet_load (x : Opd) : Quiet (iLoad x) := fun _ _ _ _ _ e => quiet_mk2 e
theorem quiet_loadN (n : Nat) (x : Opd) : Quiet (iLoadN n x) := fun _ _ _ _ _ e => quiet_mk2 e
theorem quiet_build (z : List AV) (ps : List (Nat × Nat × Opd)) : Quiet (iBuild z ps) := by
  intro cx tm h ρ r e
  simp only [iBuild, rBuild] at e
  cases hf : fillA (evp tm ps) z with
  | none => rw [hf] at e; exact e.elim
  | some cs => rw [hf] at e; have e' : (AV.agg cs, h) = r := e; rw [← e']
theorem quiet_func (fn : Fn) (x y : List Opd) : Quiet (iFunc fn x y) := by
  intro cx tm h ρ r e
  simp only [iFunc, rFunc] at e
  revert e
  cases (and (lAll notBad (evs tm x)) (lAll notBad (evs tm y))) with
  | false => intro e; exact e.elim
  | true => intro e; have e' : (AV.func fn (evs tm x) (evs tm y), h) = r := e; rw [← e']
theorem quiet_slice (size : Nat) (x : Opd) (lo hi mx : Option Opd) : Quiet (iSlice size x lo hi mx) := fun _ _ _ _ _ e => quiet_mk2 e
theorem quiet_sliceA (size n : Nat) (x : Opd) (lo hi mx : Option Opd) : Quiet (iSliceA size n x lo hi mx) := fun _ _ _ _ _ e => quiet_mk2 e
theorem quiet_lookup (z : AV) (wh : Bool) (n : Nat) (ls : List (Nat × Leaf)) (ok : Bool) (x k : Opd) : Quiet (iLookup z wh n ls ok x k) := fun _ _ _ _ _ e => quiet_mk2 e
theorem quiet_lenM (x : Opd) : Quiet (iLenM x) := fun _ _ _ _ _ e => quiet_mk2 e
theorem quiet_lenA (n : Nat) : Quiet (iLenA n) := fun _ _ h _ r e => by have e' : ((AV.int .i64 (.lit (Int.ofNat n))), h) = r := e; rw [← e']
theorem quiet_max (xs : List Opd) : Quiet (iMax xs) := fun _ _ _ _ _ e => quiet_mk2 e
theorem quiet_min (xs : List Opd) : Quiet (iMin xs) := fun _ _ _ _ _ e => quiet_mk2 e

theorem quiet_bin {ty : Nat → Option TI} {op : BinOp} {t : TypeId} {x y : Opd} {f : Ins} (h : cBin ty op t x y = some f) : Quiet f := by
  unfold cBin at h
  split at h <;> first
    | (cases h; exact quiet_pure2 _ _ _ _)
    | (cases h; exact quiet_arith _ _ _)
    | skip
  all_goals
    split at h
    · rename_i i hi
      cases hint : isInt i with
      | true => rw [hint] at h; cases h; exact quiet_pure2 _ _ _ _
      | false =>
        rw [hint, cond_false] at h
        split at h
        · cases h; exact quiet_pure2 _ _ _ _
        · cases h
    · cases h

theorem quiet_of {ty : Nat → Option TI} {op : Op} {f : Ins} (h : cOp ty op = some f) (he : isEff op = false) : Quiet f := by
  cases op with
  | move x => obtain ⟨y, hy, hk⟩ := with1_some h; cases hk; exact quiet_mov _
  | assign x => obtain ⟨y, hy, hk⟩ := with1_some h; cases hk; exact quiet_mov _
  | pick c a b => obtain ⟨y1, y2, y3, e1, e2, e3, hk⟩ := with3_some h; cases hk; exact quiet_pick _ _ _
  | build t ps =>
    simp only [cOp] at h
    unfold cBuild at h
    split at h
    · split at h
      · split at h
        · rename_i fs hd
          cases ha : (fs.toList.all fun f => (ty f.type).isSome) with
          | false => rw [ha] at h; cases h
          | true =>
            rw [ha, cond_true] at h
            cases hp : cParts (placeF ty fs.toList) ps.toList with
            | none => rw [hp] at h; cases h
            | some q => rw [hp] at h; cases h; exact quiet_build _ _
        · split at h
          · rename_i j hj
            cases hp : cParts (fun n => some (n * j.size, j.size)) ps.toList with
            | none => rw [hp] at h; cases h
            | some q => rw [hp] at h; cases h; exact quiet_build _ _
          · cases h
        · cases h
      · cases h
    · cases h
  | load t x =>
    obtain ⟨y, hy, hk⟩ := with1_some h
    split at hk
    · rename_i i hi
      cases ha : i.isAgg with
      | true => rw [ha] at hk; cases hk; exact quiet_loadN _ _
      | false => rw [ha] at hk; cases hk; exact quiet_load _
    · cases hk
  | binOp op t x y t' => obtain ⟨y1, y2, e1, e2, hk⟩ := with2_some h; exact quiet_bin hk
  | unOp op t x =>
    obtain ⟨y, hy, hk⟩ := with1_some h
    split at hk
    · cases hk; exact quiet_pure1 _ _ _
    · cases hk; exact quiet_pure1 _ _ _
    · cases hk
  | convert s d x =>
    obtain ⟨y, hy, hk⟩ := with1_some h
    split at hk
    · cases hk; exact quiet_pure1 _ _ _
    · cases hk
  | makeFunc fn first captured =>
    simp only [cOp] at h
    cases hn : notYield fn with
    | false => rw [hn] at h; cases h
    | true =>
      rw [hn, cond_true] at h
      split at h
      · cases h; exact quiet_func _ _ _
      · cases h
  | slice t x lo hi mx =>
    simp only [cOp] at h
    split at h
    · rename_i y l u m h1 h2 h3 h4
      unfold cSlice at h
      cases hc : (m.isNone || u.isSome) with
      | false => rw [hc] at h; cases h
      | true =>
        rw [hc, cond_true] at h
        split at h
        · split at h
          · split at h
            · rename_i j hj
              cases hb : Nat.ble 1 j.size with
              | false => rw [hb] at h; cases h
              | true => rw [hb, cond_true, Option.some.injEq] at h; subst h; exact quiet_slice _ _ _ _ _
            · cases h
          · split at h
            · cases h; exact quiet_sliceA _ _ _ _ _ _
            · cases h
          · cases h
        · cases h
    · cases h
  | fieldAddr t x f =>
    obtain ⟨y, hy, hk⟩ := with1_some h
    split at hk
    · rename_i q hq
      cases hb : Nat.ble 1 q.2.size with
      | false => rw [hb] at hk; cases hk
      | true => rw [hb] at hk; cases hk; exact quiet_pure1 _ _ _
    · cases hk
  | field t x f =>
    obtain ⟨y, hy, hk⟩ := with1_some h
    split at hk
    · cases hk; exact quiet_pure1 _ _ _
    · cases hk
  | indexAddr t x ix =>
    obtain ⟨y1, y2, e1, e2, hk⟩ := with2_some h
    unfold cIaddr at hk
    split at hk
    · split at hk
      · split at hk
        · cases hk; exact quiet_iaddr _ _ _
        · cases hk
      · split at hk
        · cases hk; exact fun _ _ _ _ _ e => quiet_case e
        · cases hk
      · cases hk
    · cases hk
  | index t x ix =>
    obtain ⟨y1, y2, e1, e2, hk⟩ := with2_some h
    unfold cIndex at hk
    split at hk
    · split at hk
      · split at hk
        · cases hk; exact fun _ _ _ _ _ e => quiet_case e
        · cases hk
      · cases hk
    · cases hk
  | lookup t x k ok =>
    obtain ⟨y1, y2, e1, e2, hk⟩ := with2_some h
    split at hk
    · split at hk
      · cases hk; exact quiet_lookup _ _ _ _ _ _ _
      · cases hk
    · cases hk
  | extract t ix => obtain ⟨y, hy, hk⟩ := with1_some h; cases hk; exact quiet_pure1 _ _ _
  | call c =>
    simp only [cOp] at h
    unfold cCall at h
    split at h
    · cases h
    · split at h
      · rename_i g hg
        simp only [isEff, hg] at he
        cases he
      · cases h
      · rename_i b hb
        simp only [isEff, hb] at he
        split at h
        · split at h
          · split at h
            · split at h
              · cases h; exact quiet_lenA _
              · cases h; exact quiet_pure1 _ _ _
              · cases h; exact quiet_lenM _
              · cases h
            · cases h
          · cases h
        · rename_i args _ _ _
          cases h2 : Nat.ble 2 args.length with
          | false => rw [h2] at h; cases h
          | true => rw [h2] at h; cases h; exact quiet_max _
        · rename_i args _ _ _
          cases h2 : Nat.ble 2 args.length with
          | false => rw [h2] at h; cases h
          | true => rw [h2] at h; cases h; exact quiet_min _
        · cases he
        · cases he
        · cases h
  | _ => cases he

theorem quiet_runC {ty : Nat → Option TI} {n : Nat} {keep : List Nat} {ops : List Oper} {o : Oper} {c : CI} (h : cOper ty n keep ops o = some c) (he : isEff o.op = false) {cx : Cx} {tm : Tm} {hp : Heap} {ρ : Rho} {r : AV × Heap}
    (e : (runC cx tm hp c).Holds ρ (fun x => x = r)) : r.2 = hp := by
  obtain ⟨f, g, hf, hg, hd, rfl⟩ := cOper_some h
  have q := quiet_of hf he
  unfold runC at e
  cases g with
  | none => exact q _ _ _ _ _ e
  | some p =>
    simp only at e
    cases hc : guardOf tm p with
    | none => rw [hc] at e; exact e.elim
    | some c =>
      rw [hc] at e
      simp only at e
      rw [T.holds_ite] at e
      split at e
      · exact q _ _ _ _ _ e
      · have e' : (undefA, hp) = r := e
        rw [← e']

theorem opEq_eq {a b : BinOp} (h : opEq a b = true) : a = b := by
  cases a <;> cases b <;> first | rfl | cases h

theorem eqIE_eq : ∀ (a b : IE), eqIE a b = true → a = b
  | .lit x, b, h => by
    cases b <;> simp [eqIE] at h
    rw [ieq_eq] at h
    rw [eq_of_beq h]
  | .var x, b, h => by
    cases b <;> simp [eqIE] at h
    rw [h]
  | .bin o k x y, b, h => by
    cases b <;> simp [eqIE] at h
    rw [opEq_eq h.1.1, kindEq_eq h.1.2, eqIE_eq x _ h.2.1, eqIE_eq y _ h.2.2]
  | .conv k x, b, h => by
    cases b <;> simp [eqIE] at h
    rw [kindEq_eq h.1, eqIE_eq x _ h.2]
  | .mx x y, b, h => by
    cases b <;> simp [eqIE] at h
    rw [eqIE_eq x _ h.1, eqIE_eq y _ h.2]
  | .mn x y, b, h => by
    cases b <;> simp [eqIE] at h
    rw [eqIE_eq x _ h.1, eqIE_eq y _ h.2]
  | .app f x y z, b, h => by
    cases b <;> simp [eqIE] at h
    rw [h.1, eqIE_eq x _ h.2.1, eqIE_eq y _ h.2.2.1, eqIE_eq z _ h.2.2.2]

theorem cmpEq_eq {a b : BinOp} (h : cmpEq a b = true) : a = b := by
  cases a <;> cases b <;> first | rfl | cases h

theorem eqBE_eq : ∀ (a b : BE), eqBE a b = true → a = b
  | .lit x, b, h => by
    cases b <;> simp [eqBE] at h
    rw [h]
  | .var x, b, h => by
    cases b <;> simp [eqBE] at h
    rw [h]
  | .not x, b, h => by
    cases b <;> simp [eqBE] at h
    rw [eqBE_eq x _ h]
  | .and x y, b, h => by
    cases b <;> simp [eqBE] at h
    rw [eqBE_eq x _ h.1, eqBE_eq y _ h.2]
  | .cmp o x y, b, h => by
    cases b <;> simp [eqBE] at h
    rw [cmpEq_eq h.1, eqIE_eq x _ h.2.1, eqIE_eq y _ h.2.2]
  | .iff x y, b, h => by
    cases b <;> simp [eqBE] at h
    rw [eqBE_eq x _ h.1, eqBE_eq y _ h.2]
  | .app f x y z, b, h => by
    cases b <;> simp [eqBE] at h
    rw [h.1, eqIE_eq x _ h.2.1, eqIE_eq y _ h.2.2.1, eqIE_eq z _ h.2.2.2]

mutual
theorem eqAV_eq : ∀ (a b : AV), eqAV a b = true → a = b
  | .bool x, b, h => by
    cases b <;> simp [eqAV] at h
    rw [eqBE_eq _ _ h]
  | .int k x, b, h => by
    cases b <;> simp [eqAV] at h
    rw [kindEq_eq h.1, eqIE_eq _ _ h.2]
  | .ptr x o, b, h => by
    cases b <;> simp [eqAV] at h
    rw [h.1, h.2]
  | .nilptr, b, h => by cases b <;> first | rfl | simp [eqAV] at h
  | .slice x o l c, b, h => by
    cases b <;> simp [eqAV] at h
    rw [h.1.1, h.1.2, h.2.1, h.2.2]
  | .sliceU i, b, h => by
    cases b <;> simp [eqAV] at h
    rw [h]
  | .sliceV b i, c, h => by
    cases c <;> simp [eqAV] at h
    rw [h.1, h.2]
  | .ptrV b i s o e, c, h => by
    cases c <;> simp [eqAV] at h
    rw [h.1.1, h.1.2, h.2.1.1, h.2.1.2, eqIE_eq _ _ h.2.2]
  | .sliceX x o l c, b, h => by
    cases b <;> simp [eqAV] at h
    rw [h.1.1, h.1.2, h.2.1, h.2.2]
  | .nilslice, b, h => by cases b <;> first | rfl | simp [eqAV] at h
  | .map x, b, h => by
    cases b <;> simp [eqAV] at h
    rw [h]
  | .nilmap, b, h => by cases b <;> first | rfl | simp [eqAV] at h
  | .nilFunc, b, h => by cases b <;> first | rfl | simp [eqAV] at h
  | .func fn x y, b, h => by
    cases b <;> (try (cases fn <;> simp [eqAV] at h; done))
    rename_i fn' x' y'
    cases fn <;> cases fn' <;> simp [eqAV] at h
    rw [h.1, eqAVs_eq x x' h.2.1, eqAVs_eq y y' h.2.2]
  | .agg x, b, h => by
    cases b <;> simp [eqAV] at h
    rw [eqAVs_eq x _ h]
  | .tup x, b, h => by
    cases b <;> simp [eqAV] at h
    rw [eqAVs_eq x _ h]
  | .yieldF x, b, h => by
    cases b <;> simp [eqAV] at h
    rw [h]
  | .opq _, b, h => by cases b <;> simp [eqAV] at h
  | .bad, b, h => by cases b <;> simp [eqAV] at h
theorem eqAVs_eq : ∀ (a b : List AV), eqAVs a b = true → a = b
  | [], [], _ => rfl
  | [], _ :: _, h => by simp [eqAVs] at h
  | _ :: _, [], h => by simp [eqAVs] at h
  | a :: l, b :: m, h => by
    simp [eqAVs] at h
    rw [eqAV_eq a b h.1, eqAVs_eq l m h.2]
end
end Go.Sx
/-! REGIONS WHOSE ORDER OF EVALUATION IS DRAWN: the plan's facts. -/
namespace Go.Sx
open Go.RowKit

/-! ## The plan's entries -/
theorem cOpers_get {ty : Nat → Option TI} {n : Nat} {keep : List Nat} {ops : List Oper} : ∀ (l : List Oper) (cs : List CI), cOpers ty n keep ops l = some cs → cs.length = l.length ∧ ∀ (i : Nat) (o : Oper), l[i]? = some o → ∃ c, cs[i]? = some c ∧ cOper ty n keep ops o = some c
  | [], cs, h => by cases h; exact ⟨rfl, fun i o e => by simp at e⟩
  | o :: l, cs, h => by
    simp only [cOpers] at h
    split at h
    · rename_i c cl hc hcl
      cases h
      obtain ⟨h1, h2⟩ := cOpers_get l cl hcl
      refine ⟨by simp [h1], fun i o' e => ?_⟩
      cases i with
      | zero => simp at e; subst e; exact ⟨c, rfl, hc⟩
      | succ i => simp at e; exact h2 i o' e
    · cases h

theorem planOf_get {ty : Nat → Option TI} (effs fls ms : List Nat) : ∀ (l : List Oper) (cs : List CI) (k : Nat) (dis : List DI), cs.length = l.length → planOf ty effs fls ms k l cs = some dis → dis.length = l.length ∧
    ∀ i o c, l[i]? = some o → cs[i]? = some c → ∃ d, dis[i]? = some d ∧ planAt ty effs fls ms (k + i) o c = some d
  | [], cs, k, dis, h, hp => by
    cases cs <;> (simp only [planOf, Option.some.injEq] at hp; subst hp; exact ⟨rfl, fun i o c e => by simp at e⟩)
  | o :: l, [], k, dis, h, _ => by simp at h
  | o :: l, c :: cs, k, dis, h, hp => by
    simp only [planOf] at hp
    split at hp
    · rename_i a dl ha hl
      cases hp
      obtain ⟨h1, h2⟩ := planOf_get effs fls ms l cs (k + 1) dl (by simpa using h) hl
      refine ⟨by simp [h1], fun i o' c' e1 e2 => ?_⟩
      cases i with
      | zero => simp at e1 e2; subst e1; subst e2; exact ⟨a, rfl, ha⟩
      | succ i =>
        simp at e1 e2
        obtain ⟨d, g1, g2⟩ := h2 i o' c' e1 e2
        exact ⟨d, by simpa using g1, by rw [show k + (i + 1) = k + 1 + i by omega]; exact g2⟩
    · cases hp

/-- what a plan's entry is -/
def PlanIs (ty : Nat → Option TI) (fls ms : List Nat) (i : Nat) (o : Oper) (d : DI) : Prop :=
  (d.fl = none ∧ d.eff = isEff o.op ∧ memB fls i = false ∧ (d.eff = false → d.due = []) ∧ (d.eff = true → d.due = dueOf ms i fls fls)) ∨
  (∃ q, cFl ty o.op = some q ∧ d.fl = some (q.1, q.2, posOf fls i) ∧ d.eff = false ∧ memB fls i = true)

theorem planAt_is {ty : Nat → Option TI} {effs fls ms : List Nat} {i : Nat} {o : Oper} {c : CI} {d : DI} (h : planAt ty effs fls ms i o c = some d) : d.ci = c ∧ d.reads = readsOf o c ∧ PlanIs ty fls ms i o d := by
  unfold planAt at h
  cases hm : memB fls i with
  | true =>
    rw [hm, cond_true] at h
    split at h
    · rename_i q hq; cases h; exact ⟨rfl, rfl, .inr ⟨q, hq, rfl, rfl, hm⟩⟩
    · cases h
  | false =>
    rw [hm, cond_false] at h
    cases he : isEff o.op with
    | true => rw [he, cond_true] at h; cases h; exact ⟨rfl, rfl, .inl ⟨rfl, he.symm, hm, fun h => (by cases h), fun _ => rfl⟩⟩
    | false => rw [he, cond_false] at h; cases h; exact ⟨rfl, rfl, .inl ⟨rfl, he.symm, hm, fun _ => rfl, fun h => (by cases h)⟩⟩

theorem rowOk_get {ms : List Nat} {i : Nat} {a : DI} : ∀ (l : List DI) (k : Nat), rowOk ms i a k l = true → ∀ j b, l[j]? = some b → pairOk ms i (k + j) a b = true
  | [], k, _, j, b, e => by simp at e
  | c :: l, k, h, j, b, e => by
    simp only [rowOk, Bool.and_eq_true] at h
    cases j with
    | zero => simp at e; subst e; exact h.1
    | succ j =>
      simp at e
      have := rowOk_get l (k + 1) h.2 j b e
      rw [show k + (j + 1) = k + 1 + j by omega]; exact this

theorem rowsOk_get {ms : List Nat} {all : List DI} : ∀ (l : List DI) (k : Nat), rowsOk ms all k l = true → ∀ i a j b, l[i]? = some a → all[j]? = some b → pairOk ms (k + i) j a b = true
  | [], k, _, i, a, j, b, e, _ => by simp at e
  | c :: l, k, h, i, a, j, b, e, e2 => by
    simp only [rowsOk, Bool.and_eq_true] at h
    cases i with
    | zero => simp at e; subst e; have := rowOk_get all 0 h.1 j b e2; simpa using this
    | succ i =>
      simp at e
      have := rowsOk_get l (k + 1) h.2 i a j b e e2
      rw [show k + (i + 1) = k + 1 + i by omega]; exact this

theorem edgesOk_get : ∀ (l : List Oper) (k : Nat), edgesOk k l = true → ∀ i o, l[i]? = some o → ∀ e ∈ o.after, Region.binds .any e = true → e.on < k + i
  | [], k, _, i, o, h, _, _, _ => by simp at h
  | c :: l, k, h, i, o, e, ed, he, hb => by
    simp only [edgesOk, Bool.and_eq_true, List.all_eq_true] at h
    cases i with
    | zero =>
      simp at e; subst e
      have h1 := h.1 ed (by simpa using he)
      rw [hb] at h1
      have := ble_t.1 (by simpa using h1)
      omega
    | succ i =>
      simp at e
      have := edgesOk_get l (k + 1) h.2 i o e ed he hb
      omega

/-! ## Which operations come before -/
theorem testBit_one_shift (k j : Nat) : Nat.testBit (Nat.shiftLeft 1 k) j = decide (k = j) := by
  show Nat.testBit (1 <<< k) j = decide (k = j)
  rw [Nat.one_shiftLeft, Nat.testBit_two_pow]

theorem maskOf_bit {acc : List Nat} {j : Nat} : ∀ (l : List Edge), Nat.testBit (maskOf acc l) j = true → ∃ e ∈ l, Region.binds .any e = true ∧ (e.on = j ∨ Nat.testBit (natGet acc e.on) j = true)
  | [], h => by simp [maskOf] at h
  | e :: l, h => by
    simp only [maskOf] at h
    cases hb : Region.binds .any e with
    | false =>
      rw [hb, cond_false] at h
      obtain ⟨e', h1, h2⟩ := maskOf_bit l h
      exact ⟨e', List.mem_cons_of_mem _ h1, h2⟩
    | true =>
      rw [hb, cond_true] at h
      have h' : Nat.testBit ((Nat.shiftLeft 1 e.on ||| natGet acc e.on) ||| maskOf acc l) j = true := h
      rw [Nat.testBit_or, Nat.testBit_or, testBit_one_shift] at h'
      rw [Bool.or_eq_true, Bool.or_eq_true] at h'
      rcases h' with h1 | h1
      · refine ⟨e, List.mem_cons_self, hb, ?_⟩
        rcases h1 with h2 | h2
        · exact .inl (by simpa using h2)
        · exact .inr h2
      · obtain ⟨e', h1, h2⟩ := maskOf_bit l h1
        exact ⟨e', List.mem_cons_of_mem _ h1, h2⟩

theorem masks_pre : ∀ (l : List Oper) (acc : List Nat) (i : Nat), i < acc.length → (masks acc l)[i]? = acc[i]?
  | [], acc, i, _ => rfl
  | o :: l, acc, i, h => by
    simp only [masks]
    rw [masks_pre l _ i (by simp; omega), List.getElem?_append_left h]

theorem natGet_le {acc acc' : List Nat} (h : ∀ i, i < acc.length → acc'[i]? = acc[i]?) (x j : Nat) (hb : Nat.testBit (natGet acc x) j = true) : Nat.testBit (natGet acc' x) j = true := by
  unfold natGet at *
  by_cases hx : x < acc.length
  · rw [h x hx]; exact hb
  · rw [List.getElem?_eq_none (by omega)] at hb; simp at hb

theorem masks_bit : ∀ (l : List Oper) (acc : List Nat) (i : Nat) (o : Oper) (j : Nat), l[i]? = some o → Nat.testBit (natGet (masks acc l) (acc.length + i)) j = true →
    ∃ e ∈ o.after, Region.binds .any e = true ∧ (e.on = j ∨ Nat.testBit (natGet (masks acc l) e.on) j = true)
  | [], acc, i, o, j, h, _ => by simp at h
  | o :: l, acc, i, o', j, h, hb => by
    cases i with
    | zero =>
      simp at h; subst h
      have hm : (masks acc (o :: l))[acc.length + 0]? = some (maskOf acc o.after.toList) := by
        simp only [masks, Nat.add_zero]
        rw [masks_pre l _ acc.length (by simp)]; simp
      unfold natGet at hb
      rw [hm] at hb
      obtain ⟨e, h1, h2, h3⟩ := maskOf_bit _ hb
      refine ⟨e, by simpa using h1, h2, h3.imp id fun h4 => natGet_le (fun i hi => ?_) _ _ h4⟩
      exact masks_pre (o :: l) acc i hi
    | succ i =>
      simp at h
      simp only [masks] at hb ⊢
      refine masks_bit l (acc ++ [maskOf acc o.after.toList]) i o' j h ?_
      rw [show (acc ++ [maskOf acc o.after.toList]).length + i = acc.length + (i + 1) by simp; omega]
      exact hb

/-! ## The numbers of the effects -/
def effCount : List DI → Nat
  | [] => 0
  | o :: l => cond o.eff (effCount l + 1) (effCount l)

theorem numbered_get : ∀ (l : List DI) (k : Nat), numbered k l = true → ∀ r, k ≤ r → r < k + effCount l → ∃ (i : Nat) (d : DI), l[i]? = some d ∧ d.eff = true ∧ d.lo = r
  | [], k, _, r, h1, h2 => by simp [effCount] at h2; omega
  | o :: l, k, h, r, h1, h2 => by
    simp only [numbered, effCount] at h h2
    cases he : o.eff with
    | false =>
      rw [he] at h h2
      obtain ⟨i, d, h3, h4⟩ := numbered_get l k h r h1 h2
      exact ⟨i + 1, d, by simpa using h3, h4⟩
    | true =>
      rw [he, cond_true] at h h2
      simp only [Bool.and_eq_true] at h
      by_cases hr : r = k
      · exact ⟨0, o, rfl, he, by rw [beq_t.1 h.1, hr]⟩
      · obtain ⟨i, d, h3, h4⟩ := numbered_get l (k + 1) h.2 r (by omega) (by omega)
        exact ⟨i + 1, d, by simpa using h3, h4⟩

theorem numbered_lt : ∀ (l : List DI) (k : Nat), numbered k l = true → ∀ (i : Nat) (d : DI), l[i]? = some d → d.eff = true → k ≤ d.lo ∧ d.lo < k + effCount l
  | [], k, _, i, d, h, _ => by simp at h
  | o :: l, k, h, i, d, e, hd => by
    simp only [numbered, effCount] at h ⊢
    cases he : o.eff with
    | false =>
      rw [he] at h
      rw [cond_false]
      cases i with
      | zero => simp at e; subst e; rw [hd] at he; cases he
      | succ i => simp at e; exact numbered_lt l k h i d e hd
    | true =>
      rw [he, cond_true] at h
      simp only [Bool.and_eq_true] at h
      rw [cond_true]
      cases i with
      | zero => simp at e; subst e; have := beq_t.1 h.1; omega
      | succ i => simp at e; have := numbered_lt l (k + 1) h.2 i d e hd; omega

end Go.Sx
/-! REGIONS WHOSE ORDER OF EVALUATION IS DRAWN: the run in the order of the list, and what it says of every order. -/
namespace Go.Sx
open Go.RowKit

theorem restrL_cons (tm : Tm) (t : Nat) (l : List Nat) : restrL tm (t :: l) = (match tm.look t with | some v => (t, v) :: restrL tm l | none => restrL tm l) := rfl

theorem restr_congr {tm tm' : Tm} : ∀ (l : List Nat), (∀ t ∈ l, tm.look t = tm'.look t) → restr tm l = restr tm' l := by
  intro l h
  have : restrL tm l = restrL tm' l := by
    induction l with
    | nil => rfl
    | cons t l ih =>
      rw [restrL_cons, restrL_cons, h t List.mem_cons_self, ih fun x hx => h x (List.mem_cons_of_mem _ hx)]
  unfold restr; rw [this]

theorem restrL_find {tm : Tm} : ∀ (l : List Nat) (t : Nat) (v : AV), lFind (restrL tm l) t = some v → t ∈ l ∧ tm.look t = some v
  | [], t, v, h => by cases h
  | u :: l, t, v, h => by
    rw [restrL_cons] at h
    cases hu : tm.look u with
    | none =>
      rw [hu] at h
      obtain ⟨h1, h2⟩ := restrL_find l t v h
      exact ⟨List.mem_cons_of_mem _ h1, h2⟩
    | some x =>
      rw [hu] at h
      simp only [lFind_cons] at h
      by_cases c : u = t
      · subst c; rw [beq_t.2 rfl] at h; cases h; exact ⟨List.mem_cons_self, hu⟩
      · rw [beq_f.2 c] at h
        obtain ⟨h1, h2⟩ := restrL_find l t v h
        exact ⟨List.mem_cons_of_mem _ h1, h2⟩

theorem restr_ok {n : Nat} {keep : List Nat} {E : Env} {tm : Tm} {arr : Array Value} {l : List Nat} (hs : n ≤ arr.size) (h : ∀ t ∈ l, ∀ v, tm.look t = some v → good E arr t v) : TmOk n keep E (restr tm l) arr :=
  ⟨hs, fun i a e => h i (restrL_find l i a e).1 a (restrL_find l i a e).2, ⟨fun i a e => by rw [show (restr tm l).tree = .nil from rfl, PT.get_nil] at e; cases e⟩⟩

theorem look_put_ne {tm : Tm} {d t : Nat} (h : d ≠ t) (keep : Bool) (v : AV) : (tm.put d keep v).look t = tm.look t := by
  unfold Tm.look Tm.put
  simp only [lFind_cons, beq_f.2 h, cond_false]
  cases lFind tm.loc t with
  | some x => rfl
  | none =>
    cases keep with
    | true => simp only [cond_true, PT.get_set]; rw [if_neg (Ne.symm h)]
    | false => rfl
theorem look_put (tm : Tm) (d : Nat) (keep : Bool) (v : AV) : (tm.put d keep v).look d = some v := by
  unfold Tm.look Tm.put
  simp only [lFind_cons, beq_t.2 rfl, cond_true]
theorem look_setDst_ne {tm : Tm} {dst : Option Nat} {t : Nat} (h : dst ≠ some t) (keep : Bool) (v : AV) : (setDst tm dst keep v).look t = tm.look t := by
  cases dst with
  | none => rfl
  | some d => exact look_put_ne (fun e => h (by rw [e])) keep v

theorem runD_cons (cx : Cx) (base : Nat) (o : DI) (l : List DI) (tm : Tm) (h : Heap) (hs : List Heap) (vs : List (Tm × AV)) (pd : List (Nat × List AV)) : runD cx base (o :: l) tm h hs vs pd = stepD cx base o (runD cx base l) tm h hs vs pd := rfl

/-- an allocation that no order binds: its value; what it lays -/
noncomputable def flV (base : Nat) (fl : FIns × FK × Nat) (pe : Option (List AV)) : AV :=
  match pe with
  | none => undefA
  | some _ => fl.2.1.val (base + fl.2.2)
def flP (fl : FIns × FK × Nat) (pe : Option (List AV)) (pd : List (Nat × List AV)) : List (Nat × List AV) :=
  match pe with
  | none => pd
  | some cs => (fl.2.2, cs) :: pd

/-- one way through a run -/
def RunsD (ρ : Rho) (cx : Cx) (base : Nat) : List DI → Tm → Heap → List Heap → List (Tm × AV) → List (Nat × List AV) → DR → Prop
  | [], tm, h, hs, vs, pd, R => R = (tm, h :: hs, vs, pd)
  | o :: l, tm, h, hs, vs, pd, R => (o.fl = none ∧ ∃ h1 r v, conv base pd o.due h = some h1 ∧ (runC cx (restr tm o.reads) h1 o.ci).Holds ρ (fun x => x = r) ∧ Same ρ v r.1 ∧
      RunsD ρ cx base l (setDst tm o.ci.dst o.ci.keep v) r.2 (cond o.eff (h :: hs) hs) ((restr tm o.reads, r.1) :: vs) pd R) ∨
      (∃ fl pe, o.fl = some fl ∧ runFl (restr tm o.reads) o.ci.guard fl.1 = some pe ∧
        RunsD ρ cx base l (setDst tm o.ci.dst o.ci.keep (flV base fl pe)) h hs ((restr tm o.reads, flV base fl pe) :: vs) (flP fl pe pd) R)

theorem T.holds_one {α : Type} {ρ : Rho} {t : T α} {Q : α → Prop} (h : t.Holds ρ Q) : ∃ a, t.Holds ρ (fun x => x = a) ∧ Q a := by
  induction t with
  | ret a => exact ⟨a, rfl, h⟩
  | br c t f iht ihf =>
    simp only [T.Holds] at h
    split at h
    · rename_i hc
      obtain ⟨a, h1, h2⟩ := iht h
      exact ⟨a, by simp only [T.Holds]; rw [if_pos hc]; exact h1, h2⟩
    · rename_i hc
      obtain ⟨a, h1, h2⟩ := ihf h
      exact ⟨a, by simp only [T.Holds]; rw [if_neg hc]; exact h1, h2⟩
  | fail w => exact h.elim

theorem runD_runs {ρ : Rho} {cx : Cx} {base : Nat} {Q : DR → Prop} : ∀ (l : List DI) (tm : Tm) (h : Heap) (hs : List Heap) (vs : List (Tm × AV)) (pd : List (Nat × List AV)), (runD cx base l tm h hs vs pd).Holds ρ Q → ∃ R, RunsD ρ cx base l tm h hs vs pd R ∧ Q R
  | [], tm, h, hs, vs, pd, k => ⟨_, rfl, k⟩
  | o :: l, tm, h, hs, vs, pd, k => by
    rw [runD_cons] at k
    unfold stepD at k
    split at k
    · rename_i hfl
      split at k
      · exact k.elim
      · rename_i h1 hc
        rw [T.holds_bind] at k
        obtain ⟨r, g1, g2⟩ := T.holds_one k
        obtain ⟨v, g3, g4⟩ := holds_fork g2
        obtain ⟨R, g5, g6⟩ := runD_runs l _ _ _ _ _ g3
        exact ⟨R, .inl ⟨hfl, h1, r, v, hc, g1, g4, g5⟩, g6⟩
    · rename_i fl hfl
      split at k
      · exact k.elim
      · rename_i hr
        obtain ⟨R, g5, g6⟩ := runD_runs l _ _ _ _ _ k
        exact ⟨R, .inr ⟨fl, none, hfl, hr, g5⟩, g6⟩
      · rename_i cs hr
        obtain ⟨R, g5, g6⟩ := runD_runs l _ _ _ _ _ k
        exact ⟨R, .inr ⟨fl, some cs, hfl, hr, g5⟩, g6⟩

def Once (l : List DI) : Prop := ∀ (i j : Nat) (d d' : DI) (t : Nat), i < j → l[i]? = some d → l[j]? = some d' → d.ci.dst = some t → d'.ci.dst ≠ some t
theorem Once.tail {o : DI} {l : List DI} (h : Once (o :: l)) : Once l := fun i j d d' t hij h1 h2 => h (i + 1) (j + 1) d d' t (by omega) (by simpa using h1) (by simpa using h2)
theorem Once.head {o : DI} {l : List DI} (h : Once (o :: l)) {t : Nat} (ht : o.ci.dst = some t) : ∀ d ∈ l, d.ci.dst ≠ some t := fun d hd => by
  obtain ⟨j, hj⟩ := List.getElem?_of_mem hd
  exact h 0 (j + 1) o d t (by omega) rfl (by simpa using hj) ht

def QuietD (d : DI) : Prop := d.fl = none → d.eff = false → d.due = [] ∧ ∀ cx tm h ρ r, (runC cx tm h d.ci).Holds ρ (fun x => x = r) → r.2 = h
def FloatD (d : DI) : Prop := d.fl ≠ none → d.eff = false

def OnceF (l : List DI) : Prop := ∀ (i j : Nat) (d d' : DI) (f f' : FIns × FK × Nat), i < j → l[i]? = some d → l[j]? = some d' → d.fl = some f → d'.fl = some f' → f.2.2 ≠ f'.2.2
theorem OnceF.tail {o : DI} {l : List DI} (h : OnceF (o :: l)) : OnceF l := fun i j d d' f f' hij h1 h2 => h (i + 1) (j + 1) d d' f f' (by omega) (by simpa using h1) (by simpa using h2)
theorem OnceF.head {o : DI} {l : List DI} (h : OnceF (o :: l)) {f : FIns × FK × Nat} (hf : o.fl = some f) : ∀ d ∈ l, ∀ f', d.fl = some f' → f.2.2 ≠ f'.2.2 := fun d hd f' hf' => by
  obtain ⟨j, hj⟩ := List.getElem?_of_mem hd
  exact h 0 (j + 1) o d f f' (by omega) rfl (by simpa using hj) hf hf'

/-- what is said of the i-th operation of the list -/
def AtOk (ρ : Rho) (cx : Cx) (base : Nat) (l : List DI) (tm tmF : Tm) (HS : List Heap) (V : Option (Tm × AV)) (pdF : List (Nat × List AV)) (i : Nat) (d : DI) : Prop :=
  ∃ tmi v, (∀ t, (∀ (j : Nat) (d' : DI), i ≤ j → l[j]? = some d' → d'.ci.dst ≠ some t) → tmF.look t = tmi.look t) ∧ (∀ t, d.ci.dst = some t → tmF.look t = some v) ∧
      (∀ t, (∀ (j : Nat) (d' : DI), j < i → l[j]? = some d' → d'.ci.dst ≠ some t) → tmi.look t = tm.look t) ∧
      ((d.fl = none ∧ ∃ H H1 r pd, conv base pd d.due H = some H1 ∧ (∀ j cs, lFind pd j = some cs → lFind pdF j = some cs) ∧ (runC cx (restr tmi d.reads) H1 d.ci).Holds ρ (fun x => x = r) ∧ Same ρ v r.1 ∧ (d.eff = true → HS[d.lo]? = some H ∧ HS[d.lo + 1]? = some r.2) ∧ V = some (restr tmi d.reads, r.1)) ∨
       (∃ fl pe, d.fl = some fl ∧ runFl (restr tmi d.reads) d.ci.guard fl.1 = some pe ∧ v = flV base fl pe ∧ lFind pdF fl.2.2 = pe))

/-- THE RUN IN THE ORDER OF THE LIST. -/
theorem runD_ok {ρ : Rho} {cx : Cx} {base : Nat} : ∀ (l : List DI) (tm : Tm) (h : Heap) (hs : List Heap) (vs : List (Tm × AV)) (pd : List (Nat × List AV)) (tmF : Tm) (hsF : List Heap) (vsF : List (Tm × AV)) (pdF : List (Nat × List AV)), RunsD ρ cx base l tm h hs vs pd (tmF, hsF, vsF, pdF) → numbered hs.length l = true → (∀ d ∈ l, QuietD d) → (∀ d ∈ l, FloatD d) → Once l → OnceF l →
    (∀ d ∈ l, ∀ f, d.fl = some f → lFind pd f.2.2 = none) →
    (∀ (j : Nat) (x : Heap), (hs.reverse ++ [h])[j]? = some x → hsF.reverse[j]? = some x) ∧ hsF.length = hs.length + 1 + effCount l ∧ (∀ t, (∀ d ∈ l, d.ci.dst ≠ some t) → tmF.look t = tm.look t) ∧
    (∀ (j : Nat) (x : Tm × AV), vs.reverse[j]? = some x → vsF.reverse[j]? = some x) ∧
    (∀ j, (∀ d ∈ l, ∀ f, d.fl = some f → f.2.2 ≠ j) → lFind pdF j = lFind pd j) ∧
    (∀ (i : Nat) (d : DI), l[i]? = some d → AtOk ρ cx base l tm tmF hsF.reverse (vsF.reverse[vs.length + i]?) pdF i d)
  | [], tm, h, hs, vs, pd, tmF, hsF, vsF, pdF, e, _, _, _, _, _, _ => by
    have e' : (tmF, hsF, vsF, pdF) = (tm, h :: hs, vs, pd) := e
    cases e'
    refine ⟨fun j x e => by simpa using e, by simp [effCount], fun t _ => rfl, fun j x h => h, fun _ _ => rfl, fun i d e => by simp at e⟩
  | o :: l, tm, h, hs, vs, pd, tmF, hsF, vsF, pdF, e, hn, hq, hfd, ho, hof, hpd => by
    have htl := fun d hd => hq d (List.mem_cons_of_mem _ hd)
    have hftl := fun d hd => hfd d (List.mem_cons_of_mem _ hd)
    have look_tail : ∀ t, (∀ d ∈ o :: l, d.ci.dst ≠ some t) → (∀ d ∈ l, d.ci.dst ≠ some t) := fun t hh d hd => hh d (List.mem_cons_of_mem _ hd)
    -- what both ways share
    have fin : ∀ (v u : AV) (pd' : List (Nat × List AV)), (∀ t, (∀ d ∈ l, d.ci.dst ≠ some t) → tmF.look t = (setDst tm o.ci.dst o.ci.keep v).look t) →
        (∀ (j : Nat) (x : Tm × AV), ((restr tm o.reads, u) :: vs).reverse[j]? = some x → vsF.reverse[j]? = some x) →
        (∀ (i : Nat) (d : DI), l[i]? = some d → AtOk ρ cx base l (setDst tm o.ci.dst o.ci.keep v) tmF hsF.reverse (vsF.reverse[((restr tm o.reads, u) :: vs).length + i]?) pdF i d) →
        (((o.fl = none ∧ ∃ H H1 r pd, conv base pd o.due H = some H1 ∧ (∀ j cs, lFind pd j = some cs → lFind pdF j = some cs) ∧ (runC cx (restr tm o.reads) H1 o.ci).Holds ρ (fun x => x = r) ∧ Same ρ v r.1 ∧ (o.eff = true → hsF.reverse[o.lo]? = some H ∧ hsF.reverse[o.lo + 1]? = some r.2) ∧ u = r.1) ∨
          (∃ fl pe, o.fl = some fl ∧ runFl (restr tm o.reads) o.ci.guard fl.1 = some pe ∧ v = flV base fl pe ∧ lFind pdF fl.2.2 = pe))) →
        (∀ t, (∀ d ∈ o :: l, d.ci.dst ≠ some t) → tmF.look t = tm.look t) ∧ (∀ (j : Nat) (x : Tm × AV), vs.reverse[j]? = some x → vsF.reverse[j]? = some x) ∧
        (∀ (i : Nat) (d : DI), (o :: l)[i]? = some d → AtOk ρ cx base (o :: l) tm tmF hsF.reverse (vsF.reverse[vs.length + i]?) pdF i d) := by
      intro v u pd' hC hV hD hme
      have hC' : ∀ t, (∀ d ∈ o :: l, d.ci.dst ≠ some t) → tmF.look t = tm.look t := fun t ht => by
        rw [hC t (look_tail t ht), look_setDst_ne (ht o List.mem_cons_self)]
      refine ⟨hC', fun j x hx => hV j x ?_, fun i d hd => ?_⟩
      · rw [List.reverse_cons, List.getElem?_append_left (by have := (List.getElem?_eq_some_iff.1 hx).1; exact this)]
        exact hx
      cases i with
      | zero =>
        simp at hd; subst hd
        have hVV : vsF.reverse[vs.length + 0]? = some (restr tm o.reads, u) := hV _ _ (by simp)
        refine ⟨tm, v, fun t ht => hC' t fun d hd => ?_, fun t ht => ?_, fun t _ => rfl, ?_⟩
        · obtain ⟨j, hj⟩ := List.getElem?_of_mem hd
          exact ht j d (Nat.zero_le _) hj
        · rw [hC t (ho.head ht), ht]
          exact look_put _ _ _ _
        · rcases hme with ⟨hfl, H, H1, r, pd, g1, g2, g3, g4, g5, g6⟩ | hme
          · exact .inl ⟨hfl, H, H1, r, pd, g1, g2, g3, g4, g5, by rw [hVV, g6]⟩
          · exact .inr hme
      | succ i =>
        simp at hd
        obtain ⟨tmi, v', h3, h4, h5, h6⟩ := hD i d hd
        refine ⟨tmi, v', fun t ht => h3 t fun j d' hj hd' => ht (j + 1) d' (by omega) (by simpa using hd'), h4, fun t ht => ?_, ?_⟩
        · rw [h5 t fun j d' hj hd' => ht (j + 1) d' (by omega) (by simpa using hd'), look_setDst_ne (ht 0 o (by omega) rfl)]
        · rw [show vs.length + (i + 1) = ((restr tm o.reads, u) :: vs).length + i by simp; omega]
          exact h6
    rcases e with ⟨hfl, h1, r, v, hc, hr, hsame, e⟩ | ⟨fl, pe, hfl, hr, e⟩
    · have hpd' : ∀ d ∈ l, ∀ f, d.fl = some f → lFind pd f.2.2 = none := fun d hd => hpd d (List.mem_cons_of_mem _ hd)
      simp only [numbered] at hn
      have hsub : (∀ j, (∀ d ∈ l, ∀ f, d.fl = some f → f.2.2 ≠ j) → lFind pdF j = lFind pd j) → ∀ j cs, lFind pd j = some cs → lFind pdF j = some cs := fun hP j cs hj => by
        rw [hP j fun d hd f hf e => ?_]; exact hj
        rw [← e, hpd' d hd f hf] at hj; cases hj
      have hP' : (∀ j, (∀ d ∈ l, ∀ f, d.fl = some f → f.2.2 ≠ j) → lFind pdF j = lFind pd j) → (∀ j, (∀ d ∈ o :: l, ∀ f, d.fl = some f → f.2.2 ≠ j) → lFind pdF j = lFind pd j) := fun hP j hj => hP j fun d hd => hj d (List.mem_cons_of_mem _ hd)
      cases he : o.eff with
      | true =>
        rw [he, cond_true] at e hn
        simp only [Bool.and_eq_true] at hn
        obtain ⟨hA, hB, hC, hV, hP, hD⟩ := runD_ok l _ _ (h :: hs) _ pd tmF hsF vsF pdF e (by simpa using hn.2) htl hftl ho.tail hof.tail hpd'
        have hlo := beq_t.1 hn.1
        have hA0 : hsF.reverse[hs.length]? = some h := hA _ _ (by simp)
        have hA1 : hsF.reverse[hs.length + 1]? = some r.2 := hA _ _ (by simp)
        obtain ⟨f1, f2, f3⟩ := fin v r.1 pd hC hV hD (.inl ⟨hfl, h, h1, r, pd, hc, hsub hP, hr, hsame, fun _ => by rw [hlo]; exact ⟨hA0, hA1⟩, rfl⟩)
        refine ⟨fun j x hx => hA j x ?_, ?_, f1, f2, hP' hP, f3⟩
        · simp only [List.reverse_cons]
          rw [List.getElem?_append_left (by have := (List.getElem?_eq_some_iff.1 hx).1; exact this)]
          exact hx
        · rw [hB]; simp [effCount, he]; omega
      | false =>
        rw [he, cond_false] at e hn
        obtain ⟨hdue, hqq⟩ := hq o List.mem_cons_self hfl he
        rw [hdue] at hc
        have hh1 : h1 = h := by cases hc; rfl
        rw [hh1] at hr
        have hqr := hqq _ _ _ _ _ hr
        obtain ⟨hA, hB, hC, hV, hP, hD⟩ := runD_ok l _ _ hs _ pd tmF hsF vsF pdF e hn htl hftl ho.tail hof.tail hpd'
        obtain ⟨f1, f2, f3⟩ := fin v r.1 pd hC hV hD (.inl ⟨hfl, h, h, r, pd, by rw [hdue]; rfl, hsub hP, hr, hsame, fun h => (by rw [he] at h; cases h), rfl⟩)
        rw [hqr] at hA
        refine ⟨hA, ?_, f1, f2, hP' hP, f3⟩
        rw [hB]; simp [effCount, he]
    · have he : o.eff = false := hfd o List.mem_cons_self (by rw [hfl]; simp)
      simp only [numbered] at hn
      rw [he, cond_false] at hn
      have hne := hof.head hfl
      have hpd0 := hpd o List.mem_cons_self fl hfl
      have hpd' : ∀ d ∈ l, ∀ f, d.fl = some f → lFind (flP fl pe pd) f.2.2 = none := fun d hd f hf => by
        have h0 := hpd d (List.mem_cons_of_mem _ hd) f hf
        cases pe with
        | none => exact h0
        | some cs => simp only [flP, lFind_cons]; rw [beq_f.2 (hne d hd f hf)]; exact h0
      obtain ⟨hA, hB, hC, hV, hP, hD⟩ := runD_ok l _ _ hs _ (flP fl pe pd) tmF hsF vsF pdF e hn htl hftl ho.tail hof.tail hpd'
      have hme : lFind pdF fl.2.2 = pe := by
        rw [hP fl.2.2 fun d hd f hf => Ne.symm (hne d hd f hf)]
        cases pe with
        | none => exact hpd0
        | some cs => simp only [flP, lFind_cons]; rw [beq_t.2 rfl]; rfl
      obtain ⟨f1, f2, f3⟩ := fin (flV base fl pe) (flV base fl pe) pd hC hV hD (.inr ⟨fl, pe, hfl, hr, rfl, hme⟩)
      refine ⟨hA, ?_, f1, f2, fun j hj => ?_, f3⟩
      · rw [hB]; simp [effCount, he]
      · rw [hP j fun d hd => hj d (List.mem_cons_of_mem _ hd)]
        cases pe with
        | none => rfl
        | some cs => simp only [flP, lFind_cons]; rw [beq_f.2 (hj o List.mem_cons_self fl hfl)]; rfl

/-- what is laid is laid by one of the list -/
theorem runD_pend {ρ : Rho} {cx : Cx} {base : Nat} : ∀ (l : List DI) (tm : Tm) (h : Heap) (hs : List Heap) (vs : List (Tm × AV)) (pd : List (Nat × List AV)) (R : DR), RunsD ρ cx base l tm h hs vs pd R →
    ∀ j cs, lFind R.2.2.2 j = some cs → lFind pd j = some cs ∨ ∃ d ∈ l, ∃ f, d.fl = some f ∧ f.2.2 = j
  | [], tm, h, hs, vs, pd, R, e, j, cs, hj => by
    have e' : R = (tm, h :: hs, vs, pd) := e
    subst e'; exact .inl hj
  | o :: l, tm, h, hs, vs, pd, R, e, j, cs, hj => by
    rcases e with ⟨hfl, h1, r, v, hc, hr, hsame, e⟩ | ⟨fl, pe, hfl, hr, e⟩
    · rcases runD_pend l _ _ _ _ _ R e j cs hj with h | ⟨d, hd, h⟩
      · exact .inl h
      · exact .inr ⟨d, List.mem_cons_of_mem _ hd, h⟩
    · rcases runD_pend l _ _ _ _ _ R e j cs hj with h | ⟨d, hd, h⟩
      · cases pe with
        | none => exact .inl h
        | some cs' =>
          simp only [flP, lFind_cons] at h
          by_cases c : fl.2.2 = j
          · exact .inr ⟨o, List.mem_cons_self, fl, hfl, c⟩
          · rw [beq_f.2 c] at h; exact .inl h
      · exact .inr ⟨d, List.mem_cons_of_mem _ hd, h⟩

/-! ## Slots, some of them turned -/
structure TmX (n : Nat) (keep : List Nat) (E : Env) (tm : Tm) (arr : Array Value) (S : Nat → Prop) : Prop where
  size : n ≤ arr.size
  loc : ∀ i a, lFind tm.loc i = some a → ¬ S i → good E arr i a
  tree : ∀ i a, tm.tree.get i = some a → memN keep (some i) = true ∧ (¬ S i → good E arr i a)

theorem TmX.put {n : Nat} {keep : List Nat} {E : Env} {tm : Tm} {arr : Array Value} {S S' : Nat → Prop} (h : TmX n keep E tm arr S) {d : Nat} {a : AV} (hv : good E arr d a) (hS : ∀ i, i ≠ d → S i → S' i) :
    TmX n keep E (tm.put d (memN keep (some d)) a) arr S' := by
  have out : ∀ i, i ≠ d → ¬ S' i → ¬ S i := fun i hi hs h => hs (hS i hi h)
  refine ⟨h.size, fun i b e hs => ?_, fun i b e => ?_⟩
  · simp only [Tm.put, lFind_cons] at e
    by_cases c : d = i
    · subst c; rw [beq_t.2 rfl] at e; cases e; exact hv
    · rw [beq_f.2 c] at e; exact h.loc i b e (out i (Ne.symm c) hs)
  · simp only [Tm.put] at e
    cases hk : memN keep (some d) with
    | true =>
      rw [hk, cond_true, PT.get_set] at e
      by_cases c : i = d
      · subst c; rw [if_pos rfl] at e; cases e; exact ⟨hk, fun _ => hv⟩
      · rw [if_neg c] at e; exact ⟨(h.tree i b e).1, fun hs => (h.tree i b e).2 (out i c hs)⟩
    | false =>
      rw [hk, cond_false] at e
      have c : i ≠ d := by rintro rfl; rw [(h.tree i b e).1] at hk; cases hk
      exact ⟨(h.tree i b e).1, fun hs => (h.tree i b e).2 (out i c hs)⟩

theorem runD_tm {ρ : Rho} {cx : Cx} {base : Nat} {n : Nat} {keep : List Nat} {E : Env} {arr : Array Value} : ∀ (l : List DI) (tm : Tm) (h : Heap) (hs : List Heap) (vs : List (Tm × AV)) (pd : List (Nat × List AV)) (R : DR), RunsD ρ cx base l tm h hs vs pd R → Once l →
    (∀ d ∈ l, d.ci.keep = memN keep d.ci.dst) → (∀ d ∈ l, ∀ t v, d.ci.dst = some t → R.1.look t = some v → good E arr t v) → TmX n keep E tm arr (fun t => ∃ d ∈ l, d.ci.dst = some t) → TmOk n keep E R.1 arr
  | [], tm, h, hs, vs, pd, R, e, _, _, _, X => by
    have e' : R = (tm, h :: hs, vs, pd) := e
    subst e'
    exact ⟨X.size, fun i a e => X.loc i a e (by simp), ⟨fun i a e => ⟨(X.tree i a e).1, (X.tree i a e).2 (by simp)⟩⟩⟩
  | o :: l, tm, h, hs, vs, pd, R, e, ho, hk, hg, X => by
    have look : ∀ (l : List DI) (tm : Tm) (h : Heap) (hs : List Heap) (vs : List (Tm × AV)) (pd : List (Nat × List AV)), RunsD ρ cx base l tm h hs vs pd R → ∀ t, (∀ d ∈ l, d.ci.dst ≠ some t) → R.1.look t = tm.look t := by
      intro l
      induction l with
      | nil => intro tm h hs vs pd e t _; have e' : R = (tm, h :: hs, vs, pd) := e; subst e'; rfl
      | cons o l ih =>
        intro tm h hs vs pd e t ht
        rcases e with ⟨_, h1, r, v, _, _, _, e⟩ | ⟨fl, pe, _, _, e⟩
        · rw [ih _ _ _ _ _ e t fun d hd => ht d (List.mem_cons_of_mem _ hd), look_setDst_ne (ht o List.mem_cons_self)]
        · rw [ih _ _ _ _ _ e t fun d hd => ht d (List.mem_cons_of_mem _ hd), look_setDst_ne (ht o List.mem_cons_self)]
    have step : ∀ (v : AV) (h' : Heap) (hs' : List Heap) (vs' : List (Tm × AV)) (pd' : List (Nat × List AV)), RunsD ρ cx base l (setDst tm o.ci.dst o.ci.keep v) h' hs' vs' pd' R → TmOk n keep E R.1 arr := by
      intro v h' hs' vs' pd' e
      refine runD_tm l _ _ _ _ _ R e ho.tail (fun d hd => hk d (List.mem_cons_of_mem _ hd)) (fun d hd => hg d (List.mem_cons_of_mem _ hd)) ?_
      cases hdst : o.ci.dst with
      | none =>
        refine ⟨X.size, fun i a e hs => X.loc i a e ?_, fun i a e => ⟨(X.tree i a e).1, fun hs => (X.tree i a e).2 ?_⟩⟩
        all_goals
          rintro ⟨d, hd, hd2⟩
          rcases List.mem_cons.1 hd with rfl | hd
          · rw [hdst] at hd2; cases hd2
          · exact hs ⟨d, hd, hd2⟩
      | some t =>
        have hkk := hk o List.mem_cons_self
        rw [hdst] at hkk
        rw [hkk]
        have hfl : R.1.look t = some v := by
          rw [look l _ _ _ _ _ e t (ho.head hdst), hdst]
          exact look_put _ _ _ _
        refine X.put (hg o List.mem_cons_self t v hdst hfl) fun i hi ⟨d, hd, hd2⟩ => ?_
        rcases List.mem_cons.1 hd with rfl | hd
        · rw [hdst] at hd2; cases hd2; exact absurd rfl hi
        · exact ⟨d, hd, hd2⟩
    rcases e with ⟨_, h1, r, v, _, _, _, e⟩ | ⟨fl, pe, _, _, e⟩
    · exact step v _ _ _ _ e
    · exact step _ _ _ _ _ e

end Go.Sx
