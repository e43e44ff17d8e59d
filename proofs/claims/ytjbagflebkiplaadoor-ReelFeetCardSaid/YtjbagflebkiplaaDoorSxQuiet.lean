/- OPERATIONS WITHOUT AN EFFECT LEAVE THE HEAP. -/
import Derived.Test.YtjbagflebkiplaaDoorSxReg
/-! OPERATIONS WITHOUT AN EFFECT LEAVE THE HEAP. -/
namespace Go.Sx
open Go.RowKit

def Quiet (f : Ins) : Prop := ∀ cx tm h (ρ : Rho) r, (f cx tm h).Holds ρ (fun x => x = r) → r.2 = h

theorem quiet_mk2 {h : Heap} {why : Nat} {o : Option AV} {ρ : Rho} {r : AV × Heap} (e : (mk2 h why o).Holds ρ (fun x => x = r)) : r.2 = h := by
  cases o with
  | none => exact e.elim
  | some v => have e' : (v, h) = r := e; rw [← e']
theorem quiet_rMov {h : Heap} {v : AV} {ρ : Rho} {r : AV × Heap} (e : (rMov h v).Holds ρ (fun x => x = r)) : r.2 = h := by
  unfold rMov at e
  cases hb : notBad v with
  | false => rw [hb] at e; exact e.elim
  | true => rw [hb] at e; have e' : (v, h) = r := e; rw [← e']
theorem quiet_mov (y : Opd) : Quiet (iMov y) := fun _ _ _ _ _ e => quiet_rMov e
theorem quiet_pick (x y z : Opd) : Quiet (iPick x y z) := by
  intro cx tm h ρ r e
  simp only [iPick, rPick] at e
  split at e
  · rename_i c hc
    rw [T.holds_ite] at e
    split at e
    · exact quiet_rMov e
    · exact quiet_rMov e
  · exact e.elim
theorem quiet_pure1 (why : Nat) (f : AV → Option AV) (x : Opd) : Quiet (pure1 why f x) := fun _ _ _ _ _ e => quiet_mk2 e
theorem quiet_pure2 (why : Nat) (f : AV → AV → Option AV) (x y : Opd) : Quiet (pure2 why f x y) := fun _ _ _ _ _ e => quiet_mk2 e
theorem quiet_load (x : Opd) : Quiet (iLoad x) := fun _ _ _ _ _ e => quiet_mk2 e
theorem quiet_loadN (n : Nat) (x : Opd) : Quiet (iLoadN n x) := fun _ _ _ _ _ e => quiet_mk2 e
theorem quiet_build (z : List AV) (ps : List (Nat × Nat × Opd)) : Quiet (iBuild z ps) := by
  intro cx tm h ρ r e
  simp only [iBuild, rBuild] at e
  cases hf : fillA (evp tm ps) z with
  | none => rw [hf] at e; exact e.elim
  | some cs => rw [hf] at e; have e' : (AV.agg cs, h) = r := e; rw [← e']
theorem quiet_func (fn : Fn) (x y : List Opd) : Quiet (iFunc fn x y) := by
  intro cx tm h ρ r e
  simp only [iFunc, rFunc] at e
  revert e
  cases (and (lAll notBad (evs tm x)) (lAll notBad (evs tm y))) with
  | false => intro e; exact e.elim
  | true => intro e; have e' : (AV.func fn (evs tm x) (evs tm y), h) = r := e; rw [← e']
theorem quiet_slice (size : Nat) (x : Opd) (lo hi mx : Option Opd) : Quiet (iSlice size x lo hi mx) := fun _ _ _ _ _ e => quiet_mk2 e
theorem quiet_sliceA (size n : Nat) (x : Opd) (lo hi mx : Option Opd) : Quiet (iSliceA size n x lo hi mx) := fun _ _ _ _ _ e => quiet_mk2 e
theorem quiet_lookup (z : AV) (wh : Bool) (n : Nat) (ls : List (Nat × Leaf)) (ok : Bool) (x k : Opd) : Quiet (iLookup z wh n ls ok x k) := fun _ _ _ _ _ e => quiet_mk2 e
theorem quiet_lenM (x : Opd) : Quiet (iLenM x) := fun _ _ _ _ _ e => quiet_mk2 e
theorem quiet_lenA (n : Nat) : Quiet (iLenA n) := fun _ _ h _ r e => by have e' : ((AV.int .i64 (.lit (Int.ofNat n))), h) = r := e; rw [← e']
theorem quiet_max (xs : List Opd) : Quiet (iMax xs) := fun _ _ _ _ _ e => quiet_mk2 e
theorem quiet_min (xs : List Opd) : Quiet (iMin xs) := fun _ _ _ _ _ e => quiet_mk2 e

theorem quiet_bin {ty : Nat → Option TI} {op : BinOp} {t : TypeId} {x y : Opd} {f : Ins} (h : cBin ty op t x y = some f) : Quiet f := by
  unfold cBin at h
  split at h <;> first
    | (cases h; exact quiet_pure2 _ _ _ _)
    | skip
  all_goals
    split at h
    · rename_i i hi
      cases hint : isInt i with
      | true => rw [hint] at h; cases h; exact quiet_pure2 _ _ _ _
      | false =>
        rw [hint, cond_false] at h
        split at h
        · cases h; exact quiet_pure2 _ _ _ _
        · cases h
    · cases h

theorem quiet_of {ty : Nat → Option TI} {op : Op} {f : Ins} (h : cOp ty op = some f) (he : isEff op = false) : Quiet f := by
  cases op with
  | move x => obtain ⟨y, hy, hk⟩ := with1_some h; cases hk; exact quiet_mov _
  | assign x => obtain ⟨y, hy, hk⟩ := with1_some h; cases hk; exact quiet_mov _
  | pick c a b => obtain ⟨y1, y2, y3, e1, e2, e3, hk⟩ := with3_some h; cases hk; exact quiet_pick _ _ _
  | build t ps =>
    simp only [cOp] at h
    unfold cBuild at h
    split at h
    · split at h
      · split at h
        · rename_i fs hd
          cases ha : (fs.toList.all fun f => (ty f.type).isSome) with
          | false => rw [ha] at h; cases h
          | true =>
            rw [ha, cond_true] at h
            cases hp : cParts (placeF ty fs.toList) ps.toList with
            | none => rw [hp] at h; cases h
            | some q => rw [hp] at h; cases h; exact quiet_build _ _
        · split at h
          · rename_i j hj
            cases hp : cParts (fun n => some (n * j.size, j.size)) ps.toList with
            | none => rw [hp] at h; cases h
            | some q => rw [hp] at h; cases h; exact quiet_build _ _
          · cases h
        · cases h
      · cases h
    · cases h
  | load t x =>
    obtain ⟨y, hy, hk⟩ := with1_some h
    split at hk
    · rename_i i hi
      cases ha : i.isAgg with
      | true => rw [ha] at hk; cases hk; exact quiet_loadN _ _
      | false => rw [ha] at hk; cases hk; exact quiet_load _
    · cases hk
  | binOp op t x y t' => obtain ⟨y1, y2, e1, e2, hk⟩ := with2_some h; exact quiet_bin hk
  | unOp op t x =>
    obtain ⟨y, hy, hk⟩ := with1_some h
    split at hk
    · cases hk; exact quiet_pure1 _ _ _
    · cases hk; exact quiet_pure1 _ _ _
    · cases hk
  | convert s d x =>
    obtain ⟨y, hy, hk⟩ := with1_some h
    split at hk
    · cases hk; exact quiet_pure1 _ _ _
    · cases hk
  | makeFunc fn first captured =>
    simp only [cOp] at h
    cases hn : notYield fn with
    | false => rw [hn] at h; cases h
    | true =>
      rw [hn, cond_true] at h
      split at h
      · cases h; exact quiet_func _ _ _
      · cases h
  | slice t x lo hi mx =>
    simp only [cOp] at h
    split at h
    · rename_i y l u m h1 h2 h3 h4
      unfold cSlice at h
      cases hc : (m.isNone || u.isSome) with
      | false => rw [hc] at h; cases h
      | true =>
        rw [hc, cond_true] at h
        split at h
        · split at h
          · split at h
            · rename_i j hj
              cases hb : Nat.ble 1 j.size with
              | false => rw [hb] at h; cases h
              | true => rw [hb, cond_true, Option.some.injEq] at h; subst h; exact quiet_slice _ _ _ _ _
            · cases h
          · split at h
            · cases h; exact quiet_sliceA _ _ _ _ _ _
            · cases h
          · cases h
        · cases h
    · cases h
  | fieldAddr t x f =>
    obtain ⟨y, hy, hk⟩ := with1_some h
    split at hk
    · rename_i q hq
      cases hb : Nat.ble 1 q.2.size with
      | false => rw [hb] at hk; cases hk
      | true => rw [hb] at hk; cases hk; exact quiet_pure1 _ _ _
    · cases hk
  | field t x f =>
    obtain ⟨y, hy, hk⟩ := with1_some h
    split at hk
    · cases hk; exact quiet_pure1 _ _ _
    · cases hk
  | indexAddr t x ix =>
    obtain ⟨y1, y2, e1, e2, hk⟩ := with2_some h
    unfold cIaddr at hk
    split at hk
    · split at hk
      · split at hk
        · cases hk; exact quiet_pure2 _ _ _ _
        · cases hk
      · split at hk
        · cases hk; exact quiet_pure2 _ _ _ _
        · cases hk
      · cases hk
    · cases hk
  | index t x ix =>
    obtain ⟨y1, y2, e1, e2, hk⟩ := with2_some h
    unfold cIndex at hk
    split at hk
    · split at hk
      · split at hk
        · cases hk; exact quiet_pure2 _ _ _ _
        · cases hk
      · cases hk
    · cases hk
  | lookup t x k ok =>
    obtain ⟨y1, y2, e1, e2, hk⟩ := with2_some h
    split at hk
    · split at hk
      · cases hk; exact quiet_lookup _ _ _ _ _ _ _
      · cases hk
    · cases hk
  | extract t ix => obtain ⟨y, hy, hk⟩ := with1_some h; cases hk; exact quiet_pure1 _ _ _
  | call c =>
    simp only [cOp] at h
    unfold cCall at h
    split at h
    · cases h
    · split at h
      · rename_i g hg
        simp only [isEff, hg] at he
        cases he
      · cases h
      · rename_i b hb
        simp only [isEff, hb] at he
        split at h
        · split at h
          · split at h
            · split at h
              · cases h; exact quiet_lenA _
              · cases h; exact quiet_pure1 _ _ _
              · cases h; exact quiet_lenM _
              · cases h
            · cases h
          · cases h
        · rename_i args _ _ _
          cases h2 : Nat.ble 2 args.length with
          | false => rw [h2] at h; cases h
          | true => rw [h2] at h; cases h; exact quiet_max _
        · rename_i args _ _ _
          cases h2 : Nat.ble 2 args.length with
          | false => rw [h2] at h; cases h
          | true => rw [h2] at h; cases h; exact quiet_min _
        · cases he
        · cases he
        · cases h
  | _ => cases he

theorem quiet_runC {ty : Nat → Option TI} {n : Nat} {keep : List Nat} {ops : List Oper} {o : Oper} {c : CI} (h : cOper ty n keep ops o = some c) (he : isEff o.op = false) {cx : Cx} {tm : Tm} {hp : Heap} {ρ : Rho} {r : AV × Heap}
    (e : (runC cx tm hp c).Holds ρ (fun x => x = r)) : r.2 = hp := by
  obtain ⟨f, g, hf, hg, hd, rfl⟩ := cOper_some h
  have q := quiet_of hf he
  unfold runC at e
  cases g with
  | none => exact q _ _ _ _ _ e
  | some p =>
    simp only at e
    cases hc : guardOf tm p with
    | none => rw [hc] at e; exact e.elim
    | some c =>
      rw [hc] at e
      simp only at e
      rw [T.holds_ite] at e
      split at e
      · exact q _ _ _ _ _ e
      · have e' : (undefA, hp) = r := e
        rw [← e']

theorem opEq_eq {a b : BinOp} (h : opEq a b = true) : a = b := by
  cases a <;> cases b <;> first | rfl | cases h

theorem eqIE_eq : ∀ (a b : IE), eqIE a b = true → a = b
  | .lit x, b, h => by
    cases b <;> simp [eqIE] at h
    rw [ieq_eq] at h
    rw [eq_of_beq h]
  | .var x, b, h => by
    cases b <;> simp [eqIE] at h
    rw [h]
  | .bin o k x y, b, h => by
    cases b <;> simp [eqIE] at h
    rw [opEq_eq h.1.1, kindEq_eq h.1.2, eqIE_eq x _ h.2.1, eqIE_eq y _ h.2.2]
  | .conv k x, b, h => by
    cases b <;> simp [eqIE] at h
    rw [kindEq_eq h.1, eqIE_eq x _ h.2]
  | .mx x y, b, h => by
    cases b <;> simp [eqIE] at h
    rw [eqIE_eq x _ h.1, eqIE_eq y _ h.2]
  | .mn x y, b, h => by
    cases b <;> simp [eqIE] at h
    rw [eqIE_eq x _ h.1, eqIE_eq y _ h.2]
  | .app f x y z, b, h => by
    cases b <;> simp [eqIE] at h
    rw [h.1, eqIE_eq x _ h.2.1, eqIE_eq y _ h.2.2.1, eqIE_eq z _ h.2.2.2]

theorem cmpEq_eq {a b : BinOp} (h : cmpEq a b = true) : a = b := by
  cases a <;> cases b <;> first | rfl | cases h

theorem eqBE_eq : ∀ (a b : BE), eqBE a b = true → a = b
  | .lit x, b, h => by
    cases b <;> simp [eqBE] at h
    rw [h]
  | .var x, b, h => by
    cases b <;> simp [eqBE] at h
    rw [h]
  | .not x, b, h => by
    cases b <;> simp [eqBE] at h
    rw [eqBE_eq x _ h]
  | .and x y, b, h => by
    cases b <;> simp [eqBE] at h
    rw [eqBE_eq x _ h.1, eqBE_eq y _ h.2]
  | .cmp o x y, b, h => by
    cases b <;> simp [eqBE] at h
    rw [cmpEq_eq h.1, eqIE_eq x _ h.2.1, eqIE_eq y _ h.2.2]
  | .iff x y, b, h => by
    cases b <;> simp [eqBE] at h
    rw [eqBE_eq x _ h.1, eqBE_eq y _ h.2]
  | .app f x y z, b, h => by
    cases b <;> simp [eqBE] at h
    rw [h.1, eqIE_eq x _ h.2.1, eqIE_eq y _ h.2.2.1, eqIE_eq z _ h.2.2.2]

mutual
theorem eqAV_eq : ∀ (a b : AV), eqAV a b = true → a = b
  | .bool x, b, h => by
    cases b <;> simp [eqAV] at h
    rw [eqBE_eq _ _ h]
  | .int k x, b, h => by
    cases b <;> simp [eqAV] at h
    rw [kindEq_eq h.1, eqIE_eq _ _ h.2]
  | .ptr x o, b, h => by
    cases b <;> simp [eqAV] at h
    rw [h.1, h.2]
  | .nilptr, b, h => by cases b <;> first | rfl | simp [eqAV] at h
  | .slice x o l c, b, h => by
    cases b <;> simp [eqAV] at h
    rw [h.1.1, h.1.2, h.2.1, h.2.2]
  | .sliceU i, b, h => by
    cases b <;> simp [eqAV] at h
    rw [h]
  | .sliceX x o l c, b, h => by
    cases b <;> simp [eqAV] at h
    rw [h.1.1, h.1.2, h.2.1, h.2.2]
  | .nilslice, b, h => by cases b <;> first | rfl | simp [eqAV] at h
  | .map x, b, h => by
    cases b <;> simp [eqAV] at h
    rw [h]
  | .nilmap, b, h => by cases b <;> first | rfl | simp [eqAV] at h
  | .nilFunc, b, h => by cases b <;> first | rfl | simp [eqAV] at h
  | .func fn x y, b, h => by
    cases b <;> (try (cases fn <;> simp [eqAV] at h; done))
    rename_i fn' x' y'
    cases fn <;> cases fn' <;> simp [eqAV] at h
    rw [h.1, eqAVs_eq x x' h.2.1, eqAVs_eq y y' h.2.2]
  | .agg x, b, h => by
    cases b <;> simp [eqAV] at h
    rw [eqAVs_eq x _ h]
  | .tup x, b, h => by
    cases b <;> simp [eqAV] at h
    rw [eqAVs_eq x _ h]
  | .yieldF x, b, h => by
    cases b <;> simp [eqAV] at h
    rw [h]
  | .opq _, b, h => by cases b <;> simp [eqAV] at h
  | .bad, b, h => by cases b <;> simp [eqAV] at h
theorem eqAVs_eq : ∀ (a b : List AV), eqAVs a b = true → a = b
  | [], [], _ => rfl
  | [], _ :: _, h => by simp [eqAVs] at h
  | _ :: _, [], h => by simp [eqAVs] at h
  | a :: l, b :: m, h => by
    simp [eqAVs] at h
    rw [eqAV_eq a b h.1, eqAVs_eq l m h.2]
end
end Go.Sx
