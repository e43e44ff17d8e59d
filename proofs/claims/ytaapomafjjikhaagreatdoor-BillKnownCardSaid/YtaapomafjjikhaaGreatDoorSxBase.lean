/- THE EVALUATOR's MEANING: symbolic numbers, values and heaps against the model's. -/
import Derived.RangeFuncLeaves
import Derived.RangeFuncCalls
import Derived.OrdersIn
import Derived.LoopNIn
import Derived.Below
import Derived.Test.YtaapomafjjikhaaGreatDoorSxEval
/-! FUNCTIONS OF NUMBERS that a loop computes: what the evaluator writes as 'app'. -/
namespace Go.Sx

/-- feet after some showings, at one end -/
def feetAt (had torn : Int) (n : Nat) : Int := max 0 (had - n * torn)

/-- the least number from 'i' on, of 'k' numbers, at which it holds; else 'i + k' -/
def firstAt (P : Nat → Bool) : Nat → Nat → Nat
  | 0, i => i
  | k + 1, i => if P i then i else firstAt P k (i + 1)

/-- the greatest number of showings, up to 999, that leave so many feet, if each takes as much; -1: not even none does -/
def servesF (had torn need : Int) : Int := (firstAt (fun n => decide (feetAt had torn n < need)) 1000 0 : Nat) - 1

/-- whether it holds at some number below 'i', and the first and the last one -/
def seenF (P : Nat → Bool) : Nat → Bool × Nat × Nat
  | 0 => (false, 0, 0)
  | i + 1 => if P i then (true, if (seenF P i).1 then (seenF P i).2.1 else i, i) else seenF P i
def holdsAt (low high tl th feet : Int) (n : Nat) : Bool := decide (feetAt low th n ≤ feet) && decide (feet ≤ feetAt high tl n)

/-- two numbers as one -/
def pack (a b : Int) : Int := a * 4096 + b
def fst4 (p : Int) : Int := p / 4096
def snd4 (p : Int) : Int := p % 4096
def seenP (a b c : Int) : Bool × Nat × Nat := seenF (holdsAt (fst4 a) (snd4 a) (fst4 b) (snd4 b) c) 1000

/-- a number of 'many', that a number chooses; a number of a span, that a number chooses -/
def turnF (n many : Int) : Int := if many < 1 then 0 else n % many
def chooseF (low high n : Int) : Int := if high < low then low else low + turnF n (high - low + 1)

/-- from 1000 on: what lies in a list that is not known -/
def FI (l : Nat → Int → Int → Int → Int) (f : Nat) (a b c : Int) : Int :=
  if 1000 ≤ f then l f a b c else
  if f = 0 then servesF a b c
  else if f = 1 then pack a b
  else if f = 2 then (seenP a b c).2.1
  else if f = 3 then (seenP a b c).2.2
  else if f = 4 then (if (seenP a b c).1 then (seenP a b c).2.1 else -1)
  else if f = 5 then (if (seenP a b c).1 then (seenP a b c).2.2 else -1)
  else if f = 6 then turnF a b
  else if f = 7 then chooseF a b c
  else 0
def FB (l : Nat → Int → Int → Int → Bool) (f : Nat) (a b c : Int) : Bool :=
  if 1000 ≤ f then l f a b c else
  if f = 0 then (seenP a b c).1
  else false
end Go.Sx
/-! THE EVALUATOR's MEANING: symbolic numbers, values and heaps against the model's. -/
namespace Go.Sx
open Go.RowKit

/-! ## Trees and lists -/
theorem PT.get_nil {α : Type} (k : Nat) : (PT.nil : PT α).get k = none := rfl
theorem PT.get_node {α : Type} (v : Option α) (l r : PT α) (k : Nat) : (PT.node v l r).get k =
    cond (Nat.beq k 0) v (cond (Nat.beq (Nat.mod k 2) 1) (l.get (Nat.div (Nat.pred k) 2)) (r.get (Nat.div (Nat.pred k) 2))) := rfl
theorem PT.setF_zero {α : Type} (a : α) (t : PT α) (k : Nat) : PT.setF a 0 t k = t := rfl
theorem PT.setF_nil {α : Type} (a : α) (n k : Nat) : PT.setF a (n + 1) .nil k =
    cond (Nat.beq k 0) (.node (some a) .nil .nil)
        (cond (Nat.beq (Nat.mod k 2) 1) (.node none (PT.setF a n .nil (Nat.div (Nat.pred k) 2)) .nil) (.node none .nil (PT.setF a n .nil (Nat.div (Nat.pred k) 2)))) := rfl
theorem PT.setF_node {α : Type} (a : α) (n k : Nat) (v : Option α) (l r : PT α) : PT.setF a (n + 1) (.node v l r) k =
    cond (Nat.beq k 0) (.node (some a) l r)
        (cond (Nat.beq (Nat.mod k 2) 1) (.node v (PT.setF a n l (Nat.div (Nat.pred k) 2)) r) (.node v l (PT.setF a n r (Nat.div (Nat.pred k) 2)))) := rfl

theorem beq_t {m n : Nat} : Nat.beq m n = true ↔ m = n := by
  constructor
  · exact Nat.eq_of_beq_eq_true
  · rintro rfl; simp
theorem beq_f {m n : Nat} : Nat.beq m n = false ↔ m ≠ n := by
  rw [← Bool.not_eq_true, beq_t]
theorem ble_t {m n : Nat} : Nat.ble m n = true ↔ m ≤ n := ⟨Nat.le_of_ble_eq_true, Nat.ble_eq_true_of_le⟩

theorem PT.get_setF {α : Type} (a : α) : ∀ (n : Nat) (t : PT α) (k j : Nat), k < n → (PT.setF a n t k).get j = if j = k then some a else t.get j := by
  intro n
  induction n with
  | zero => intro t k j h; omega
  | succ n ih =>
    intro t k j h
    have hm : ∀ x : Nat, Nat.mod x 2 = x % 2 := fun _ => rfl
    have hd : ∀ x : Nat, Nat.div x 2 = x / 2 := fun _ => rfl
    have hp : ∀ x : Nat, Nat.pred x = x - 1 := fun _ => rfl
    cases t with
    | nil =>
      rw [PT.setF_nil]
      by_cases k0 : k = 0
      · subst k0
        rw [show Nat.beq 0 0 = true from rfl, cond_true, PT.get_node]
        by_cases j0 : j = 0
        · subst j0; simp
        · rw [beq_f.2 j0, cond_false, if_neg j0]; cases Nat.beq (Nat.mod j 2) 1 <;> rfl
      · rw [beq_f.2 k0, cond_false]
        by_cases ko : Nat.mod k 2 = 1
        · rw [beq_t.2 ko, cond_true, PT.get_node]
          by_cases j0 : j = 0
          · subst j0; rw [if_neg (Ne.symm k0)]; rfl
          · rw [beq_f.2 j0, cond_false]
            by_cases jo : Nat.mod j 2 = 1
            · rw [beq_t.2 jo, cond_true, ih _ _ _ (by simp only [hd, hp]; omega)]
              simp only [hm, hd, hp, PT.get_nil] at *
              by_cases e : j = k
              · subst e; simp
              · rw [if_neg e, if_neg (by omega)]
            · rw [beq_f.2 jo, cond_false, if_neg (by rintro rfl; exact jo ko)]; rfl
        · rw [beq_f.2 ko, cond_false, PT.get_node]
          by_cases j0 : j = 0
          · subst j0; rw [if_neg (Ne.symm k0)]; rfl
          · rw [beq_f.2 j0, cond_false]
            by_cases jo : Nat.mod j 2 = 1
            · rw [beq_t.2 jo, cond_true, if_neg (by rintro rfl; exact ko jo)]; rfl
            · rw [beq_f.2 jo, cond_false, ih _ _ _ (by simp only [hd, hp]; omega)]
              simp only [hm, hd, hp, PT.get_nil] at *
              by_cases e : j = k
              · subst e; simp
              · rw [if_neg e, if_neg (by omega)]
    | node v l r =>
      rw [PT.setF_node]
      by_cases k0 : k = 0
      · subst k0
        rw [show Nat.beq 0 0 = true from rfl, cond_true, PT.get_node]
        by_cases j0 : j = 0
        · subst j0; simp
        · rw [beq_f.2 j0, cond_false, if_neg j0, PT.get_node, beq_f.2 j0, cond_false]
      · rw [beq_f.2 k0, cond_false]
        by_cases ko : Nat.mod k 2 = 1
        · rw [beq_t.2 ko, cond_true, PT.get_node, PT.get_node]
          by_cases j0 : j = 0
          · subst j0; rw [if_neg (Ne.symm k0)]; rfl
          · rw [beq_f.2 j0, cond_false, cond_false]
            by_cases jo : Nat.mod j 2 = 1
            · rw [beq_t.2 jo, cond_true, cond_true, ih _ _ _ (by simp only [hd, hp]; omega)]
              simp only [hm, hd, hp] at *
              by_cases e : j = k
              · subst e; simp
              · rw [if_neg e, if_neg (by omega)]
            · rw [beq_f.2 jo, cond_false, cond_false, if_neg (by rintro rfl; exact jo ko)]
        · rw [beq_f.2 ko, cond_false, PT.get_node, PT.get_node]
          by_cases j0 : j = 0
          · subst j0; rw [if_neg (Ne.symm k0)]; rfl
          · rw [beq_f.2 j0, cond_false, cond_false]
            by_cases jo : Nat.mod j 2 = 1
            · rw [beq_t.2 jo, cond_true, cond_true, if_neg (by rintro rfl; exact ko jo)]
            · rw [beq_f.2 jo, cond_false, cond_false, ih _ _ _ (by simp only [hd, hp]; omega)]
              simp only [hm, hd, hp] at *
              by_cases e : j = k
              · subst e; simp
              · rw [if_neg e, if_neg (by omega)]

theorem PT.get_set {α : Type} (t : PT α) (k j : Nat) (a : α) : (t.set k a).get j = if j = k then some a else t.get j :=
  PT.get_setF a (Nat.succ k) t k j (Nat.lt_succ_self k)

theorem listGet_eq {α : Type} (l : List α) (k : Nat) : listGet l k = l[k]? := by
  induction l generalizing k with
  | nil => rfl
  | cons a l ih =>
    show cond (Nat.beq k 0) (some a) (listGet l (Nat.pred k)) = _
    cases k with
    | zero => rfl
    | succ k => show listGet l k = _; simpa using ih k

theorem lLen_eq {α : Type} (l : List α) : lLen l = l.length := by
  induction l with
  | nil => rfl
  | cons a l ih => show Nat.succ (lLen l) = _; rw [ih]; rfl
theorem lApp_eq {α : Type} (l m : List α) : lApp l m = l ++ m := by
  induction l with
  | nil => rfl
  | cons a l ih => show a :: lApp l m = _; rw [ih]; rfl
theorem lDrop_eq {α : Type} (l : List α) (k : Nat) : lDrop l k = l.drop k := by
  induction l generalizing k with
  | nil => simp [lDrop]
  | cons a l ih =>
    show cond (Nat.beq k 0) (a :: l) (lDrop l (Nat.pred k)) = _
    cases k with
    | zero => rfl
    | succ k => show lDrop l k = _; simpa using ih k
theorem lTake_eq {α : Type} (l : List α) (k : Nat) : lTake l k = l.take k := by
  induction l generalizing k with
  | nil => simp [lTake]
  | cons a l ih =>
    show cond (Nat.beq k 0) [] (a :: lTake l (Nat.pred k)) = _
    cases k with
    | zero => rfl
    | succ k => show a :: lTake l k = _; rw [ih k]; rfl
theorem lAll_eq {α : Type} (p : α → Bool) (l : List α) : lAll p l = l.all p := by
  induction l with
  | nil => rfl
  | cons a l ih => show cond (p a) (lAll p l) false = _; rw [ih]; cases h : p a <;> simp [h]
theorem lMap_eq {α β : Type} (f : α → β) (l : List α) : lMap f l = l.map f := by
  induction l with
  | nil => rfl
  | cons a l ih => show f a :: lMap f l = _; rw [ih]; rfl
theorem lFind_cons {α : Type} (p : Nat × α) (l : List (Nat × α)) (k : Nat) : lFind (p :: l) k = cond (Nat.beq p.1 k) (some p.2) (lFind l k) := rfl

theorem listSub_eq {α : Type} {l r : List α} {off n : Nat} (h : listSub l off n = some r) : off + n ≤ l.length ∧ r = (l.drop off).take n := by
  unfold listSub at h
  rw [lLen_eq] at h
  cases hb : Nat.ble (Nat.add off n) l.length with
  | false => rw [hb] at h; cases h
  | true =>
    rw [hb, cond_true, lDrop_eq, lTake_eq] at h
    exact ⟨ble_t.1 hb, (Option.some.inj h).symm⟩
theorem listPut_eq {α : Type} {l r xs : List α} {off : Nat} (h : listPut l off xs = some r) : off + xs.length ≤ l.length ∧ r = l.take off ++ (xs ++ l.drop (off + xs.length)) := by
  unfold listPut at h
  rw [lLen_eq, lLen_eq] at h
  cases hb : Nat.ble (Nat.add off xs.length) l.length with
  | false => rw [hb] at h; cases h
  | true =>
    rw [hb, cond_true, lDrop_eq, lTake_eq, lApp_eq, lApp_eq] at h
    exact ⟨ble_t.1 hb, (Option.some.inj h).symm⟩

/-! ## Meanings -/
structure Rho where
  iv : Nat → Int
  bv : Nat → Bool
  fi : Nat → Int → Int → Int → Int
  fb : Nat → Int → Int → Int → Bool
  ov : Nat → Value

def binDen (op : BinOp) (k : IntKind) (x y : Int) : Int :=
  match op with
  | .add => k.wrap (x + y)
  | .sub => k.wrap (x - y)
  | .mul => k.wrap (x * y)
  | .quo => k.wrap (x.tdiv y)
  | .rem => x.tmod y
  | _ => 0

def cmpDen (op : BinOp) (x y : Int) : Bool :=
  match op with
  | .eql => x == y
  | .neq => x != y
  | .lss => decide (x < y)
  | .leq => decide (x ≤ y)
  | .gtr => decide (x > y)
  | .geq => decide (x ≥ y)
  | _ => false

def IE.den (ρ : Rho) : IE → Int
  | .lit n => n
  | .var i => ρ.iv i
  | .bin op k a b => binDen op k (a.den ρ) (b.den ρ)
  | .conv k a => k.wrap (a.den ρ)
  | .mx a b => if b.den ρ > a.den ρ then b.den ρ else a.den ρ
  | .mn a b => if b.den ρ < a.den ρ then b.den ρ else a.den ρ
  | .app f a b c => FI ρ.fi f (a.den ρ) (b.den ρ) (c.den ρ)

def BE.den (ρ : Rho) : BE → Bool
  | .lit b => b
  | .var i => ρ.bv i
  | .not a => !(a.den ρ)
  | .and a b => a.den ρ && b.den ρ
  | .cmp op a b => cmpDen op (a.den ρ) (b.den ρ)
  | .iff a b => a.den ρ == b.den ρ
  | .app f a b c => FB ρ.fb f (a.den ρ) (b.den ρ) (c.den ρ)

structure Env where
  ρ : Rho
  σ : Nat → Option (Nat × Nat)
  κ : Nat → Nat
  n : Nat
  rc : Nat → Array Value

structure Env.le0 (E E' : Env) : Prop where
  ρ : E'.ρ = E.ρ
  σ : ∀ b p, E.σ b = some p → E'.σ b = some p
  κ : ∀ b p, E.σ b = some p → E'.κ b = E.κ b
  rc : ∀ b p, E.σ b = some p → E'.rc b = E.rc b
structure Env.le (E E' : Env) : Prop extends Env.le0 E E' where
  n : E.n ≤ E'.n
  none : ∀ b, b < E.n → E.σ b = none → E'.σ b = none
instance {E E' : Env} : Coe (E.le E') (E.le0 E') := ⟨fun h => h.tole0⟩
theorem Env.le0.refl (E : Env) : E.le0 E := ⟨rfl, fun _ _ h => h, fun _ _ _ => rfl, fun _ _ _ => rfl⟩
theorem Env.le0.trans {E F G : Env} (h : E.le0 F) (k : F.le0 G) : E.le0 G :=
  ⟨k.ρ.trans h.ρ, fun b p e => k.σ b p (h.σ b p e), fun b p e => (k.κ b p (h.σ b p e)).trans (h.κ b p e), fun b p e => (k.rc b p (h.σ b p e)).trans (h.rc b p e)⟩
theorem Env.le.refl (E : Env) : E.le E := ⟨Env.le0.refl E, Nat.le_refl _, fun _ _ h => h⟩
theorem Env.le.trans {E F G : Env} (h : E.le F) (k : F.le G) : E.le G :=
  ⟨h.tole0.trans k.tole0, Nat.le_trans h.n k.n, fun b hb e => k.none b (Nat.lt_of_lt_of_le hb h.n) (h.none b hb e)⟩

mutual
def conc (E : Env) : AV → Option Value
  | .bool b => some (.bool (b.den E.ρ))
  | .int k e => some (.int k (e.den E.ρ))
  | .ptr b off => (E.σ b).map fun p => .pointer (some ⟨p.1, p.2 + off, none⟩)
  | .nilptr => some (.pointer none)
  | .slice b off len cap => (E.σ b).map fun p => .slice (some ⟨p.1, p.2 + off, none⟩) len cap
  | .sliceX b size lo len => if lo + len ≤ E.κ b then (E.σ b).map fun p => .slice (some ⟨p.1, p.2 + (if E.κ b = lo then 0 else lo * size), none⟩) len (E.κ b - lo) else none
  | .sliceU i => (match E.ρ.ov i with
    | .slice p n c => if E.ρ.iv i = (n : Int) then some (.slice p n c) else none
    | _ => none)
  | .sliceV b i => if 0 ≤ E.ρ.iv i ∧ E.ρ.iv i ≤ E.κ b then (E.σ b).map fun p => .slice (some ⟨p.1, p.2, none⟩) (E.ρ.iv i).toNat (E.κ b) else none
  | .ptrV b i size off e => if 0 ≤ e.den E.ρ ∧ e.den E.ρ < E.ρ.iv i then (E.σ b).map fun p => .pointer (some ⟨p.1, p.2 + (e.den E.ρ).toNat * size + off, none⟩) else none
  | .nilslice => some (.slice none 0 0)
  | .map b => (E.σ b).map fun p => .map (some p.1)
  | .nilmap => some (.map none)
  | .func fn first captured => match fn, concL E first, concL E captured with
    | .yield _, _, _ => none
    | fn, some a, some b => some (.func fn a.toArray b.toArray)
    | _, _, _ => none
  | .yieldF l => (E.σ l).map fun p => .func (.yield p.1) #[] #[]
  | .nilFunc => some .nilFunc
  | .agg cs => (concL E cs).map fun l => .agg l.toArray
  | .tup cs => (concL E cs).map fun l => .tuple l.toArray
  | .opq i => some (E.ρ.ov i)
  | .bad => none
def concL (E : Env) : List AV → Option (List Value)
  | [] => some []
  | a :: l => match conc E a, concL E l with
    | some v, some vs => some (v :: vs)
    | _, _ => none
end

theorem concL_cons {E : Env} {a : AV} {l : List AV} {vs : List Value} : concL E (a :: l) = some vs ↔ ∃ v r, conc E a = some v ∧ concL E l = some r ∧ vs = v :: r := by
  simp only [concL]
  constructor
  · intro h
    cases ha : conc E a with
    | none => rw [ha] at h; cases h
    | some v =>
      cases hl : concL E l with
      | none => rw [ha, hl] at h; cases h
      | some r => rw [ha, hl] at h; exact ⟨v, r, rfl, rfl, (Option.some.inj h).symm⟩
  · rintro ⟨v, r, ha, hl, rfl⟩; rw [ha, hl]

theorem concL_len {E : Env} {l : List AV} {vs : List Value} (h : concL E l = some vs) : vs.length = l.length := by
  induction l generalizing vs with
  | nil => simp only [concL] at h; cases h; rfl
  | cons a l ih => obtain ⟨v, r, _, hr, rfl⟩ := concL_cons.1 h; simp [ih hr]
theorem concL_get {E : Env} {l : List AV} {vs : List Value} (h : concL E l = some vs) {i : Nat} {a : AV} (ha : l[i]? = some a) : ∃ v, conc E a = some v ∧ vs[i]? = some v := by
  induction l generalizing vs i with
  | nil => simp at ha
  | cons x l ih =>
    obtain ⟨v, r, hv, hr, rfl⟩ := concL_cons.1 h
    cases i with
    | zero => simp at ha; subst ha; exact ⟨v, hv, rfl⟩
    | succ i => simp at ha; simpa using ih hr ha
theorem concL_app {E : Env} {l m : List AV} {vs us : List Value} (h : concL E l = some vs) (k : concL E m = some us) : concL E (l ++ m) = some (vs ++ us) := by
  induction l generalizing vs with
  | nil => simp only [concL] at h; cases h; simpa using k
  | cons a l ih =>
    obtain ⟨v, r, hv, hr, rfl⟩ := concL_cons.1 h
    exact concL_cons.2 ⟨v, r ++ us, hv, ih hr, rfl⟩
theorem concL_take {E : Env} {l : List AV} {vs : List Value} (h : concL E l = some vs) (n : Nat) : concL E (l.take n) = some (vs.take n) := by
  induction l generalizing vs n with
  | nil => simp only [concL] at h; cases h; simp [concL]
  | cons a l ih =>
    obtain ⟨v, r, hv, hr, rfl⟩ := concL_cons.1 h
    cases n with
    | zero => simp [concL]
    | succ n => simp only [List.take_succ_cons]; exact concL_cons.2 ⟨v, _, hv, ih hr n, rfl⟩
theorem concL_drop {E : Env} {l : List AV} {vs : List Value} (h : concL E l = some vs) (n : Nat) : concL E (l.drop n) = some (vs.drop n) := by
  induction l generalizing vs n with
  | nil => simp only [concL] at h; cases h; simp [concL]
  | cons a l ih =>
    obtain ⟨v, r, hv, hr, rfl⟩ := concL_cons.1 h
    cases n with
    | zero => simpa using concL_cons.2 ⟨v, r, hv, hr, rfl⟩
    | succ n => simpa using ih hr n

mutual
theorem conc_mono {E E' : Env} (h : E.le0 E') : ∀ (a : AV) (v : Value), conc E a = some v → conc E' a = some v
  | .bool b, v, e => by simp only [conc, h.ρ] at *; exact e
  | .int k x, v, e => by simp only [conc, h.ρ] at *; exact e
  | .ptr b off, v, e => by
    simp only [conc, Option.map_eq_some_iff] at *
    obtain ⟨p, hp, e⟩ := e; exact ⟨p, h.σ _ _ hp, e⟩
  | .nilptr, v, e => e
  | .slice b off len cap, v, e => by
    simp only [conc, Option.map_eq_some_iff] at *
    obtain ⟨p, hp, e⟩ := e; exact ⟨p, h.σ _ _ hp, e⟩
  | .sliceX b size lo len, v, e => by
    simp only [conc] at *
    split at e
    · rename_i hl
      simp only [Option.map_eq_some_iff] at e
      obtain ⟨p, hp, e⟩ := e
      have hκ := h.κ _ _ hp
      rw [if_pos (by rw [hκ]; exact hl), h.σ _ _ hp, hκ, Option.map_some, e]
    · cases e
  | .sliceU i, v, e => by simp only [conc, h.ρ] at *; exact e
  | .sliceV b i, v, e => by
    simp only [conc, h.ρ] at *
    split at e
    · rename_i hl
      simp only [Option.map_eq_some_iff] at e
      obtain ⟨p, hp, e⟩ := e
      have hκ := h.κ _ _ hp
      rw [if_pos (by rw [hκ]; exact hl), h.σ _ _ hp, hκ, Option.map_some, e]
    · cases e
  | .ptrV b i size off x, v, e => by
    simp only [conc, h.ρ] at *
    split at e
    · rename_i hl
      simp only [Option.map_eq_some_iff] at e
      obtain ⟨p, hp, e⟩ := e
      rw [if_pos hl, h.σ _ _ hp, Option.map_some, e]
    · cases e
  | .nilslice, v, e => e
  | .map b, v, e => by
    simp only [conc, Option.map_eq_some_iff] at *
    obtain ⟨p, hp, e⟩ := e; exact ⟨p, h.σ _ _ hp, e⟩
  | .nilmap, v, e => e
  | .func fn first captured, v, e => by
    simp only [conc] at *
    cases hf : concL E first with
    | none => rw [hf] at e; cases fn <;> simp at e
    | some a =>
      cases hc : concL E captured with
      | none => rw [hf, hc] at e; cases fn <;> simp at e
      | some b => rw [hf, hc] at e; rw [concL_mono h _ _ hf, concL_mono h _ _ hc]; exact e
  | .yieldF l, v, e => by
    simp only [conc, Option.map_eq_some_iff] at *
    obtain ⟨p, hp, e⟩ := e; exact ⟨p, h.σ _ _ hp, e⟩
  | .nilFunc, v, e => e
  | .agg cs, v, e => by
    simp only [conc, Option.map_eq_some_iff] at *
    obtain ⟨p, hp, e⟩ := e; exact ⟨p, concL_mono h _ _ hp, e⟩
  | .tup cs, v, e => by
    simp only [conc, Option.map_eq_some_iff] at *
    obtain ⟨p, hp, e⟩ := e; exact ⟨p, concL_mono h _ _ hp, e⟩
  | .opq i, v, e => by simp only [conc, h.ρ] at *; exact e
  | .bad, v, e => by simp [conc] at e
theorem concL_mono {E E' : Env} (h : E.le0 E') : ∀ (l : List AV) (vs : List Value), concL E l = some vs → concL E' l = some vs
  | [], vs, e => e
  | a :: l, vs, e => by
    obtain ⟨v, r, hv, hr, rfl⟩ := concL_cons.1 e
    exact concL_cons.2 ⟨v, r, conc_mono h a v hv, concL_mono h l r hr, rfl⟩
end

/-! ## Outcomes -/
def T.Holds {α : Type} (ρ : Rho) : T α → (α → Prop) → Prop
  | .ret a, Q => Q a
  | .br c t f, Q => if c.den ρ then t.Holds ρ Q else f.Holds ρ Q
  | .fail _, _ => False

theorem T.bind_ret {α β : Type} (a : α) (k : α → T β) : (T.ret a).bind k = k a := rfl
theorem T.bind_br {α β : Type} (c : BE) (t f : T α) (k : α → T β) : (T.br c t f).bind k = .br c (t.bind k) (f.bind k) := rfl
theorem T.bind_fail {α β : Type} (w : Nat) (k : α → T β) : (T.fail w : T α).bind k = .fail w := rfl

theorem T.holds_bind {α β : Type} {ρ : Rho} {t : T α} {k : α → T β} {Q : β → Prop} : (t.bind k).Holds ρ Q ↔ t.Holds ρ fun a => (k a).Holds ρ Q := by
  induction t with
  | ret a => rfl
  | br c t f iht ihf =>
    rw [T.bind_br]
    simp only [T.Holds]
    split
    · exact iht
    · exact ihf
  | fail w => rfl

theorem T.holds_ite {α : Type} {ρ : Rho} {c : BE} {t f : T α} {Q : α → Prop} : (T.ite c t f).Holds ρ Q ↔ if c.den ρ then t.Holds ρ Q else f.Holds ρ Q := by
  cases c with
  | lit b => cases b <;> simp [T.ite, BE.den]
  | _ => rfl

theorem T.holds_mono {α : Type} {ρ : Rho} {t : T α} {Q Q' : α → Prop} (h : ∀ a, Q a → Q' a) (k : t.Holds ρ Q) : t.Holds ρ Q' := by
  induction t with
  | ret a => exact h a k
  | br c t f iht ihf =>
    simp only [T.Holds] at *
    split
    · rename_i hc; rw [if_pos hc] at k; exact iht k
    · rename_i hc; rw [if_neg hc] at k; exact ihf k
  | fail w => exact k

theorem holds_mk2 {ρ : Rho} {h : Heap} {why : Nat} {o : Option AV} {Q : AV × Heap → Prop} (k : (mk2 h why o).Holds ρ Q) : ∃ v, o = some v ∧ Q (v, h) := by
  cases o with
  | none => exact k.elim
  | some v => exact ⟨v, rfl, k⟩

theorem sliceX_conc {E : Env} {b size lo len : Nat} {v : Value} (h : conc E (.sliceX b size lo len) = some v) :
    ∃ q, E.σ b = some q ∧ lo + len ≤ E.κ b ∧ v = .slice (some ⟨q.1, q.2 + (if E.κ b = lo then 0 else lo * size), none⟩) len (E.κ b - lo) := by
  simp only [conc] at h
  split at h
  · rename_i hl
    simp only [Option.map_eq_some_iff] at h
    obtain ⟨q, h1, h2⟩ := h
    exact ⟨q, h1, hl, h2.symm⟩
  · cases h
theorem sliceV_conc {E : Env} {b i : Nat} {v : Value} (h : conc E (.sliceV b i) = some v) : ∃ q, E.σ b = some q ∧ 0 ≤ E.ρ.iv i ∧ v = .slice (some ⟨q.1, q.2, none⟩) (E.ρ.iv i).toNat (E.κ b) := by
  simp only [conc] at h
  split at h
  · rename_i hl
    simp only [Option.map_eq_some_iff] at h
    obtain ⟨q, h1, h2⟩ := h
    exact ⟨q, h1, hl.1, h2.symm⟩
  · cases h
theorem ptrV_conc {E : Env} {b i size off : Nat} {e : IE} {v : Value} (h : conc E (.ptrV b i size off e) = some v) : ∃ q, E.σ b = some q ∧ 0 ≤ e.den E.ρ ∧ e.den E.ρ < E.ρ.iv i ∧ v = .pointer (some ⟨q.1, q.2 + (e.den E.ρ).toNat * size + off, none⟩) := by
  simp only [conc] at h
  split at h
  · rename_i hl
    simp only [Option.map_eq_some_iff] at h
    obtain ⟨q, h1, h2⟩ := h
    exact ⟨q, h1, hl.1, hl.2, h2.symm⟩
  · cases h
theorem sliceU_conc {E : Env} {i : Nat} {v : Value} (h : conc E (.sliceU i) = some v) : ∃ p n c, v = .slice p n c ∧ E.ρ.iv i = (n : Int) := by
  simp only [conc] at h
  split at h
  · rename_i p n c _
    split at h
    · rename_i hn; cases h; exact ⟨p, n, c, rfl, hn⟩
    · cases h
  · cases h
theorem slice_conc {E : Env} {b off len cap : Nat} {v : Value} (h : conc E (.slice b off len cap) = some v) :
    ∃ q, E.σ b = some q ∧ v = .slice (some ⟨q.1, q.2 + off, none⟩) len cap := by
  simp only [conc, Option.map_eq_some_iff] at h
  obtain ⟨q, h1, h2⟩ := h
  exact ⟨q, h1, h2.symm⟩
theorem map_conc {E : Env} {b : Nat} {v : Value} (h : conc E (.map b) = some v) : ∃ q, E.σ b = some q ∧ v = .map (some q.1) := by
  simp only [conc, Option.map_eq_some_iff] at h
  obtain ⟨q, h1, h2⟩ := h
  exact ⟨q, h1, h2.symm⟩

end Go.Sx
