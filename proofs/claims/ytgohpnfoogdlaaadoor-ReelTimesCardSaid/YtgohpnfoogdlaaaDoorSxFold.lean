/- NUMBERS THAT ARE KNOWN, RECKONED: a call that is taken as made, with what it hands back reckoned. -/
import Derived.Test.YtgohpnfoogdlaaaDoorSxTree2
import Derived.IntWalk
import Derived.Test.YtgohpnfoogdlaaaDoorSxOpen
/-! LINEAR FACTS: sums of numbers, what is known of them, and what follows; trees and values under them. -/
namespace Go.Sx
open Go.RowKit Go.IntWalk

/-! ## Sums -/
abbrev Lin := List (IE × Int)
def linDen (ρ : Rho) : Lin → Int
  | [] => 0
  | p :: l => p.2 * p.1.den ρ + linDen ρ l

noncomputable def linPut (e : IE) (c : Int) : Lin → Lin
  | [] => [(e, c)]
  | p :: l => cond (eqIE p.1 e) (cond (ieq (Int.add p.2 c) 0) l ((p.1, Int.add p.2 c) :: l)) (p :: linPut e c l)
noncomputable def linAdd : Lin → Lin → Lin
  | [], m => m
  | p :: l, m => linPut p.1 p.2 (linAdd l m)
noncomputable def linMul (k : Int) (l : Lin) : Lin := cond (ieq k 0) [] (lMap (fun p => (p.1, Int.mul k p.2)) l)
noncomputable def linSub (l m : Lin) : Lin := linAdd (linMul (-1) m) l

theorem ieq_t {x y : Int} (h : ieq x y = true) : x = y := by
  cases x <;> cases y <;> simp [ieq] at h
  · rw [h]
  · rw [h]
theorem ilt_t {x y : Int} : ilt x y = true ↔ x < y := by rw [ilt_eq]; exact decide_eq_true_iff
theorem ilt_f {x y : Int} : ilt x y = false ↔ y ≤ x := by
  rw [← Bool.not_eq_true, ilt_t]; omega

theorem linPut_den {ρ : Rho} (e : IE) (c : Int) : ∀ l, linDen ρ (linPut e c l) = c * e.den ρ + linDen ρ l
  | [] => rfl
  | p :: l => by
    simp only [linPut]
    cases h : eqIE p.1 e with
    | true =>
      have he := eqIE_eq _ _ h
      simp only [cond_true]
      cases h2 : ieq (Int.add p.2 c) 0 with
      | true =>
        have h3 : p.2 + c = 0 := ieq_t h2
        simp only [cond_true, linDen, he]
        have : (p.2 + c) * e.den ρ = 0 := by rw [h3, Int.zero_mul]
        rw [Int.add_mul] at this; omega
      | false =>
        simp only [cond_false, linDen, he]
        show (p.2 + c) * e.den ρ + linDen ρ l = _
        rw [Int.add_mul]; omega
    | false => simp only [cond_false, linDen, linPut_den e c l]; omega
theorem linAdd_den {ρ : Rho} : ∀ l m, linDen ρ (linAdd l m) = linDen ρ l + linDen ρ m
  | [], m => by simp [linAdd, linDen]
  | p :: l, m => by simp only [linAdd, linPut_den, linAdd_den l m, linDen]; omega
theorem linMul_den {ρ : Rho} (k : Int) (l : Lin) : linDen ρ (linMul k l) = k * linDen ρ l := by
  unfold linMul
  cases h : ieq k 0 with
  | true => simp [ieq_t h, linDen]
  | false =>
    simp only [cond_false, lMap_eq]
    induction l with
    | nil => simp [linDen]
    | cons p l ih =>
      simp only [List.map_cons, linDen, ih, Int.mul_add]
      show k * p.2 * _ + _ = _
      rw [Int.mul_assoc]
theorem linSub_den {ρ : Rho} (l m : Lin) : linDen ρ (linSub l m) = linDen ρ l - linDen ρ m := by
  unfold linSub; rw [linAdd_den, linMul_den]; omega

/-! ## What is known -/
structure Iv where
  lo : Int
  hi : Int
inductive Fk where
  | le | eq | ne
/-- of a sum and a number together: at most 0, 0, or not 0 -/
structure Fct where
  k : Fk
  l : Lin
  c : Int
structure Kn where
  iv : PT Iv
  fs : List Fct
  bs : List Asm

def Fct.ok (ρ : Rho) (f : Fct) : Prop :=
  match f.k with
  | .le => linDen ρ f.l + f.c ≤ 0
  | .eq => linDen ρ f.l + f.c = 0
  | .ne => linDen ρ f.l + f.c ≠ 0
structure KnOk (ρ : Rho) (K : Kn) : Prop where
  iv : ∀ i v, K.iv.get i = some v → v.lo ≤ ρ.iv i ∧ ρ.iv i ≤ v.hi
  fs : ∀ f ∈ K.fs, f.ok ρ
  bs : AsmOk ρ K.bs

noncomputable def imin (x y : Int) : Int := cond (ilt y x) y x
noncomputable def imax (x y : Int) : Int := cond (ilt x y) y x
theorem imin_eq (x y : Int) : imin x y = min x y := by
  unfold imin; cases h : ilt y x with
  | true => have := ilt_t.1 h; simp only [cond_true]; omega
  | false => have := ilt_f.1 h; simp only [cond_false]; omega
theorem imax_eq (x y : Int) : imax x y = max x y := by
  unfold imax; cases h : ilt x y with
  | true => have := ilt_t.1 h; simp only [cond_true]; omega
  | false => have := ilt_f.1 h; simp only [cond_false]; omega

noncomputable def ivIn (v : Iv) : Bool := and (Bool.not (ilt v.lo (-9223372036854775808))) (Bool.not (ilt 9223372036854775807 v.hi))
noncomputable def ivI (k : IntKind) (v : Iv) : Option Iv := cond (and (isI64 k) (ivIn v)) (some v) none
noncomputable def ivMul (a b : Iv) : Iv :=
  ⟨imin (imin (Int.mul a.lo b.lo) (Int.mul a.lo b.hi)) (imin (Int.mul a.hi b.lo) (Int.mul a.hi b.hi)),
   imax (imax (Int.mul a.lo b.lo) (Int.mul a.lo b.hi)) (imax (Int.mul a.hi b.lo) (Int.mul a.hi b.hi))⟩

noncomputable def ivE (G : PT Iv) : IE → Option Iv
  | .lit n => some ⟨n, n⟩
  | .var i => G.get i
  | .bin op k a b => (match ivE G a, ivE G b with
    | some x, some y => (match op with
      | .add => ivI k ⟨Int.add x.lo y.lo, Int.add x.hi y.hi⟩
      | .sub => ivI k ⟨Int.sub x.lo y.hi, Int.sub x.hi y.lo⟩
      | .mul => ivI k (ivMul x y)
      | _ => none)
    | _, _ => none)
  | .conv k a => (match ivE G a with
    | some x => ivI k x
    | none => none)
  | .mx a b => (match ivE G a, ivE G b with
    | some x, some y => some ⟨imax x.lo y.lo, imax x.hi y.hi⟩
    | _, _ => none)
  | .mn a b => (match ivE G a, ivE G b with
    | some x, some y => some ⟨imin x.lo y.lo, imin x.hi y.hi⟩
    | _, _ => none)
  | .app _ _ _ _ => none

theorem isI64_eq {k : IntKind} (h : isI64 k = true) : k = .i64 := by cases k <;> simp [isI64] at h; rfl
theorem ivI_ok {k : IntKind} {v u : Iv} (h : ivI k v = some u) : k = .i64 ∧ u = v ∧ -9223372036854775808 ≤ v.lo ∧ v.hi ≤ 9223372036854775807 := by
  obtain ⟨h1, h2⟩ := cond_some h
  simp only [Bool.and_eq_true] at h1
  obtain ⟨a, b⟩ := h1
  unfold ivIn at b
  simp only [Bool.and_eq_true, Bool.not_eq_true', ilt_f] at b
  cases h2
  exact ⟨isI64_eq a, rfl, b.1, b.2⟩

theorem mul_bounds {a b l h m n : Int} (h1 : l ≤ a) (h2 : a ≤ h) (h3 : m ≤ b) (h4 : b ≤ n) :
    min (min (l * m) (l * n)) (min (h * m) (h * n)) ≤ a * b ∧ a * b ≤ max (max (l * m) (l * n)) (max (h * m) (h * n)) := by
  have up : ∀ {x y z : Int}, 0 ≤ z → x ≤ y → x * z ≤ y * z := fun hz hxy => Int.mul_le_mul_of_nonneg_right hxy hz
  have dn : ∀ {x y z : Int}, z ≤ 0 → x ≤ y → y * z ≤ x * z := fun hz hxy => Int.mul_le_mul_of_nonpos_right hxy hz
  have up' : ∀ {x y z : Int}, 0 ≤ z → x ≤ y → z * x ≤ z * y := fun hz hxy => Int.mul_le_mul_of_nonneg_left hxy hz
  have dn' : ∀ {x y z : Int}, z ≤ 0 → x ≤ y → z * y ≤ z * x := fun {x y z} hz hxy => by
    rw [Int.mul_comm z y, Int.mul_comm z x]; exact dn hz hxy
  -- a*b lies between l*b and h*b; each of these between its ends
  have e1 : min (l * b) (h * b) ≤ a * b ∧ a * b ≤ max (l * b) (h * b) := by
    rcases Int.le_total 0 b with hb | hb
    · have := up hb h1; have := up hb h2; omega
    · have := dn hb h1; have := dn hb h2; omega
  have e2 : ∀ x : Int, min (x * m) (x * n) ≤ x * b ∧ x * b ≤ max (x * m) (x * n) := fun x => by
    rcases Int.le_total 0 x with hx | hx
    · have := up' hx h3; have := up' hx h4; omega
    · have := dn' hx h3; have := dn' hx h4; omega
  have := e2 l; have := e2 h; omega

theorem ivE_ok {ρ : Rho} {G : PT Iv} (HG : ∀ i v, G.get i = some v → v.lo ≤ ρ.iv i ∧ ρ.iv i ≤ v.hi) : ∀ (e : IE) (v : Iv), ivE G e = some v → v.lo ≤ e.den ρ ∧ e.den ρ ≤ v.hi
  | .lit n, v, h => by simp only [ivE, Option.some.injEq] at h; subst h; exact ⟨Int.le_refl _, Int.le_refl _⟩
  | .var i, v, h => HG i v h
  | .bin op k a b, v, h => by
    simp only [ivE] at h
    split at h
    · rename_i x y hx hy
      have h1 := ivE_ok HG a x hx
      have h2 := ivE_ok HG b y hy
      split at h
      · obtain ⟨rfl, rfl, h3, h4⟩ := ivI_ok h
        have e1 : Int.add x.lo y.lo = x.lo + y.lo := rfl
        have e2 : Int.add x.hi y.hi = x.hi + y.hi := rfl
        simp only [e1, e2] at h3 h4 ⊢
        simp only [IE.den, binDen]
        rw [i64_in _ (by omega)]; omega
      · obtain ⟨rfl, rfl, h3, h4⟩ := ivI_ok h
        have e1 : Int.sub x.lo y.hi = x.lo - y.hi := rfl
        have e2 : Int.sub x.hi y.lo = x.hi - y.lo := rfl
        simp only [e1, e2] at h3 h4 ⊢
        simp only [IE.den, binDen]
        rw [i64_in _ (by omega)]; omega
      · obtain ⟨rfl, rfl, h3, h4⟩ := ivI_ok h
        have hb := mul_bounds h1.1 h1.2 h2.1 h2.2
        have e1 : (ivMul x y).lo = min (min (x.lo * y.lo) (x.lo * y.hi)) (min (x.hi * y.lo) (x.hi * y.hi)) := by simp only [ivMul, imin_eq]; rfl
        have e2 : (ivMul x y).hi = max (max (x.lo * y.lo) (x.lo * y.hi)) (max (x.hi * y.lo) (x.hi * y.hi)) := by simp only [ivMul, imax_eq]; rfl
        rw [e1] at h3 ⊢; rw [e2] at h4 ⊢
        simp only [IE.den, binDen]
        rw [i64_in _ ⟨Int.le_trans h3 hb.1, Int.le_trans hb.2 h4⟩]; exact hb
      · cases h
    · cases h
  | .conv k a, v, h => by
    simp only [ivE] at h
    split at h
    · rename_i x hx
      have h1 := ivE_ok HG a x hx
      obtain ⟨rfl, rfl, h3, h4⟩ := ivI_ok h
      simp only [IE.den]
      rw [i64_in _ (by omega)]; exact h1
    · cases h
  | .mx a b, v, h => by
    simp only [ivE] at h
    split at h
    · rename_i x y hx hy
      have h1 := ivE_ok HG a x hx
      have h2 := ivE_ok HG b y hy
      cases h
      simp only [imax_eq, IE.den_mx]; omega
    · cases h
  | .mn a b, v, h => by
    simp only [ivE] at h
    split at h
    · rename_i x y hx hy
      have h1 := ivE_ok HG a x hx
      have h2 := ivE_ok HG b y hy
      cases h
      simp only [imin_eq, IE.den]
      split <;> omega
    · cases h
  | .app _ _ _ _, v, h => by simp only [ivE] at h; cases h

/-! ## What a sum is at most -/
noncomputable def upL (G : PT Iv) : Lin → Option Int
  | [] => some 0
  | p :: l => (match ivE G p.1, upL G l with
    | some v, some u => some (Int.add (Int.mul p.2 (cond (ilt p.2 0) v.lo v.hi)) u)
    | _, _ => none)
theorem upL_ok {ρ : Rho} {G : PT Iv} (HG : ∀ i v, G.get i = some v → v.lo ≤ ρ.iv i ∧ ρ.iv i ≤ v.hi) : ∀ (l : Lin) (u : Int), upL G l = some u → linDen ρ l ≤ u
  | [], u, h => by simp only [upL, Option.some.injEq] at h; subst h; exact Int.le_refl _
  | p :: l, u, h => by
    simp only [upL] at h
    split at h
    · rename_i v w hv hw
      have h1 := ivE_ok HG p.1 v hv
      have h2 := upL_ok HG l w hw
      cases h
      show p.2 * p.1.den ρ + linDen ρ l ≤ p.2 * (cond (ilt p.2 0) v.lo v.hi) + w
      cases hc : ilt p.2 0 with
      | true =>
        have := ilt_t.1 hc
        have h3 : p.2 * p.1.den ρ ≤ p.2 * v.lo := by
          rw [Int.mul_comm p.2, Int.mul_comm p.2]; exact Int.mul_le_mul_of_nonpos_right h1.1 (by omega)
        simp only [cond_true]; omega
      | false =>
        have := ilt_f.1 hc
        have h3 : p.2 * p.1.den ρ ≤ p.2 * v.hi := Int.mul_le_mul_of_nonneg_left h1.2 this
        simp only [cond_false]; omega
    · cases h
/-- a sum and a number are at most 0 together, by the bounds alone -/
noncomputable def leI (G : PT Iv) (l : Lin) (c : Int) : Bool :=
  match upL G l with
  | some u => Bool.not (ilt 0 (Int.add u c))
  | none => false
theorem leI_ok {ρ : Rho} {G : PT Iv} (HG : ∀ i v, G.get i = some v → v.lo ≤ ρ.iv i ∧ ρ.iv i ≤ v.hi) {l : Lin} {c : Int} (h : leI G l c = true) : linDen ρ l + c ≤ 0 := by
  unfold leI at h
  split at h
  · rename_i u hu
    have h1 := upL_ok HG l u hu
    simp only [Bool.not_eq_true', ilt_f] at h
    have : Int.add u c = u + c := rfl
    omega
  · cases h
/-- .. or by one fact more -/
noncomputable def leF (G : PT Iv) (l : Lin) (c : Int) (f : Fct) : Bool :=
  match f.k with
  | .le => leI G (linSub l f.l) (Int.sub c f.c)
  | .eq => or (leI G (linSub l f.l) (Int.sub c f.c)) (leI G (linAdd l f.l) (Int.add c f.c))
  | .ne => false
theorem leF_ok {ρ : Rho} {G : PT Iv} (HG : ∀ i v, G.get i = some v → v.lo ≤ ρ.iv i ∧ ρ.iv i ≤ v.hi) {l : Lin} {c : Int} {f : Fct} (hf : f.ok ρ) (h : leF G l c f = true) : linDen ρ l + c ≤ 0 := by
  unfold leF at h
  unfold Fct.ok at hf
  have e1 : Int.sub c f.c = c - f.c := rfl
  have e2 : Int.add c f.c = c + f.c := rfl
  split at h
  · rename_i hk
    rw [hk] at hf
    have := leI_ok HG h
    rw [linSub_den] at this; simp only at hf; omega
  · rename_i hk
    rw [hk] at hf; simp only at hf
    simp only [Bool.or_eq_true] at h
    rcases h with h | h
    · have := leI_ok HG h
      rw [linSub_den] at this; omega
    · have := leI_ok HG h
      rw [linAdd_den] at this; omega
  · cases h
noncomputable def anyF (p : Fct → Bool) (l : List Fct) : Bool := @List.rec Fct (fun _ => Bool) false (fun f _ ih => cond (p f) true ih) l
theorem anyF_ok {p : Fct → Bool} : ∀ {l : List Fct}, anyF p l = true → ∃ f ∈ l, p f = true
  | [], h => by cases h
  | f :: l, h => by
    have h : cond (p f) true (anyF p l) = true := h
    cases hp : p f with
    | true => exact ⟨f, List.mem_cons_self, hp⟩
    | false =>
      rw [hp] at h
      obtain ⟨g, h1, h2⟩ := anyF_ok h
      exact ⟨g, List.mem_cons_of_mem _ h1, h2⟩
noncomputable def leK (K : Kn) (l : Lin) (c : Int) : Bool := cond (leI K.iv l c) true (anyF (leF K.iv l c) K.fs)
theorem leK_ok {ρ : Rho} {K : Kn} (H : KnOk ρ K) {l : Lin} {c : Int} (h : leK K l c = true) : linDen ρ l + c ≤ 0 := by
  unfold leK at h
  cases h1 : leI K.iv l c with
  | true => exact leI_ok H.iv h1
  | false =>
    rw [h1] at h
    obtain ⟨f, hf, h2⟩ := anyF_ok h
    exact leF_ok H.iv (H.fs f hf) h2

/-! ## A number as a sum -/
structure LC where
  l : Lin
  c : Int
noncomputable def LC.sub (x y : LC) : LC := ⟨linSub x.l y.l, Int.sub x.c y.c⟩
noncomputable def LC.add (x y : LC) : LC := ⟨linAdd x.l y.l, Int.add x.c y.c⟩
noncomputable def LC.neg (x : LC) : LC := ⟨linMul (-1) x.l, Int.neg x.c⟩
noncomputable def LC.mul (k : Int) (x : LC) : LC := ⟨linMul k x.l, Int.mul k x.c⟩
def LC.den (ρ : Rho) (x : LC) : Int := linDen ρ x.l + x.c
theorem LC.sub_den {ρ : Rho} (x y : LC) : (x.sub y).den ρ = x.den ρ - y.den ρ := by
  have : Int.sub x.c y.c = x.c - y.c := rfl
  simp only [LC.sub, LC.den, linSub_den, this]; omega
theorem LC.add_den {ρ : Rho} (x y : LC) : (x.add y).den ρ = x.den ρ + y.den ρ := by
  have : Int.add x.c y.c = x.c + y.c := rfl
  simp only [LC.add, LC.den, linAdd_den, this]; omega
theorem LC.neg_den {ρ : Rho} (x : LC) : (x.neg).den ρ = -(x.den ρ) := by
  have : Int.neg x.c = -x.c := rfl
  simp only [LC.neg, LC.den, linMul_den, this]; omega
theorem LC.mul_den {ρ : Rho} (k : Int) (x : LC) : (x.mul k).den ρ = k * x.den ρ := by
  have : Int.mul k x.c = k * x.c := rfl
  simp only [LC.mul, LC.den, linMul_den, this, Int.mul_add]

noncomputable def atomL (e : IE) : LC := ⟨[(e, 1)], 0⟩
theorem atomL_den {ρ : Rho} (e : IE) : (atomL e).den ρ = e.den ρ := by simp [atomL, LC.den, linDen]

noncomputable def inR (G : PT Iv) (e : IE) : Bool := (ivE G e).isSome
noncomputable def litL (x : LC) : Option Int :=
  match x.l with
  | [] => some x.c
  | _ => none

/-- the less of two sums, if it is known which -/
noncomputable def linMn (K : Kn) (e : IE) (x y : LC) : LC := cond (leK K (x.sub y).l (x.sub y).c) x (cond (leK K (y.sub x).l (y.sub x).c) y (atomL e))
noncomputable def linMx (K : Kn) (e : IE) (x y : LC) : LC := cond (leK K (x.sub y).l (x.sub y).c) y (cond (leK K (y.sub x).l (y.sub x).c) x (atomL e))
noncomputable def linMul2 (G : PT Iv) (e : IE) (x y : LC) : LC :=
  match litL x, litL y with
  | some n, _ => cond (inR G e) (y.mul n) (atomL e)
  | none, some m => cond (inR G e) (x.mul m) (atomL e)
  | none, none => atomL e
noncomputable def linE (K : Kn) : IE → LC
  | .lit n => ⟨[], n⟩
  | .bin op k a b => (match op with
    | .add => cond (inR K.iv (.bin .add k a b)) ((linE K a).add (linE K b)) (atomL (.bin .add k a b))
    | .sub => cond (inR K.iv (.bin .sub k a b)) ((linE K a).sub (linE K b)) (atomL (.bin .sub k a b))
    | .mul => linMul2 K.iv (.bin .mul k a b) (linE K a) (linE K b)
    | op => atomL (.bin op k a b))
  | .conv k a => cond (inR K.iv (.conv k a)) (linE K a) (atomL (.conv k a))
  | .mx a b => linMx K (.mx a b) (linE K a) (linE K b)
  | .mn a b => linMn K (.mn a b) (linE K a) (linE K b)
  | e => atomL e

theorem inR_ok {G : PT Iv} {e : IE} (h : inR G e = true) : ∃ v, ivE G e = some v := Option.isSome_iff_exists.1 h
theorem inR_bin {ρ : Rho} {G : PT Iv} (HG : ∀ i v, G.get i = some v → v.lo ≤ ρ.iv i ∧ ρ.iv i ≤ v.hi) {k : IntKind} {a b : IE} :
    (inR G (.bin .add k a b) = true → (IE.bin .add k a b).den ρ = a.den ρ + b.den ρ) ∧ (inR G (.bin .sub k a b) = true → (IE.bin .sub k a b).den ρ = a.den ρ - b.den ρ) ∧
    (inR G (.bin .mul k a b) = true → (IE.bin .mul k a b).den ρ = a.den ρ * b.den ρ) ∧ (inR G (.conv k a) = true → (IE.conv k a).den ρ = a.den ρ) := by
  refine ⟨fun h => ?_, fun h => ?_, fun h => ?_, fun h => ?_⟩
  · obtain ⟨v, h⟩ := inR_ok h
    simp only [ivE] at h
    split at h
    · rename_i x y hx hy
      have h1 := ivE_ok HG a x hx
      have h2 := ivE_ok HG b y hy
      obtain ⟨rfl, rfl, h3, h4⟩ := ivI_ok h
      have e1 : Int.add x.lo y.lo = x.lo + y.lo := rfl
      have e2 : Int.add x.hi y.hi = x.hi + y.hi := rfl
      simp only [e1, e2] at h3 h4
      simp only [IE.den, binDen]
      rw [i64_in _ (by omega)]
    · cases h
  · obtain ⟨v, h⟩ := inR_ok h
    simp only [ivE] at h
    split at h
    · rename_i x y hx hy
      have h1 := ivE_ok HG a x hx
      have h2 := ivE_ok HG b y hy
      obtain ⟨rfl, rfl, h3, h4⟩ := ivI_ok h
      have e1 : Int.sub x.lo y.hi = x.lo - y.hi := rfl
      have e2 : Int.sub x.hi y.lo = x.hi - y.lo := rfl
      simp only [e1, e2] at h3 h4
      simp only [IE.den, binDen]
      rw [i64_in _ (by omega)]
    · cases h
  · obtain ⟨v, h⟩ := inR_ok h
    simp only [ivE] at h
    split at h
    · rename_i x y hx hy
      have h1 := ivE_ok HG a x hx
      have h2 := ivE_ok HG b y hy
      obtain ⟨rfl, rfl, h3, h4⟩ := ivI_ok h
      have hb := mul_bounds h1.1 h1.2 h2.1 h2.2
      have e1 : (ivMul x y).lo = min (min (x.lo * y.lo) (x.lo * y.hi)) (min (x.hi * y.lo) (x.hi * y.hi)) := by simp only [ivMul, imin_eq]; rfl
      have e2 : (ivMul x y).hi = max (max (x.lo * y.lo) (x.lo * y.hi)) (max (x.hi * y.lo) (x.hi * y.hi)) := by simp only [ivMul, imax_eq]; rfl
      rw [e1] at h3; rw [e2] at h4
      simp only [IE.den, binDen]
      rw [i64_in _ ⟨Int.le_trans h3 hb.1, Int.le_trans hb.2 h4⟩]
    · cases h
  · obtain ⟨v, h⟩ := inR_ok h
    simp only [ivE] at h
    split at h
    · rename_i x hx
      have h1 := ivE_ok HG a x hx
      obtain ⟨rfl, rfl, h3, h4⟩ := ivI_ok h
      simp only [IE.den]
      rw [i64_in _ (by omega)]
    · cases h

theorem litL_ok {ρ : Rho} {x : LC} {n : Int} (h : litL x = some n) : x.den ρ = n := by
  unfold litL at h
  split at h
  · rename_i hl; cases h; simp [LC.den, hl, linDen]
  · cases h

theorem linE_ok {ρ : Rho} {K : Kn} (H : KnOk ρ K) : ∀ e : IE, (linE K e).den ρ = e.den ρ
  | .lit n => by simp [linE, LC.den, linDen, IE.den]
  | .var i => by simp only [linE]; exact atomL_den _
  | .app f a b c => by simp only [linE]; exact atomL_den _
  | .bin op k a b => by
    have ha := linE_ok H a
    have hb := linE_ok H b
    obtain ⟨q1, q2, q3, _⟩ := inR_bin H.iv (k := k) (a := a) (b := b)
    simp only [linE]
    split
    · cases h : inR K.iv (.bin .add k a b) with
      | true => simp only [cond_true]; rw [LC.add_den, ha, hb, q1 h]
      | false => exact atomL_den _
    · cases h : inR K.iv (.bin .sub k a b) with
      | true => simp only [cond_true]; rw [LC.sub_den, ha, hb, q2 h]
      | false => exact atomL_den _
    · unfold linMul2
      split
      · rename_i x _ hx
        cases h : inR K.iv (.bin .mul k a b) with
        | true => simp only [cond_true]; rw [LC.mul_den, hb, q3 h, ← ha, litL_ok hx]
        | false => exact atomL_den _
      · rename_i y _ hy
        cases h : inR K.iv (.bin .mul k a b) with
        | true => simp only [cond_true]; rw [LC.mul_den, ha, q3 h, ← hb, litL_ok hy, Int.mul_comm]
        | false => exact atomL_den _
      · exact atomL_den _
    · exact atomL_den _
  | .conv k a => by
    have ha := linE_ok H a
    obtain ⟨_, _, _, q4⟩ := inR_bin H.iv (k := k) (a := a) (b := a)
    simp only [linE]
    cases h : inR K.iv (.conv k a) with
    | true => simp only [cond_true]; rw [ha, q4 h]
    | false => exact atomL_den _
  | .mx a b => by
    have ha := linE_ok H a
    have hb := linE_ok H b
    simp only [linE]
    unfold linMx
    generalize linE K a = x at ha
    generalize linE K b = y at hb
    cases h : leK K (x.sub y).l (x.sub y).c with
    | true =>
      have := leK_ok H h
      have e := LC.sub_den (ρ := ρ) x y
      simp only [LC.den] at e ha hb ⊢
      simp only [cond_true, IE.den_mx]; omega
    | false =>
      simp only [cond_false]
      cases h2 : leK K (y.sub x).l (y.sub x).c with
      | true =>
        have := leK_ok H h2
        have e := LC.sub_den (ρ := ρ) y x
        simp only [LC.den] at e ha hb ⊢
        simp only [cond_true, IE.den_mx]; omega
      | false => exact atomL_den _
  | .mn a b => by
    have ha := linE_ok H a
    have hb := linE_ok H b
    simp only [linE]
    unfold linMn
    generalize linE K a = x at ha
    generalize linE K b = y at hb
    cases h : leK K (x.sub y).l (x.sub y).c with
    | true =>
      have := leK_ok H h
      have e := LC.sub_den (ρ := ρ) x y
      simp only [LC.den] at e ha hb ⊢
      simp only [cond_true, IE.den]; split <;> omega
    | false =>
      simp only [cond_false]
      cases h2 : leK K (y.sub x).l (y.sub x).c with
      | true =>
        have := leK_ok H h2
        have e := LC.sub_den (ρ := ρ) y x
        simp only [LC.den] at e ha hb ⊢
        simp only [cond_true, IE.den]; split <;> omega
      | false => exact atomL_den _

/-! ## Truth values -/
noncomputable def leLC (K : Kn) (x : LC) : Bool := leK K x.l x.c
theorem leLC_ok {ρ : Rho} {K : Kn} (H : KnOk ρ K) {x : LC} (h : leLC K x = true) : x.den ρ ≤ 0 := leK_ok H h
noncomputable def LC.plus (n : Int) (x : LC) : LC := ⟨x.l, Int.add x.c n⟩
theorem LC.plus_den {ρ : Rho} (n : Int) (x : LC) : (x.plus n).den ρ = x.den ρ + n := by
  have : Int.add x.c n = x.c + n := rfl
  simp only [LC.plus, LC.den, this]; omega

/-- is a sum known to be at most 0? or more? -/
noncomputable def decLe (K : Kn) (d : LC) : Option Bool :=
  cond (leLC K d) (some true) (cond (leLC K (d.neg.plus 1)) (some false) none)
theorem decLe_ok {ρ : Rho} {K : Kn} (H : KnOk ρ K) {d : LC} {b : Bool} (h : decLe K d = some b) : (d.den ρ ≤ 0 ↔ b = true) := by
  unfold decLe at h
  cases h1 : leLC K d with
  | true => rw [h1] at h; cases h; exact ⟨fun _ => rfl, fun _ => leLC_ok H h1⟩
  | false =>
    rw [h1, cond_false] at h
    obtain ⟨h2, h3⟩ := cond_some h
    cases h3
    have := leLC_ok H h2
    rw [LC.plus_den, LC.neg_den] at this
    constructor
    · intro; omega
    · intro h; cases h

noncomputable def neF (d : LC) (f : Fct) : Bool :=
  match f.k with
  | .ne => or (cond (isNil (linSub d.l f.l)) (ieq d.c f.c) false) (cond (isNil (linAdd d.l f.l)) (ieq (Int.add d.c f.c) 0) false)
  | _ => false
where isNil (l : Lin) : Bool := match l with
  | [] => true
  | _ => false
theorem neF_ok {ρ : Rho} {d : LC} {f : Fct} (hf : f.ok ρ) (h : neF d f = true) : d.den ρ ≠ 0 := by
  unfold neF at h
  unfold Fct.ok at hf
  split at h
  · rename_i hk
    rw [hk] at hf; simp only at hf
    simp only [Bool.or_eq_true] at h
    have nl : ∀ l : Lin, neF.isNil l = true → l = [] := fun l h => by cases l with
      | nil => rfl
      | cons => cases h
    rcases h with h | h
    · cases h1 : neF.isNil (linSub d.l f.l) with
      | false => rw [h1] at h; cases h
      | true =>
        rw [h1, cond_true] at h
        have h2 := linSub_den (ρ := ρ) d.l f.l
        rw [nl _ h1] at h2
        have h3 := ieq_t h
        simp only [linDen] at h2
        simp only [LC.den]; omega
    · cases h1 : neF.isNil (linAdd d.l f.l) with
      | false => rw [h1] at h; cases h
      | true =>
        rw [h1, cond_true] at h
        have h2 := linAdd_den (ρ := ρ) d.l f.l
        rw [nl _ h1] at h2
        have h3 : d.c + f.c = 0 := ieq_t h
        simp only [linDen] at h2
        simp only [LC.den]; omega
  · cases h

/-- is a sum known to be 0? or not? -/
noncomputable def decEq0 (K : Kn) (d : LC) : Option Bool :=
  cond (leLC K d)
    (cond (leLC K d.neg) (some true) (cond (leLC K (d.plus 1)) (some false) (cond (anyF (neF d) K.fs) (some false) none)))
    (cond (leLC K (d.neg.plus 1)) (some false) (cond (anyF (neF d) K.fs) (some false) none))
theorem decEq0_ok {ρ : Rho} {K : Kn} (H : KnOk ρ K) {d : LC} {b : Bool} (h : decEq0 K d = some b) : (d.den ρ = 0 ↔ b = true) := by
  unfold decEq0 at h
  have ne : anyF (neF d) K.fs = true → d.den ρ ≠ 0 := fun h => by
    obtain ⟨f, hf, h2⟩ := anyF_ok h
    exact neF_ok (H.fs f hf) h2
  have fal : d.den ρ ≠ 0 → (d.den ρ = 0 ↔ false = true) := fun h => ⟨fun e => (h e).elim, fun e => by cases e⟩
  cases h1 : leLC K d with
  | true =>
    rw [h1, cond_true] at h
    have a1 := leLC_ok H h1
    cases h2 : leLC K d.neg with
    | true =>
      rw [h2, cond_true] at h; cases h
      have a2 := leLC_ok H h2
      rw [LC.neg_den] at a2
      exact ⟨fun _ => rfl, fun _ => by omega⟩
    | false =>
      rw [h2, cond_false] at h
      cases h3 : leLC K (d.plus 1) with
      | true =>
        rw [h3, cond_true] at h; cases h
        have a2 := leLC_ok H h3
        rw [LC.plus_den] at a2
        exact fal (by omega)
      | false =>
        rw [h3, cond_false] at h
        obtain ⟨h4, h5⟩ := cond_some h
        cases h5
        exact fal (ne h4)
  | false =>
    rw [h1, cond_false] at h
    cases h3 : leLC K (d.neg.plus 1) with
    | true =>
      rw [h3, cond_true] at h; cases h
      have a2 := leLC_ok H h3
      rw [LC.plus_den, LC.neg_den] at a2
      exact fal (by omega)
    | false =>
      rw [h3, cond_false] at h
      obtain ⟨h4, h5⟩ := cond_some h
      cases h5
      exact fal (ne h4)

noncomputable def optNot (o : Option Bool) : Option Bool :=
  match o with
  | some b => some (Bool.not b)
  | none => none
theorem optNot_some {o : Option Bool} {b : Bool} (h : optNot o = some b) : o = some (!b) := by
  cases o with
  | none => cases h
  | some x => simp only [optNot, Option.some.injEq] at h; subst h; simp

noncomputable def decC (K : Kn) (op : BinOp) (x y : IE) : Option Bool :=
  match op with
  | .leq => decLe K ((linE K x).sub (linE K y))
  | .lss => decLe K (((linE K x).sub (linE K y)).plus 1)
  | .geq => decLe K ((linE K y).sub (linE K x))
  | .gtr => decLe K (((linE K y).sub (linE K x)).plus 1)
  | .eql => decEq0 K ((linE K x).sub (linE K y))
  | .neq => optNot (decEq0 K ((linE K x).sub (linE K y)))
  | _ => none
theorem bool_of_iff {p : Prop} [Decidable p] {b : Bool} (h : p ↔ b = true) : decide p = b := by
  cases b with
  | true => exact decide_eq_true (h.2 rfl)
  | false => exact decide_eq_false fun e => by have := h.1 e; cases this
theorem decC_ok {ρ : Rho} {K : Kn} (H : KnOk ρ K) {op : BinOp} {x y : IE} {b : Bool} (h : decC K op x y = some b) : cmpDen op (x.den ρ) (y.den ρ) = b := by
  have hx := linE_ok H x
  have hy := linE_ok H y
  unfold decC at h
  split at h
  · have := decLe_ok H h
    rw [LC.sub_den, hx, hy] at this
    exact bool_of_iff ⟨fun e => this.1 (by omega), fun e => by have := this.2 e; omega⟩
  · have := decLe_ok H h
    rw [LC.plus_den, LC.sub_den, hx, hy] at this
    exact bool_of_iff ⟨fun e => this.1 (by omega), fun e => by have := this.2 e; omega⟩
  · have := decLe_ok H h
    rw [LC.sub_den, hx, hy] at this
    exact bool_of_iff ⟨fun e => this.1 (by omega), fun e => by have := this.2 e; omega⟩
  · have := decLe_ok H h
    rw [LC.plus_den, LC.sub_den, hx, hy] at this
    exact bool_of_iff ⟨fun e => this.1 (by omega), fun e => by have := this.2 e; omega⟩
  · have := decEq0_ok H h
    rw [LC.sub_den, hx, hy] at this
    have h2 := bool_of_iff (p := x.den ρ = y.den ρ) (b := b) ⟨fun e => this.1 (by omega), fun e => by have := this.2 e; omega⟩
    simp only [cmpDen]
    rw [← h2]
    by_cases e : x.den ρ = y.den ρ <;> simp [e]
  · have h := optNot_some h
    have := decEq0_ok H h
    rw [LC.sub_den, hx, hy] at this
    have h2 := bool_of_iff (p := x.den ρ = y.den ρ) (b := !b) ⟨fun e => this.1 (by omega), fun e => by have := this.2 e; omega⟩
    simp only [cmpDen]
    have h3 : b = !(decide (x.den ρ = y.den ρ)) := by rw [h2]; simp
    rw [h3]
    by_cases e : x.den ρ = y.den ρ <;> simp [e, bne]
  · cases h

/-- is it known whether a condition holds? -/
noncomputable def decK (K : Kn) : BE → Option Bool
  | .lit b => some b
  | .not a => optNot (decK K a)
  | .and a b => (match decK K a with
    | some false => some false
    | some true => decK K b
    | none => (match decK K b with
      | some false => some false
      | _ => findA (.and a b) K.bs))
  | .cmp op x y => decC K op x y
  | .iff a b => (match decK K a, decK K b with
    | some x, some y => some (x == y)
    | _, _ => findA (.iff a b) K.bs)
  | .var i => findA (.var i) K.bs
  | .app f a b c => findA (.app f a b c) K.bs
theorem decK_ok {ρ : Rho} {K : Kn} (H : KnOk ρ K) : ∀ (c : BE) (b : Bool), decK K c = some b → c.den ρ = b
  | .lit x, b, h => by simp only [decK, Option.some.injEq] at h; exact h
  | .var i, b, h => by simp only [decK] at h; exact findA_ok H.bs h
  | .app f x y z, b, h => by simp only [decK] at h; exact findA_ok H.bs h
  | .iff x y, b, h => by
    simp only [decK] at h
    split at h
    · rename_i p q hp hq
      cases h
      simp only [BE.den, decK_ok H x p hp, decK_ok H y q hq]
    · exact findA_ok H.bs h
  | .not a, b, h => by
    simp only [decK] at h
    have h := optNot_some h
    simp only [BE.den, decK_ok H a _ h, Bool.not_not]
  | .and a c, b, h => by
    simp only [decK] at h
    split at h
    · rename_i hx; cases h; simp only [BE.den, decK_ok H a false hx, Bool.false_and]
    · rename_i hx; simp only [BE.den, decK_ok H a true hx, decK_ok H c b h, Bool.true_and]
    · split at h
      · rename_i hy; cases h; simp only [BE.den, decK_ok H c false hy, Bool.and_false]
      · exact findA_ok H.bs h
  | .cmp o x y, b, h => by simp only [decK] at h; exact decC_ok H h

noncomputable def Kn.fact (K : Kn) (k : Fk) (x : LC) : Kn := ⟨K.iv, ⟨k, x.l, x.c⟩ :: K.fs, K.bs⟩
noncomputable def Kn.bool (K : Kn) (c : BE) (b : Bool) : Kn := ⟨K.iv, K.fs, ⟨c, b⟩ :: K.bs⟩
theorem KnOk.fact {ρ : Rho} {K : Kn} (H : KnOk ρ K) {k : Fk} {x : LC} (h : (⟨k, x.l, x.c⟩ : Fct).ok ρ) : KnOk ρ (K.fact k x) :=
  ⟨H.iv, fun f hf => (List.mem_cons.1 hf).elim (fun e => e ▸ h) (fun hf => H.fs f hf), H.bs⟩
theorem KnOk.bool {ρ : Rho} {K : Kn} (H : KnOk ρ K) {c : BE} {b : Bool} (h : c.den ρ = b) : KnOk ρ (K.bool c b) :=
  ⟨H.iv, H.fs, fun a ha => (List.mem_cons.1 ha).elim (fun e => by rw [e]; exact h) (fun ha => H.bs a ha)⟩

noncomputable def addC (K : Kn) (b : Bool) (op : BinOp) (x y : IE) : Kn :=
  match op with
  | .leq => K.fact .le (cond b ((linE K x).sub (linE K y)) (((linE K y).sub (linE K x)).plus 1))
  | .lss => K.fact .le (cond b (((linE K x).sub (linE K y)).plus 1) ((linE K y).sub (linE K x)))
  | .geq => K.fact .le (cond b ((linE K y).sub (linE K x)) (((linE K x).sub (linE K y)).plus 1))
  | .gtr => K.fact .le (cond b (((linE K y).sub (linE K x)).plus 1) ((linE K x).sub (linE K y)))
  | .eql => K.fact (cond b .eq .ne) ((linE K x).sub (linE K y))
  | .neq => K.fact (cond b .ne .eq) ((linE K x).sub (linE K y))
  | _ => K
theorem addC_ok {ρ : Rho} {K : Kn} (H : KnOk ρ K) {b : Bool} {op : BinOp} {x y : IE} (h : cmpDen op (x.den ρ) (y.den ρ) = b) : KnOk ρ (addC K b op x y) := by
  have hx := linE_ok H x
  have hy := linE_ok H y
  have e1 := LC.sub_den (ρ := ρ) (linE K x) (linE K y)
  have e2 := LC.sub_den (ρ := ρ) (linE K y) (linE K x)
  have e3 := LC.plus_den (ρ := ρ) 1 ((linE K x).sub (linE K y))
  have e4 := LC.plus_den (ρ := ρ) 1 ((linE K y).sub (linE K x))
  rw [hx, hy] at e1 e2
  unfold LC.den at e1 e2 e3 e4
  unfold addC
  split
  · refine H.fact ?_
    simp only [cmpDen] at h
    cases b with
    | true => have := of_decide_eq_true h; simp only [Fct.ok, cond_true]; omega
    | false => have := of_decide_eq_false h; simp only [Fct.ok, cond_false]; omega
  · refine H.fact ?_
    simp only [cmpDen] at h
    cases b with
    | true => have := of_decide_eq_true h; simp only [Fct.ok, cond_true]; omega
    | false => have := of_decide_eq_false h; simp only [Fct.ok, cond_false]; omega
  · refine H.fact ?_
    simp only [cmpDen] at h
    cases b with
    | true => have := of_decide_eq_true h; simp only [Fct.ok, cond_true]; omega
    | false => have := of_decide_eq_false h; simp only [Fct.ok, cond_false]; omega
  · refine H.fact ?_
    simp only [cmpDen] at h
    cases b with
    | true => have := of_decide_eq_true h; simp only [Fct.ok, cond_true]; omega
    | false => have := of_decide_eq_false h; simp only [Fct.ok, cond_false]; omega
  · refine H.fact ?_
    simp only [cmpDen] at h
    cases b with
    | true => have : x.den ρ = y.den ρ := by simpa using h
              simp only [Fct.ok, cond_true]; omega
    | false => have : x.den ρ ≠ y.den ρ := by simpa using h
               simp only [Fct.ok, cond_false]; omega
  · refine H.fact ?_
    simp only [cmpDen] at h
    cases b with
    | true => have : x.den ρ ≠ y.den ρ := by simpa using h
              simp only [Fct.ok, cond_true]; omega
    | false => have : x.den ρ = y.den ρ := by simpa using h
               simp only [Fct.ok, cond_false]; omega
  · exact H

/-- a condition, taken apart, that is known from now on -/
noncomputable def addK (b : Bool) : BE → Kn → Kn
  | .lit _, K => K
  | .not a, K => addK (Bool.not b) a K
  | .and x y, K => cond b (addK b x (addK b y K)) (match decK K x with
    | some true => addK false y K
    | _ => (match decK K y with
      | some true => addK false x K
      | _ => K.bool (.and x y) b))
  | .cmp op x y, K => addC K b op x y
  | c, K => K.bool c b
theorem addK_ok {ρ : Rho} : ∀ (c : BE) (b : Bool) (K : Kn), KnOk ρ K → c.den ρ = b → KnOk ρ (addK b c K)
  | .lit _, b, K, H, _ => H
  | .not a, b, K, H, h => by
    simp only [addK]
    refine addK_ok a _ K H ?_
    simp only [BE.den] at h
    rw [← h, Bool.not_not]
  | .and x y, b, K, H, h => by
    simp only [addK]
    cases b with
    | true =>
      simp only [BE.den, Bool.and_eq_true] at h
      exact addK_ok x true _ (addK_ok y true K H h.2) h.1
    | false =>
      simp only [cond_false]
      split
      · rename_i hx
        have := decK_ok H x true hx
        simp only [BE.den, this, Bool.true_and] at h
        exact addK_ok y false K H h
      · split
        · rename_i hy
          have := decK_ok H y true hy
          simp only [BE.den, this, Bool.and_true] at h
          exact addK_ok x false K H h
        · exact H.bool h
  | .var i, b, K, H, h => H.bool h
  | .app f x y z, b, K, H, h => H.bool h
  | .iff x y, b, K, H, h => H.bool h
  | .cmp op x y, b, K, H, h => addC_ok H h

noncomputable def addAllK : List BE → Kn → Kn
  | [], K => K
  | c :: cs, K => addK true c (addAllK cs K)
theorem addAllK_ok {ρ : Rho} : ∀ (cs : List BE) (K : Kn), KnOk ρ K → (∀ c ∈ cs, c.den ρ = true) → KnOk ρ (addAllK cs K)
  | [], _, H, _ => H
  | c :: cs, K, H, h => addK_ok c true _ (addAllK_ok cs K H fun d hd => h d (List.mem_cons_of_mem _ hd)) (h c List.mem_cons_self)

/-- bounds of variables, as conditions, and as they are known -/
noncomputable def ivC : List (Nat × Int × Int) → List BE
  | [] => []
  | q :: l => .cmp .leq (.lit q.2.1) (.var q.1) :: .cmp .leq (.var q.1) (.lit q.2.2) :: ivC l
noncomputable def ivT : List (Nat × Int × Int) → PT Iv
  | [] => .nil
  | q :: l => (ivT l).set q.1 ⟨q.2.1, q.2.2⟩
noncomputable def knOf (q : List (Nat × Int × Int)) (cs : List BE) : Kn := addAllK cs ⟨ivT q, [], []⟩
theorem ivT_ok {ρ : Rho} : ∀ (q : List (Nat × Int × Int)), (∀ c ∈ ivC q, c.den ρ = true) → ∀ i v, (ivT q).get i = some v → v.lo ≤ ρ.iv i ∧ ρ.iv i ≤ v.hi
  | [], _, i, v, h => by rw [ivT, PT.get_nil] at h; cases h
  | q :: l, H, i, v, h => by
    rw [ivT, PT.get_set] at h
    by_cases c : i = q.1
    · rw [if_pos c] at h; cases h; subst c
      have h1 := H _ List.mem_cons_self
      have h2 := H _ (List.mem_cons_of_mem _ List.mem_cons_self)
      exact ⟨of_decide_eq_true h1, of_decide_eq_true h2⟩
    · rw [if_neg c] at h
      exact ivT_ok l (fun c hc => H c (List.mem_cons_of_mem _ (List.mem_cons_of_mem _ hc))) i v h
theorem knOf_ok {ρ : Rho} {q : List (Nat × Int × Int)} {cs : List BE} (h1 : ∀ c ∈ ivC q, c.den ρ = true) (h2 : ∀ c ∈ cs, c.den ρ = true) : KnOk ρ (knOf q cs) :=
  addAllK_ok cs _ ⟨ivT_ok q h1, fun _ hf => (List.not_mem_nil hf).elim, fun _ ha => (List.not_mem_nil ha).elim⟩ h2

/-! ## Trees -/
/-- does each way of a tree that can be end so? -/
noncomputable def allK {α : Type} (Q : Kn → α → Bool) (t : T α) : Kn → Bool :=
  @T.rec α (fun _ => Kn → Bool) (fun a K => Q K a)
    (fun c _ _ ih1 ih2 K => match decK K c with
      | some b => cond b (ih1 K) (ih2 K)
      | none => and (ih1 (addK true c K)) (ih2 (addK false c K)))
    (fun _ _ => false) t
theorem allK_ok {α : Type} {ρ : Rho} {Q : Kn → α → Bool} {P : α → Prop} (hQ : ∀ K a, KnOk ρ K → Q K a = true → P a) : ∀ (t : T α) (K : Kn), KnOk ρ K → allK Q t K = true → t.Holds ρ P
  | .ret a, K, H, h => hQ K a H h
  | .fail w, K, H, h => by cases h
  | .br c x y, K, H, h => by
    have h : (match decK K c with
      | some b => cond b (allK Q x K) (allK Q y K)
      | none => and (allK Q x (addK true c K)) (allK Q y (addK false c K))) = true := h
    simp only [T.Holds]
    split at h
    · rename_i b hb
      have hc := decK_ok H c b hb
      cases b with
      | true => rw [hc, if_pos rfl]; exact allK_ok hQ x K H h
      | false => rw [hc, if_neg (by simp)]; exact allK_ok hQ y K H h
    · simp only [Bool.and_eq_true] at h
      cases hc : c.den ρ with
      | true => rw [if_pos rfl]; exact allK_ok hQ x _ (addK_ok c true K H hc) h.1
      | false => rw [if_neg (by simp)]; exact allK_ok hQ y _ (addK_ok c false K H hc) h.2
noncomputable def isTrueK (K : Kn) (r : AV × Heap) : Bool :=
  match r.1 with
  | .bool b => (match decK K b with
    | some b => b
    | none => false)
  | _ => false
end Go.Sx
/-! CLOSED CALLS, TAKEN AS MADE: a call without arguments that hands back true, wherever the listed variables lie as said. -/
namespace Go.Sx
open Go.RowKit

/-- do the listed variables lie as said? -/
noncomputable def globsIn (h : Heap) : List (Nat × List AV) → Bool
  | [] => true
  | g :: l => (match h.cells g.1 with
    | some c => cond (eqAVs c g.2) (globsIn h l) false
    | none => false)
noncomputable def closedOrc (l : List (Nat × List AV)) (args : List AV) (h : Heap) : Option (T (AV × Heap)) :=
  match args with
  | [] => cond (globsIn h l) (some (.ret (.bool (.lit true), h))) none
  | _ => none

/-- values of numbers that are known -/
noncomputable def litVal : AV → Bool
  | .int _ (.lit _) => true
  | .bool (.lit _) => true
  | _ => false
theorem litVal_conc {E E' : Env} {a : AV} (h : litVal a = true) : conc E a = conc E' a := by
  unfold litVal at h
  split at h
  · simp only [conc, IE.den]
  · simp only [conc, BE.den]
  · cases h
theorem litVals_conc {E E' : Env} : ∀ {l : List AV}, lAll litVal l = true → concL E l = concL E' l
  | [], _ => rfl
  | a :: l, h => by
    have h : cond (litVal a) (lAll litVal l) false = true := h
    cases ha : litVal a with
    | false => rw [ha] at h; cases h
    | true => rw [ha] at h; simp only [concL, litVal_conc (E := E) (E' := E') ha, litVals_conc (E := E) (E' := E') h]

theorem cells_get' {h : Heap} {b : Nat} {cs : List AV} (e : h.cells b = some cs) : ∃ el own ext, h.get b = some (.cells cs el own ext) := by
  unfold Heap.cells at e
  split at e
  · rename_i c el own ext hh; cases e; exact ⟨el, own, ext, hh⟩
  · cases e

theorem globsIn_ok {p : Par} {E : Env} {h : Heap} {w0 : Base} {w : World} (HH : HeapOk p E h w0 w) : ∀ (l : List (Nat × List AV)), globsIn h l = true → lAll (fun g : Nat × List AV => and (Nat.ble (g.1 + 1) 1000) (lAll litVal g.2)) l = true → ∀ g ∈ l, GlobIn w E.ρ g
  | [], _, _, g, hg => by cases hg
  | q :: l, h1, h2, g, hg => by
    have h2 : cond (and (Nat.ble (q.1 + 1) 1000) (lAll litVal q.2)) (lAll (fun g : Nat × List AV => and (Nat.ble (g.1 + 1) 1000) (lAll litVal g.2)) l) false = true := h2
    cases hc : and (Nat.ble (q.1 + 1) 1000) (lAll litVal q.2) with
    | false => rw [hc] at h2; cases h2
    | true =>
      rw [hc, cond_true] at h2
      simp only [globsIn] at h1
      split at h1
      · rename_i c hcells
        cases he : eqAVs c q.2 with
        | false => rw [he] at h1; cases h1
        | true =>
          rw [he, cond_true] at h1
          rcases List.mem_cons.1 hg with rfl | hg
          · simp only [Bool.and_eq_true] at hc
            have hlt := ble_t.1 hc.1
            obtain ⟨el, own, ext, g0⟩ := cells_get' hcells
            have v0 := ViewIn.of_heap HH g0
            rw [eqAVs_eq _ _ he] at v0
            obtain ⟨b, base, us, cells, el, fz, q1, q2, q3, q4⟩ := v0
            rw [HH.glob g.1 (by omega)] at q1; cases q1
            exact ⟨by omega, us, cells, el, fz, by rw [← q2]; exact litVals_conc hc.2, q3, fun i hi => by have := q4 i hi; simpa using this⟩
          · exact globsIn_ok HH l h1 h2 g hg
      · cases h1

theorem closedOrc_ok {p : Par} {ty : Nat → Option TI} {tb : Tabs} (B : TabOk p ty tb) {d : Nat} {f : FuncId} {l : List (Nat × List AV)} (hrun : isTrue1 (evalN tb d false f [] (globHeap l)) = true)
    (hl : lAll (fun g : Nat × List AV => and (Nat.ble (g.1 + 1) 1000) (lAll litVal g.2)) l = true) {args : List AV} {h : Heap} {t : T (AV × Heap)} (ho : closedOrc l args h = some t) : CallOk p f args h t := by
  unfold closedOrc at ho
  split at ho
  · cases hc : globsIn h l with
    | false => rw [hc] at ho; cases ho
    | true =>
      rw [hc] at ho
      cases ho
      refine callOk_of fun vs E w0 w Q HH ha k => ?_
      have hg := globsIn_ok HH l hc hl
      simp only [concL, Option.some.injEq] at ha
      subst ha
      obtain ⟨h1, hr⟩ := isTrue1_some hrun
      have key := eval_ok B d f [] (globHeap l) [] (E0 E.ρ) (Base.of w) w (fun r => r = (.bool (.lit true), h1)) (fun cv w' => cv = .bool true ∧ Below w.heap.size w w') (by rw [hr]; rfl) (start_ok hg (HH.ok.of HH.below)) rfl ?_
      · refine ⟨key.1, key.2.mono ?_⟩
        rintro e w' ⟨cv, rfl, rfl, hb⟩
        exact ⟨.bool (.lit true), _, rfl, k, rfl, hb⟩
      · intro v h' E' w' cv q hle HH' hv
        cases q
        simp only [conc, BE.den, Option.some.injEq] at hv
        exact ⟨hv.symm, Base.keeps_below HH'.below⟩
  · cases ho

/-! ## A law's run, over what lies in the world -/
/-- a law hands back true, and leaves what lay: from its tree over views -/
theorem law_view {p : Par} {ty : Nat → Option TI} {tb : Tabs} (B : TabOk p ty tb) {d : Nat} {f : FuncId} {args : List AV} {n : Nat} {l : List (Nat × List AV)} {E : Env} {w : World} {vs : List Value}
    (h : ∀ g ∈ l, ViewIn w E g) (hf : ∀ b, n ≤ b → E.σ b = none) (hg : ∀ b, b < 1000 → E.σ b = some (b, 0)) (hn : E.n ≤ n) (ha : concL E args = some vs)
    (hrun : (evalN tb d false f args (viewHeap n l)).Holds E.ρ (fun r => ∃ b, r.1 = .bool b ∧ b.den E.ρ = true)) (hok : p.okB E.ρ (Base.of w)) :
    Calls p.P f vs.toArray w fun e w' => e = .returned (.bool true) ∧ Below w.heap.size w w' := by
  refine (call_view B h hf hg hn ha (Q := fun v => ∃ b, v = .bool b ∧ b.den E.ρ = true) hrun hok).2.mono ?_
  rintro e w' ⟨v, cv, E', rfl, ⟨b, rfl, hb⟩, hle, hcv, hbl⟩
  simp only [conc, Option.some.injEq] at hcv
  subst hcv
  rw [hle.ρ, hb]
  exact ⟨rfl, hbl⟩
end Go.Sx
namespace Go.Sx
open Go.RowKit
theorem lAll_mem' {α : Type} {p : α → Bool} : ∀ {l : List α}, lAll p l = true → ∀ a ∈ l, p a = true
  | [], _, a, ha => by cases ha
  | x :: l, h, a, ha => by
    have h : cond (p x) (lAll p l) false = true := h
    cases hx : p x with
    | false => rw [hx] at h; cases h
    | true =>
      rw [hx] at h
      rcases List.mem_cons.1 ha with rfl | ha
      · exact hx
      · exact lAll_mem' h a ha
/-- listed variables, as views -/
theorem glob_view {w : World} {ρ : Rho} {l : List (Nat × List AV)} (hl : lAll (fun g : Nat × List AV => and (Nat.ble (g.1 + 1) 1000) (lAll litVal g.2)) l = true) (h : ∀ g ∈ l, GlobIn w ρ g) {E : Env} (hg : ∀ b, b < 1000 → E.σ b = some (b, 0)) : ∀ g ∈ l, ViewIn w E g := by
  intro g hgl
  obtain ⟨h1, vs, cells, el, fz, h2, h3, h4⟩ := h g hgl
  have h5 := lAll_mem' hl g hgl
  simp only [Bool.and_eq_true] at h5
  exact ⟨g.1, 0, vs, cells, el, fz, hg _ h1, by rw [← h2]; exact litVals_conc h5.2, h3, fun i hi => by rw [Nat.zero_add]; exact h4 i hi⟩
end Go.Sx
/-! CALLS, AS THEY ARE SAID, held against their run under linear facts: values alike, not the same text. -/
namespace Go.Sx
open Go.RowKit

/-- alike, in whatever state with these numbers -/
def SameE (ρ : Rho) (a b : AV) : Prop := ∀ E : Env, E.ρ = ρ → conc E a = conc E b
def SameEs (ρ : Rho) (a b : List AV) : Prop := ∀ E : Env, E.ρ = ρ → concL E a = concL E b
mutual
noncomputable def eqS (K : Kn) : AV → AV → Bool
  | .bool a, .bool b => (match decK K a, decK K b with
    | some x, some y => x == y
    | _, _ => eqBE a b)
  | .int k a, .int k' b => and (kindEq k k') (cond (eqIE a b) true (match decEq0 K ((linE K a).sub (linE K b)) with
    | some x => x
    | none => false))
  | .agg x, .agg y => eqSs K x y
  | .tup x, .tup y => eqSs K x y
  | a, b => eqAV a b
noncomputable def eqSs (K : Kn) : List AV → List AV → Bool
  | [], [] => true
  | a :: l, b :: m => cond (eqS K a b) (eqSs K l m) false
  | _, _ => false
end
mutual
theorem eqS_ok {ρ : Rho} {K : Kn} (H : KnOk ρ K) : ∀ (a b : AV), eqS K a b = true → SameE ρ a b := by
  intro a b h
  unfold eqS at h
  split at h
  · rename_i a b
    split at h
    · rename_i x y hx hy
      have h1 := decK_ok H a x hx
      have h2 := decK_ok H b y hy
      intro E hE
      simp only [conc, hE, h1, h2]
      rw [beq_iff_eq.1 h]
    · rw [eqBE_eq _ _ h]; intro E _; rfl
  · rename_i k a k' b
    simp only [Bool.and_eq_true] at h
    obtain ⟨hk, h⟩ := h
    have hk := kindEq_eq hk
    subst hk
    cases he : eqIE a b with
    | true => rw [eqIE_eq _ _ he]; intro E _; rfl
    | false =>
      rw [he, cond_false] at h
      split at h
      · rename_i x hx
        subst h
        have h1 := (decEq0_ok H hx).2 rfl
        rw [LC.sub_den, linE_ok H a, linE_ok H b] at h1
        intro E hE
        simp only [conc, hE]
        rw [show a.den ρ = b.den ρ by omega]
      · cases h
  · rename_i x y
    have := eqSs_ok H x y h
    intro E hE
    simp only [conc, this E hE]
  · rename_i x y
    have := eqSs_ok H x y h
    intro E hE
    simp only [conc, this E hE]
  · rw [eqAV_eq _ _ h]; intro E _; rfl
theorem eqSs_ok {ρ : Rho} {K : Kn} (H : KnOk ρ K) : ∀ (a b : List AV), eqSs K a b = true → SameEs ρ a b
  | [], [], _ => fun _ _ => rfl
  | [], _ :: _, h => by simp [eqSs] at h
  | _ :: _, [], h => by simp [eqSs] at h
  | a :: l, b :: m, h => by
    simp only [eqSs] at h
    cases hab : eqS K a b with
    | false => rw [hab] at h; cases h
    | true =>
      rw [hab, cond_true] at h
      have h1 := eqS_ok H a b hab
      have h2 := eqSs_ok H l m h
      intro E hE
      simp only [concL, h1 E hE, h2 E hE]
end

/-- a value, and the said tree -/
noncomputable def matchU (a : AV) (u : T AV) : Kn → Bool :=
  @T.rec AV (fun _ => Kn → Bool) (fun b K => and (eqS K a b) (pureAV b))
    (fun c _ _ ih1 ih2 K => match decK K c with
      | some b => cond b (ih1 K) (ih2 K)
      | none => and (ih1 (addK true c K)) (ih2 (addK false c K)))
    (fun _ _ => true) u
theorem matchU_ok {ρ : Rho} {a : AV} {P : AV → Prop} : ∀ (u : T AV) (K : Kn), KnOk ρ K → matchU a u K = true → u.Holds ρ P → ∃ b, P b ∧ pureAV b = true ∧ SameE ρ a b
  | .ret b, K, H, h, hu => by
    have h : and (eqS K a b) (pureAV b) = true := h
    simp only [Bool.and_eq_true] at h
    exact ⟨b, hu, h.2, eqS_ok H a b h.1⟩
  | .fail w, K, H, h, hu => hu.elim
  | .br c x y, K, H, h, hu => by
    have h : (match decK K c with
      | some b => cond b (matchU a x K) (matchU a y K)
      | none => and (matchU a x (addK true c K)) (matchU a y (addK false c K))) = true := h
    simp only [T.Holds] at hu
    split at h
    · rename_i b hb
      have hc := decK_ok H c b hb
      cases b with
      | true => rw [hc, if_pos rfl] at hu; exact matchU_ok x K H h hu
      | false => rw [hc, if_neg (by simp)] at hu; exact matchU_ok y K H h hu
    · simp only [Bool.and_eq_true] at h
      cases hc : c.den ρ with
      | true => rw [hc, if_pos rfl] at hu; exact matchU_ok x _ (addK_ok c true K H hc) h.1 hu
      | false => rw [hc, if_neg (by simp)] at hu; exact matchU_ok y _ (addK_ok c false K H hc) h.2 hu
/-- the said tree ends nowhere -/
noncomputable def deadU (u : T AV) : Kn → Bool :=
  @T.rec AV (fun _ => Kn → Bool) (fun _ _ => false)
    (fun c _ _ ih1 ih2 K => match decK K c with
      | some b => cond b (ih1 K) (ih2 K)
      | none => and (ih1 (addK true c K)) (ih2 (addK false c K)))
    (fun _ _ => true) u
theorem deadU_ok {ρ : Rho} {P : AV → Prop} : ∀ (u : T AV) (K : Kn), KnOk ρ K → deadU u K = true → u.Holds ρ P → False
  | .ret b, K, H, h, hu => by cases h
  | .fail w, K, H, h, hu => hu
  | .br c x y, K, H, h, hu => by
    have h : (match decK K c with
      | some b => cond b (deadU x K) (deadU y K)
      | none => and (deadU x (addK true c K)) (deadU y (addK false c K))) = true := h
    simp only [T.Holds] at hu
    split at h
    · rename_i b hb
      have hc := decK_ok H c b hb
      cases b with
      | true => rw [hc, if_pos rfl] at hu; exact deadU_ok x K H h hu
      | false => rw [hc, if_neg (by simp)] at hu; exact deadU_ok y K H h hu
    · simp only [Bool.and_eq_true] at h
      cases hc : c.den ρ with
      | true => rw [hc, if_pos rfl] at hu; exact deadU_ok x _ (addK_ok c true K H hc) h.1 hu
      | false => rw [hc, if_neg (by simp)] at hu; exact deadU_ok y _ (addK_ok c false K H hc) h.2 hu

/-! ## Rules: what follows from some conditions -/
abbrev Rules := List (List BE × BE)
def RulesOk (ρ : Rho) (R : Rules) : Prop := ∀ r ∈ R, (∀ p ∈ r.1, p.den ρ = true) → r.2.den ρ = true
noncomputable def allT (K : Kn) (l : List BE) : Bool := lAll (fun c => match decK K c with
  | some b => b
  | none => false) l
noncomputable def fires (R : Rules) (K : Kn) (c : BE) : Bool :=
  @List.rec (List BE × BE) (fun _ => Bool) false (fun r _ ih => cond (eqBE r.2 c) (cond (allT K r.1) true ih) ih) R
theorem fires_ok {ρ : Rho} {K : Kn} (H : KnOk ρ K) {c : BE} : ∀ {R : Rules}, RulesOk ρ R → fires R K c = true → c.den ρ = true
  | [], _, h => by cases h
  | r :: R, HR, h => by
    have h : cond (eqBE r.2 c) (cond (allT K r.1) true (fires R K c)) (fires R K c) = true := h
    have ih := fires_ok H (R := R) (fun r hr => HR r (List.mem_cons_of_mem _ hr)) (c := c)
    cases he : eqBE r.2 c with
    | false => rw [he] at h; exact ih h
    | true =>
      rw [he, cond_true] at h
      cases ha : allT K r.1 with
      | false => rw [ha] at h; exact ih h
      | true =>
        rw [← eqBE_eq _ _ he]
        refine HR r List.mem_cons_self fun p hp => ?_
        have := lAll_mem' ha p hp
        split at this
        · rename_i b hb; subst this; exact decK_ok H p _ hb
        · cases this
noncomputable def decW (R : Rules) (K : Kn) (c : BE) : Option Bool :=
  match decK K c with
  | some b => some b
  | none => cond (fires R K c) (some true) none
theorem decW_ok {ρ : Rho} {R : Rules} {K : Kn} (HR : RulesOk ρ R) (H : KnOk ρ K) {c : BE} {b : Bool} (h : decW R K c = some b) : c.den ρ = b := by
  unfold decW at h
  split at h
  · rename_i x hx; cases h; exact decK_ok H c _ hx
  · obtain ⟨h1, h2⟩ := cond_some h
    cases h2
    exact fires_ok H HR h1
/-- one tree serves for another one, under what is known and some rules -/
noncomputable def servesW (R : Rules) (u t : T AV) : Kn → Bool :=
  @T.rec AV (fun _ => Kn → Bool) (fun a K => matchU a u K)
    (fun c _ _ ih1 ih2 K => match decW R K c with
      | some b => cond b (ih1 K) (ih2 K)
      | none => and (ih1 (addK true c K)) (ih2 (addK false c K)))
    (fun _ K => deadU u K) t
theorem servesW_ok {ρ : Rho} {R : Rules} (HR : RulesOk ρ R) {P : AV → Prop} {u : T AV} (hu : u.Holds ρ P) : ∀ (t : T AV) (K : Kn), KnOk ρ K → servesW R u t K = true → t.Holds ρ fun a => ∃ b, P b ∧ pureAV b = true ∧ SameE ρ a b
  | .ret a, K, H, h => matchU_ok u K H h hu
  | .fail w, K, H, h => (deadU_ok u K H h hu).elim
  | .br c x y, K, H, h => by
    have h : (match decW R K c with
      | some b => cond b (servesW R u x K) (servesW R u y K)
      | none => and (servesW R u x (addK true c K)) (servesW R u y (addK false c K))) = true := h
    simp only [T.Holds]
    split at h
    · rename_i b hb
      have hc := decW_ok HR H hb
      cases b with
      | true => rw [hc, if_pos rfl]; exact servesW_ok HR hu x K H h
      | false => rw [hc, if_neg (by simp)]; exact servesW_ok HR hu y K H h
    · simp only [Bool.and_eq_true] at h
      cases hc : c.den ρ with
      | true => rw [if_pos rfl]; exact servesW_ok HR hu x _ (addK_ok c true K H hc) h.1
      | false => rw [if_neg (by simp)]; exact servesW_ok HR hu y _ (addK_ok c false K H hc) h.2

/-- a call as it is said: bounds of its variables, and other conditions -/
noncomputable def mkC (f : Nat) (args : List AV) (view : List (Nat × List AV)) (q : List (Nat × Int × Int)) (cs : List BE) (u : T AV) : CSpec := ⟨f, args, view, 2000, ivC q ++ cs, u⟩
noncomputable def CSpec.chkK (c : CSpec) (R : Rules) (q : List (Nat × Int × Int)) (cs : List BE) (run : T (AV × Heap)) : Bool :=
  servesW R c.u (run.bind fun r => .ret r.1) (knOf q cs)

/-- a call as it is said, whatever shows it -/
theorem CSpec.okS {p0 p : Par} {c : CSpec} {run : T (AV × Heap)} (hc : CallOk p0 c.f c.args (viewHeap c.nv c.view) run)
    (hS : ∀ ρ, (∀ d ∈ c.cs, d.den ρ = true) → ∀ P : AV → Prop, c.u.Holds ρ P → (run.bind fun r => .ret r.1).Holds ρ fun a => ∃ b, P b ∧ pureAV b = true ∧ SameE ρ a b) (hnv : 1000 ≤ c.nv) {args : List AV} {h : Heap} {t : T (AV × Heap)} (ho : c.orc args h = some t) (hP : p0.P = p.P := by rfl) (hfree : ∀ ρ m, p0.ok ρ m := by exact fun _ _ => trivial) : CallOk p c.f args h t := by
  unfold CSpec.orc at ho
  split at ho
  · cases ho
  · rename_i B0 h0
    split at ho
    · cases ho
    · rename_i B hB
      split at ho
      · rename_i cs u hcs hu
        cases ho
        intro vs E w0 w Q K k HH ha P
        obtain ⟨hdom, hret⟩ := brAll_holds k
        rw [T.holds_bind] at hret
        obtain ⟨a1, a2, a3⟩ := bdL_ok _ _ _ _ h0
        obtain ⟨c1, c2, c3⟩ := bdVw_ok _ _ _ hB
        have G0 : GoodD E B0 := a2 E vs ha (fun j v h => by cases h)
        have G : GoodD E B := c2 HH G0
        have R : RelD c.nv E (envD c.nv E B) B := envD_rel HH.glob G
        have hargs : concL (envD c.nv E B) c.args = some vs := a3 E (envD c.nv E B) vs (R.sub c1) ha
        have hdom' : ∀ d ∈ c.cs, d.den (rhoD E B) = true := fun d hd => by
          obtain ⟨d', h1, h2⟩ := sBs_ok _ _ hcs d hd
          have := sB_ok R rfl rfl d d' h2
          rw [hdom d' h1] at this
          exact this.symm
        have hV := c3 R rfl rfl HH
        have hview : ∀ g ∈ c.view, ViewIn w (envD c.nv E B) g := fun g hg => by
          have hm : (⟨g.1, none, g.2, g.2, g.2, none⟩ : VS) ∈ c.vs := List.mem_map.2 ⟨g, hg, rfl⟩
          obtain ⟨c', base, vs', cells, el, fz, k1, k2, k3, k4, k5⟩ := (hV _ hm).obj
          exact ⟨c', base, vs', cells, el, fz, k1, k2, k3, k4⟩
        have HS : HeapOk p0 (envD c.nv E B) (viewHeap c.nv c.view) (Base.of w) w := view_ok hview
          (fun b hb => by simp only [envD, sigD]; rw [if_neg (by omega), if_neg (by omega)]) (fun b hb => by simp only [envD, sigD, if_pos hb]) (Nat.le_refl _) (Par.okB_all hfree _ _)
        have hu' := sT_holds R rfl rfl c.u u hu hret
        have hrun := hS _ hdom' _ hu'
        rw [T.holds_bind] at hrun
        obtain ⟨r1, r2⟩ := hc vs (envD c.nv E B) (Base.of w) w (fun r => ∃ b, (∃ v', sV c.nv B b = some v' ∧ (T.ret (v', h)).Holds E.ρ Q) ∧ pureAV b = true ∧ SameE (rhoD E B) r.1 b)
          (fun cv w' => ∃ b v', pureAV b = true ∧ sV c.nv B b = some v' ∧ Q (v', h) ∧ conc (envD c.nv E B) b = some cv ∧ Below w.heap.size w w') hrun HS hargs
          (fun v h' E' w' cv hq hle HH' hv => by
            obtain ⟨b, ⟨v', hs, hQ⟩, hp, hsame⟩ := hq
            refine ⟨b, v', hp, hs, hQ, ?_, Base.keeps_below HH'.below⟩
            rw [← hv, hsame E' hle.ρ]
            exact (conc_pure hle.ρ b hp).symm)
        rw [hP] at r1 r2
        refine ⟨r1, r2.mono ?_⟩
        rintro e w' ⟨cv, rfl, b, v', hp, hs, hQ, hv, hb⟩
        exact ⟨cv, rfl, P v' h E w' cv hQ (Env.le.refl E) (HH.world hb) (by rw [sV_ok R rfl rfl b v' hs]; exact hv)⟩
      · cases ho

theorem CSpec.okR {p0 p : Par} {c : CSpec} {run : T (AV × Heap)} (hc : CallOk p0 c.f c.args (viewHeap c.nv c.view) run)
    (hK : ∀ ρ, (∀ d ∈ c.cs, d.den ρ = true) → ∃ R K, RulesOk ρ R ∧ KnOk ρ K ∧ servesW R c.u (run.bind fun r => .ret r.1) K = true) (hnv : 1000 ≤ c.nv) {args : List AV} {h : Heap} {t : T (AV × Heap)} (ho : c.orc args h = some t) (hP : p0.P = p.P := by rfl) (hfree : ∀ ρ m, p0.ok ρ m := by exact fun _ _ => trivial) : CallOk p c.f args h t :=
  CSpec.okS hc (fun ρ hd P hP => by
    obtain ⟨R, K, hR, hKn, hchk⟩ := hK ρ hd
    exact servesW_ok hR hP _ _ hKn hchk) hnv ho hP hfree

theorem CSpec.okK {p0 p : Par} {c : CSpec} {R : Rules} {q : List (Nat × Int × Int)} {cs0 : List BE} (hcs0 : c.cs = ivC q ++ cs0) {run : T (AV × Heap)} (hc : CallOk p0 c.f c.args (viewHeap c.nv c.view) run) (hchk : c.chkK R q cs0 run = true) (hR : ∀ ρ, (∀ d ∈ ivC q ++ cs0, d.den ρ = true) → RulesOk ρ R) (hnv : 1000 ≤ c.nv) {args : List AV} {h : Heap} {t : T (AV × Heap)} (ho : c.orc args h = some t) (hP : p0.P = p.P := by rfl) (hfree : ∀ ρ m, p0.ok ρ m := by exact fun _ _ => trivial) : CallOk p c.f args h t :=
  CSpec.okR hc (fun ρ hd => by
    rw [hcs0] at hd
    exact ⟨R, knOf q cs0, hR ρ hd, knOf_ok (fun d h => hd d (List.mem_append_left _ h)) (fun d h => hd d (List.mem_append_right _ h)), hchk⟩) hnv ho hP hfree
theorem rules_nil (ρ : Rho) : RulesOk ρ [] := fun _ h => (List.not_mem_nil h).elim

noncomputable def allW {α : Type} (R : Rules) (Q : Kn → α → Bool) (t : T α) : Kn → Bool :=
  @T.rec α (fun _ => Kn → Bool) (fun a K => Q K a)
    (fun c _ _ ih1 ih2 K => match decW R K c with
      | some b => cond b (ih1 K) (ih2 K)
      | none => and (ih1 (addK true c K)) (ih2 (addK false c K)))
    (fun _ _ => false) t
theorem allW_ok {α : Type} {ρ : Rho} {R : Rules} (HR : RulesOk ρ R) {Q : Kn → α → Bool} {P : α → Prop} (hQ : ∀ K a, KnOk ρ K → Q K a = true → P a) : ∀ (t : T α) (K : Kn), KnOk ρ K → allW R Q t K = true → t.Holds ρ P
  | .ret a, K, H, h => hQ K a H h
  | .fail w, K, H, h => by cases h
  | .br c x y, K, H, h => by
    have h : (match decW R K c with
      | some b => cond b (allW R Q x K) (allW R Q y K)
      | none => and (allW R Q x (addK true c K)) (allW R Q y (addK false c K))) = true := h
    simp only [T.Holds]
    split at h
    · rename_i b hb
      have hc := decW_ok HR H hb
      cases b with
      | true => rw [hc, if_pos rfl]; exact allW_ok HR hQ x K H h
      | false => rw [hc, if_neg (by simp)]; exact allW_ok HR hQ y K H h
    · simp only [Bool.and_eq_true] at h
      cases hc : c.den ρ with
      | true => rw [if_pos rfl]; exact allW_ok HR hQ x _ (addK_ok c true K H hc) h.1
      | false => rw [if_neg (by simp)]; exact allW_ok HR hQ y _ (addK_ok c false K H hc) h.2

theorem isTrueK_ok {ρ : Rho} {K : Kn} {r : AV × Heap} (H : KnOk ρ K) (h : isTrueK K r = true) : ∃ b, r.1 = .bool b ∧ b.den ρ = true := by
  unfold isTrueK at h
  split at h
  · rename_i b hb
    split at h
    · rename_i c hc; subst h; exact ⟨_, hb, decK_ok H _ _ hc⟩
    · cases h
  · cases h
end Go.Sx
/-! WHAT A CALL HANDS BACK, BY NAMES OF ITS OWN: variables that stand for it, where some more is known of the numbers. -/
namespace Go.Sx
open Go.RowKit

/-- where a tree ends -/
def T.leaf {α : Type} (ρ : Rho) : T α → Option α
  | .ret a => some a
  | .br c x y => if c.den ρ then x.leaf ρ else y.leaf ρ
  | .fail _ => none
theorem T.leaf_holds {α : Type} {ρ : Rho} {b : α} : ∀ (t : T α), t.leaf ρ = some b → t.Holds ρ fun a => a = b
  | .ret a, h => by simp only [T.leaf, Option.some.injEq] at h; exact h
  | .br c x y, h => by
    simp only [T.leaf] at h
    simp only [T.Holds]
    split at h
    · rename_i hc; rw [if_pos hc]; exact T.leaf_holds x h
    · rename_i hc; rw [if_neg hc]; exact T.leaf_holds y h
  | .fail w, h => by simp [T.leaf] at h

/-! ## Numbers that name the variables below a number alone -/
def varsI (n : Nat) : IE → Bool
  | .lit _ => true
  | .var i => Nat.ble (i + 1) n
  | .bin _ _ a b => and (varsI n a) (varsI n b)
  | .conv _ a => varsI n a
  | .mx a b => and (varsI n a) (varsI n b)
  | .mn a b => and (varsI n a) (varsI n b)
  | .app _ a b c => and (varsI n a) (and (varsI n b) (varsI n c))
def varsB (n : Nat) : BE → Bool
  | .lit _ => true
  | .var _ => true
  | .not a => varsB n a
  | .and a b => and (varsB n a) (varsB n b)
  | .cmp _ a b => and (varsI n a) (varsI n b)
  | .iff a b => and (varsB n a) (varsB n b)
  | .app _ a b c => and (varsI n a) (and (varsI n b) (varsI n c))
theorem varsI_den {n : Nat} {ρ ρ' : Rho} (h : ∀ i, i < n → ρ'.iv i = ρ.iv i) (hf : ρ'.fi = ρ.fi ∧ ρ'.fb = ρ.fb) : ∀ e : IE, varsI n e = true → e.den ρ' = e.den ρ
  | .lit _, _ => rfl
  | .var i, k => h i (ble_t.1 k)
  | .bin op kd a b, k => by
    simp only [varsI, Bool.and_eq_true] at k
    simp only [IE.den, varsI_den h hf a k.1, varsI_den h hf b k.2]
  | .conv kd a, k => by
    simp only [varsI] at k
    simp only [IE.den, varsI_den h hf a k]
  | .mx a b, k => by
    simp only [varsI, Bool.and_eq_true] at k
    simp only [IE.den, varsI_den h hf a k.1, varsI_den h hf b k.2]
  | .mn a b, k => by
    simp only [varsI, Bool.and_eq_true] at k
    simp only [IE.den, varsI_den h hf a k.1, varsI_den h hf b k.2]
  | .app f a b c, k => by
    simp only [varsI, Bool.and_eq_true] at k
    simp only [IE.den, varsI_den h hf a k.1, varsI_den h hf b k.2.1, varsI_den h hf c k.2.2, hf.1]
theorem varsB_den {n : Nat} {ρ ρ' : Rho} (h : ∀ i, i < n → ρ'.iv i = ρ.iv i) (hb : ρ'.bv = ρ.bv) (hf : ρ'.fi = ρ.fi ∧ ρ'.fb = ρ.fb) : ∀ c : BE, varsB n c = true → c.den ρ' = c.den ρ
  | .lit _, _ => rfl
  | .var i, _ => by simp only [BE.den, hb]
  | .not a, k => by
    simp only [varsB] at k
    simp only [BE.den, varsB_den h hb hf a k]
  | .and a b, k => by
    simp only [varsB, Bool.and_eq_true] at k
    simp only [BE.den, varsB_den h hb hf a k.1, varsB_den h hb hf b k.2]
  | .iff a b, k => by
    simp only [varsB, Bool.and_eq_true] at k
    simp only [BE.den, varsB_den h hb hf a k.1, varsB_den h hb hf b k.2]
  | .cmp op a b, k => by
    simp only [varsB, Bool.and_eq_true] at k
    simp only [BE.den, varsI_den h hf a k.1, varsI_den h hf b k.2]
  | .app f a b c, k => by
    simp only [varsB, Bool.and_eq_true] at k
    simp only [BE.den, varsI_den h hf a k.1, varsI_den h hf b k.2.1, varsI_den h hf c k.2.2, hf.2]

/-- a tree's conditions, and its ends -/
def varsT (n : Nat) (P : AV → Bool) : T AV → Bool
  | .ret a => P a
  | .br c x y => and (varsB n c) (and (varsT n P x) (varsT n P y))
  | .fail _ => true
theorem varsT_leaf {n : Nat} {P : AV → Bool} {ρ ρ' : Rho} (h : ∀ i, i < n → ρ'.iv i = ρ.iv i) (hb : ρ'.bv = ρ.bv) (hf : ρ'.fi = ρ.fi ∧ ρ'.fb = ρ.fb) : ∀ t : T AV, varsT n P t = true → t.leaf ρ' = t.leaf ρ ∧ ∀ b, t.leaf ρ = some b → P b = true
  | .ret a, k => ⟨rfl, fun b e => by simp only [T.leaf, Option.some.injEq] at e; subst e; exact k⟩
  | .fail w, _ => ⟨rfl, fun b e => by simp [T.leaf] at e⟩
  | .br c x y, k => by
    simp only [varsT, Bool.and_eq_true] at k
    obtain ⟨k1, k2, k3⟩ := k
    obtain ⟨x1, x2⟩ := varsT_leaf h hb hf x k2
    obtain ⟨y1, y2⟩ := varsT_leaf h hb hf y k3
    simp only [T.leaf, varsB_den h hb hf c k1]
    split
    · exact ⟨x1, x2⟩
    · exact ⟨y1, y2⟩

/-! ## A call whose result has names -/
/-- called just as it is said, with the view's blocks just so: it hands back 'v' -/
noncomputable def CSpec.orcX (c : CSpec) (v : AV) (args : List AV) (h : Heap) : Option (T (AV × Heap)) :=
  cond (and (eqAVs args c.args) (globsIn h c.view)) (some (.ret (v, h))) none

theorem globsIn_get {h : Heap} : ∀ (l : List (Nat × List AV)), globsIn h l = true → ∀ g ∈ l, ∃ el own ext, h.get g.1 = some (.cells g.2 el own ext)
  | [], _, g, hg => (List.not_mem_nil hg).elim
  | q :: l, h1, g, hg => by
    simp only [globsIn] at h1
    split at h1
    · rename_i c hcells
      cases he : eqAVs c q.2 with
      | false => rw [he] at h1; cases h1
      | true =>
        rw [he, cond_true] at h1
        rcases List.mem_cons.1 hg with rfl | hg
        · obtain ⟨el, own, ext, g0⟩ := cells_get' hcells
          exact ⟨el, own, ext, by rw [g0, eqAVs_eq _ _ he]⟩
        · exact globsIn_get l h1 g hg
    · cases h1

theorem CSpec.okX {p0 p : Par} {c : CSpec} {v : AV} {run : T (AV × Heap)} (hc : CallOk p0 c.f c.args (viewHeap c.nv c.view) run)
    (hK : ∀ ρ, (∀ d ∈ c.cs, d.den ρ = true) → ∃ R K, RulesOk ρ R ∧ KnOk ρ K ∧ servesW R c.u (run.bind fun r => .ret r.1) K = true) (hnv : 1000 ≤ c.nv)
    (hids : idsLts c.nv c.args = true) (hvids : lAll (fun g : Nat × List AV => and (Nat.ble (g.1 + 1) c.nv) (idsLts c.nv g.2)) c.view = true)
    (hv : ∀ ρ b, p.okB ρ b → (∀ d ∈ c.cs, d.den ρ = true) ∧ ∃ b, c.u.leaf ρ = some b ∧ SameE ρ v b) {args : List AV} {h : Heap} {t : T (AV × Heap)} (ho : c.orcX v args h = some t)
    (hP : p0.P = p.P := by rfl) (hfree : ∀ ρ m, p0.ok ρ m := by exact fun _ _ => trivial) : CallOk p c.f args h t := by
  unfold CSpec.orcX at ho
  obtain ⟨h1, h2⟩ := cond_some ho
  cases h2
  simp only [Bool.and_eq_true] at h1
  obtain ⟨h1, h2⟩ := h1
  have := eqAVs_eq _ _ h1; subst this
  refine callOk_of fun vs E w0 w Q HH ha k => ?_
  obtain ⟨hcs, b, hleaf, hsame⟩ := hv E.ρ _ HH.ok
  let E' : Env := ⟨E.ρ, fun x => if x < c.nv then E.σ x else none, E.κ, c.nv, fun _ => #[]⟩
  have hσ : ∀ x, x < c.nv → E'.σ x = E.σ x ∧ (E.σ x ≠ none → E'.κ x = E.κ x) := fun x hx => ⟨by simp only [E', if_pos hx], fun _ => rfl⟩
  have ha' : concL E' c.args = some vs := by rw [concL_ids (E := E) (E' := E') rfl hσ c.args hids]; exact ha
  have hview : ∀ g ∈ c.view, ViewIn w E' g := fun g hg => by
    obtain ⟨el, own, ext, g0⟩ := globsIn_get c.view h2 g hg
    have hg2 := lAll_mem' hvids g hg
    simp only [Bool.and_eq_true] at hg2
    have v0 := ViewIn.of_heap HH g0
    exact v0.re (hσ g.1 (ble_t.1 hg2.1)).1 (concL_ids (E := E) (E' := E') rfl hσ g.2 hg2.2)
  have HS : HeapOk p0 E' (viewHeap c.nv c.view) (Base.of w) w := view_ok hview
    (fun x hx => by simp only [E']; rw [if_neg (by omega)]) (fun x hx => by simp only [E']; rw [if_pos (by omega)]; exact HH.glob x hx) (Nat.le_refl _) (Par.okB_all hfree _ _)
  obtain ⟨R', K', hR, hKn, hchk⟩ := hK E.ρ hcs
  have hrun := servesW_ok hR (T.leaf_holds c.u hleaf) _ _ hKn hchk
  rw [T.holds_bind] at hrun
  obtain ⟨r1, r2⟩ := hc vs E' (Base.of w) w (fun r => ∃ b', b' = b ∧ pureAV b' = true ∧ SameE E.ρ r.1 b') (fun cv w' => conc E v = some cv ∧ Below w.heap.size w w') hrun HS ha'
    (fun v' h' E2 w' cv hq hle HH' hv' => by
      obtain ⟨b', rfl, hp, hs⟩ := hq
      refine ⟨?_, Base.keeps_below HH'.below⟩
      have hρ : E2.ρ = E.ρ := hle.ρ
      rw [← hv', hs E2 hρ, hsame E rfl]
      exact (conc_pure (E := E2) (E' := E) hρ.symm b' hp))
  rw [hP] at r1 r2
  refine ⟨r1, r2.mono ?_⟩
  rintro e w' ⟨cv, rfl, hcv, hb⟩
  exact ⟨v, cv, rfl, k, hcv, hb⟩

/-! ## Where more is known of the numbers -/
theorem HeapOk.re {P : Program} {RC : Nat → Nat → List Nat → Code → Code → Prop} {ok ok' : Rho → (Nat → Obj → Prop) → Prop} {E : Env} {h : Heap} {w0 : Base} {w : World} (H : HeapOk ⟨P, RC, ok⟩ E h w0 w) (hok : Par.okB ⟨P, RC, ok'⟩ E.ρ w0) : HeapOk ⟨P, RC, ok'⟩ E h w0 w :=
  ⟨fun b o e => by have := H.obj b o e; cases o <;> exact this, H.inj, H.base, H.ro, H.fresh, H.lt, H.glob, H.below, H.nx, hok⟩
theorem CallOk.lift {P : Program} {RC : Nat → Nat → List Nat → Code → Code → Prop} {ok : Rho → (Nat → Obj → Prop) → Prop} {f : FuncId} {args : List AV} {h : Heap} {t : T (AV × Heap)} (H : CallOk ⟨P, RC, fun _ _ => True⟩ f args h t) : CallOk ⟨P, RC, ok⟩ f args h t := by
  intro vs E w0 w Q K k HH ha P'
  exact H vs E w0 w Q K k (HH.re (Par.okB_all (fun _ _ => trivial) _ _)) ha fun v h' E' w' cv q hle HH' hv => P' v h' E' w' cv q hle (HH'.re (by rw [hle.ρ]; exact HH.ok)) hv

/-! ## Trees that end somewhere -/
def noFail {α : Type} : T α → Bool
  | .ret _ => true
  | .br _ x y => and (noFail x) (noFail y)
  | .fail _ => false
theorem noFail_leaf {α : Type} {ρ : Rho} : ∀ t : T α, noFail t = true → ∃ b, t.leaf ρ = some b
  | .ret a, _ => ⟨a, rfl⟩
  | .fail w, h => by cases h
  | .br c x y, h => by
    simp only [noFail, Bool.and_eq_true] at h
    obtain ⟨a, ha⟩ := noFail_leaf (ρ := ρ) x h.1
    obtain ⟨b, hb⟩ := noFail_leaf (ρ := ρ) y h.2
    simp only [T.leaf]
    split
    · exact ⟨a, ha⟩
    · exact ⟨b, hb⟩
end Go.Sx
/-! CALLS WHOSE RESULTS HAVE NAMES, whatever they mean: what a run ends with, where more is known of the numbers. -/
namespace Go.Sx
open Go.RowKit
theorem T.holds_leaf {α : Type} {ρ : Rho} {P : α → Prop} : ∀ t : T α, t.Holds ρ P → ∃ b, t.leaf ρ = some b ∧ P b
  | .ret a, h => ⟨a, rfl, h⟩
  | .fail w, h => absurd h id
  | .br c x y, h => by
    simp only [T.Holds] at h
    simp only [T.leaf]
    split at h
    · rename_i hc; rw [if_pos hc]; exact T.holds_leaf x h
    · rename_i hc; rw [if_neg hc]; exact T.holds_leaf y h
theorem T.leaf_of {α : Type} {ρ : Rho} {P : α → Prop} {t : T α} {b : α} (h : t.Holds ρ P) (e : t.leaf ρ = some b) : P b := by
  obtain ⟨b', e', p⟩ := T.holds_leaf t h
  rw [e] at e'; cases e'; exact p
/-- called just as it is said, with the view's blocks just so, on its terms: it hands back what the tree says -/
noncomputable def CSpec.orcY (c : CSpec) (u : T AV) (args : List AV) (h : Heap) : Option (T (AV × Heap)) :=
  cond (and (eqAVs args c.args) (globsIn h c.view)) (some (brAll (u.bind fun v => .ret (v, h)) c.cs)) none
theorem CSpec.okY {p0 p : Par} {c : CSpec} {u : T AV} {run : T (AV × Heap)} (hc : CallOk p0 c.f c.args (viewHeap c.nv c.view) run) (hnv : 1000 ≤ c.nv)
    (hids : idsLts c.nv c.args = true) (hvids : lAll (fun g : Nat × List AV => and (Nat.ble (g.1 + 1) c.nv) (idsLts c.nv g.2)) c.view = true)
    (hv : ∀ ρ b, p.okB ρ b → (∀ d ∈ c.cs, d.den ρ = true) → ∃ v v', (run.bind fun r => T.ret r.1).leaf ρ = some v ∧ idsLt c.nv v = true ∧ (∀ E vs, E.ρ = ρ → concL E c.args = some vs → ∃ x, conc E v = some x) ∧ u.leaf ρ = some v' ∧ SameE ρ v v') {args : List AV} {h : Heap} {t : T (AV × Heap)} (ho : c.orcY u args h = some t)
    (hP : p0.P = p.P) (hfree : ∀ ρ b b', p.okB ρ b → p0.okB ρ b') : CallOk p c.f args h t := by
  unfold CSpec.orcY at ho
  obtain ⟨h1, h2⟩ := cond_some ho
  cases h2
  simp only [Bool.and_eq_true] at h1
  obtain ⟨h1, h2⟩ := h1
  have := eqAVs_eq _ _ h1; subst this
  refine callOk_of fun vs E w0 w Q HH ha k => ?_
  obtain ⟨hcs, hret⟩ := brAll_holds k
  rw [T.holds_bind] at hret
  obtain ⟨b, b', hleaf, hidb, hdef, huleaf, hsame⟩ := hv E.ρ _ HH.ok hcs
  let E' : Env := ⟨E.ρ, fun x => if x < c.nv then E.σ x else none, E.κ, c.nv, fun _ => #[]⟩
  have hσ : ∀ x, x < c.nv → E'.σ x = E.σ x ∧ (E.σ x ≠ none → E'.κ x = E.κ x) := fun x hx => ⟨by simp only [E', if_pos hx], fun _ => rfl⟩
  have ha' : concL E' c.args = some vs := by rw [concL_ids (E := E) (E' := E') rfl hσ c.args hids]; exact ha
  have hview : ∀ g ∈ c.view, ViewIn w E' g := fun g hg => by
    obtain ⟨el, own, ext, g0⟩ := globsIn_get c.view h2 g hg
    have hg2 := lAll_mem' hvids g hg
    simp only [Bool.and_eq_true] at hg2
    have v0 := ViewIn.of_heap HH g0
    exact v0.re (hσ g.1 (ble_t.1 hg2.1)).1 (concL_ids (E := E) (E' := E') rfl hσ g.2 hg2.2)
  have HS : HeapOk p0 E' (viewHeap c.nv c.view) (Base.of w) w := view_ok hview
    (fun x hx => by simp only [E']; rw [if_neg (by omega)]) (fun x hx => by simp only [E']; rw [if_pos (by omega)]; exact HH.glob x hx) (Nat.le_refl _) (hfree _ _ _ HH.ok)
  have hrun := T.leaf_holds _ hleaf
  rw [T.holds_bind] at hrun
  obtain ⟨r1, r2⟩ := hc vs E' (Base.of w) w (fun r => r.1 = b) (fun cv w' => conc E b' = some cv ∧ Below w.heap.size w w') hrun HS ha'
    (fun v' h' E2 w' cv hq hle HH' hv' => by
      obtain rfl := hq
      refine ⟨?_, Base.keeps_below HH'.below⟩
      obtain ⟨x, hx⟩ := hdef E' vs rfl ha'
      have hx2 := conc_mono hle.tole0 _ _ hx
      rw [← hsame E rfl, ← conc_ids (E := E) (E' := E') rfl hσ _ hidb, hx, ← hx2, hv'])
  rw [hP] at r1 r2
  refine ⟨r1, r2.mono ?_⟩
  rintro e w' ⟨cv, rfl, hcv, hb⟩
  exact ⟨b', cv, rfl, T.leaf_of (P := fun a => Q (a, h)) hret huleaf, hcv, hb⟩
end Go.Sx
/-! CALLS WHOSE RESULTS HAVE NAMES: values that mean the same wherever the blocks lie alike. -/
namespace Go.Sx
open Go.RowKit
theorem CSpec.okZ {p0 p : Par} {c : CSpec} {u : T AV} {run : T (AV × Heap)} (hc : CallOk p0 c.f c.args (viewHeap c.nv c.view) run) (hnv : 1000 ≤ c.nv)
    (hids : idsLts c.nv c.args = true) (hvids : lAll (fun g : Nat × List AV => and (Nat.ble (g.1 + 1) c.nv) (idsLts c.nv g.2)) c.view = true)
    (hv : ∀ ρ b, p.okB ρ b → (∀ d ∈ c.cs, d.den ρ = true) → ∃ v v', (run.bind fun r => T.ret r.1).leaf ρ = some v ∧ (∀ E E' : Env, E.ρ = ρ → E'.ρ = ρ → (∀ b, b < c.nv → E'.σ b = E.σ b ∧ (E.σ b ≠ none → E'.κ b = E.κ b)) → conc E' v = conc E v) ∧ (∀ E vs, E.ρ = ρ → concL E c.args = some vs → ∃ x, conc E v = some x) ∧ u.leaf ρ = some v' ∧ SameE ρ v v') {args : List AV} {h : Heap} {t : T (AV × Heap)} (ho : c.orcY u args h = some t)
    (hP : p0.P = p.P) (hfree : ∀ ρ b b', p.okB ρ b → p0.okB ρ b') : CallOk p c.f args h t := by
  unfold CSpec.orcY at ho
  obtain ⟨h1, h2⟩ := cond_some ho
  cases h2
  simp only [Bool.and_eq_true] at h1
  obtain ⟨h1, h2⟩ := h1
  have := eqAVs_eq _ _ h1; subst this
  refine callOk_of fun vs E w0 w Q HH ha k => ?_
  obtain ⟨hcs, hret⟩ := brAll_holds k
  rw [T.holds_bind] at hret
  obtain ⟨b, b', hleaf, hidb, hdef, huleaf, hsame⟩ := hv E.ρ _ HH.ok hcs
  let E' : Env := ⟨E.ρ, fun x => if x < c.nv then E.σ x else none, E.κ, c.nv, fun _ => #[]⟩
  have hσ : ∀ x, x < c.nv → E'.σ x = E.σ x ∧ (E.σ x ≠ none → E'.κ x = E.κ x) := fun x hx => ⟨by simp only [E', if_pos hx], fun _ => rfl⟩
  have ha' : concL E' c.args = some vs := by rw [concL_ids (E := E) (E' := E') rfl hσ c.args hids]; exact ha
  have hview : ∀ g ∈ c.view, ViewIn w E' g := fun g hg => by
    obtain ⟨el, own, ext, g0⟩ := globsIn_get c.view h2 g hg
    have hg2 := lAll_mem' hvids g hg
    simp only [Bool.and_eq_true] at hg2
    have v0 := ViewIn.of_heap HH g0
    exact v0.re (hσ g.1 (ble_t.1 hg2.1)).1 (concL_ids (E := E) (E' := E') rfl hσ g.2 hg2.2)
  have HS : HeapOk p0 E' (viewHeap c.nv c.view) (Base.of w) w := view_ok hview
    (fun x hx => by simp only [E']; rw [if_neg (by omega)]) (fun x hx => by simp only [E']; rw [if_pos (by omega)]; exact HH.glob x hx) (Nat.le_refl _) (hfree _ _ _ HH.ok)
  have hrun := T.leaf_holds _ hleaf
  rw [T.holds_bind] at hrun
  obtain ⟨r1, r2⟩ := hc vs E' (Base.of w) w (fun r => r.1 = b) (fun cv w' => conc E b' = some cv ∧ Below w.heap.size w w') hrun HS ha'
    (fun v' h' E2 w' cv hq hle HH' hv' => by
      obtain rfl := hq
      refine ⟨?_, Base.keeps_below HH'.below⟩
      obtain ⟨x, hx⟩ := hdef E' vs rfl ha'
      have hx2 := conc_mono hle.tole0 _ _ hx
      rw [← hsame E rfl, ← hidb E E' rfl rfl hσ, hx, ← hx2, hv'])
  rw [hP] at r1 r2
  refine ⟨r1, r2.mono ?_⟩
  rintro e w' ⟨cv, rfl, hcv, hb⟩
  exact ⟨b', cv, rfl, T.leaf_of (P := fun a => Q (a, h)) hret huleaf, hcv, hb⟩
end Go.Sx
/-! CALLS WHOSE RESULTS HAVE NAMES, with blocks under other numbers, and new blocks: what a run ends with, number by number. -/
namespace Go.Sx
open Go.RowKit
/-- a block whose numbers are alike -/
def SameO (ρ : Rho) (o : AObj) (q : NB) : Prop :=
  match q with
  | .cells cs el ext => ∃ cs' more, o = .cells (cs' ++ more) el true ext ∧ SameEs ρ cs' cs ∧ (more = [] ∨ ext = true)
  | .map es k => o = .map es k
theorem SameO.own {ρ : Rho} {o : AObj} {q : NB} (h : SameO ρ o q) : ownO o = true := by
  cases q with
  | cells cs el ext => obtain ⟨cs', more, rfl, _⟩ := h; rfl
  | map es k => have h : o = .map es k := h; subst h; rfl
theorem concL_split {E : Env} : ∀ {l m : List AV} {vs : List Value}, concL E (l ++ m) = some vs → ∃ us ws, concL E l = some us ∧ concL E m = some ws ∧ vs = us ++ ws
  | [], m, vs, h => ⟨[], vs, rfl, h, rfl⟩
  | a :: l, m, vs, h => by
    obtain ⟨x, r, h1, h2, rfl⟩ := concL_cons.1 h
    obtain ⟨us, ws, k1, k2, rfl⟩ := concL_split h2
    exact ⟨x :: us, ws, concL_cons.2 ⟨x, us, h1, k1, rfl⟩, k2, rfl⟩
theorem SameO.obj {p : Par} {E : Env} {b : Nat} {o : AObj} {q : NB} {heap : Array Obj} (h : SameO E.ρ o q) (H : objOk p E b o heap) : objOk p E b q.raw heap := by
  cases q with
  | cells cs el ext =>
    obtain ⟨cs', more, rfl, hs, hm⟩ := h
    obtain ⟨c, base, vs, cells, el', fz, k1, k2, k3, k4, k5⟩ := H
    obtain ⟨us, ws, u1, u2, rfl⟩ := concL_split k2
    refine ⟨c, base, us, cells, el', fz, k1, by rw [← hs E rfl]; exact u1, k3, fun i hi => ?_, fun ho => ?_⟩
    · rw [k4 i (by rw [List.length_append]; omega), List.getElem?_append_left hi]
    · obtain ⟨a1, a2, a3, a4⟩ := k5 ho
      refine ⟨a1, a2, fun he => ?_, a4⟩
      rcases hm with rfl | hm
      · have : ws = [] := by simpa [concL] using u2
        subst this
        rw [a3 he]; simp
      · rw [hm] at he; cases he
  | map es k => have h : o = .map es k := h; subst h; exact H
noncomputable def putN : List (Nat × NB) → Heap → Heap
  | [], h => h
  | q :: l, h => (putN l h).put q.1 q.2.raw
theorem putN_get : ∀ (l : List (Nat × NB)) (h : Heap) (n : Nat), rises n l = true → ∀ q ∈ l, (putN l h).get q.1 = some q.2.raw
  | [], _, _, _, q, hq => (List.not_mem_nil hq).elim
  | p :: l, h, n, hr, q, hq => by
    have hr0 := hr
    simp only [rises] at hr
    obtain ⟨h1, h2⟩ : Nat.ble n p.1 = true ∧ rises (Nat.succ p.1) l = true := by
      cases h1 : Nat.ble n p.1 with
      | false => rw [h1] at hr; cases hr
      | true => rw [h1] at hr; exact ⟨rfl, hr⟩
    simp only [putN]
    rw [Heap.get_put]
    rcases List.mem_cons.1 hq with rfl | hq
    · rw [if_pos rfl]
    · have := rises_ge l _ h2 q hq
      rw [if_neg (by omega)]
      exact putN_get l h _ h2 q hq
theorem putN_next : ∀ (l : List (Nat × NB)) (h : Heap), (putN l h).next = h.next
  | [], _ => rfl
  | _ :: l, h => by simp only [putN]; rw [Heap.next_put]; exact putN_next l h
theorem putN_ok {p : Par} {E : Env} {w0 : Base} {w : World} : ∀ (l : List (Nat × NB)) (h : Heap), HeapOk p E h w0 w → (∀ q ∈ l, ∃ o, h.get q.1 = some o ∧ SameO E.ρ o q.2) → HeapOk p E (putN l h) w0 w ∧ ∀ j o, (putN l h).get j = some o → ∃ o0, h.get j = some o0 ∧ (ownO o0 = ownO o) ∧ (roO o0 = roO o)
  | [], h, H, _ => ⟨H, fun j o e => ⟨o, e, rfl, rfl⟩⟩
  | q :: l, h, H, hs => by
    obtain ⟨H1, g1⟩ := putN_ok l h H fun q' hq' => hs q' (List.mem_cons_of_mem _ hq')
    obtain ⟨o, ho, hso⟩ := hs q List.mem_cons_self
    have hob := hso.obj (H.obj _ _ ho)
    have hown : ownO q.2.raw = true := q.2.raw_own
    have hro : ∀ x : AObj, ownO x = true → roO x = false := fun x hx => by cases x <;> simp_all [ownO, roO]
    have back : ∀ j x, ((putN l h).put q.1 q.2.raw).get j = some x → ∃ o0, h.get j = some o0 ∧ (ownO o0 = ownO x) ∧ (roO o0 = roO x) := fun j x e => by
      rw [Heap.get_put] at e
      split at e
      · rename_i hj; subst hj; cases e
        exact ⟨o, ho, by rw [hso.own, hown], by rw [hro _ hso.own, hro _ hown]⟩
      · exact g1 j x e
    refine ⟨⟨fun b x e => ?_, fun b b' x x' c y z e e' w1 w2 s1 s2 => ?_, fun b x c y e w1 s => ?_, fun b x c y e r1 s => ?_, fun b hb => H.fresh b (by rw [putN_next] at hb; exact hb), fun b x c y e s => ?_, H.glob, H.below, (by rw [putN_next]; exact H.nx), H.ok⟩, back⟩
    · have e0 := e
      simp only [putN] at e
      rw [Heap.get_put] at e
      split at e
      · rename_i hj; subst hj; cases e; exact hob
      · exact H1.obj b x e
    · obtain ⟨o1, a1, a2, _⟩ := back _ _ e
      obtain ⟨o2, b1, b2, _⟩ := back _ _ e'
      exact H.inj _ _ _ _ _ _ _ a1 b1 (a2.trans w1) (b2.trans w2) s1 s2
    · obtain ⟨o1, a1, a2, _⟩ := back _ _ e
      exact H.base _ _ _ _ a1 (a2.trans w1) s
    · obtain ⟨o1, a1, _, a3⟩ := back _ _ e
      exact H.ro _ _ _ _ a1 (a3.trans r1) s
    · obtain ⟨o1, a1, _, _⟩ := back _ _ e
      exact H.lt _ _ _ _ a1 s
/-- A CALL WHOSE RESULT HAS NAMES: it meets what is said of it, on its terms; what its run ends with is that, number by number. -/
theorem meetN {p : Par} {ty : Nat → Option TI} {tb : Tabs} (B : TabOk p ty tb) {d : Nat} {f : FuncId} {args0 : List AV} {n : Nat} {view : List (Nat × VO)} (hst : and (Nat.ble 1000 n) (and (viewUp 0 view) (outsOk n view [])) = true) {args : List AV} {h : Heap} {cs : List BE} {rr : AV × Heap}
    (hsem : ∀ ρ b, p.okB ρ b → (∀ c ∈ cs, c.den ρ = true) → ∃ res news r1, rises n news = true ∧ (Ent.mk f args0 n view res news []).meet args h = some (.ret rr) ∧ (evalN tb d false f args0 (viewO n view)).leaf ρ = some r1 ∧ SameE ρ r1.1 res ∧
      ∀ q ∈ news, ∃ o, r1.2.get q.1 = some o ∧ SameO ρ o q.2) : CallOk p f args h (brAll (.ret rr) cs) := by
  intro vs E w0 w Q K k0 HH ha P
  obtain ⟨hcs, k⟩ := brAll_holds k0
  obtain ⟨res, news, ⟨v1, h1⟩, k3, hm, hleaf, hsame, hnews⟩ := hsem E.ρ _ HH.ok hcs
  let e : Ent := Ent.mk f args0 n view res news []
  have hm : e.meet args h = some (.ret rr) := hm
  simp only [Bool.and_eq_true] at hst
  obtain ⟨k4, k6, k7⟩ := hst
  unfold Ent.meet at hm
  split at hm
  · rename_i r0 h0
    split at hm
    · rename_i r hr
      obtain ⟨hinj, hm⟩ := cond_some hm
      split at hm
      · rename_i v hv
        split at hm
        · rename_i h2 hn
          split at hm
          · rename_i h3 hp
            cases hm
            obtain ⟨s0, m0⟩ := mtL_ok _ _ _ _ h0
            obtain ⟨s1, m1⟩ := mtView_ok _ _ _ hr
            have R : Rel e.n E (envR e.n E r) r := envR_rel HH.glob
            · -- (what the run ends with)
              have hn1 : 1000 ≤ e.n := ble_t.1 k4
              obtain ⟨o1, o2⟩ := outsOk_own _ _ k7
              have hargs : concL (envR e.n E r) e.args = some vs := by rw [m0 E _ (R.sub s1)]; exact ha
              have hview := m1 R HH
              have h1000 : ∀ b, b < 1000 → (envR e.n E r).σ b = some (b, 0) := fun b hb => by simp only [envR, if_pos hb]
              have res1000 : ∀ b c, 1000 ≤ b → (cond (Nat.ble (Nat.succ b) 1000) (some b) (cond (Nat.ble (Nat.succ b) e.n) (lFind r b) none)) = some c → lFind r b = some c := fun b c hb hc => by
                have k1 : Nat.ble (Nat.succ b) 1000 = false := by
                  cases hk : Nat.ble (Nat.succ b) 1000 with
                  | false => rfl
                  | true => have := ble_t.1 hk; omega
                rw [k1, cond_false] at hc
                exact (cond_some hc).2
              -- what may be written lies where it may be
              have outR : ∀ q ∈ e.outs, 1000 ≤ q.1 ∧ q.1 < e.n ∧ ∃ g ∈ e.view, g.1 = q.1 ∧ g.2.isOwn = true ∧ ∃ j o, lFind r q.1 = some j ∧ h.get j = some o ∧ ownO o = true ∧ (envR e.n E r).σ q.1 = E.σ j := fun q hq => by
                obtain ⟨b1, b2, g, b3, b4, b5⟩ := o2 q hq
                obtain ⟨b, o, c1, c2, c3, c4, c5⟩ := (hview g b3).at_
                rw [b4] at c1 c3
                exact ⟨b1, b2, g, b3, b4, b5, b, o, res1000 _ _ b1 c1, c2, c4 b5, c3⟩
              have inj : e.outs ≠ [] → injR r = true := fun hne => absurd rfl hne
              let b1 : Base := ⟨w, fun c => c < w.heap.size ∧ ∀ q ∈ e.outs, ∀ x, (envR e.n E r).σ q.1 ≠ some (c, x), fun c hc => hc.1⟩
              have hvo : HeapOk p (envR e.n E r) (viewO e.n e.view) b1 w := by
                have obj : ∀ b o, (viewO e.n e.view).get b = some o → objOk p (envR e.n E r) b o w.heap := fun b o ho => by
                  obtain ⟨g, hg, rfl, rfl⟩ := viewO_get _ _ _ _ ho
                  exact (hview g hg).obj
                have lt : ∀ b o c x, (viewO e.n e.view).get b = some o → (envR e.n E r).σ b = some (c, x) → c < w.heap.size := fun b o c x ho hs => by
                  obtain ⟨g, hg, rfl, rfl⟩ := viewO_get _ _ _ _ ho
                  obtain ⟨b', o', c1, c2, c3, c4, c5⟩ := (hview g hg).at_
                  rw [c3] at hs
                  exact HH.lt _ _ _ _ c2 hs
                have own : ∀ b o, (viewO e.n e.view).get b = some o → ownO o = true → ∃ q ∈ e.outs, q.1 = b := fun b o ho hw => by
                  obtain ⟨g, hg, rfl, rfl⟩ := viewO_get _ _ _ _ ho
                  rw [VO.own_obj] at hw
                  exact o1 g hg hw
                have same : ∀ q ∈ e.outs, ∀ b o c x y, (viewO e.n e.view).get b = some o → (envR e.n E r).σ b = some (c, x) → (envR e.n E r).σ q.1 = some (c, y) → b = q.1 := by
                  intro q hq b o c x y ho hs hs'
                  have hi := injR_ok (inj (fun h0 => by rw [h0] at hq; cases hq))
                  obtain ⟨d1, d2, g', d3, d4, d5, j, o', d6, d7, d8, d9⟩ := outR q hq
                  obtain ⟨g, hg, rfl, rfl⟩ := viewO_get _ _ _ _ ho
                  obtain ⟨b', o2, c1, c2, c3, c4, c5⟩ := (hview g hg).at_
                  rw [c3] at hs
                  rw [d9] at hs'
                  have hj : b' = j := by
                    rcases c5 with c5 | c5
                    · exact HH.inj _ _ _ _ _ _ _ c2 d7 c5 d8 hs hs'
                    · exact absurd (HH.ro _ _ _ _ c2 c5 hs) (HH.base _ _ _ _ d7 d8 hs')
                  subst hj
                  rcases Nat.lt_or_ge g.1 1000 with hlt | hge
                  · have : g.1 = b' := by
                      have k1 : Nat.ble (Nat.succ g.1) 1000 = true := ble_t.2 hlt
                      rw [k1, cond_true] at c1; exact Option.some.inj c1
                    have := (hi.1 _ _ d6).1
                    omega
                  · exact hi.2 _ _ _ (res1000 _ _ hge c1) d6
                refine ⟨obj, fun b b' o o' c x y g1 g2 w1 w2 s1 s2 => ?_, fun b o c x ho hw hs hc => ?_, fun b o c y ho hr hs => ?_, fun b hb => ?_, lt, h1000, Kept.refl _ _, (by rw [viewO_next]; exact Nat.le_refl _), HH.ok.mono fun c o e' => ⟨⟨HH.below.lt e'.1, fun q hq x hx => ?_⟩, Base.Keeps.has HH.below e'⟩⟩
                · obtain ⟨q, hq, e1⟩ := own _ _ g2 w2
                  rw [← e1] at s2
                  rw [← e1]
                  exact same q hq _ _ _ _ _ g1 s1 s2
                · obtain ⟨q, hq, e1⟩ := own _ _ ho hw
                  rw [← e1] at hs
                  exact hc.2 q hq x hs
                · refine ⟨lt _ _ _ _ ho hs, fun q hq x hx => ?_⟩
                  have hb := same q hq _ _ _ _ _ ho hs hx
                  obtain ⟨d1, d2, g', d3, d4, d5, _⟩ := outR q hq
                  obtain ⟨g, hg, e1, rfl⟩ := viewO_get _ _ _ _ ho
                  have := viewUp_inj _ _ k6 g hg g' d3 (by rw [e1, hb, d4])
                  subst this
                  rw [VO.ro_obj, d5] at hr; cases hr
                · rw [viewO_next] at hb
                  simp only [envR]; rw [if_neg (by omega), if_neg (by omega)]
                · obtain ⟨d1, d2, g', d3, d4, d5, j, o', d6, d7, d8, d9⟩ := outR q hq
                  rw [d9] at hx
                  exact HH.base _ _ _ _ d7 d8 hx e'.1
              have key := eval_ok B d e.f e.args (viewO e.n e.view) vs (envR e.n E r) b1 w (fun r => r = (v1, h1)) (fun cv w' => ∃ E1, (envR e.n E r).le E1 ∧ HeapOk p E1 h1 b1 w' ∧ conc E1 v1 = some cv)
                (T.leaf_holds _ hleaf) hvo hargs ?_
              · refine ⟨key.1, key.2.mono ?_⟩
                rintro ex w' ⟨cv, rfl, E1, hle, H1, hcv⟩
                have hρ : E1.ρ = E.ρ := hle.ρ
                obtain ⟨H2, _⟩ := putN_ok e.news h1 H1 (fun q hq => by
                  obtain ⟨o, o1, o2⟩ := hnews q hq
                  exact ⟨o, o1, by rw [hρ]; exact o2⟩)
                obtain ⟨z1, z2, z3⟩ := HH.merge (outs := e.outs) H2 rfl (fun c => Iff.rfl) hle k3 (fun q hq => putN_get _ _ _ k3 q hq)
                  (fun q hq => (List.not_mem_nil hq).elim) hn hp
                have hcv : conc E1 e.res = some cv := by rw [← hsame E1 hρ]; exact hcv
                exact ⟨cv, rfl, P v h3 _ w' cv k z1 z3 (rnV_ok z2 _ _ _ hv hcv)⟩
              · intro v' h' E' w' cv q hle HH' hv'
                cases q
                exact ⟨E', hle, HH', hv'⟩
          · cases hm
        · cases hm
      · cases hm
    · cases hm
  · cases hm
end Go.Sx
/-! NUMBERS THAT ARE KNOWN, RECKONED: a call that is taken as made, with what it hands back reckoned. -/
namespace Go.Sx
open Go.RowKit

noncomputable def foldBin (op : BinOp) (k : IntKind) (a b : IE) : IE :=
  match a, b with
  | .lit x, .lit y => (match op with
    | .add => .lit (wrapL k (Int.add x y))
    | .sub => .lit (wrapL k (Int.sub x y))
    | .mul => .lit (wrapL k (Int.mul x y))
    | op => .bin op k (.lit x) (.lit y))
  | a, b => .bin op k a b
noncomputable def foldI : IE → IE
  | .bin op k a b => foldBin op k (foldI a) (foldI b)
  | .conv k a => mkConv k (foldI a)
  | .mx a b => mkMax (foldI a) (foldI b)
  | .mn a b => mkMin (foldI a) (foldI b)
  | .app f a b c => .app f (foldI a) (foldI b) (foldI c)
  | e => e
noncomputable def foldB : BE → BE
  | .not a => (foldB a).mkNot
  | .and a b => (foldB a).mkAnd (foldB b)
  | .cmp op a b => (match mkCmp op (foldI a) (foldI b) with
    | some c => c
    | none => .cmp op a b)
  | .iff a b => (foldB a).mkIff (foldB b)
  | c => c
theorem foldBin_den {ρ : Rho} (op : BinOp) (k : IntKind) (a b : IE) : (foldBin op k a b).den ρ = (IE.bin op k a b).den ρ := by
  unfold foldBin
  split
  · split <;> simp only [IE.den, binDen, wrapL_eq] <;> rfl
  · rfl
theorem mx_lit (x y : Int) : cond (ilt x y) y x = if y > x then y else x := by
  cases h : ilt x y with
  | true => have := ilt_t.1 h; rw [cond_true, if_pos (by omega)]
  | false => have := ilt_f.1 h; rw [cond_false, if_neg (by omega)]
theorem mn_lit (x y : Int) : cond (ilt y x) y x = if y < x then y else x := by
  cases h : ilt y x with
  | true => have := ilt_t.1 h; rw [cond_true, if_pos (by omega)]
  | false => have := ilt_f.1 h; rw [cond_false, if_neg (by omega)]
theorem mkMax_den {ρ : Rho} (a b : IE) : (mkMax a b).den ρ = (IE.mx a b).den ρ := by
  unfold mkMax
  split
  · rename_i x y; exact mx_lit x y
  · rfl
theorem mkMin_den {ρ : Rho} (a b : IE) : (mkMin a b).den ρ = (IE.mn a b).den ρ := by
  unfold mkMin
  split
  · rename_i x y; exact mn_lit x y
  · rfl
theorem mkConv_den {ρ : Rho} (k : IntKind) (a : IE) : (mkConv k a).den ρ = (IE.conv k a).den ρ := by
  unfold mkConv
  split
  · simp only [IE.den, wrapL_eq]
  · rfl
theorem foldI_den {ρ : Rho} : ∀ e : IE, (foldI e).den ρ = e.den ρ
  | .lit _ => rfl
  | .var _ => rfl
  | .bin op k a b => by simp only [foldI, foldBin_den, IE.den, foldI_den a, foldI_den b]
  | .conv k a => by simp only [foldI, mkConv_den, IE.den, foldI_den a]
  | .mx a b => by simp only [foldI, mkMax_den, IE.den, foldI_den a, foldI_den b]
  | .mn a b => by simp only [foldI, mkMin_den, IE.den, foldI_den a, foldI_den b]
  | .app f a b c => by simp only [foldI, IE.den, foldI_den a, foldI_den b, foldI_den c]
theorem mkAnd_den {ρ : Rho} (a b : BE) : (a.mkAnd b).den ρ = (a.den ρ && b.den ρ) := by
  unfold BE.mkAnd
  split
  · rename_i c; cases c <;> simp [BE.den]
  · rfl
theorem foldB_den {ρ : Rho} : ∀ c : BE, (foldB c).den ρ = c.den ρ
  | .lit _ => rfl
  | .var _ => rfl
  | .app _ _ _ _ => rfl
  | .not a => by simp only [foldB, mkNot_den, BE.den, foldB_den a]
  | .and a b => by simp only [foldB, mkAnd_den, BE.den, foldB_den a, foldB_den b]
  | .iff a b => by simp only [foldB, mkIff_den, BE.den, foldB_den a, foldB_den b]
  | .cmp op a b => by
    simp only [foldB]
    split
    · rename_i c hc
      rw [(mkCmp_den hc).2, foldI_den, foldI_den]; rfl
    · rfl
mutual
noncomputable def foldV : AV → AV
  | .int k e => .int k (foldI e)
  | .bool b => .bool (foldB b)
  | .agg l => .agg (foldVs l)
  | .tup l => .tup (foldVs l)
  | v => v
noncomputable def foldVs : List AV → List AV
  | [] => []
  | a :: l => foldV a :: foldVs l
end
mutual
theorem foldV_conc {E : Env} : ∀ v : AV, conc E (foldV v) = conc E v
  | .int k e => by simp only [foldV, conc, foldI_den]
  | .bool b => by simp only [foldV, conc, foldB_den]
  | .agg l => by simp only [foldV, conc, foldVs_conc l]
  | .tup l => by simp only [foldV, conc, foldVs_conc l]
  | .ptr _ _ => rfl
  | .nilptr => rfl
  | .slice _ _ _ _ => rfl
  | .sliceX _ _ _ _ => rfl
  | .sliceU _ => rfl
  | .sliceV _ _ => rfl
  | .ptrV _ _ _ _ _ => rfl
  | .nilslice => rfl
  | .map _ => rfl
  | .nilmap => rfl
  | .func _ _ _ => rfl
  | .yieldF _ => rfl
  | .nilFunc => rfl
  | .opq _ => rfl
  | .bad => rfl
theorem foldVs_conc {E : Env} : ∀ l : List AV, concL E (foldVs l) = concL E l
  | [] => rfl
  | a :: l => by simp only [foldVs, concL, foldV_conc a, foldVs_conc l]
end
noncomputable def foldT (t : T (AV × Heap)) : T (AV × Heap) :=
  @T.rec (AV × Heap) (fun _ => T (AV × Heap)) (fun r => .ret (foldV r.1, r.2)) (fun c _ _ x y => T.ite (foldB c) x y) (fun w => .fail w) t
theorem foldT_holds {ρ : Rho} {Q : AV × Heap → Prop} : ∀ t : T (AV × Heap), (foldT t).Holds ρ Q → t.Holds ρ fun r => Q (foldV r.1, r.2)
  | .ret r, h => h
  | .fail w, h => h
  | .br c x y, h => by
    have h : (T.ite (foldB c) (foldT x) (foldT y)).Holds ρ Q := h
    rw [T.holds_ite, foldB_den] at h
    simp only [T.Holds]
    split at h
    · rename_i hc; rw [if_pos hc]; exact foldT_holds x h
    · rename_i hc; rw [if_neg hc]; exact foldT_holds y h
theorem CallOk.fold {p : Par} {f : FuncId} {args : List AV} {h : Heap} {t : T (AV × Heap)} (H : CallOk p f args h t) : CallOk p f args h (foldT t) := by
  intro vs E w0 w Q K k HH ha P
  exact H vs E w0 w (fun r => Q (foldV r.1, r.2)) K (foldT_holds t k) HH ha
    (fun v h' E' w' cv q hle HH' hv => P (foldV v) h' E' w' cv q hle HH' (by rw [foldV_conc]; exact hv))
end Go.Sx
