/- WHAT IS SO OF THE NUMBERS of a valid evening and plan. -/
import Derived.Test.YtegeacnehkpinaaDoorSxFresh
import Derived.Test.YtegeacnehkpinaaDoorSxStart
/-! AN EVENING, NOT KNOWN BUT FOR HOW MANY PARTS IT HAS: what makes it valid, what a part of it leaves, what is left. -/
namespace Go.Sx

noncomputable def vi (n : Nat) : AV := .int .i64 (.var n)
noncomputable def vE (n : Nat) : IE := .var n
noncomputable def leE (a b : IE) : BE := .cmp .leq a b
noncomputable def viUp : Nat → Nat → List AV
  | 0, _ => []
  | n + 1, i => vi i :: viUp n (i + 1)
/-- the cells of the parts: variables from 30 on, four of each -/
noncomputable def partCells : Nat → Nat → List AV
  | 0, _ => []
  | n + 1, b => vi b :: vi (b + 1) :: .bool (.var (b + 2)) :: vi (b + 3) :: partCells n (b + 4)
noncomputable def bookL (s : AV) : List AV := lApp (viUp 22 0) [s]
noncomputable def bookV (L : Nat) : AV := .agg (bookL (.sliceX 1001 4 0 L))
noncomputable def glE : List (Nat × List AV) := [(0, [li 1, li 99, li 1, li 99, li 1, li 20, li 1, li 20, li 0, li 60, li 1, li 5])]
noncomputable def viewB (L : Nat) : List (Nat × List AV) := (1001, partCells L 30) :: glE

/-! ## What makes it valid -/
noncomputable def spanC (j hi : Nat) : List BE := [leE (.lit 0) (vE j), leE (vE j) (vE (j + 1)), leE (vE (j + 1)) (.lit hi)]
noncomputable def bookC : List BE :=
  [leE (.lit 1) (vE 4), leE (vE 4) (.lit 99), leE (.lit 1) (vE 5), leE (vE 5) (.lit 99), leE (.lit 0) (vE 0), leE (vE 0) (vE 1), leE (vE 1) (vE 4), leE (.lit 0) (vE 2), leE (vE 2) (vE 3), leE (vE 3) (vE 5),
   leE (.lit 1) (vE 6), leE (vE 6) (.lit 20), leE (.lit 1) (vE 7), leE (vE 7) (.lit 20), leE (.lit 0) (vE 20), leE (vE 20) (vE 5), leE (.lit 0) (vE 21), leE (vE 21) (.lit 60)] ++
  (spanC 8 3 ++ spanC 10 3 ++ spanC 12 3 ++ spanC 14 3 ++ spanC 16 60 ++ spanC 18 60 ++ [leE (vE 18) (vE 16), leE (vE 19) (vE 17)])
noncomputable def partC (b : Nat) : List BE := [leE (.lit 1) (vE b), leE (vE b) (vE (b + 1)), leE (vE (b + 1)) (.lit 60), leE (.lit 0) (vE (b + 3)), leE (vE (b + 3)) (.lit 5)]
noncomputable def partsC : Nat → Nat → List BE
  | 0, _ => []
  | n + 1, b => partC b ++ partsC n (b + 4)
noncomputable def csV (L : Nat) : List BE := bookC ++ partsC L 30

noncomputable def bookQ : List (Nat × Int × Int) :=
  [(0, 0, 99), (1, 0, 99), (2, 0, 99), (3, 0, 99), (4, 1, 99), (5, 1, 99), (6, 1, 20), (7, 1, 20), (8, 0, 3), (9, 0, 3), (10, 0, 3), (11, 0, 3), (12, 0, 3), (13, 0, 3), (14, 0, 3), (15, 0, 3), (16, 0, 60), (17, 0, 60), (18, 0, 60), (19, 0, 60), (20, 0, 99), (21, 0, 60)]
noncomputable def partsQ : Nat → Nat → List (Nat × Int × Int)
  | 0, _ => []
  | n + 1, b => (b, 1, 60) :: (b + 1, 1, 60) :: (b + 3, 0, 5) :: partsQ n (b + 4)
noncomputable def bookR : List BE :=
  [leE (vE 0) (vE 1), leE (vE 1) (vE 4), leE (vE 2) (vE 3), leE (vE 3) (vE 5), leE (vE 8) (vE 9), leE (vE 10) (vE 11), leE (vE 12) (vE 13), leE (vE 14) (vE 15), leE (vE 16) (vE 17), leE (vE 18) (vE 19), leE (vE 18) (vE 16), leE (vE 19) (vE 17), leE (vE 20) (vE 5)]
noncomputable def partsR : Nat → Nat → List BE
  | 0, _ => []
  | n + 1, b => leE (vE b) (vE (b + 1)) :: partsR n (b + 4)
noncomputable def evQ (L : Nat) : List (Nat × Int × Int) := bookQ ++ partsQ L 30
noncomputable def evR (L : Nat) : List BE := bookR ++ partsR L 30

noncomputable def conjC : List BE → BE
  | [] => .lit true
  | c :: l => .and c (conjC l)

/-- the program's check, and the reference's, of a valid evening; and of one that is not -/
noncomputable def evTrue (L : Nat) : CSpec := mkC 51 [bookV L] (viewB L) (evQ L) (evR L) (.ret (.bool (.lit true)))
noncomputable def ckZero (L : Nat) : CSpec := mkC 17 [bookV L] (viewB L) (evQ L) (evR L) (.ret (li 0))
noncomputable def evFalse (L : Nat) : CSpec := mkC 51 [bookV L] (viewB L) [] [] (.br (conjC (csV L)) (.fail 1) (.ret (.bool (.lit false))))
noncomputable def ckForty (L : Nat) : CSpec := mkC 17 [bookV L] (viewB L) [] [] (.br (conjC (csV L)) (.fail 1) (.ret (li 40)))

/-! ## A part -/
noncomputable def fnA (f : Nat) : AV := .func (.func f) [] []
noncomputable def bin (o : BinOp) (a b : IE) : IE := .bin o .i64 a b
/-- where its rates lie: of coal, of water -/
noncomputable def rate (r : Nat) (light : Bool) : Nat := cond (Nat.beq r 0) (cond light 10 8) (cond light 14 12)
noncomputable def room (r : Nat) : IE := cond (Nat.beq r 0) (vE 4) (vE 5)
noncomputable def load (r : Nat) : IE := cond (Nat.beq r 0) (vE 6) (vE 7)
/-- what is there when walks are done -/
noncomputable def hasE (r : Nat) (left walks : IE) : IE := .mn (room r) (bin .add left (bin .mul walks (load r)))
/-- what it takes at the most, and at the least; b: where the part's variables begin -/
noncomputable def mostE (r b : Nat) (light : Bool) : IE := bin .mul (vE (b + 1)) (vE (rate r light + 1))
noncomputable def leastE (r b : Nat) (light : Bool) : IE := bin .mul (vE b) (vE (rate r light))
noncomputable def takesE (hi : Bool) (r b : Nat) (light : Bool) : IE := cond hi (leastE r b light) (mostE r b light)

noncomputable def storeV (r : Nat) : List AV := cond (Nat.beq r 0) [vi 0, vi 1, vi 4, vi 6, vi 8, vi 9, vi 10, vi 11] [vi 2, vi 3, vi 5, vi 7, vi 12, vi 13, vi 14, vi 15]
noncomputable def evenV (L : Nat) : AV := .agg (lApp (bookL (.sliceX 1001 4 0 L)) (lApp (storeV 0) (storeV 1)))
noncomputable def endV (hi : Bool) : AV := cond hi (.agg [fnA 97, fnA 96]) (.agg [fnA 96, fnA 97])
noncomputable def h0 : IE := hasE 0 (vE 70) (vE 72)
noncomputable def h1 : IE := hasE 1 (vE 71) (vE 73)
noncomputable def iV (e : IE) : AV := .int .i64 e
noncomputable def stepOut (i : Nat) (l0 l1 k0 k1 : IE) : T AV := .ret (.agg [vi 72, vi 73, li (i + 1), iV l0, iV l1, iV k0, iV k1])
noncomputable def stepRaw (i : Nat) (t0 t1 : IE) : T AV := stepOut i (bin .sub h0 (.mn h0 t0)) (bin .sub h1 (.mn h1 t1)) (bin .sub t0 (.mn h0 t0)) (bin .sub t1 (.mn h1 t1))
noncomputable def stepGood (i : Nat) (t0 t1 : IE) : T AV := stepOut i (bin .sub h0 t0) (bin .sub h1 t1) (.lit 0) (.lit 0)
noncomputable def stepSide (hi : Bool) (i b : Nat) (light : Bool) : T AV :=
  cond hi
    (.br (leE (takesE true 0 b light) h0) (.br (leE (takesE true 1 b light) h1) (stepGood i (takesE true 0 b light) (takesE true 1 b light)) (.fail 1)) (.fail 1))
    (.br (.cmp .lss (bin .sub h0 (takesE false 0 b light)) (.lit 0)) (stepRaw i (takesE false 0 b light) (takesE false 1 b light))
      (.br (.cmp .lss (bin .sub h1 (takesE false 1 b light)) (.lit 0)) (stepRaw i (takesE false 0 b light) (takesE false 1 b light)) (stepGood i (takesE false 0 b light) (takesE false 1 b light))))
noncomputable def stepU (hi : Bool) (i : Nat) : T AV := .br (.var (32 + 4 * i)) (stepSide hi i (30 + 4 * i) true) (stepSide hi i (30 + 4 * i) false)
noncomputable def stepQ (i : Nat) : List (Nat × Int × Int) :=
  [(4, 1, 99), (5, 1, 99), (6, 1, 20), (7, 1, 20), (8, 0, 3), (9, 0, 3), (10, 0, 3), (11, 0, 3), (12, 0, 3), (13, 0, 3), (14, 0, 3), (15, 0, 3), (70, 0, 99), (71, 0, 99), (72, 0, 5), (73, 0, 5), (30 + 4 * i, 1, 60), (31 + 4 * i, 1, 60)]
noncomputable def stepC (hi : Bool) (L i : Nat) : CSpec :=
  mkC 99 [evenV L, .agg [li i, vi 70, vi 71], .agg [vi 72, vi 73], endV hi] [(1001, partCells L 30)] (stepQ i) [] (stepU hi i)

/-! ## What is left -/
noncomputable def plan0 (i : Nat) : Nat := 60 + 2 * i
noncomputable def standU : T AV := .ret (.tup [.agg [li 0, li 0], .agg [li 0, li 0], li 42])
noncomputable def nextE (hi : Bool) (r i : Nat) (light : Bool) (left : IE) : IE := bin .sub (hasE r left (vE (plan0 i + r))) (takesE hi r (30 + 4 * i) light)
noncomputable def ltZ (e : IE) : BE := .cmp .lss e (.lit 0)
noncomputable def leftGo : Nat → Nat → IE → IE → IE → IE → T AV
  | 0, _, a0, b0, a1, b1 => .ret (.tup [.agg [iV a0, iV b0], .agg [iV a1, iV b1], li 0])
  | n + 1, i, a0, b0, a1, b1 => .br (.var (32 + 4 * i))
      (.br (ltZ (nextE false 0 i true a0)) standU (.br (ltZ (nextE false 1 i true a1)) standU (leftGo n (i + 1) (nextE false 0 i true a0) (nextE true 0 i true b0) (nextE false 1 i true a1) (nextE true 1 i true b1))))
      (.br (ltZ (nextE false 0 i false a0)) standU (.br (ltZ (nextE false 1 i false a1)) standU (leftGo n (i + 1) (nextE false 0 i false a0) (nextE true 0 i false b0) (nextE false 1 i false a1) (nextE true 1 i false b1))))
noncomputable def leftU (k : Nat) : T AV := leftGo (k + 1) 0 (vE 0) (vE 1) (vE 2) (vE 3)
noncomputable def planQ : Nat → Nat → List (Nat × Int × Int)
  | 0, _ => []
  | n + 1, j => (j, 0, 5) :: (j + 1, 0, 5) :: planQ n (j + 2)
noncomputable def planR : Nat → Nat → Nat → List BE
  | 0, _, _ => []
  | n + 1, b, j => leE (vE j) (vE (b + 3)) :: leE (vE (j + 1)) (bin .sub (vE (b + 3)) (vE j)) :: planR n (b + 4) (j + 2)
noncomputable def planV (L : Nat) : AV := .sliceX 1002 2 0 L
noncomputable def viewP (L : Nat) : List (Nat × List AV) := (1002, viUp (2 * L) 60) :: viewB L
noncomputable def leftQ (L : Nat) : List (Nat × Int × Int) := evQ L ++ planQ L 60
noncomputable def leftR (L : Nat) : List BE := evR L ++ planR L 30 60
noncomputable def leftC (f L k : Nat) : CSpec := mkC f [bookV L, planV L, li k] (viewP L) (leftQ L) (leftR L) (leftU k)

/-- what has room at the most is there at least what is taken at the least, where nothing stands still -/
noncomputable def ruleR (r i : Nat) (light : Bool) (b : IE) (ps : List BE) : List BE × BE := (ps, leE (takesE true r (30 + 4 * i) light) (hasE r b (vE (plan0 i + r))))
noncomputable def notLt (e : IE) : BE := .not (ltZ e)
noncomputable def ruleZ (r i : Nat) (light : Bool) (b : IE) (ps : List BE) : List BE × BE := (ps, leE (.lit 0) (nextE true r i light b))
noncomputable def rulesHd (i : Nat) (light : Bool) (a0 b0 a1 b1 : IE) (ps qs : List BE) : Rules :=
  [ruleR 0 i light b0 (notLt (nextE false 0 i light a0) :: ps), ruleR 1 i light b1 (notLt (nextE false 1 i light a1) :: qs),
   ruleZ 0 i light b0 (notLt (nextE false 0 i light a0) :: ps), ruleZ 1 i light b1 (notLt (nextE false 1 i light a1) :: qs)]
/-- the first parts' lights may be known -/
noncomputable def allowsB (pre : List Bool) (b : Bool) : Bool :=
  match pre with
  | [] => true
  | c :: _ => cond c b (Bool.not b)
noncomputable def rulesGo : Nat → List Bool → Nat → IE → IE → IE → IE → List BE → List BE → Rules
  | 0, _, _, _, _, _, _, _, _ => []
  | n + 1, pre, i, a0, b0, a1, b1, ps, qs =>
    cond (allowsB pre true) (rulesHd i true a0 b0 a1 b1 ps qs ++ rulesGo n pre.tail (i + 1) (nextE false 0 i true a0) (nextE true 0 i true b0) (nextE false 1 i true a1) (nextE true 1 i true b1) (notLt (nextE false 0 i true a0) :: ps) (notLt (nextE false 1 i true a1) :: qs)) [] ++
    cond (allowsB pre false) (rulesHd i false a0 b0 a1 b1 ps qs ++ rulesGo n pre.tail (i + 1) (nextE false 0 i false a0) (nextE true 0 i false b0) (nextE false 1 i false a1) (nextE true 1 i false b1) (notLt (nextE false 0 i false a0) :: ps) (notLt (nextE false 1 i false a1) :: qs)) []
noncomputable def leftRules (pre : List Bool) (k : Nat) : Rules := rulesGo (k + 1) pre 0 (vE 0) (vE 1) (vE 2) (vE 3) [] []
noncomputable def preK : List Bool → Nat → Kn → Kn
  | [], _, K => K
  | b :: l, i, K => addK b (.var (32 + 4 * i)) (preK l (i + 1) K)
def pats : Nat → List (List Bool)
  | 0 => [[]]
  | n + 1 => (pats n).map (true :: ·) ++ (pats n).map (false :: ·)
def preOf (f : Nat → Bool) : Nat → Nat → List Bool
  | 0, _ => []
  | n + 1, i => f (32 + 4 * i) :: preOf f n (i + 1)
theorem preOf_mem (f : Nat → Bool) : ∀ n i, preOf f n i ∈ pats n
  | 0, _ => by simp [preOf, pats]
  | n + 1, i => by
    have := preOf_mem f n (i + 1)
    simp only [preOf, pats, List.mem_append, List.mem_map]
    cases f (32 + 4 * i) with
    | true => exact .inl ⟨_, this, rfl⟩
    | false => exact .inr ⟨_, this, rfl⟩
end Go.Sx
/-! WHAT IS SO OF THE NUMBERS of a valid evening and plan. -/
namespace Go.Sx
open Go.RowKit Go.IntWalk

theorem ivC_app : ∀ (l m : List (Nat × Int × Int)), ivC (l ++ m) = ivC l ++ ivC m
  | [], _ => rfl
  | q :: l, m => by simp only [List.cons_append, ivC, ivC_app l m]

theorem parts_of {ρ : Rho} : ∀ (n b : Nat), (∀ c ∈ partsC n b, c.den ρ = true) → (∀ c ∈ ivC (partsQ n b), c.den ρ = true) ∧ (∀ c ∈ partsR n b, c.den ρ = true)
  | 0, _, _ => ⟨fun c hc => (List.not_mem_nil hc).elim, fun c hc => (List.not_mem_nil hc).elim⟩
  | n + 1, b, H => by
    simp only [partsC, List.mem_append] at H
    obtain ⟨h1, h2⟩ := parts_of n (b + 4) fun c hc => H c (.inr hc)
    have h3 : ∀ c ∈ partC b, c.den ρ = true := fun c hc => H c (.inl hc)
    simp only [partC, leE, vE, List.mem_cons, List.not_mem_nil, or_false, forall_eq_or_imp, forall_eq, BE.t_leq, IE.den_lit, IE.den_var] at h3
    obtain ⟨a1, a2, a3, a4, a5⟩ := h3
    refine ⟨fun c hc => ?_, fun c hc => ?_⟩
    · simp only [partsQ, ivC, List.mem_cons] at hc
      rcases hc with rfl | rfl | rfl | rfl | rfl | rfl | hc
      · rw [BE.t_leq]; simp only [IE.den_lit, IE.den_var]; omega
      · rw [BE.t_leq]; simp only [IE.den_lit, IE.den_var]; omega
      · rw [BE.t_leq]; simp only [IE.den_lit, IE.den_var]; omega
      · rw [BE.t_leq]; simp only [IE.den_lit, IE.den_var]; omega
      · rw [BE.t_leq]; simp only [IE.den_lit, IE.den_var]; omega
      · rw [BE.t_leq]; simp only [IE.den_lit, IE.den_var]; omega
      · exact h1 c hc
    · simp only [partsR, List.mem_cons] at hc
      rcases hc with rfl | hc
      · simp only [leE, vE]; rw [BE.t_leq]; simp only [IE.den_var]; omega
      · exact h2 c hc

theorem book_of {ρ : Rho} (H : ∀ c ∈ bookC, c.den ρ = true) : (∀ c ∈ ivC bookQ, c.den ρ = true) ∧ (∀ c ∈ bookR, c.den ρ = true) := by
  simp only [bookC, spanC, leE, vE, List.mem_append, List.mem_cons, List.not_mem_nil, or_false, or_assoc, forall_eq_or_imp, forall_eq, BE.t_leq, IE.den_lit, IE.den_var, Nat.reduceAdd] at H
  refine ⟨?_, ?_⟩
  · simp only [bookQ, ivC, List.mem_cons, List.not_mem_nil, or_false, forall_eq_or_imp, forall_eq, BE.t_leq, IE.den_lit, IE.den_var]
    and_intros <;> omega
  · simp only [bookR, leE, vE, List.mem_cons, List.not_mem_nil, or_false, forall_eq_or_imp, forall_eq, BE.t_leq, IE.den_lit, IE.den_var]
    and_intros <;> omega

theorem ev_of {ρ : Rho} {L : Nat} (H : ∀ c ∈ csV L, c.den ρ = true) : ∀ c ∈ ivC (evQ L) ++ evR L, c.den ρ = true := by
  simp only [csV, List.mem_append] at H
  obtain ⟨h1, h2⟩ := book_of fun c hc => H c (.inl hc)
  obtain ⟨h3, h4⟩ := parts_of L 30 fun c hc => H c (.inr hc)
  intro c hc
  simp only [evQ, evR, ivC_app, List.mem_append] at hc
  rcases hc with (hc | hc) | (hc | hc)
  · exact h1 c hc
  · exact h3 c hc
  · exact h2 c hc
  · exact h4 c hc

/-! ## Bounds, as they are used -/
structure Bnd (ρ : Rho) (r : Nat) (light : Bool) (b p : Nat) : Prop where
  room : 1 ≤ (room r).den ρ ∧ (room r).den ρ ≤ 99
  load : 1 ≤ (load r).den ρ ∧ (load r).den ρ ≤ 20
  rate : 0 ≤ ρ.iv (rate r light) ∧ ρ.iv (rate r light) ≤ ρ.iv (rate r light + 1) ∧ ρ.iv (rate r light + 1) ≤ 3
  min : 1 ≤ ρ.iv b ∧ ρ.iv b ≤ ρ.iv (b + 1) ∧ ρ.iv (b + 1) ≤ 60
  walks : 0 ≤ ρ.iv p ∧ ρ.iv p ≤ 5

theorem mnden (a b : Int) : (if b < a then b else a) = min a b := by
  split <;> omega
theorem mn_den {ρ : Rho} {a b : IE} : (IE.mn a b).den ρ = min (a.den ρ) (b.den ρ) := mnden _ _

theorem has_den {ρ : Rho} {r : Nat} {light : Bool} {b p : Nat} (B : Bnd ρ r light b p) {x : IE} (hx : 0 ≤ x.den ρ ∧ x.den ρ ≤ 99) :
    (hasE r x (vE p)).den ρ = min ((room r).den ρ) (x.den ρ + ρ.iv p * (load r).den ρ) ∧ 0 ≤ ρ.iv p * (load r).den ρ := by
  have e1 : (0 : Int) ≤ ρ.iv p * (load r).den ρ := Int.mul_nonneg B.walks.1 (by have := B.load.1; omega)
  have e2 : ρ.iv p * (load r).den ρ ≤ 5 * 20 := Int.mul_le_mul B.walks.2 B.load.2 (by have := B.load.1; omega) (by omega)
  refine ⟨?_, e1⟩
  simp only [hasE, bin, vE]
  rw [mn_den, IE.den_add, IE.den_mul, IE.den_var, i64_in (ρ.iv p * (load r).den ρ) (by omega), i64_in _ (by omega)]

theorem takes_den {ρ : Rho} {r : Nat} {light : Bool} {b p : Nat} (B : Bnd ρ r light b p) :
    (takesE true r b light).den ρ = ρ.iv b * ρ.iv (rate r light) ∧ (takesE false r b light).den ρ = ρ.iv (b + 1) * ρ.iv (rate r light + 1) ∧
    0 ≤ ρ.iv b * ρ.iv (rate r light) ∧ ρ.iv b * ρ.iv (rate r light) ≤ ρ.iv (b + 1) * ρ.iv (rate r light + 1) ∧ ρ.iv (b + 1) * ρ.iv (rate r light + 1) ≤ 180 := by
  obtain ⟨r1, r2, r3⟩ := B.rate
  obtain ⟨m1, m2, m3⟩ := B.min
  have e1 : (0 : Int) ≤ ρ.iv b * ρ.iv (rate r light) := Int.mul_nonneg (by omega) r1
  have e2 : ρ.iv b * ρ.iv (rate r light) ≤ ρ.iv (b + 1) * ρ.iv (rate r light + 1) := Int.mul_le_mul m2 r2 r1 (by omega)
  have e3 : ρ.iv (b + 1) * ρ.iv (rate r light + 1) ≤ 60 * 3 := Int.mul_le_mul m3 r3 (by omega) (by omega)
  refine ⟨?_, ?_, e1, e2, by omega⟩
  · show (bin .mul (vE b) (vE (rate r light))).den ρ = _
    simp only [bin, vE]
    rw [IE.den_mul, IE.den_var, IE.den_var, i64_in _ (by omega)]
  · show (bin .mul (vE (b + 1)) (vE (rate r light + 1))).den ρ = _
    simp only [bin, vE]
    rw [IE.den_mul, IE.den_var, IE.den_var, i64_in _ (by omega)]

/-- ONE PART, AT BOTH ENDS: where the least suffices, the greatest does, and stays the greater one. -/
theorem next_ok {ρ : Rho} {r i : Nat} {light : Bool} (B : Bnd ρ r light (30 + 4 * i) (plan0 i + r)) {a b : IE} (ha : 0 ≤ a.den ρ) (hab : a.den ρ ≤ b.den ρ) (hb : b.den ρ ≤ 99)
    (hn : (notLt (nextE false r i light a)).den ρ = true) :
    (takesE true r (30 + 4 * i) light).den ρ ≤ (hasE r b (vE (plan0 i + r))).den ρ ∧ 0 ≤ (nextE false r i light a).den ρ ∧ (nextE false r i light a).den ρ ≤ (nextE true r i light b).den ρ ∧ (nextE true r i light b).den ρ ≤ 99 := by
  obtain ⟨x1, x2⟩ := has_den B (x := a) ⟨ha, by omega⟩
  obtain ⟨y1, y2⟩ := has_den B (x := b) ⟨by omega, hb⟩
  obtain ⟨t1, t2, t3, t4, t5⟩ := takes_den B
  have hroom := B.room
  have d1 : (nextE false r i light a).den ρ = (hasE r a (vE (plan0 i + r))).den ρ - (takesE false r (30 + 4 * i) light).den ρ := by
    simp only [nextE, bin]
    rw [IE.den_sub, i64_in _ (by rw [x1, t2]; omega)]
  have d2 : (nextE true r i light b).den ρ = (hasE r b (vE (plan0 i + r))).den ρ - (takesE true r (30 + 4 * i) light).den ρ := by
    simp only [nextE, bin]
    rw [IE.den_sub, i64_in _ (by rw [y1, t1]; omega)]
  simp only [notLt, ltZ, BE.t_not, BE.t_lss, IE.den_lit] at hn
  rw [d1, x1, t2] at hn ⊢
  rw [d2, y1, t1]
  clear d1 d2 x1 y1 t1 t2
  generalize (room r).den ρ = R at *
  generalize ρ.iv (plan0 i + r) * (load r).den ρ = W at *
  generalize ρ.iv (30 + 4 * i) * ρ.iv (rate r light) = T0 at *
  generalize ρ.iv (30 + 4 * i + 1) * ρ.iv (rate r light + 1) = T1 at *
  generalize a.den ρ = x at *
  generalize b.den ρ = y at *
  omega

theorem rules_ok {ρ : Rho} (N : Nat) (HB : ∀ r light i, r < 2 → i < N → Bnd ρ r light (30 + 4 * i) (plan0 i + r)) : ∀ (n : Nat) (pre : List Bool) (i : Nat) (a0 b0 a1 b1 : IE) (ps qs : List BE), i + n ≤ N →
    ((∀ p ∈ ps, p.den ρ = true) → 0 ≤ a0.den ρ ∧ a0.den ρ ≤ b0.den ρ ∧ b0.den ρ ≤ 99) → ((∀ p ∈ qs, p.den ρ = true) → 0 ≤ a1.den ρ ∧ a1.den ρ ≤ b1.den ρ ∧ b1.den ρ ≤ 99) →
    RulesOk ρ (rulesGo n pre i a0 b0 a1 b1 ps qs)
  | 0, _, _, _, _, _, _, _, _, _, _, _ => fun r hr => by cases hr
  | n + 1, pre, i, a0, b0, a1, b1, ps, qs, hN, h0, h1 => by
    have side : ∀ light, RulesOk ρ (rulesHd i light a0 b0 a1 b1 ps qs ++ rulesGo n pre.tail (i + 1) (nextE false 0 i light a0) (nextE true 0 i light b0) (nextE false 1 i light a1) (nextE true 1 i light b1) (notLt (nextE false 0 i light a0) :: ps) (notLt (nextE false 1 i light a1) :: qs)) := by
      intro light
      have k0 : (∀ p ∈ notLt (nextE false 0 i light a0) :: ps, p.den ρ = true) → (takesE true 0 (30 + 4 * i) light).den ρ ≤ (hasE 0 b0 (vE (plan0 i + 0))).den ρ ∧ 0 ≤ (nextE false 0 i light a0).den ρ ∧ (nextE false 0 i light a0).den ρ ≤ (nextE true 0 i light b0).den ρ ∧ (nextE true 0 i light b0).den ρ ≤ 99 := fun h => by
        obtain ⟨q1, q2, q3⟩ := h0 fun p hp => h p (List.mem_cons_of_mem _ hp)
        exact next_ok (HB 0 light i (by omega) (by omega)) q1 q2 q3 (h _ List.mem_cons_self)
      have k1 : (∀ p ∈ notLt (nextE false 1 i light a1) :: qs, p.den ρ = true) → (takesE true 1 (30 + 4 * i) light).den ρ ≤ (hasE 1 b1 (vE (plan0 i + 1))).den ρ ∧ 0 ≤ (nextE false 1 i light a1).den ρ ∧ (nextE false 1 i light a1).den ρ ≤ (nextE true 1 i light b1).den ρ ∧ (nextE true 1 i light b1).den ρ ≤ 99 := fun h => by
        obtain ⟨q1, q2, q3⟩ := h1 fun p hp => h p (List.mem_cons_of_mem _ hp)
        exact next_ok (HB 1 light i (by omega) (by omega)) q1 q2 q3 (h _ List.mem_cons_self)
      intro c hc
      rcases List.mem_append.1 hc with hc | hc
      · simp only [rulesHd, List.mem_cons, List.not_mem_nil, or_false] at hc
        rcases hc with rfl | rfl | rfl | rfl
        · exact fun h => by simp only [ruleR, leE, BE.t_leq]; exact (k0 h).1
        · exact fun h => by simp only [ruleR, leE, BE.t_leq]; exact (k1 h).1
        · exact fun h => by simp only [ruleZ, leE, BE.t_leq, IE.den_lit]; have := k0 h; omega
        · exact fun h => by simp only [ruleZ, leE, BE.t_leq, IE.den_lit]; have := k1 h; omega
      · exact rules_ok N HB n pre.tail (i + 1) _ _ _ _ _ _ (by omega) (fun h => (k0 h).2) (fun h => (k1 h).2) c hc
    intro c hc
    simp only [rulesGo] at hc
    rcases List.mem_append.1 hc with hc | hc
    · cases ha : allowsB pre true with
      | true => rw [ha] at hc; exact side true c hc
      | false => rw [ha] at hc; exact (List.not_mem_nil hc).elim
    · cases ha : allowsB pre false with
      | true => rw [ha] at hc; exact side false c hc
      | false => rw [ha] at hc; exact (List.not_mem_nil hc).elim

theorem preK_ok {ρ : Rho} : ∀ (n i : Nat) (K : Kn), KnOk ρ K → KnOk ρ (preK (preOf ρ.bv n i) i K)
  | 0, _, _, H => H
  | n + 1, i, K, H => by
    simp only [preOf, preK]
    exact addK_ok _ _ _ (preK_ok n (i + 1) K H) rfl

/-! ## The plan -/
theorem plan_bnd {ρ : Rho} : ∀ (n j : Nat), (∀ c ∈ ivC (planQ n j), c.den ρ = true) → ∀ i, i < 2 * n → 0 ≤ ρ.iv (j + i) ∧ ρ.iv (j + i) ≤ 5
  | 0, _, _ => fun i hi => by omega
  | n + 1, j, H => by
    simp only [planQ, ivC, List.mem_cons, forall_eq_or_imp, BE.t_leq, IE.den_lit, IE.den_var] at H
    obtain ⟨a1, a2, a3, a4, a5⟩ := H
    have ih := plan_bnd n (j + 2) a5
    intro i hi
    match i, hi with
    | 0, _ => exact ⟨a1, a2⟩
    | 1, _ => exact ⟨a3, a4⟩
    | i + 2, hi =>
      have := ih i (by omega)
      rw [show j + 2 + i = j + (i + 2) by omega] at this
      exact this
theorem part_bnd {ρ : Rho} : ∀ (n b : Nat), (∀ c ∈ ivC (partsQ n b), c.den ρ = true) → (∀ c ∈ partsR n b, c.den ρ = true) → ∀ i, i < n → 1 ≤ ρ.iv (b + 4 * i) ∧ ρ.iv (b + 4 * i) ≤ ρ.iv (b + 4 * i + 1) ∧ ρ.iv (b + 4 * i + 1) ≤ 60
  | 0, _, _, _ => fun i hi => by omega
  | n + 1, b, H, H2 => by
    simp only [partsQ, ivC, List.mem_cons, forall_eq_or_imp, BE.t_leq, IE.den_lit, IE.den_var] at H
    simp only [partsR, leE, vE, List.mem_cons, forall_eq_or_imp, BE.t_leq, IE.den_var] at H2
    obtain ⟨a1, a2, a3, a4, a5, a6, a7⟩ := H
    have ih := part_bnd n (b + 4) a7 H2.2
    intro i hi
    match i, hi with
    | 0, _ => exact ⟨a1, H2.1, a4⟩
    | i + 1, hi =>
      have := ih i (by omega)
      rw [show b + 4 + 4 * i = b + 4 * (i + 1) by omega] at this
      exact this
theorem bnd_of {ρ : Rho} {L : Nat} (H : ∀ c ∈ ivC (leftQ L) ++ leftR L, c.den ρ = true) : ∀ r light i, r < 2 → i < L → Bnd ρ r light (30 + 4 * i) (plan0 i + r) := by
  simp only [leftQ, leftR, evQ, evR, ivC_app, List.mem_append] at H
  have hb : ∀ c ∈ ivC bookQ, c.den ρ = true := fun c hc => H c (.inl (.inl (.inl hc)))
  have hr : ∀ c ∈ bookR, c.den ρ = true := fun c hc => H c (.inr (.inl (.inl hc)))
  have hp := part_bnd L 30 (fun c hc => H c (.inl (.inl (.inr hc)))) (fun c hc => H c (.inr (.inl (.inr hc))))
  have hq := plan_bnd L 60 (fun c hc => H c (.inl (.inr hc)))
  simp only [bookQ, ivC, List.mem_cons, List.not_mem_nil, or_false, forall_eq_or_imp, forall_eq, BE.t_leq, IE.den_lit, IE.den_var] at hb
  simp only [bookR, leE, vE, List.mem_cons, List.not_mem_nil, or_false, forall_eq_or_imp, forall_eq, BE.t_leq, IE.den_var] at hr
  intro r light i hr2 hi
  have p1 := hp i hi
  have q1 := hq (2 * i + r) (by omega)
  rw [show 60 + (2 * i + r) = plan0 i + r by simp only [plan0]; omega] at q1
  match r, hr2 with
  | 0, _ => exact ⟨by simp only [room, Nat.beq, cond, vE, IE.den_var]; omega, by simp only [load, Nat.beq, cond, vE, IE.den_var]; omega, by cases light <;> (simp only [rate, Nat.beq, cond, Nat.reduceAdd]; omega), p1, q1⟩
  | 1, _ => exact ⟨by simp only [room, Nat.beq, cond, vE, IE.den_var]; omega, by simp only [load, Nat.beq, cond, vE, IE.den_var]; omega, by cases light <;> (simp only [rate, Nat.beq, cond, Nat.reduceAdd]; omega), p1, q1⟩
theorem leftRules_ok {ρ : Rho} {L k : Nat} (hk : k < L) (H : ∀ c ∈ ivC (leftQ L) ++ leftR L, c.den ρ = true) (pre : List Bool) : RulesOk ρ (leftRules pre k) := by
  have H' := H
  simp only [leftQ, leftR, evQ, evR, ivC_app, List.mem_append] at H'
  have hb : ∀ c ∈ ivC bookQ, c.den ρ = true := fun c hc => H' c (.inl (.inl (.inl hc)))
  have hr : ∀ c ∈ bookR, c.den ρ = true := fun c hc => H' c (.inr (.inl (.inl hc)))
  simp only [bookQ, ivC, List.mem_cons, List.not_mem_nil, or_false, forall_eq_or_imp, forall_eq, BE.t_leq, IE.den_lit, IE.den_var] at hb
  simp only [bookR, leE, vE, List.mem_cons, List.not_mem_nil, or_false, forall_eq_or_imp, forall_eq, BE.t_leq, IE.den_var] at hr
  exact rules_ok L (bnd_of H) (k + 1) pre 0 _ _ _ _ [] [] (by omega) (fun _ => by simp only [vE, IE.den_var]; omega) (fun _ => by simp only [vE, IE.den_var]; omega)
end Go.Sx
