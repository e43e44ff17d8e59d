/- THE LAW OF BOTH ENDS, RUN. -/
import Derived.Test.YtnedannoknflnaaDoorSxFilmO
import Derived.Test.YtnedannoknflnaaDoorSxEnds
/-! THE LAW OF BOTH ENDS, RUN. -/
namespace Go.Sx
open Go.RowKit Go.Proofs
set_option maxRecDepth 100000

noncomputable def orcL (f : FuncId) (args : List AV) (h : Heap) : Option (T (AV × Heap)) :=
  cond (Nat.beq f 25) (turnedOrc args h) (cond (Nat.beq f 48) (turnOrc args h) (cond (Nat.beq f 43) (soundOrc args h) (cond (Nat.beq f 30) (wornOrcL args h) none)))

theorem orcL_ok : ∀ f args h t, orcL f args h = some t → CallOk pT f args h t := by
  intro f args h t e
  unfold orcL at e
  cases h1 : Nat.beq f 25 with
  | true => rw [h1] at e; have := beq_t.1 h1; subst this; exact turnedOrc_ok e
  | false =>
    rw [h1, cond_false] at e
    cases h2 : Nat.beq f 48 with
    | true => rw [h2] at e; have := beq_t.1 h2; subst this; exact turnOrc_ok tabs0 e
    | false =>
      rw [h2, cond_false] at e
      cases h3 : Nat.beq f 43 with
      | true => rw [h3] at e; have := beq_t.1 h3; subst this; exact soundOrc_ok tabs0 e
      | false =>
        rw [h3, cond_false] at e
        cases h4 : Nat.beq f 30 with
        | true => rw [h4] at e; have := beq_t.1 h4; subst this; exact wornOrcL_ok tabs0 e
        | false => rw [h4] at e; cases e

noncomputable def tbL : Tabs := ⟨Sx.Tryd.ft.get, lFind Sx.Tryd.rt, 2000, orcL⟩
theorem tabsL : TabOk pT Sx.Tryd.tt.get tbL := Tryd.tab orcL orcL_ok 2000
noncomputable def cxL : Cx := ⟨evalN tbL 100 false, evalN tbL 100 true, 2000⟩
theorem cxL_ok : CxOk pT cxL := evalN_ok tabsL 100

noncomputable def endsCode : C := (cSeq (cOps [⟨some 2, true, none, iBox 26 (.t 0)⟩,
 ⟨some 3, true, none, iBox 54 (.t 1)⟩,
 ⟨some 4, true, none, iMov (.c (.bool (.lit false)))⟩])
 (cSeq (cSeq (cOps [⟨some 14, false, none, iLoadN 6 (.t 2)⟩,
 ⟨some 15, false, none, iCall (.c (.func (.func 43) [] [])) [(.t 14)]⟩,
 ⟨some 16, true, none, iNot (.t 15)⟩])
 (cCond (.t 16) (cSeq (cOps [⟨some 17, false, none, iCall (.c (.func (.func 25) [] [])) []⟩,
 ⟨some 4, true, none, iMov (.t 17)⟩])
 cRet) cSkip))
 (cSeq (dOps [⟨⟨some 18, false, none, iIaddrA 1 2 (.t 3) (.c (.int .i64 (.lit 0)))⟩, [3], false, 0, 0⟩,
 ⟨⟨some 19, false, none, iLoad (.t 18)⟩, [18], false, 0, 0⟩,
 ⟨⟨some 20, false, none, iFaddr 0 (.t 2)⟩, [2], false, 0, 0⟩,
 ⟨⟨some 21, false, none, iLoad (.t 20)⟩, [20], false, 0, 0⟩,
 ⟨⟨some 22, false, none, iLenS (.t 21)⟩, [21], false, 0, 0⟩,
 ⟨⟨some 23, false, none, iCall (.c (.func (.func 48) [] [])) [(.t 19), (.t 22)]⟩, [19, 22], true, 0, 0⟩,
 ⟨⟨some 24, false, none, iIaddrA 1 2 (.t 3) (.c (.int .i64 (.lit 1)))⟩, [3], false, 0, 1⟩,
 ⟨⟨some 25, false, none, iLoad (.t 24)⟩, [24], false, 0, 1⟩,
 ⟨⟨some 26, false, none, iCall (.c (.func (.func 48) [] [])) [(.t 25), (.c (.int .i64 (.lit 999)))]⟩, [25], true, 1, 0⟩,
 ⟨⟨some 5, true, none, iMov (.t 23)⟩, [23], false, 2, 2⟩,
 ⟨⟨some 6, true, none, iMov (.t 26)⟩, [26], false, 2, 2⟩])
 (cSeq (cOps [⟨some 28, false, none, iLoadN 6 (.t 2)⟩,
 ⟨some 29, false, none, iMov (.t 5)⟩,
 ⟨some 30, false, none, iMov (.t 6)⟩,
 ⟨some 31, false, none, iCall (.c (.func (.func 30) [] [])) [(.t 28), (.t 29), (.t 30)]⟩,
 ⟨some 27, false, none, iMov (.t 31)⟩,
 ⟨some 32, false, none, iExtract 0 (.t 27)⟩,
 ⟨some 33, false, none, iExtract 1 (.t 27)⟩,
 ⟨some 7, true, none, iAlloc 24 [(.int .i64 (.lit 0)), (.int .i64 (.lit 0))]⟩,
 ⟨none, false, none, iStore 2 (.t 7) (.t 32)⟩,
 ⟨some 8, true, none, iMov (.t 33)⟩])
 (cSeq (cOps [⟨some 35, false, none, iLoadN 6 (.t 2)⟩,
 ⟨some 36, false, none, iMov (.t 5)⟩,
 ⟨some 37, false, none, iMov (.t 6)⟩,
 ⟨some 38, false, none, iArith .add (.t 37) (.c (.int .i64 (.lit 1)))⟩,
 ⟨some 39, false, none, iCall (.c (.func (.func 30) [] [])) [(.t 35), (.t 36), (.t 38)]⟩,
 ⟨some 34, false, none, iMov (.t 39)⟩,
 ⟨some 40, false, none, iExtract 0 (.t 34)⟩,
 ⟨some 41, false, none, iExtract 1 (.t 34)⟩,
 ⟨some 9, true, none, iAlloc 24 [(.int .i64 (.lit 0)), (.int .i64 (.lit 0))]⟩,
 ⟨none, false, none, iStore 2 (.t 9) (.t 40)⟩,
 ⟨some 10, true, none, iMov (.t 41)⟩])
 (cSeq (dOps [⟨⟨some 42, false, none, iFaddr 0 (.t 2)⟩, [2], false, 0, 0⟩,
 ⟨⟨some 43, false, none, iLoad (.t 42)⟩, [42], false, 0, 0⟩,
 ⟨⟨some 44, false, none, iMov (.t 5)⟩, [5], false, 0, 0⟩,
 ⟨⟨some 45, false, none, iIaddr 6 (.t 43) (.t 44)⟩, [43, 44], false, 0, 0⟩,
 ⟨⟨some 46, false, none, iFaddr 4 (.t 45)⟩, [45], false, 0, 0⟩,
 ⟨⟨some 47, false, none, iFaddr 0 (.t 46)⟩, [46], false, 0, 0⟩,
 ⟨⟨some 48, false, none, iLoad (.t 47)⟩, [47], false, 0, 0⟩,
 ⟨⟨some 49, false, none, iFaddr 0 (.t 2)⟩, [2], false, 0, 0⟩,
 ⟨⟨some 50, false, none, iLoad (.t 49)⟩, [49], false, 0, 0⟩,
 ⟨⟨some 51, false, none, iMov (.t 5)⟩, [5], false, 0, 0⟩,
 ⟨⟨some 52, false, none, iIaddr 6 (.t 50) (.t 51)⟩, [50, 51], false, 0, 0⟩,
 ⟨⟨some 53, false, none, iFaddr 4 (.t 52)⟩, [52], false, 0, 0⟩,
 ⟨⟨some 54, false, none, iFaddr 1 (.t 53)⟩, [53], false, 0, 0⟩,
 ⟨⟨some 55, false, none, iLoad (.t 54)⟩, [54], false, 0, 0⟩,
 ⟨⟨some 11, true, none, iMov (.t 48)⟩, [48], false, 0, 0⟩,
 ⟨⟨some 12, true, none, iMov (.t 55)⟩, [55], false, 0, 0⟩])
 (cSeq (cSeq (cOps [⟨some 13, true, none, iMov (.c (.int .i64 (.lit 0)))⟩])
 (cBlock 0 endsLoopC))
 (cSeq (dOps [⟨⟨some 73, false, none, iMov (.t 8)⟩, [8], false, 0, 0⟩,
 ⟨⟨some 74, false, none, iCmp .eql (.t 73) (.c (.int .i64 (.lit 0)))⟩, [73], false, 0, 0⟩,
 ⟨⟨some 75, false, none, iMov (.t 74)⟩, [74], false, 0, 0⟩,
 ⟨⟨some 76, false, some (75, true), iMov (.t 10)⟩, [75, 10], false, 0, 0⟩,
 ⟨⟨some 77, false, some (75, true), iCmp .eql (.t 76) (.c (.int .i64 (.lit 0)))⟩, [75, 76], false, 0, 0⟩,
 ⟨⟨some 78, false, none, iPick (.t 75) (.t 77) (.c (.bool (.lit false)))⟩, [75, 77], false, 0, 0⟩,
 ⟨⟨some 79, false, none, iMov (.t 78)⟩, [78], false, 0, 0⟩,
 ⟨⟨some 80, false, some (79, true), iLoadN 2 (.t 7)⟩, [79, 7], false, 0, 1⟩,
 ⟨⟨some 81, false, some (79, true), iMov (.t 11)⟩, [79, 11], false, 0, 0⟩,
 ⟨⟨some 82, false, some (79, true), iMov (.t 12)⟩, [79, 12], false, 0, 0⟩,
 ⟨⟨some 83, false, some (79, true), iCall (.c (.func (.func 53) [] [])) [(.t 81), (.t 82)]⟩, [79, 81, 82], true, 0, 0⟩,
 ⟨⟨some 84, false, some (79, true), iEq false true 2 [(0, .int), (1, .int)] (.t 80) (.t 83)⟩, [79, 80, 83], false, 1, 1⟩,
 ⟨⟨some 85, false, none, iPick (.t 79) (.t 84) (.c (.bool (.lit false)))⟩, [79, 84], false, 1, 1⟩,
 ⟨⟨some 86, false, none, iMov (.t 85)⟩, [85], false, 1, 1⟩,
 ⟨⟨some 87, false, some (86, true), iFaddr 0 (.t 9)⟩, [86, 9], false, 1, 1⟩,
 ⟨⟨some 88, false, some (86, true), iLoad (.t 87)⟩, [86, 87], false, 1, 1⟩,
 ⟨⟨some 89, false, some (86, true), iFaddr 0 (.t 7)⟩, [86, 7], false, 1, 1⟩,
 ⟨⟨some 90, false, some (86, true), iLoad (.t 89)⟩, [86, 89], false, 1, 1⟩,
 ⟨⟨some 91, false, some (86, true), iCmp .leq (.t 88) (.t 90)⟩, [86, 88, 90], false, 1, 1⟩,
 ⟨⟨some 92, false, none, iPick (.t 86) (.t 91) (.c (.bool (.lit false)))⟩, [86, 91], false, 1, 1⟩,
 ⟨⟨some 93, false, none, iMov (.t 92)⟩, [92], false, 1, 1⟩,
 ⟨⟨some 94, false, some (93, true), iFaddr 1 (.t 9)⟩, [93, 9], false, 1, 1⟩,
 ⟨⟨some 95, false, some (93, true), iLoad (.t 94)⟩, [93, 94], false, 1, 1⟩,
 ⟨⟨some 96, false, some (93, true), iFaddr 1 (.t 7)⟩, [93, 7], false, 1, 1⟩,
 ⟨⟨some 97, false, some (93, true), iLoad (.t 96)⟩, [93, 96], false, 1, 1⟩,
 ⟨⟨some 98, false, some (93, true), iCmp .leq (.t 95) (.t 97)⟩, [93, 95, 97], false, 1, 1⟩,
 ⟨⟨some 99, false, none, iPick (.t 93) (.t 98) (.c (.bool (.lit false)))⟩, [93, 98], false, 1, 1⟩,
 ⟨⟨some 100, false, none, iMov (.t 99)⟩, [99], false, 1, 1⟩,
 ⟨⟨some 101, false, some (100, true), iCall (.c (.func (.func 25) [] [])) []⟩, [100], true, 1, 0⟩,
 ⟨⟨some 102, false, none, iPick (.t 100) (.t 101) (.c (.bool (.lit false)))⟩, [100, 101], false, 2, 2⟩,
 ⟨⟨some 4, true, none, iMov (.t 102)⟩, [102], false, 2, 2⟩])
 cRet))))))))

theorem ends_compiles : cCodeX endsLoopC Sx.Tryd.tt.get Tryd.f12.ntmps Sx.Tryd.kp12 12 (bodyOf Tryd.f12) = some endsCode := by kernel_rfl
theorem ends_loops : (loopsOf (bodyOf Tryd.f12)).map (cCode Sx.Tryd.tt.get Tryd.f12.ntmps Sx.Tryd.kp12 12) = [some endsBody] := by kernel_rfl
theorem ends_ranges : (loopsOf (bodyOf Tryd.f12)).map ranges = [[]] := by kernel_rfl

theorem ends_code_ok : COk pT Tryd.f12.ntmps Sx.Tryd.kp12 endsCode (bodyOf Tryd.f12) := by
  refine cCodeX_ok tabsL.types tabsL.mixed _ _ ends_compiles (loopsOk_of _ fun a ha => ?_)
  have h1 : cCode Sx.Tryd.tt.get Tryd.f12.ntmps Sx.Tryd.kp12 12 a = some endsBody := by
    have := List.mem_map_of_mem (f := cCode Sx.Tryd.tt.get Tryd.f12.ntmps Sx.Tryd.kp12 12) ha
    rw [ends_loops] at this
    exact List.mem_singleton.1 this
  have h2 : ranges a = [] := by
    have := List.mem_map_of_mem (f := ranges) ha
    rw [ends_ranges] at this
    exact List.mem_singleton.1 this
  exact endsLoop_ok (cCode_ok tabsL.types tabsL.mixed a endsBody h1 (rcOf_rng [] h2 (by simp))) (by kernel_rfl)

noncomputable def endsArgs (L : Nat) : List AV := [filmL L, .agg [vi 5, vi 6]]
noncomputable def endsTree (L : Nat) : T (AV × Heap) :=
  (endsCode cxL ⟨12, none⟩ ⟨⟨[], tmOf (endsArgs L) 0 .nil⟩, [], viewHeap 2000 (viewsL L)⟩).bind (finish ⟨Tryd.f12.params.size + Tryd.f12.nfree, endsCode, [.t 4]⟩)

theorem ends_call (L : Nat) : CallOk pT 12 (endsArgs L) (viewHeap 2000 (viewsL L)) (endsTree L) :=
  bodyOf_ok tabsL.types cxL_ok Tryd.func12 (by kernel_rfl) (by kernel_rfl) ends_code_ok (by kernel_rfl) (by kernel_rfl) (by show 2 ≤ _; exact of_decide_eq_true (by kernel_rfl))

/-! ## What is always so -/
noncomputable def remE6 : IE := .bin .rem .i64 (.var 6) (.lit 999)
noncomputable def negE6 : BE := .cmp .lss remE6 (.lit 0)
noncomputable def nE6 (b : Bool) : IE := cond b (.bin .add .i64 remE6 (.lit 999)) remE6
noncomputable def upE (n : IE) : IE := .bin .add .i64 n (.lit 1)
noncomputable def goodK (n : IE) (k : Nat) : List BE :=
  [endsOk n (.var (6 * k + 14)) (.var (6 * k + 15)) (.var 2) (.var 3),
   .and (.cmp .eql (wornLo k n) (wornLo k n)) (.and (.cmp .eql (wornHi k n) (wornHi k n)) (.lit true)),
   .cmp .leq (wornLo k (upE n)) (wornLo k n), .cmp .leq (wornHi k (upE n)) (wornHi k n)]
noncomputable def goodUp (n : IE) : Nat → List BE
  | 0 => []
  | k + 1 => goodK n k ++ goodUp n k
noncomputable def goodL (L : Nat) (n : IE) : List BE := conjB (nC n ++ csL L) :: conjB (nC (upE n) ++ csL L) :: goodUp n L

noncomputable def isTrueV (v : AV) : Bool :=
  match v with
  | .bool b => (match b with
    | .lit b => b
    | _ => false)
  | _ => false

noncomputable def inG (L : Nat) (c : BE) (neg : Option Bool) : Bool :=
  match neg with
  | some b => inB c (goodL L (nE6 b))
  | none => false

noncomputable def chkE (L : Nat) (t : T (AV × Heap)) : Bool → Option Bool → Bool :=
  @T.rec (AV × Heap) (fun _ => Bool → Option Bool → Bool) (fun r _ _ => isTrueV r.1)
    (fun c _ _ iht ihf snd neg =>
      cond (eqBE c negE6) (and (iht snd (some true)) (ihf snd (some false)))
      (cond (eqBE c (conjB (csL L))) (and (iht true neg) (ihf snd neg))
      (cond (and snd (inG L c neg)) (iht snd neg) (and (iht snd neg) (ihf snd neg)))))
    (fun _ _ _ => false) t

noncomputable def runE (L : Nat) : Bool := chkE L (endsTree L) false none
theorem ends_run1 : runE 1 = true := by kernel_rfl
theorem ends_run2 : runE 2 = true := by kernel_rfl
theorem ends_run3 : runE 3 = true := by kernel_rfl
theorem ends_run4 : runE 4 = true := by kernel_rfl
theorem ends_run5 : runE 5 = true := by kernel_rfl
theorem ends_run6 : runE 6 = true := by kernel_rfl
theorem ends_runs {L : Nat} (h1 : 1 ≤ L) (h6 : L ≤ 6) : runE L = true := by
  match L, h1, h6 with
  | 1, _, _ => exact ends_run1
  | 2, _, _ => exact ends_run2
  | 3, _, _ => exact ends_run3
  | 4, _, _ => exact ends_run4
  | 5, _, _ => exact ends_run5
  | 6, _, _ => exact ends_run6
  | n + 7, _, h => omega

theorem csUp_rest {c : BE} (h : c ∈ restC) : ∀ (k b : Nat), c ∈ csUp k b
  | 0, _ => h
  | k + 1, b => List.mem_append.2 (.inr (csUp_rest h k (b + 6)))
theorem csUp_reel {c : BE} : ∀ (k b i : Nat), i < k → c ∈ reelC (b + 6 * i) → c ∈ csUp k b
  | 0, _, _, h, _ => by omega
  | k + 1, b, 0, _, hc => List.mem_append.2 (.inl hc)
  | k + 1, b, i + 1, h, hc => List.mem_append.2 (.inr (csUp_reel k (b + 6) i (by omega) (by rw [show b + 6 + 6 * i = b + 6 * (i + 1) by omega]; exact hc)))

theorem goodUp_mem {c : BE} {n : IE} : ∀ (L : Nat), c ∈ goodUp n L → ∃ k, k < L ∧ c ∈ goodK n k
  | 0, h => by cases h
  | L + 1, h => by
    rcases List.mem_append.1 h with h | h
    · exact ⟨L, by omega, h⟩
    · obtain ⟨k, h1, h2⟩ := goodUp_mem L h
      exact ⟨k, by omega, h2⟩

theorem lo_den {ρ : Rho} {l n t : IE} (hl : 0 ≤ l.den ρ ∧ l.den ρ ≤ 1200) (hn : 0 ≤ n.den ρ ∧ n.den ρ ≤ 999) (ht : 0 ≤ t.den ρ ∧ t.den ρ ≤ 50) :
    (IE.mx (.lit 0) (.bin .sub .i64 l (.bin .mul .i64 n t))).den ρ = max 0 (l.den ρ - n.den ρ * t.den ρ) := by
  have e1 : 0 ≤ n.den ρ * t.den ρ := Int.mul_nonneg hn.1 ht.1
  have e2 : n.den ρ * t.den ρ ≤ 999 * 50 := Int.mul_le_mul hn.2 ht.2 ht.1 (by omega)
  rw [IE.den_mx, IE.den_lit, IE.den_sub, IE.den_mul, IntWalk.i64_in (n.den ρ * t.den ρ) (by omega), IntWalk.i64_in _ (by omega)]

theorem good_ok {ρ : Rho} {L : Nat} {n : IE} (hcs : ∀ c ∈ csL L, c.den ρ = true) (hn : 0 ≤ n.den ρ ∧ n.den ρ ≤ 998) : ∀ c ∈ goodL L n, c.den ρ = true := by
  have hup : (upE n).den ρ = n.den ρ + 1 := by
    rw [upE, IE.den_add, IE.den_lit, IntWalk.i64_in _ (by omega)]
  have nc : ∀ m : IE, 0 ≤ m.den ρ → m.den ρ ≤ 999 → (conjB (nC m ++ csL L)).den ρ = true := fun m h1 h2 => (conjB_den _).2 fun c hc => by
    rcases List.mem_append.1 hc with hc | hc
    · simp only [nC, List.mem_cons, List.not_mem_nil, or_false] at hc
      rcases hc with rfl | rfl
      · rw [BE.t_geq, IE.den_lit]; exact h1
      · rw [BE.t_leq, IE.den_lit]; exact h2
    · exact hcs c hc
  have rest : ∀ c ∈ restC, c.den ρ = true := fun c hc => hcs c (csUp_rest hc L 10)
  have t1 : 0 ≤ ρ.iv 2 := by
    have := rest (le2 (.lit 0) (.var 2)) (by simp [restC]); rwa [le2, BE.t_leq] at this
  have t2 : ρ.iv 2 ≤ ρ.iv 3 := by
    have := rest (le2 (.var 2) (.var 3)) (by simp [restC]); rwa [le2, BE.t_leq] at this
  have t3 : ρ.iv 3 ≤ 50 := by
    have := rest (le2 (.var 3) (.lit 50)) (by simp [restC]); rwa [le2, BE.t_leq] at this
  intro c hc
  simp only [goodL, List.mem_cons] at hc
  rcases hc with rfl | rfl | hc
  · exact nc n hn.1 (by omega)
  · exact nc (upE n) (by omega) (by omega)
  · obtain ⟨k, hk, hc⟩ := goodUp_mem L hc
    have reel : ∀ c ∈ reelC (10 + 6 * k), c.den ρ = true := fun c hc => hcs c (csUp_reel L 10 k hk hc)
    have e4 : 10 + 6 * k + 4 = 6 * k + 14 := by omega
    have e5 : 10 + 6 * k + 5 = 6 * k + 15 := by omega
    have r1 : 1 ≤ ρ.iv (6 * k + 14) := by
      have := reel (le2 (.lit 1) (.var (10 + 6 * k + 4))) (by simp [reelC]); rw [le2, BE.t_leq, e4] at this; exact this
    have r2 : ρ.iv (6 * k + 14) ≤ ρ.iv (6 * k + 15) := by
      have := reel (le2 (.var (10 + 6 * k + 4)) (.var (10 + 6 * k + 5))) (by simp [reelC]); rw [le2, BE.t_leq, e4, e5] at this; exact this
    have r3 : ρ.iv (6 * k + 15) ≤ 1200 := by
      have := reel (le2 (.var (10 + 6 * k + 5)) (.lit 1200)) (by simp [reelC]); rw [le2, BE.t_leq, e5] at this; exact this
    have step : ∀ (j t : Nat), (0 ≤ ρ.iv j ∧ ρ.iv j ≤ 1200) → (0 ≤ ρ.iv t ∧ ρ.iv t ≤ 50) →
        (IE.mx (.lit 0) (.bin .sub .i64 (.var j) (.bin .mul .i64 (upE n) (.var t)))).den ρ ≤ (IE.mx (.lit 0) (.bin .sub .i64 (.var j) (.bin .mul .i64 n (.var t)))).den ρ := fun j t hj ht => by
      rw [lo_den (l := .var j) (n := upE n) (t := .var t) hj (by omega) ht, lo_den (l := .var j) (n := n) (t := .var t) hj (by omega) ht, hup, IE.den_var, IE.den_var, Int.add_mul]
      generalize n.den ρ * ρ.iv t = x
      omega
    simp only [goodK, List.mem_cons, List.not_mem_nil, or_false] at hc
    rcases hc with rfl | rfl | rfl | rfl
    · simp only [endsOk, BE.t_and, BE.t_leq, IE.den_lit, IE.den_var]
      omega
    · rw [BE.t_and, BE.t_and, BE.t_eql, BE.t_eql, BE.t_lit]; exact ⟨rfl, rfl, rfl⟩
    · rw [BE.t_leq]; exact step _ _ (by omega) (by omega)
    · rw [BE.t_leq]; exact step _ _ (by omega) (by omega)

theorem chkE_br (L : Nat) (c : BE) (t f : T (AV × Heap)) (snd : Bool) (neg : Option Bool) : chkE L (.br c t f) snd neg =
    cond (eqBE c negE6) (and (chkE L t snd (some true)) (chkE L f snd (some false)))
      (cond (eqBE c (conjB (csL L))) (and (chkE L t true neg) (chkE L f snd neg))
      (cond (and snd (inG L c neg)) (chkE L t snd neg) (and (chkE L t snd neg) (chkE L f snd neg)))) := rfl

theorem nE6_bnd {ρ : Rho} {b : Bool} (h : negE6.den ρ = b) : 0 ≤ (nE6 b).den ρ ∧ (nE6 b).den ρ ≤ 998 := by
  have h1 := Int.tmod_lt_of_pos (ρ.iv 6) (show (0 : Int) < 999 by omega)
  have h2 : -(999 : Int) < (ρ.iv 6).tmod 999 := by
    have := Int.tmod_lt_of_pos (-(ρ.iv 6)) (show (0 : Int) < 999 by omega)
    rw [Int.neg_tmod] at this; omega
  have hr : remE6.den ρ = (ρ.iv 6).tmod 999 := rfl
  have hd : negE6.den ρ = true ↔ (ρ.iv 6).tmod 999 < 0 := by rw [negE6, BE.t_lss, hr, IE.den_lit]
  cases b with
  | true =>
    have := hd.1 h
    show 0 ≤ (IE.bin .add .i64 remE6 (.lit 999)).den ρ ∧ (IE.bin .add .i64 remE6 (.lit 999)).den ρ ≤ 998
    rw [IE.den_add, hr, IE.den_lit, IntWalk.i64_in _ (by omega)]
    omega
  | false =>
    have : ¬ (ρ.iv 6).tmod 999 < 0 := fun hc => by rw [hd.2 hc] at h; cases h
    show 0 ≤ remE6.den ρ ∧ remE6.den ρ ≤ 998
    rw [hr]; omega

theorem chkE_ok {ρ : Rho} {L : Nat} : ∀ (t : T (AV × Heap)) (snd : Bool) (neg : Option Bool), chkE L t snd neg = true → (snd = true → ∀ c ∈ csL L, c.den ρ = true) → (∀ b, neg = some b → negE6.den ρ = b) → t.Holds ρ (fun r => isTrueV r.1 = true)
  | .ret r, _, _, h, _, _ => h
  | .fail w, _, _, h, _, _ => by cases h
  | .br c t f, snd, neg, h, hs, hn => by
    rw [chkE_br] at h
    simp only [T.Holds]
    cases h1 : eqBE c negE6 with
    | true =>
      rw [h1, cond_true, Bool.and_eq_true] at h
      have := eqBE_eq _ _ h1
      subst this
      split
      · rename_i hc; exact chkE_ok t snd (some true) h.1 hs (fun b hb => by cases hb; exact hc)
      · rename_i hc; exact chkE_ok f snd (some false) h.2 hs (fun b hb => by cases hb; simpa using hc)
    | false =>
      rw [h1, cond_false] at h
      cases h2 : eqBE c (conjB (csL L)) with
      | true =>
        rw [h2, cond_true, Bool.and_eq_true] at h
        have := eqBE_eq _ _ h2
        subst this
        split
        · rename_i hc; exact chkE_ok t true neg h.1 (fun _ => (conjB_den _).1 hc) hn
        · exact chkE_ok f snd neg h.2 hs hn
      | false =>
        rw [h2, cond_false] at h
        cases h3 : (and snd (inG L c neg)) with
        | true =>
          rw [h3, cond_true] at h
          rw [Bool.and_eq_true] at h3
          cases neg with
          | none => cases h3.2
          | some b =>
            have hc : c.den ρ = true := good_ok (hs h3.1) (nE6_bnd (hn b rfl)) c (inB_mem _ h3.2)
            rw [if_pos hc]
            exact chkE_ok t snd (some b) h hs hn
        | false =>
          rw [h3, cond_false, Bool.and_eq_true] at h
          split
          · exact chkE_ok t snd neg h.1 hs hn
          · exact chkE_ok f snd neg h.2 hs hn

theorem isTrueV_conc {E : Env} {v : AV} {cv : Value} (h : isTrueV v = true) (hc : conc E v = some cv) : cv = .bool true := by
  unfold isTrueV at h
  split at h
  · split at h
    · subst h; simpa [conc, BE.den] using hc.symm
    · cases h
  · cases h

/-- THE LAW, called with a film of one to six reels. -/
theorem ends_calls {L : Nat} (h1 : 1 ≤ L) (h6 : L ≤ 6) {E : Env} {w : World} (hv : ∀ g ∈ viewsL L, ViewIn w E g) (hf : ∀ b, 2000 ≤ b → E.σ b = none) (hg : ∀ b, b < 1000 → E.σ b = some (b, 0)) (hn : E.n ≤ 2000) {vs : List Value}
    (ha : concL E (endsArgs L) = some vs) : Calls Tryd.prog 12 vs.toArray w fun e w' => e = .returned (.bool true) ∧ Below w.heap.size w w' := by
  have hrun := ends_runs h1 h6
  unfold runE at hrun
  have hh := chkE_ok (ρ := E.ρ) (endsTree L) false none hrun (fun h => by cases h) (fun b h => by cases h)
  refine (ends_call L vs E w w _ (fun cv w' => cv = .bool true ∧ Below w.heap.size w w') hh (view_ok hv hf hg hn) ha ?_).2.mono ?_
  · intro v h' E' w' cv q hle HH hcv
    exact ⟨isTrueV_conc q hcv, HH.below⟩
  · rintro e w' ⟨v, rfl, rfl, hb⟩
    exact ⟨rfl, hb⟩

end Go.Sx
