/- THE LAW OF THE TIMES: its checks. -/
import Derived.Test.YtgohpnfoogdlaaaDoorTmP
import Derived.Test.YtgohpnfoogdlaaaDoorSxFold
/-! THE LAW OF THE TIMES: its calls with names, and its run. -/
namespace Go.Sx
open Go.RowKit Go.Proofs
set_option maxRecDepth 100000
noncomputable def pT : Par := ⟨Tryd.prog, rcOf Tryd.rows, fun _ _ => True⟩
theorem tabs0 : TabOk pT Sx.Tryd.tt.get tb0 := Tryd.tab (fun _ _ _ => none) (fun _ _ _ _ h => by cases h) 2000
noncomputable def le2 (a b : IE) : BE := .cmp .leq a b
noncomputable def reelC (b : Nat) : List BE :=
  [le2 (.lit 0) (.var b), le2 (.var b) (.var (b + 1)), le2 (.var (b + 1)) (.lit 99), le2 (.lit 0) (.var (b + 2)), le2 (.var (b + 2)) (.var (b + 3)), le2 (.var (b + 3)) (.lit 99), le2 (.lit 1) (.var (b + 4)), le2 (.var (b + 4)) (.var (b + 5)), le2 (.var (b + 5)) (.lit 1200), le2 (.var b) (.var (b + 3))]
noncomputable def restC : List BE := [le2 (.lit 1) (.var 0), le2 (.var 0) (.var 1), le2 (.var 1) (.lit 20), le2 (.lit 0) (.var 2), le2 (.var 2) (.var 3), le2 (.var 3) (.lit 50), le2 (.lit 1) (.var 4), le2 (.var 4) (.lit 6000)]
noncomputable def csUp : Nat → Nat → List BE
  | 0, _ => restC
  | n + 1, b => reelC b ++ csUp n (b + 6)
noncomputable def csL (L : Nat) : List BE := csUp L 10
noncomputable def numsV : List AV := [vi 0, vi 1, vi 2, vi 3, vi 4]
noncomputable def filmV (L : Nat) : AV := .agg (.sliceX 1001 6 0 L :: numsV)
noncomputable def filmM (L : Nat) : AV := .agg (.sliceX 1001 6 0 L :: [vi 0, vi 1, vi 2, vi 3, vi 4, .map 1005])
noncomputable def glV : List (Nat × List AV) := [(0, [li 1, li 20, li 0, li 50]), (1, [li 0, li 99, li 0, li 99, li 1, li 1200])]
noncomputable def viewV (L : Nat) : List (Nat × List AV) := (1001, cellsUp (6 * L) 10) :: glV
noncomputable def conjC : List BE → BE
  | [] => .lit true
  | c :: l => .and c (conjC l)
noncomputable def upTo : Nat → List Nat
  | 0 => []
  | n + 1 => upTo n ++ [n]
theorem upTo_mem : ∀ (n j : Nat), j ∈ upTo n ↔ j < n
  | 0, j => by simp [upTo]
  | n + 1, j => by simp only [upTo, List.mem_append, List.mem_singleton, upTo_mem n j]; omega
noncomputable def only (t : T (AV × Heap)) : T AV := t.bind fun r => .ret r.1
theorem only_leaf {ρ : Rho} {P : AV → Prop} {t : T (AV × Heap)} (h : t.Holds ρ fun r => P r.1) : ∃ v, (only t).leaf ρ = some v ∧ P v := by
  have : (only t).Holds ρ P := by unfold only; rw [T.holds_bind]; exact h
  exact T.holds_leaf _ this
noncomputable def servesX (R : Rules) (u t : T AV) : Kn → Bool :=
  @T.rec AV (fun _ => Kn → Bool) (fun a K => cond (matchU a u K) true (fires R K (.lit false)))
    (fun c _ _ ih1 ih2 K => match decW R K c with
      | some b => cond b (ih1 K) (ih2 K)
      | none => and (ih1 (addK true c K)) (ih2 (addK false c K)))
    (fun _ K => cond (deadU u K) true (fires R K (.lit false))) t
theorem servesX_ok {ρ : Rho} {R : Rules} (HR : RulesOk ρ R) {P : AV → Prop} {u : T AV} (hu : u.Holds ρ P) : ∀ (t : T AV) (K : Kn), KnOk ρ K → servesX R u t K = true → t.Holds ρ fun a => ∃ b, P b ∧ pureAV b = true ∧ SameE ρ a b
  | .ret a, K, H, h => by
    have h : cond (matchU a u K) true (fires R K (.lit false)) = true := h
    cases hm : matchU a u K with
    | true => exact matchU_ok u K H hm hu
    | false => rw [hm] at h; exact absurd (fires_ok H HR h) (by simp [BE.den])
  | .fail w, K, H, h => by
    have h : cond (deadU u K) true (fires R K (.lit false)) = true := h
    cases hm : deadU u K with
    | true => exact (deadU_ok u K H hm hu).elim
    | false => rw [hm] at h; exact absurd (fires_ok H HR h) (by simp [BE.den])
  | .br c x y, K, H, h => by
    have h : (match decW R K c with
      | some b => cond b (servesX R u x K) (servesX R u y K)
      | none => and (servesX R u x (addK true c K)) (servesX R u y (addK false c K))) = true := h
    simp only [T.Holds]
    split at h
    · rename_i b hb
      have hc := decW_ok HR H hb
      cases b with
      | true => rw [hc, if_pos rfl]; exact servesX_ok HR hu x K H h
      | false => rw [hc, if_neg (by simp)]; exact servesX_ok HR hu y K H h
    · simp only [Bool.and_eq_true] at h
      cases hc : c.den ρ with
      | true => rw [if_pos rfl]; exact servesX_ok HR hu x _ (addK_ok c true K H hc) h.1
      | false => rw [if_neg (by simp)]; exact servesX_ok HR hu y _ (addK_ok c false K H hc) h.2
noncomputable def entOrc1 (e : Ent) (args : List AV) (h : Heap) : Option (T (AV × Heap)) :=
  match e.meet args h with
  | some (.ret r) => some (.ret r)
  | _ => none
noncomputable def entsOrc (f : FuncId) (args : List AV) (h : Heap) (l : List Ent) : Option (T (AV × Heap)) :=
  @List.rec Ent (fun _ => Option (T (AV × Heap))) none (fun e _ ih => cond (Nat.beq f e.f) (match entOrc1 e args h with
    | some t => some t
    | none => ih) ih) l
/-! ## What a film is asked -/
noncomputable def reelsO (L : Nat) : Nat × VO := (1001, .cells (cellsUp (6 * L) 10))
noncomputable def viewF (L : Nat) : List (Nat × VO) := glV.map (fun g => (g.1, VO.cells g.2)) ++ [reelsO L]
noncomputable def tT : AV := .bool (.lit true)
noncomputable def filmE (L : Nat) : Ent := ⟨54, [filmV L], 2000, viewF L, tT, [], []⟩
noncomputable def refE (L : Nat) : Ent := ⟨42, [filmV L], 2000, [reelsO L], li 0, [], []⟩
noncomputable def runE (tb : Tabs) (d : Nat) (e : Ent) : T (AV × Heap) := evalN tb d false e.f e.args (viewO 2000 e.view)
noncomputable def stE (e : Ent) : Bool := and (viewUp 0 e.view) (outsOk 2000 e.view [])
noncomputable def filmCk (L : Nat) : Bool := and (stE (filmE L)) (servesX [] (.ret tT) (only (runE tb0 60 (filmE L))) (knOf [] (csL L)))
noncomputable def refCk (L : Nat) : Bool := and (stE (refE L)) (servesX [] (.ret (li 0)) (only (runE tb0 60 (refE L))) (knOf [] (csL L)))
/-! ## Feet -/
def hadV (k m : Nat) : Nat := 6 * k + 14 + m
def tornV (m : Nat) : Nat := match m with
  | 0 => 3
  | _ => 2
noncomputable def fnA (f : Nat) : AV := .func (.func f) [] []
/-- the functions of an end: 0 the least, 1 the most -/
noncomputable def endA (m : Nat) : List AV := match m with
  | 0 => [fnA 64, fnA 65]
  | _ => [fnA 65, fnA 64]
noncomputable def xC (L i : Nat) : List BE := [.cmp .leq (.lit 0) (.var (110 + i)), .cmp .leq (.var (110 + i)) (.lit (Int.ofNat (L - 1)))]
noncomputable def wornI (k m : Nat) : IE := .mx (.lit 0) (.bin .sub .i64 (.var (hadV k m)) (.bin .mul .i64 (.var 85) (.var (tornV m))))
noncomputable def chainT (x : Nat) (e : Nat → AV) : Nat → T AV
  | 0 => .fail 0
  | m + 1 => .br (.cmp .leq (.lit (Int.ofNat m)) (.var x)) (.ret (e m)) (chainT x e m)
noncomputable def spanV (i : Nat) : AV := .agg [vi (120 + i), vi (130 + i)]
noncomputable def wornE (L i : Nat) : Ent := ⟨44, [filmM L, vi (110 + i), vi 85], 2000, [reelsO L], spanV i, [], []⟩
noncomputable def rwornE (L i : Nat) : Ent := ⟨23, [filmV L, vi (110 + i), vi 85], 2000, [reelsO L], spanV i, [], []⟩
noncomputable def wornU (L i : Nat) : T AV := chainT (110 + i) (fun k => .agg [.int .i64 (wornI k 0), .int .i64 (wornI k 1)]) L
noncomputable def wornCk (L i : Nat) : Bool := and (stE (wornE L i)) (servesX [] (wornU L i) (only (runE tb0 60 (wornE L i))) (knOf [] (xC L i)))
noncomputable def rwornCk (L i : Nat) : Bool := and (stE (rwornE L i)) (servesX [] (wornU L i) (only (runE tb0 60 (rwornE L i))) (knOf [] (xC L i)))
noncomputable def feetV (i m : Nat) : AV := match m with
  | 0 => vi (120 + i)
  | _ => vi (130 + i)
noncomputable def feetE (L i m : Nat) : Ent := ⟨40, [filmM L, vi (110 + i), vi 85, .agg (endA m)], 2000, [reelsO L], feetV i m, [], []⟩
noncomputable def feetU (L i m : Nat) : T AV := chainT (110 + i) (fun k => .int .i64 (wornI k m)) L
noncomputable def feetCk (L i m : Nat) : Bool := and (stE (feetE L i m)) (servesX [] (feetU L i m) (only (runE tb0 60 (feetE L i m))) (knOf [] (xC L i)))
noncomputable def filmsCk (L : Nat) : Bool := and (filmCk L) (and (refCk L) (lAll (fun i => and (and (wornCk L i) (rwornCk L i)) (and (feetCk L i 0) (feetCk L i 1))) (upTo L)))
/-! ## The list -/
/-- which list: so many reels; none; none, but not nil; any one -/
inductive Lst where
  | reels (k : Nat)
  | nil
  | empty
  | any
noncomputable def Lst.av (q : Lst) : AV :=
  match q with
  | .reels k => .sliceX 1004 1 0 k
  | .nil => .nilslice
  | .empty => .sliceX 1004 1 0 0
  | .any => .sliceU 96
noncomputable def Lst.view (q : Lst) : List (Nat × List AV) :=
  match q with
  | .reels k => [(1004, cellsUp k 110)]
  | _ => []
noncomputable def Lst.res (q : Lst) : Bool :=
  match q with
  | .any => false
  | _ => true
noncomputable def Lst.here (q : Lst) (h : Heap) : Bool :=
  match q with
  | .reels k => (match h.get 1004 with
    | some (.cells cs _ _ _) => eqAVs cs (cellsUp k 110)
    | _ => false)
  | _ => true
noncomputable def lstOrc (q : Lst) (s l : AV) (h : Heap) (L : Nat) : Option (T (AV × Heap)) :=
  cond (and (eqAV s (.sliceX 1001 6 0 L)) (and (eqAV l q.av) (q.here h))) (some (.ret (.bool (.lit q.res), h))) none
noncomputable def areOrc (q : Lst) (L : Nat) (args : List AV) (h : Heap) : Option (T (AV × Heap)) :=
  match args with
  | [.agg [s, .int .i64 _, .int .i64 _, .int .i64 _, .int .i64 _, .int .i64 _, .map _], l] => lstOrc q s l h L
  | _ => none
noncomputable def rareOrc (q : Lst) (L : Nat) (args : List AV) (h : Heap) : Option (T (AV × Heap)) :=
  match args with
  | [.agg [s, .int .i64 _, .int .i64 _, .int .i64 _, .int .i64 _, .int .i64 _], l] => lstOrc q s l h L
  | _ => none
/-! ## The run -/
noncomputable def kOf (q : Lst) : Nat := match q with | .reels k => k | _ => 0
noncomputable def entsL (L k : Nat) : List Ent := filmE L :: refE L :: (upTo k).flatMap fun i => [wornE L i, rwornE L i, feetE L i 0, feetE L i 1]
noncomputable def orcL (L : Nat) (q : Lst) (sh : Bool) (f : FuncId) (args : List AV) (h : Heap) : Option (T (AV × Heap)) :=
  cond (Nat.beq f 12) (closedOrc glV args h) (cond (Nat.beq f 14) (areOrc q L args h) (cond (Nat.beq f 18) (rareOrc q L args h) (entsOrc f args h (entsL L (cond sh (kOf q) 0)))))
noncomputable def tbL (L : Nat) (q : Lst) (sh : Bool) : Tabs := ⟨Sx.Tryd.ft.get, lFind Sx.Tryd.rt, 2000, orcL L q sh⟩
noncomputable def lawArgs (L : Nat) (q : Lst) : List AV := [filmV L, q.av, vi 85]
noncomputable def lawView (L : Nat) (q : Lst) : List (Nat × List AV) := q.view ++ viewV L
noncomputable def lawRun (L : Nat) (q : Lst) (sh : Bool) : T (AV × Heap) := evalN (tbL L q sh) 60 false 3 (lawArgs L q) (viewHeap 2000 (lawView L q))
end Go.Sx
/-! THE LAW OF THE TIMES: its checks. -/
namespace Go.Sx
open Go.RowKit Go.Proofs
set_option maxRecDepth 100000
noncomputable def sumE (v : Nat) : Nat → IE
  | 0 => .lit 0
  | s + 1 => .bin .add .i64 (sumE v s) (.var (v + s))
noncomputable def refS (v t : Nat) : Nat → IE
  | 0 => .lit 0
  | s + 1 => .bin .add .i64 (refS v t s) (.bin .mul .i64 (.var (v + s)) (.var t))
/-- all reels together: times the seconds, or each one -/
noncomputable def eqC (v t s : Nat) : BE := .cmp .eql (.bin .mul .i64 (sumE v s) (.var t)) (refS v t s)
noncomputable def ivTm (k : Nat) : List (Nat × Int × Int) := [(0, 1, 20), (1, 1, 20), (4, 1, 6000), (85, 0, 999)] ++ (upTo k).flatMap (fun i => [(120 + i, 0, 1200), (130 + i, 0, 1200)])
noncomputable def factT (k : Nat) : List BE := le2 (.var 0) (.var 1) :: ((upTo k).map fun i => le2 (.var (120 + i)) (.var (130 + i))) ++ (upTo k).flatMap fun s => [eqC 120 0 (s + 1), eqC 130 1 (s + 1)]
/-- which reels begin a spool: by cases -/
noncomputable def room0 : IE := .bin .sub .i64 (.var 4) (.var 130)
noncomputable def splits : Nat → Nat → IE → List (List BE)
  | 0, _, _ => [[]]
  | d + 1, i, r => (splits d (i + 1) (.bin .sub .i64 (.var 4) (.var (130 + i)))).map (fun l => .cmp .gtr (.var (130 + i)) r :: l) ++ (splits d (i + 1) (.bin .sub .i64 r (.var (130 + i)))).map (fun l => .cmp .leq (.var (130 + i)) r :: l)
noncomputable def lawCkC (L k : Nat) (e : List BE) : Bool := servesX [] (.ret tT) (only (lawRun L (.reels k) true)) (knOf (ivTm k) (factT k ++ e))
noncomputable def lawCkN (L k d j : Nat) : Bool :=
  match (splits d 1 room0)[j]? with
  | some e => lawCkC L k e
  | none => true
theorem splits_one {ρ : Rho} : ∀ (d i : Nat) (r : IE), ∃ e ∈ splits d i r, ∀ c ∈ e, c.den ρ = true
  | 0, _, _ => ⟨[], List.mem_singleton.2 rfl, fun c hc => (List.not_mem_nil hc).elim⟩
  | d + 1, i, r => by
    by_cases h : (IE.var (130 + i)).den ρ > r.den ρ
    · obtain ⟨e, he, hc⟩ := splits_one (ρ := ρ) d (i + 1) (.bin .sub .i64 (.var 4) (.var (130 + i)))
      refine ⟨.cmp .gtr (.var (130 + i)) r :: e, List.mem_append.2 (.inl (List.mem_map.2 ⟨e, he, rfl⟩)), fun c hc2 => ?_⟩
      rcases List.mem_cons.1 hc2 with rfl | hc2
      · exact decide_eq_true h
      · exact hc c hc2
    · obtain ⟨e, he, hc⟩ := splits_one (ρ := ρ) d (i + 1) (.bin .sub .i64 r (.var (130 + i)))
      refine ⟨.cmp .leq (.var (130 + i)) r :: e, List.mem_append.2 (.inr (List.mem_map.2 ⟨e, he, rfl⟩)), fun c hc2 => ?_⟩
      rcases List.mem_cons.1 hc2 with rfl | hc2
      · rw [BE.t_leq]; omega
      · exact hc c hc2
/-- showings that are not so many -/
noncomputable def fewC : BE := .cmp .lss (.var 85) (.lit 0)
noncomputable def manyC : BE := .cmp .lss (.lit 999) (.var 85)
noncomputable def lawShCk (L k : Nat) : Bool := and (servesX [] (.ret tT) (only (lawRun L (.reels k) false)) (knOf [] [fewC])) (servesX [] (.ret tT) (only (lawRun L (.reels k) false)) (knOf [] [manyC]))
/-- no list, an empty one, or one that is not of reels -/
noncomputable def lawQCk (L : Nat) (q : Lst) : Bool := servesX [] (.ret tT) (only (lawRun L q false)) (knOf [] [eqC 120 0 0, eqC 130 1 0])
noncomputable def lawLCk (L : Nat) : Bool := and (lawQCk L .nil) (and (lawQCk L .empty) (and (lawQCk L .any) (lAll (fun k => lawShCk L (k + 1)) (upTo L))))
/-! ## Films that are not valid -/
noncomputable def notFilm (L : Nat) : CSpec := ⟨54, [filmV L], viewV L, 2000, [], .br (conjC (csL L)) (.fail 1) (.ret (.bool (.lit false)))⟩
noncomputable def notRef (L : Nat) : CSpec := ⟨42, [filmV L], viewV L, 2000, [], .br (conjC (csL L)) (.fail 1) (.ret (li 10))⟩
noncomputable def ckI (L : Nat) : Bool := and ((notFilm L).chk (evalN tb0 60 false 54 (notFilm L).args (viewHeap 2000 (notFilm L).view))) ((notRef L).chk (evalN tb0 60 false 42 (notRef L).args (viewHeap 2000 (notRef L).view)))
/-- what the specification asks of the list, though the film is not valid -/
noncomputable def badOrc (s : AV) (args : List AV) (h : Heap) : Option (T (AV × Heap)) :=
  match args with
  | [.agg [s', .int .i64 _, .int .i64 _, .int .i64 _, .int .i64 _, .int .i64 _], l] => cond (and (eqAV s' s) (eqAV l (.sliceU 96))) (some (.ret (.bool (.var 40), h))) none
  | _ => none
noncomputable def orcTI (L : Nat) (f : FuncId) (args : List AV) (h : Heap) : Option (T (AV × Heap)) :=
  cond (Nat.beq f 12) (closedOrc glV args h) (cond (Nat.beq f 18) (badOrc (.sliceX 1001 6 0 L) args h) (cond (Nat.beq f 54) ((notFilm L).orc args h) (cond (Nat.beq f 42) ((notRef L).orc args h) none)))
noncomputable def tbTI (L : Nat) : Tabs := ⟨Sx.Tryd.ft.get, lFind Sx.Tryd.rt, 2000, orcTI L⟩
noncomputable def lawTI (L : Nat) : Bool := allK isTrueK (evalN (tbTI L) 60 false 3 [filmV L, .sliceU 96, vi 85] (viewHeap 2000 (viewV L))) ⟨.nil, [], [⟨conjC (csL L), false⟩]⟩
/-- a list of no reel, or of too many -/
noncomputable def filmW (s : AV) : AV := .agg [s, vi 0, vi 1, vi 2, vi 3, vi 4]
noncomputable def orcTS (s : AV) (f : FuncId) (args : List AV) (h : Heap) : Option (T (AV × Heap)) := cond (Nat.beq f 12) (closedOrc glV args h) (cond (Nat.beq f 18) (badOrc s args h) none)
noncomputable def tbTS (s : AV) : Tabs := ⟨Sx.Tryd.ft.get, lFind Sx.Tryd.rt, 2000, orcTS s⟩
noncomputable def lawTS (s : AV) (cs : List BE) : Bool := allK isTrueK (evalN (tbTS s) 60 false 3 [filmW s, .sliceU 96, vi 85] (viewHeap 2000 glV)) (knOf [] cs)
end Go.Sx
