/- THE LAW OF THE TIME: its run, for a valid film. -/
import Derived.Test.YtanhchkdglglhaaDoorRtC
/-! THE LAW OF THE TIME: its run, for a valid film. -/
namespace Go.Sx
open Go.RowKit Go.Proofs
set_option maxRecDepth 100000
noncomputable def timeArgs (L : Nat) : List AV := [filmV L, .sliceU 96, vi 85]
noncomputable def turnAt (a b : IE) : CSpec := ⟨48, [.int .i64 a, .int .i64 b], [], 2000, [], .ret (.int .i64 (.app 6 a b (.lit 0)))⟩
noncomputable def chooseAt (l h n : IE) : CSpec := ⟨52, [.agg [.int .i64 l, .int .i64 h], .int .i64 n], [], 2000, [.cmp .leq (.lit 0) l, .cmp .leq h (.lit 1000000)], .ret (.int .i64 (.app 7 l h n))⟩
noncomputable def plus1 (e : IE) : IE := .bin .add .i64 e (.lit 1)
noncomputable def namedI (i : Nat) : List (CSpec × AV) := [(chooseAt (.var (120 + i)) (.var (130 + i)) (pickE i), vi (150 + i)), (turnAt (pickE (i + 1)) (plus1 (.var (150 + i))), vi (160 + i))]
noncomputable def namedJ (j : Nat) : CSpec × AV := (chooseAt (.var 0) (.var 1) (pickE j), vi (170 + j))
noncomputable def namedL (L : Nat) : List (CSpec × AV) := (turnAt (.var 85) (.lit 200), vi 140) :: (upTo L).flatMap namedI ++ (upTo (L + 1)).map fun j => namedJ (j + 2)
noncomputable def namedOrc (f : FuncId) (args : List AV) (h : Heap) (l : List (CSpec × AV)) : Option (T (AV × Heap)) :=
  @List.rec (CSpec × AV) (fun _ => Option (T (AV × Heap))) none (fun c _ ih => cond (Nat.beq f c.1.f) (match c.1.orcX c.2 args h with
    | some t => some t
    | none => ih) ih) l
noncomputable def entsL (L : Nat) : List Ent := filmE L :: soundE L :: reelsE L :: (upTo L).flatMap fun i => [wornE L i, feetE L i 0, feetE L i 1]
noncomputable def entsOrc (f : FuncId) (args : List AV) (h : Heap) (l : List Ent) : Option (T (AV × Heap)) :=
  @List.rec Ent (fun _ => Option (T (AV × Heap))) none (fun e _ ih => cond (Nat.beq f e.f) (match entOrc1 e args h with
    | some t => some t
    | none => ih) ih) l
noncomputable def orcL (L : Nat) (f : FuncId) (args : List AV) (h : Heap) : Option (T (AV × Heap)) :=
  cond (Nat.beq f 25) (closedOrc glV args h) (cond (Nat.beq f 54) (pickOrc args h) (cond (Nat.beq f 49) (shufOrc L args h) (match namedOrc f args h (namedL L) with
    | some t => some t
    | none => entsOrc f args h (entsL L))))
noncomputable def tbL (L : Nat) : Tabs := ⟨Sx.Tryd.ft.get, lFind Sx.Tryd.rt, 2000, orcL L⟩
noncomputable def timeRun (L : Nat) : T (AV × Heap) := evalN (tbL L) 60 false 13 (timeArgs L) (viewHeap 2000 (viewV L))
noncomputable def ivL (L : Nat) : List (Nat × Int × Int) := [(0, 1, 20), (1, 1, 20), (4, 1, 6000), (140, 0, 199)] ++ (upTo L).flatMap (fun i => [(120 + i, 0, 1200), (130 + i, 0, 1200), (150 + i, 0, 1200), (160 + i, 0, 1200)]) ++ (upTo (L + 1)).map fun j => (172 + j, 1, 20)
noncomputable def timeK (L : Nat) : List BE := xsC L ++ [.cmp .leq (.var 0) (.var 1)] ++ (upTo L).flatMap fun i => [.cmp .leq (.var (120 + i)) (.var (130 + i)), .cmp .leq (.var (120 + i)) (.var (150 + i)), .cmp .leq (.var (150 + i)) (.var (130 + i)), .cmp .leq (.var (160 + i)) (.var (150 + i))]
noncomputable def sumE (v : Nat) : Nat → IE
  | 0 => .lit 0
  | s + 1 => .bin .add .i64 (sumE v s) (.var (v + s))
noncomputable def oneE (i : Nat) : IE := .bin .add .i64 (.bin .mul .i64 (.var (160 + i)) (.var (172 + i))) (.bin .mul .i64 (.bin .sub .i64 (.var (150 + i)) (.var (160 + i))) (.var (173 + i)))
noncomputable def allE : Nat → IE
  | 0 => .lit 0
  | s + 1 => .bin .add .i64 (allE s) (oneE s)
noncomputable def endE (v t s : Nat) : IE := .bin .mul .i64 (sumE v s) (.var t)
noncomputable def timeR (L : Nat) : Rules := (upTo (L + 1)).flatMap fun s => [([], .cmp .geq (allE s) (endE 120 0 s)), ([], .cmp .leq (allE s) (endE 130 1 s))]
noncomputable def timeCk (L : Nat) : Bool := servesX (timeR L) (.ret tT) (only (timeRun L)) (knOf (ivL L) (timeK L))
/-- which reels begin a spool: by cases -/
noncomputable def room0 : IE := .bin .sub .i64 (.var 4) (.var 130)
noncomputable def splits : Nat → Nat → IE → List (List BE)
  | 0, _, _ => [[]]
  | d + 1, i, r => (splits d (i + 1) (.bin .sub .i64 (.var 4) (.var (130 + i)))).map (fun l => .cmp .gtr (.var (130 + i)) r :: l) ++ (splits d (i + 1) (.bin .sub .i64 r (.var (130 + i)))).map (fun l => .cmp .leq (.var (130 + i)) r :: l)
noncomputable def timeCkC (L : Nat) (e : List BE) : Bool := servesX (timeR L) (.ret tT) (only (timeRun L)) (knOf (ivL L) (timeK L ++ e))
noncomputable def timeCkN (L d k : Nat) : Bool :=
  match (splits d 1 room0)[k]? with
  | some e => timeCkC L e
  | none => true
theorem splits_one {ρ : Rho} : ∀ (d i : Nat) (r : IE), ∃ e ∈ splits d i r, ∀ c ∈ e, c.den ρ = true
  | 0, _, _ => ⟨[], List.mem_singleton.2 rfl, fun c hc => (List.not_mem_nil hc).elim⟩
  | d + 1, i, r => by
    by_cases h : (IE.var (130 + i)).den ρ > r.den ρ
    · obtain ⟨e, he, hc⟩ := splits_one (ρ := ρ) d (i + 1) (.bin .sub .i64 (.var 4) (.var (130 + i)))
      refine ⟨.cmp .gtr (.var (130 + i)) r :: e, List.mem_append.2 (.inl (List.mem_map.2 ⟨e, he, rfl⟩)), fun c hc2 => ?_⟩
      rcases List.mem_cons.1 hc2 with rfl | hc2
      · exact decide_eq_true h
      · exact hc c hc2
    · obtain ⟨e, he, hc⟩ := splits_one (ρ := ρ) d (i + 1) (.bin .sub .i64 r (.var (130 + i)))
      refine ⟨.cmp .leq (.var (130 + i)) r :: e, List.mem_append.2 (.inr (List.mem_map.2 ⟨e, he, rfl⟩)), fun c hc2 => ?_⟩
      rcases List.mem_cons.1 hc2 with rfl | hc2
      · rw [BE.t_leq]; omega
      · exact hc c hc2
end Go.Sx
