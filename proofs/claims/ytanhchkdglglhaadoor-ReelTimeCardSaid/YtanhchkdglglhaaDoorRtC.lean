/- WHAT A FILM IS ASKED, with names: for a valid film, and reels in an order that has names. -/
import Derived.Test.YtanhchkdglglhaaDoorRtB
/-! WHAT A FILM IS ASKED, with names: for a valid film, and reels in an order that has names. -/
namespace Go.Sx
open Go.RowKit Go.Proofs
set_option maxRecDepth 100000
noncomputable def servesX (R : Rules) (u t : T AV) : Kn → Bool :=
  @T.rec AV (fun _ => Kn → Bool) (fun a K => cond (matchU a u K) true (fires R K (.lit false)))
    (fun c _ _ ih1 ih2 K => match decW R K c with
      | some b => cond b (ih1 K) (ih2 K)
      | none => and (ih1 (addK true c K)) (ih2 (addK false c K)))
    (fun _ K => cond (deadU u K) true (fires R K (.lit false))) t
theorem servesX_ok {ρ : Rho} {R : Rules} (HR : RulesOk ρ R) {P : AV → Prop} {u : T AV} (hu : u.Holds ρ P) : ∀ (t : T AV) (K : Kn), KnOk ρ K → servesX R u t K = true → t.Holds ρ fun a => ∃ b, P b ∧ pureAV b = true ∧ SameE ρ a b
  | .ret a, K, H, h => by
    have h : cond (matchU a u K) true (fires R K (.lit false)) = true := h
    cases hm : matchU a u K with
    | true => exact matchU_ok u K H hm hu
    | false => rw [hm] at h; exact absurd (fires_ok H HR h) (by simp [BE.den])
  | .fail w, K, H, h => by
    have h : cond (deadU u K) true (fires R K (.lit false)) = true := h
    cases hm : deadU u K with
    | true => exact (deadU_ok u K H hm hu).elim
    | false => rw [hm] at h; exact absurd (fires_ok H HR h) (by simp [BE.den])
  | .br c x y, K, H, h => by
    have h : (match decW R K c with
      | some b => cond b (servesX R u x K) (servesX R u y K)
      | none => and (servesX R u x (addK true c K)) (servesX R u y (addK false c K))) = true := h
    simp only [T.Holds]
    split at h
    · rename_i b hb
      have hc := decW_ok HR H hb
      cases b with
      | true => rw [hc, if_pos rfl]; exact servesX_ok HR hu x K H h
      | false => rw [hc, if_neg (by simp)]; exact servesX_ok HR hu y K H h
    · simp only [Bool.and_eq_true] at h
      cases hc : c.den ρ with
      | true => rw [if_pos rfl]; exact servesX_ok HR hu x _ (addK_ok c true K H hc) h.1
      | false => rw [if_neg (by simp)]; exact servesX_ok HR hu y _ (addK_ok c false K H hc) h.2
/-- A CALL WITH ONE RESULT THAT HAS A NAME. -/
theorem name_ok {ok : Rho → (Nat → Obj → Prop) → Prop} {tb : Tabs} (B : TabOk ⟨Tryd.prog, rcOf Tryd.rows, ok⟩ Sx.Tryd.tt.get tb) {d : Nat} {f : FuncId} {args0 : List AV} {view : List (Nat × VO)} {u : T AV} {v : AV} {R : Rules} {q : List (Nat × Int × Int)} {cs : List BE}
    (hst : and (viewUp 0 view) (outsOk 2000 view []) = true) (hck : servesX R u (only (evalN tb d false f args0 (viewO 2000 view))) (knOf q cs) = true)
    (hK : ∀ ρ m, ok ρ m → RulesOk ρ R ∧ (∀ c ∈ ivC q, c.den ρ = true) ∧ (∀ c ∈ cs, c.den ρ = true) ∧ ∃ b, u.leaf ρ = some b ∧ SameE ρ b v) {args : List AV} {h : Heap} {rr : AV × Heap}
    (hm : (Ent.mk f args0 2000 view v [] []).meet args h = some (.ret rr)) : CallOk ⟨Tryd.prog, rcOf Tryd.rows, ok⟩ f args h (.ret rr) := by
  refine meetN B (d := d) (f := f) (args0 := args0) (n := 2000) (view := view) (cs := []) (by rw [Bool.and_eq_true]; exact ⟨rfl, hst⟩) fun ρ b hb _ => ?_
  obtain ⟨m, hm1, _⟩ := hb
  obtain ⟨hR, hq, hc, b', hl, hs⟩ := hK _ _ hm1
  have key := servesX_ok hR (T.leaf_holds u hl) _ _ (knOf_ok hq hc) hck
  unfold only at key
  rw [T.holds_bind] at key
  obtain ⟨r1, hleaf, b2, rfl, _, hsame⟩ := T.holds_leaf _ key
  exact ⟨v, [], r1, rfl, hm, hleaf, fun E hE => (hsame E hE).trans (hs E hE), fun q hq => (List.not_mem_nil hq).elim⟩
noncomputable def entOrc1 (e : Ent) (args : List AV) (h : Heap) : Option (T (AV × Heap)) :=
  match e.meet args h with
  | some (.ret r) => some (.ret r)
  | _ => none
/-! ## The film -/
noncomputable def filmM (L : Nat) : AV := .agg [.sliceX 1001 6 0 L, vi 0, vi 1, vi 2, vi 3, vi 4, .map 1005]
noncomputable def reelsO (L : Nat) : Nat × VO := (1001, .cells (cellsUp (6 * L) 10))
noncomputable def viewF (L : Nat) : List (Nat × VO) := glV.map (fun g => (g.1, VO.cells g.2)) ++ [reelsO L]
noncomputable def tT : AV := .bool (.lit true)
noncomputable def filmE (L : Nat) : Ent := ⟨68, [filmV L], 2000, viewF L, tT, [], []⟩
noncomputable def soundE (L : Nat) : Ent := ⟨43, [filmV L], 2000, viewF L, tT, [], []⟩
noncomputable def runE (tb : Tabs) (d : Nat) (e : Ent) : T (AV × Heap) := evalN tb d false e.f e.args (viewO 2000 e.view)
noncomputable def stE (e : Ent) : Bool := and (viewUp 0 e.view) (outsOk 2000 e.view [])
noncomputable def filmCk (L : Nat) : Bool := and (stE (filmE L)) (servesX [] (.ret tT) (only (runE tb0 60 (filmE L))) (knOf [] (csL L)))
noncomputable def soundCk (L : Nat) : Bool := and (stE (soundE L)) (servesX [] (.ret tT) (only (runE tb0 60 (soundE L))) (knOf [] (csL L)))
/-! ## Reels, each once -/
noncomputable def xC (L i : Nat) : List BE := [.cmp .leq (.lit 0) (.var (110 + i)), .cmp .leq (.var (110 + i)) (.lit (Int.ofNat (L - 1)))]
noncomputable def xsC (L : Nat) : List BE := (upTo L).flatMap (xC L)
noncomputable def reelsE (L : Nat) : Ent := ⟨85, [filmM L, .sliceX 1004 1 0 L], 2000, [(1004, .cells (cellsUp L 110))], tT, [], []⟩
noncomputable def pinQ : Nat → List Nat → List (Nat × Int × Int)
  | _, [] => []
  | i, n :: l => (i, Int.ofNat n, Int.ofNat n) :: pinQ (i + 1) l
/-- all orders of so many reels -/
noncomputable def permsUp (L : Nat) : Nat → List (List Nat)
  | 0 => [[]]
  | n + 1 => (upTo L).flatMap fun k => ((permsUp L n).filter fun l => Bool.not (memA k l)).map fun l => k :: l
noncomputable def reelsCkP (L : Nat) (l : List Nat) : Bool := servesX [] (.ret tT) (only (runE tb0 60 (reelsE L))) (knOf (pinQ 110 l) [])
noncomputable def headQ (k : Nat) (l : List Nat) : Bool := match l with
  | [] => false
  | n :: _ => Nat.beq n k
noncomputable def reelsCkH (L k : Nat) : Bool := lAll (reelsCkP L) ((permsUp L L).filter (headQ k))
noncomputable def reelsCk (L : Nat) : Bool := lAll (reelsCkP L) (permsUp L L)
/-! ## Feet -/
noncomputable def wornI (k m : Nat) : IE := .mx (.lit 0) (.bin .sub .i64 (.var (hadV k m)) (.bin .mul .i64 (.var 140) (.var (tornV m))))
noncomputable def chainT (x : Nat) (e : Nat → AV) : Nat → T AV
  | 0 => .fail 0
  | m + 1 => .br (.cmp .leq (.lit (Int.ofNat m)) (.var x)) (.ret (e m)) (chainT x e m)
noncomputable def wornE (L i : Nat) : Ent := ⟨80, [filmM L, vi (110 + i), vi 140], 2000, [reelsO L], .agg [vi (120 + i), vi (130 + i)], [], []⟩
noncomputable def wornU (L i : Nat) : T AV := chainT (110 + i) (fun k => .agg [.int .i64 (wornI k 0), .int .i64 (wornI k 1)]) L
noncomputable def wornCk (L i : Nat) : Bool := and (stE (wornE L i)) (servesX [] (wornU L i) (only (runE tb0 60 (wornE L i))) (knOf [] (xC L i)))
noncomputable def feetV (i m : Nat) : AV := match m with
  | 0 => vi (120 + i)
  | _ => vi (130 + i)
noncomputable def feetE (L i m : Nat) : Ent := ⟨104, [filmM L, vi (110 + i), vi 140, .agg (endA m)], 2000, [reelsO L], feetV i m, [], []⟩
noncomputable def feetU (L i m : Nat) : T AV := chainT (110 + i) (fun k => .int .i64 (wornI k m)) L
noncomputable def feetCk (L i m : Nat) : Bool := and (stE (feetE L i m)) (servesX [] (feetU L i m) (only (runE tb0 60 (feetE L i m))) (knOf [] (xC L i)))
noncomputable def filmsCk (L : Nat) : Bool := and (filmCk L) (and (soundCk L) (lAll (fun i => and (wornCk L i) (and (feetCk L i 0) (feetCk L i 1))) (upTo L)))
end Go.Sx
