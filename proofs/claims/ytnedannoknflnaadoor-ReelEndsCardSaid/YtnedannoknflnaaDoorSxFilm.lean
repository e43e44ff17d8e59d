/- THE FILM OF A LAW, NOT KNOWN BUT FOR HOW MANY REELS IT HAS: what the layer's calls return of it. -/
import Derived.Test.YtnedannoknflnaaDoorSxTurn
/-! THE FILM OF A LAW, NOT KNOWN BUT FOR HOW MANY REELS IT HAS: what the layer's calls return of it. -/
namespace Go.Sx
open Go.RowKit Go.Proofs
set_option maxRecDepth 100000

/-! ## Trees, read -/
noncomputable def goTrue (t : T AV) : Option (List BE × AV) :=
  @T.rec AV (fun _ => Option (List BE × AV)) (fun v => some ([], v)) (fun c _ _ iht _ => match iht with
    | some p => some (c :: p.1, p.2)
    | none => none) (fun _ => none) t

noncomputable def isRet (v0 : AV) (t : T AV) : Bool :=
  match t with
  | .ret v => eqAV v v0
  | _ => false

noncomputable def chainF (v0 : AV) (t : T AV) : Option (List BE × AV) :=
  @T.rec AV (fun _ => Option (List BE × AV)) (fun v => some ([], v)) (fun c _ f iht _ => cond (isRet v0 f) (match iht with
    | some p => some (c :: p.1, p.2)
    | none => none) none) (fun _ => none) t

theorem goTrue_br (c : BE) (t f : T AV) : goTrue (.br c t f) = match goTrue t with
    | some p => some (c :: p.1, p.2)
    | none => none := rfl
theorem chainF_br (v0 : AV) (c : BE) (t f : T AV) : chainF v0 (.br c t f) = cond (isRet v0 f) (match chainF v0 t with
    | some p => some (c :: p.1, p.2)
    | none => none) none := rfl

theorem goTrue_holds {ρ : Rho} {Q : AV → Prop} : ∀ (t : T AV) (cs : List BE) (v : AV), goTrue t = some (cs, v) → t.Holds ρ Q → (∀ c ∈ cs, c.den ρ = true) → Q v
  | .ret a, cs, v, h, k, _ => by cases h; exact k
  | .fail w, cs, v, h, _, _ => by cases h
  | .br c t f, cs, v, h, k, hc => by
    rw [goTrue_br] at h
    cases hg : goTrue t with
    | none => rw [hg] at h; cases h
    | some p =>
      rw [hg] at h; cases h
      simp only [T.Holds] at k
      rw [if_pos (hc c List.mem_cons_self)] at k
      exact goTrue_holds t p.1 p.2 hg k fun x hx => hc x (List.mem_cons_of_mem _ hx)

theorem goTrue_put {ρ : Rho} {Q : AV → Prop} : ∀ (t : T AV) (cs : List BE) (v : AV), goTrue t = some (cs, v) → (∀ c ∈ cs, c.den ρ = true) → Q v → t.Holds ρ Q
  | .ret a, cs, v, h, _, k => by cases h; exact k
  | .fail w, cs, v, h, _, _ => by cases h
  | .br c t f, cs, v, h, hc, k => by
    rw [goTrue_br] at h
    cases hg : goTrue t with
    | none => rw [hg] at h; cases h
    | some p =>
      rw [hg] at h; cases h
      simp only [T.Holds]
      rw [if_pos (hc c List.mem_cons_self)]
      exact goTrue_put t p.1 p.2 hg (fun x hx => hc x (List.mem_cons_of_mem _ hx)) k

theorem chainF_put {ρ : Rho} {v0 : AV} {Q : AV → Prop} (k0 : Q v0) : ∀ (t : T AV) (cs : List BE) (v : AV), chainF v0 t = some (cs, v) → (∃ c ∈ cs, ¬ c.den ρ = true) → t.Holds ρ Q
  | .ret a, cs, v, h, hc => by cases h; obtain ⟨c, h1, _⟩ := hc; cases h1
  | .fail w, cs, v, h, _ => by cases h
  | .br c t f, cs, v, h, hc => by
    rw [chainF_br] at h
    cases hr : isRet v0 f with
    | false => rw [hr] at h; cases h
    | true =>
      rw [hr, cond_true] at h
      cases hg : chainF v0 t with
      | none => rw [hg] at h; cases h
      | some p =>
        rw [hg] at h; cases h
        simp only [T.Holds]
        by_cases hcc : c.den ρ = true
        · rw [if_pos hcc]
          refine chainF_put k0 t p.1 p.2 hg ?_
          obtain ⟨x, hx, hn⟩ := hc
          rcases List.mem_cons.1 hx with rfl | hx
          · exact absurd hcc hn
          · exact ⟨x, hx, hn⟩
        · rw [if_neg hcc]
          unfold isRet at hr
          split at hr
          · rw [eqAV_eq _ _ hr]; exact k0
          · cases hr

theorem chainF_go {v0 : AV} : ∀ (t : T AV) (r : List BE × AV), chainF v0 t = some r → goTrue t = some r
  | .ret a, r, h => h
  | .fail w, r, h => by cases h
  | .br c t f, r, h => by
    rw [chainF_br] at h
    cases hr : isRet v0 f with
    | false => rw [hr] at h; cases h
    | true =>
      rw [hr, cond_true] at h
      rw [goTrue_br]
      cases hg : chainF v0 t with
      | none => rw [hg] at h; cases h
      | some p => rw [hg] at h; rw [chainF_go t p hg]; exact h

noncomputable def inB (c : BE) (l : List BE) : Bool := @List.rec BE (fun _ => Bool) false (fun d _ ih => cond (eqBE c d) true ih) l
theorem inB_mem {c : BE} : ∀ (l : List BE), inB c l = true → c ∈ l
  | [], h => by cases h
  | d :: l, h => by
    have h' : cond (eqBE c d) true (inB c l) = true := h
    cases he : eqBE c d with
    | true => rw [eqBE_eq _ _ he]; exact List.mem_cons_self
    | false => rw [he] at h'; exact List.mem_cons_of_mem _ (inB_mem l h')
noncomputable def allIn (l m : List BE) : Bool := lAll (fun c => inB c m) l
theorem allIn_mem {l m : List BE} (h : allIn l m = true) : ∀ c ∈ l, c ∈ m := by
  unfold allIn at h
  rw [lAll_eq, List.all_eq_true] at h
  exact fun c hc => inB_mem m (h c hc)

/-! ## The film -/
noncomputable def vi (n : Nat) : AV := .int .i64 (.var n)
noncomputable def cellsUp : Nat → Nat → List AV
  | 0, _ => []
  | k + 1, i => vi i :: cellsUp k (i + 1)
/-- the cells of the reels: variables from 10 on -/
noncomputable def cellsL (L : Nat) : List AV := cellsUp (6 * L) 10
noncomputable def filmL (L : Nat) : AV := .agg [.sliceX 1000 6 0 L, vi 0, vi 1, vi 2, vi 3, vi 4]
noncomputable def glL : List (Nat × List AV) := [(0, [li 1, li 20, li 0, li 50]), (1, [li 0, li 99, li 0, li 99, li 1, li 1200])]
noncomputable def viewsL (L : Nat) : List (Nat × List AV) := (1000, cellsL L) :: glL

noncomputable def le2 (a b : IE) : BE := .cmp .leq a b
noncomputable def reelC (b : Nat) : List BE :=
  [le2 (.lit 0) (.var b), le2 (.var b) (.var (b + 1)), le2 (.var (b + 1)) (.lit 99), le2 (.lit 0) (.var (b + 2)), le2 (.var (b + 2)) (.var (b + 3)), le2 (.var (b + 3)) (.lit 99),
   le2 (.lit 1) (.var (b + 4)), le2 (.var (b + 4)) (.var (b + 5)), le2 (.var (b + 5)) (.lit 1200), le2 (.var b) (.var (b + 3))]
noncomputable def restC : List BE := [le2 (.lit 1) (.var 0), le2 (.var 0) (.var 1), le2 (.var 1) (.lit 20), le2 (.lit 0) (.var 2), le2 (.var 2) (.var 3), le2 (.var 3) (.lit 50), .cmp .geq (.var 4) (.lit 1), le2 (.var 4) (.lit 6000)]
noncomputable def csUp : Nat → Nat → List BE
  | 0, _ => restC
  | k + 1, b => reelC b ++ csUp k (b + 6)
/-- what makes the film a valid one -/
noncomputable def csL (L : Nat) : List BE := csUp L 10

noncomputable def soundT (L : Nat) : T AV := (evalN tb0 30 false 43 [filmL L] (viewHeap 2000 (viewsL L))).map fun r => r.1
noncomputable def soundChk (L : Nat) : Bool :=
  match chainF (.bool (.lit false)) (soundT L) with
  | some p => and (eqAV p.2 (.bool (.lit true))) (and (allIn p.1 (csL L)) (allIn (csL L) p.1))
  | none => false

theorem sound_run1 : soundChk 1 = true := by kernel_rfl
theorem sound_run2 : soundChk 2 = true := by kernel_rfl
theorem sound_run3 : soundChk 3 = true := by kernel_rfl
theorem sound_run4 : soundChk 4 = true := by kernel_rfl
theorem sound_run5 : soundChk 5 = true := by kernel_rfl
theorem sound_run6 : soundChk 6 = true := by kernel_rfl
theorem sound_run {L : Nat} (h1 : 1 ≤ L) (h6 : L ≤ 6) : soundChk L = true := by
  match L, h1, h6 with
  | 1, _, _ => exact sound_run1
  | 2, _, _ => exact sound_run2
  | 3, _, _ => exact sound_run3
  | 4, _, _ => exact sound_run4
  | 5, _, _ => exact sound_run5
  | 6, _, _ => exact sound_run6
  | n + 7, _, h => omega

noncomputable def wornT (L k : Nat) : T AV := (evalN tb0 30 false 30 [filmL L, li k, vi 99] (viewHeap 2000 (viewsL L))).map fun r => r.1
/-- how many feet there are between -/
noncomputable def wornLo (k : Nat) (n : IE) : IE := .mx (.lit 0) (.bin .sub .i64 (.var (6 * k + 14)) (.bin .mul .i64 n (.var 3)))
noncomputable def wornHi (k : Nat) (n : IE) : IE := .mx (.lit 0) (.bin .sub .i64 (.var (6 * k + 15)) (.bin .mul .i64 n (.var 2)))
noncomputable def wornV (k : Nat) (n : IE) : AV := .tup [.agg [.int .i64 (wornLo k n), .int .i64 (wornHi k n)], li 0]
noncomputable def nC (n : IE) : List BE := [.cmp .geq n (.lit 0), .cmp .leq n (.lit 999)]
noncomputable def wornChk (L k : Nat) : Bool :=
  match goTrue (wornT L k) with
  | some p => and (eqAV p.2 (wornV k (.var 99))) (allIn p.1 (nC (.var 99) ++ csL L))
  | none => false
noncomputable def wornAll (L : Nat) : Bool := (List.range L).all fun k => wornChk L k
theorem worn_run1 : wornAll 1 = true := by kernel_rfl
theorem worn_run2 : wornAll 2 = true := by kernel_rfl
theorem worn_run3 : wornAll 3 = true := by kernel_rfl
theorem worn_run4 : wornAll 4 = true := by kernel_rfl
theorem worn_run5 : wornAll 5 = true := by kernel_rfl
theorem worn_run6 : wornAll 6 = true := by kernel_rfl
theorem worn_runs {L : Nat} (h1 : 1 ≤ L) (h6 : L ≤ 6) : wornAll L = true := by
  match L, h1, h6 with
  | 1, _, _ => exact worn_run1
  | 2, _, _ => exact worn_run2
  | 3, _, _ => exact worn_run3
  | 4, _, _ => exact worn_run4
  | 5, _, _ => exact worn_run5
  | 6, _, _ => exact worn_run6
  | n + 7, _, h => omega

end Go.Sx
