/- THE LAW OF THE FEET, CALLED WITH WHATEVER FILM AND WHATEVER NUMBERS. -/
import Derived.Test.YtjbagflebkiplaaDoorSxFacts
import Derived.Test.YtjbagflebkiplaaDoorSxLawI
import Derived.Test.YtjbagflebkiplaaDoorSxLawO
import Derived.Test.YtjbagflebkiplaaDoorSxLawS
import Derived.Test.YtjbagflebkiplaaDoorSxFilmOpen
import Derived.Test.YtjbagflebkiplaaDoorSxTurnedE
/-! THE LAW OF THE FEET, CALLED WITH WHATEVER CAN BE READ. -/
namespace Go.Sx
open Go.RowKit Go.Proofs
set_option maxRecDepth 100000

theorem glV_lit : lAll (fun g : Nat × List AV => and (Nat.ble (g.1 + 1) 1000) (lAll litVal g.2)) glV = true := by kernel_rfl

theorem orcAny_ok {args : List AV} {h : Heap} {f : FuncId} {t : T (AV × Heap)} : ∀ (l : List CSpec), (∀ c ∈ l, ∀ u, c.orc args h = some u → CallOk pT c.f args h u) → orcAny args h f l = some t → CallOk pT f args h t
  | [], _, e => by cases e
  | c :: l, H, e => by
    have e : (cond (Nat.beq f c.f) (match c.orc args h with
      | some t => some t
      | none => orcAny args h f l) (orcAny args h f l)) = some t := e
    have ih := orcAny_ok l (fun c hc => H c (List.mem_cons_of_mem _ hc)) (t := t) (f := f)
    cases hf : Nat.beq f c.f with
    | false => rw [hf] at e; exact ih e
    | true =>
      rw [hf, cond_true] at e
      have := beq_t.1 hf; subst this
      split at e
      · rename_i u hu; cases e; exact H c List.mem_cons_self _ hu
      · exact ih e

theorem orcCl_ok {args : List AV} {h : Heap} {f : FuncId} {t : T (AV × Heap)} {l : List CSpec} (H : ∀ c ∈ l, ∀ u, c.orc args h = some u → CallOk pT c.f args h u)
    (e : cond (Nat.beq f 25) (closedOrc glV args h) (orcAny args h f l) = some t) : CallOk pT f args h t := by
  cases hf : Nat.beq f 25 with
  | true => rw [hf] at e; have := beq_t.1 hf; subst this; exact closedOrc_ok tabsE turned_run glV_lit e
  | false => rw [hf] at e; exact orcAny_ok l H e

theorem orcLaw_ok {q : Nat × Nat × Nat} (hq : q ∈ lk21) : ∀ f args h t, orcLaw q.1 q.2.1 f args h = some t → CallOk pT f args h t := by
  intro f args h t e
  obtain ⟨h0, _, _⟩ := lk21_sub q hq
  refine orcCl_ok (fun c hc u hu => ?_) e
  simp only [specsV] at hc
  rcases List.mem_cons.1 hc with rfl | hc
  · exact rshows_orc h0 hu
  · rcases List.mem_cons.1 hc with rfl | hc
    · exact rseen_orc h0 hu
    · exact specs_orc hq hc hu
theorem orcI_ok {L : Nat} (hL : L ∈ [1, 2, 3, 4, 5, 6]) : ∀ f args h t, orcI L f args h = some t → CallOk pT f args h t := by
  intro f args h t e
  have h1 : ckI L = true := lAll_mem ckI_all L hL
  refine orcCl_ok (fun c hc u hu => ?_) e
  have h2 := lAll_mem h1 c hc
  have hn : c.nv = 2000 := by
    simp only [List.mem_cons, List.not_mem_nil, or_false] at hc
    rcases hc with rfl | rfl <;> rfl
  exact CSpec.ok (eval_ok tabs0 60 c.f c.args _) h2 (by rw [hn]; exact Nat.le_of_ble_eq_true rfl) hu
theorem orcO_ok {L : Nat} (hL : L ∈ [1, 2, 3, 4, 5, 6]) : ∀ f args h t, orcO L f args h = some t → CallOk pT f args h t := by
  intro f args h t e
  have h1 : ckO L = true := lAll_mem ckO_all L hL
  refine orcCl_ok (fun c hc u hu => ?_) e
  have h2 := lAll_mem h1 c hc
  have hn : c.nv = 2000 := by
    simp only [specsO, lMap_eq, List.mem_map] at hc
    obtain ⟨f, _, rfl⟩ := hc; rfl
  exact CSpec.ok (eval_ok tabs0 60 c.f c.args _) h2 (by rw [hn]; exact Nat.le_of_ble_eq_true rfl) hu
theorem orcS_ok : ∀ f args h t, orcS f args h = some t → CallOk pT f args h t := by
  intro f args h t e
  unfold orcS at e
  cases hf : Nat.beq f 25 with
  | true => rw [hf] at e; have := beq_t.1 hf; subst this; exact closedOrc_ok tabsE turned_run glV_lit e
  | false => rw [hf] at e; cases e

theorem isTrueR_ok {ρ : Rho} {r : AV × Heap} (h : isTrueR r = true) : ∃ b, r.1 = .bool b ∧ b.den ρ = true := by
  unfold isTrueR at h
  split at h
  · rename_i b hb
    split at h
    · rename_i c; exact ⟨_, hb, by rw [BE.den]; exact h⟩
    · cases h
  · cases h

/-! ## What is so of the reels -/
theorem csUp_mem {ρ : Rho} : ∀ (n b : Nat), (∀ c ∈ csUp n b, c.den ρ = true) → (∀ i, i < n → ∀ c ∈ reelC (b + 6 * i), c.den ρ = true) ∧ ∀ c ∈ restC, c.den ρ = true
  | 0, b, H => ⟨fun i hi => by omega, H⟩
  | n + 1, b, H => by
    simp only [csUp, List.mem_append] at H
    obtain ⟨h1, h2⟩ := csUp_mem n (b + 6) (fun c hc => H c (.inr hc))
    refine ⟨fun i hi c hc => ?_, h2⟩
    cases i with
    | zero => exact H c (.inl hc)
    | succ i => exact h1 i (by omega) c (by rw [show b + 6 + 6 * i = b + 6 * (i + 1) by omega]; exact hc)
theorem rdom_of {ρ : Rho} {L k : Nat} (hk : k < L) (H : ∀ c ∈ csL L, c.den ρ = true) : ∀ c ∈ rdom k, c.den ρ = true := by
  obtain ⟨h1, h2⟩ := csUp_mem L 10 H
  have h1 := h1 k hk
  simp only [reelC, restC, le2, List.mem_cons, List.not_mem_nil, or_false, forall_eq_or_imp, forall_eq, BE.t_leq, IE.den_lit, IE.den_var] at h1 h2
  obtain ⟨_, _, _, _, _, _, a7, a8, a9, _⟩ := h1
  obtain ⟨_, _, _, b4, b5, b6, _, _⟩ := h2
  rw [show 10 + 6 * k + 4 = hadV k 0 by simp only [hadV]; omega] at a7 a8
  rw [show 10 + 6 * k + 5 = hadV k 1 by simp only [hadV]; omega] at a8 a9
  simp only [rdom, List.mem_cons, List.not_mem_nil, or_false, forall_eq_or_imp, forall_eq, BE.t_leq, IE.den_lit, IE.den_var]
  omega
theorem conj_false {ρ : Rho} : ∀ (l : List BE), (conjC l).den ρ = true → ∀ c ∈ l, c.den ρ = true
  | [], _, c, hc => by cases hc
  | d :: l, h, c, hc => by
    simp only [conjC, BE.den, Bool.and_eq_true] at h
    rcases List.mem_cons.1 hc with rfl | hc
    · exact h.1
    · exact conj_false l h.2 c hc

/-! ## The law, run in a world -/
section
variable {E : Env} {w : World} {vs : List Value}

theorem feet_valid {L k : Nat} (hq : (L, k, 0) ∈ lk21) (hk : k < L) (hv : ∀ g ∈ viewV L, ViewIn w E g) (hf : ∀ b, 2000 ≤ b → E.σ b = none) (hg : ∀ b, b < 1000 → E.σ b = some (b, 0)) (hn : E.n ≤ 2000)
    (ha : concL E (lawArgs L k) = some vs) (H : ∀ c ∈ csL L, c.den E.ρ = true) : Calls Tryd.prog 5 vs.toArray w fun e w' => e = .returned (.bool true) ∧ Below w.heap.size w w' := by
  have hd := rdom_of hk H
  obtain ⟨g, s, hgs⟩ := facts_ok hd
  have hA : AsmOk E.ρ (facts k g s ++ addAll (csL L ++ rdom k) []) := fun a ha => by
    rcases List.mem_append.1 ha with ha | ha
    · exact hgs a ha
    · exact addAll_ok _ _ (fun a ha => by cases ha) (fun c hc => by
        rcases List.mem_append.1 hc with hc | hc
        · exact H c hc
        · exact hd c hc) a ha
  have h1 : lawCk (L, k, 0) = true := law_cks _ hq
  have h2 := lAll_mem h1 (g, s) (by cases g <;> cases s <;> simp)
  exact law_view (Tryd.tab (orcLaw L k) (orcLaw_ok hq) 2000) hv hf hg hn ha (allR_ok (fun a h => isTrueR_ok h) _ _ hA h2)

theorem feet_out {L : Nat} (hL : L ∈ [1, 2, 3, 4, 5, 6]) (hv : ∀ g ∈ viewV L, ViewIn w E g) (hf : ∀ b, 2000 ≤ b → E.σ b = none) (hg : ∀ b, b < 1000 → E.σ b = some (b, 0)) (hn : E.n ≤ 2000)
    (ha : concL E [filmV L, .agg [vi 88, vi 89, vi 90]] = some vs) (H : ∀ c ∈ csL L, c.den E.ρ = true) (hno : ¬ (0 ≤ E.ρ.iv 88 ∧ E.ρ.iv 88 < L)) : Calls Tryd.prog 5 vs.toArray w fun e w' => e = .returned (.bool true) ∧ Below w.heap.size w w' := by
  have hL1 : 1 ≤ L := by
    simp only [List.mem_cons, List.not_mem_nil, or_false] at hL
    omega
  have i30 : (inReel 30 L).den E.ρ = false := by
    cases h : (inReel 30 L).den E.ρ with
    | false => rfl
    | true =>
      have e : inReel 30 L = .and (.cmp .leq (.lit 0) (.var 88)) (.cmp .lss (.var 88) (.lit L)) := rfl
      rw [e, BE.t_and, BE.t_leq, BE.t_lss] at h
      exact (hno h).elim
  have i31 : (inReel 31 L).den E.ρ = false := by
    cases h : (inReel 31 L).den E.ρ with
    | false => rfl
    | true =>
      have e : inReel 31 L = .and (.cmp .leq (.lit 0) (.var 88)) (.cmp .leq (.var 88) (.lit (L - 1 : Nat))) := rfl
      rw [e, BE.t_and, BE.t_leq, BE.t_leq] at h
      simp only [IE.den_lit, IE.den_var] at h
      exact (hno ⟨h.1, by have := h.2; omega⟩).elim
  have hA : AsmOk E.ρ (⟨inReel 30 L, false⟩ :: ⟨inReel 31 L, false⟩ :: addAll (csL L) []) := fun a ha => by
    rcases List.mem_cons.1 ha with rfl | ha
    · exact i30
    · rcases List.mem_cons.1 ha with rfl | ha
      · exact i31
      · exact addAll_ok _ _ (fun a ha => by cases ha) H a ha
  exact law_view (Tryd.tab (orcO L) (orcO_ok hL) 2000) hv hf hg hn ha (allR_ok (fun a h => isTrueR_ok h) _ _ hA (lAll_mem lawO_all L hL))

theorem feet_inv {L : Nat} (hL : L ∈ [1, 2, 3, 4, 5, 6]) (hv : ∀ g ∈ viewV L, ViewIn w E g) (hf : ∀ b, 2000 ≤ b → E.σ b = none) (hg : ∀ b, b < 1000 → E.σ b = some (b, 0)) (hn : E.n ≤ 2000)
    (ha : concL E [filmV L, .agg [vi 88, vi 89, vi 90]] = some vs) (H : ¬ ∀ c ∈ csL L, c.den E.ρ = true) : Calls Tryd.prog 5 vs.toArray w fun e w' => e = .returned (.bool true) ∧ Below w.heap.size w w' := by
  have hA : AsmOk E.ρ [⟨conjC (csL L), false⟩] := fun a ha => by
    rcases List.mem_singleton.1 ha with rfl
    show (conjC (csL L)).den E.ρ = false
    cases h : (conjC (csL L)).den E.ρ with
    | false => rfl
    | true => exact (H (conj_false _ h)).elim
  exact law_view (Tryd.tab (orcI L) (orcI_ok hL) 2000) hv hf hg hn ha (allR_ok (fun a h => isTrueR_ok h) _ _ hA (lAll_mem lawI_all L hL))

theorem feet_short {s : AV} (hs : lawS s = true) (hv : ∀ g ∈ glV, ViewIn w E g) (hf : ∀ b, 2000 ≤ b → E.σ b = none) (hg : ∀ b, b < 1000 → E.σ b = some (b, 0)) (hn : E.n ≤ 2000)
    (ha : concL E [.agg [s, vi 0, vi 1, vi 2, vi 3, vi 4], .agg [vi 88, vi 89, vi 90]] = some vs) : Calls Tryd.prog 5 vs.toArray w fun e w' => e = .returned (.bool true) ∧ Below w.heap.size w w' :=
  law_view (Tryd.tab orcS orcS_ok 2000) hv hf hg hn ha (allR_ok (fun a h => isTrueR_ok h) _ _ (fun a ha => by cases ha) hs)

theorem feet_long (hv : ∀ g ∈ glV, ViewIn w E g) (hf : ∀ b, 2000 ≤ b → E.σ b = none) (hg : ∀ b, b < 1000 → E.σ b = some (b, 0)) (hn : E.n ≤ 2000)
    (ha : concL E [.agg [.sliceU 95, vi 0, vi 1, vi 2, vi 3, vi 4], .agg [vi 88, vi 89, vi 90]] = some vs) (h7 : 7 ≤ E.ρ.iv 95) : Calls Tryd.prog 5 vs.toArray w fun e w' => e = .returned (.bool true) ∧ Below w.heap.size w w' :=
  law_view (Tryd.tab orcS orcS_ok 2000) hv hf hg hn ha (allK_ok (fun K a H h => isTrueK_ok H h) _ _ (knOf_ok (fun c hc => by cases hc) (fun c hc => by
    rcases List.mem_singleton.1 hc with rfl
    rw [BE.t_leq]; exact h7)) long_any)
end
end Go.Sx
/-! THE LAW OF THE FEET, CALLED WITH WHATEVER FILM AND WHATEVER NUMBERS. -/
namespace Go.Sx
open Go.RowKit Go.Proofs
set_option maxRecDepth 100000

def lawRho (n0 n1 n2 n3 n4 m0 m1 m2 : Int) (z : Nat → Int) (s : Value) (len : Nat) : Rho :=
  ⟨fun j => if j = 0 then n0 else if j = 1 then n1 else if j = 2 then n2 else if j = 3 then n3 else if j = 4 then n4 else if j = 88 then m0 else if j = 89 then m1 else if j = 90 then m2 else if j = 95 then len else z (j - 10), fun _ => false, fun _ _ _ _ => 0, fun _ _ _ _ => false, fun _ => s⟩
def lawEnv (ρ : Rho) (b o cap : Nat) : Env := ⟨ρ, fun x => if x < 1000 then some (x, 0) else if x = 1001 then some (b, o) else none, fun _ => cap, 2000, fun _ => #[]⟩

theorem cellsUp_vals (E : Env) (z : Nat → Int) : ∀ (k i : Nat), (∀ j, i ≤ j → j < i + k → E.ρ.iv j = z j) → concL E (cellsUp k i) = some ((List.range k).map fun q => .int .i64 (z (i + q)))
  | 0, i, _ => rfl
  | k + 1, i, h => by
    simp only [cellsUp, vi, concL, conc, IE.den]
    rw [h i (Nat.le_refl _) (by omega), cellsUp_vals E z k (i + 1) fun j h1 h2 => h j (by omega) (by omega)]
    simp only [List.range_succ_eq_map, List.map_cons, List.map_map, Nat.add_zero]
    congr 2
    apply List.map_congr_left
    intro q _
    simp only [Function.comp, Nat.succ_eq_add_one]
    rw [show i + 1 + q = i + (q + 1) by omega]

theorem lk21_in : ∀ L k : Nat, 1 ≤ L → L ≤ 6 → k < L → (L, k, 0) ∈ lk21 := by
  intro L k h1 h2 h3
  have hL : L = 1 ∨ L = 2 ∨ L = 3 ∨ L = 4 ∨ L = 5 ∨ L = 6 := by omega
  have hk : k = 0 ∨ k = 1 ∨ k = 2 ∨ k = 3 ∨ k = 4 ∨ k = 5 := by omega
  rcases hL with rfl | rfl | rfl | rfl | rfl | rfl <;> rcases hk with rfl | rfl | rfl | rfl | rfl | rfl <;> first | omega | simp [lk21]

theorem feet_any {W : World} {ρ0 : Rho} (hG : ∀ g ∈ glV, GlobIn W ρ0 g) {s : Value} {n0 n1 n2 n3 n4 m0 m1 m2 : Int}
    (hs : s = .slice none 0 0 ∨ ∃ (b o len cap : Nat) (z : Nat → Int), s = .slice (some ⟨b, o, none⟩) len cap ∧ len ≤ cap ∧
        (0 < len → ∃ cells el fz, W.heap[b]? = some (.cells cells el fz) ∧ ∀ q, q < 6 * len → cells[o + q]? = some (.int .i64 (z q)))) :
    Calls Tryd.prog 5 #[.agg #[s, .int .i64 n0, .int .i64 n1, .int .i64 n2, .int .i64 n3, .int .i64 n4], .agg #[.int .i64 m0, .int .i64 m1, .int .i64 m2]] W fun e w' => e = .returned (.bool true) ∧ Below W.heap.size W w' := by
  have hσ : ∀ ρ b o cap, ∀ x, x < 1000 → (lawEnv ρ b o cap).σ x = some (x, 0) := fun ρ b o cap x hx => by simp [lawEnv, hx]
  have hnone : ∀ ρ b o cap, ∀ x, 2000 ≤ x → (lawEnv ρ b o cap).σ x = none := fun ρ b o cap x hx => by
    simp only [lawEnv]; rw [if_neg (by omega), if_neg (by omega)]
  have gvw : ∀ ρ b o cap, ∀ g ∈ glV, ViewIn W (lawEnv ρ b o cap) g := fun ρ b o cap => glob_view glV_lit hG (hσ ρ b o cap)
  rcases hs with rfl | ⟨b, o, len, cap, z, rfl, hlc, hcells⟩
  · refine feet_short (vs := [.agg #[.slice none 0 0, .int .i64 n0, .int .i64 n1, .int .i64 n2, .int .i64 n3, .int .i64 n4], .agg #[.int .i64 m0, .int .i64 m1, .int .i64 m2]]) short_nil (E := lawEnv (lawRho n0 n1 n2 n3 n4 m0 m1 m2 (fun _ => 0) (.tuple #[]) 0) 0 0 0) (gvw _ _ _ _) (hnone _ _ _ _) (hσ _ _ _ _) (Nat.le_refl _) ?_
    simp [vi, concL, conc, IE.den, lawEnv, lawRho]
  · let ρ := lawRho n0 n1 n2 n3 n4 m0 m1 m2 z (.slice (some ⟨b, o, none⟩) len cap) len
    let E := lawEnv ρ b o cap
    have hsl : conc E (.sliceX 1001 6 0 len) = some (.slice (some ⟨b, o, none⟩) len cap) := by
      simp only [conc, E, lawEnv]
      rw [if_pos (by omega)]
      simp
    have hsu : conc E (.sliceU 95) = some (.slice (some ⟨b, o, none⟩) len cap) := by
      simp [conc, E, lawEnv, ρ, lawRho]
    have hrest : concL E [vi 0, vi 1, vi 2, vi 3, vi 4] = some [.int .i64 n0, .int .i64 n1, .int .i64 n2, .int .i64 n3, .int .i64 n4] := by
      simp [vi, concL, conc, IE.den, E, lawEnv, ρ, lawRho]
    have h2 : conc E (.agg [vi 88, vi 89, vi 90]) = some (.agg #[.int .i64 m0, .int .i64 m1, .int .i64 m2]) := by
      simp [vi, concL, conc, IE.den, E, lawEnv, ρ, lawRho]
    have h3 : ∀ k : Nat, m0 = k → conc E (.agg [li k, vi 89, vi 90]) = some (.agg #[.int .i64 m0, .int .i64 m1, .int .i64 m2]) := fun k hk => by
      subst hk
      simp [li, vi, concL, conc, IE.den, E, lawEnv, ρ, lawRho]
    have hfilm : ∀ x, conc E x = some (.slice (some ⟨b, o, none⟩) len cap) → conc E (.agg [x, vi 0, vi 1, vi 2, vi 3, vi 4]) = some (.agg #[.slice (some ⟨b, o, none⟩) len cap, .int .i64 n0, .int .i64 n1, .int .i64 n2, .int .i64 n3, .int .i64 n4]) := fun x hx => by
      rw [conc, concL_cons.2 ⟨_, _, hx, hrest, rfl⟩]; rfl
    have hargs : ∀ x y, conc E x = some (.slice (some ⟨b, o, none⟩) len cap) → conc E y = some (.agg #[.int .i64 m0, .int .i64 m1, .int .i64 m2]) → concL E [.agg [x, vi 0, vi 1, vi 2, vi 3, vi 4], y] = some [.agg #[.slice (some ⟨b, o, none⟩) len cap, .int .i64 n0, .int .i64 n1, .int .i64 n2, .int .i64 n3, .int .i64 n4], .agg #[.int .i64 m0, .int .i64 m1, .int .i64 m2]] :=
      fun x y hx hy => concL_cons.2 ⟨_, _, hfilm x hx, concL_cons.2 ⟨_, _, hy, rfl, rfl⟩, rfl⟩
    have iv88 : E.ρ.iv 88 = m0 := by simp [E, lawEnv, ρ, lawRho]
    have iv95 : E.ρ.iv 95 = len := by simp [E, lawEnv, ρ, lawRho]
    by_cases h0 : len = 0
    · subst h0
      exact feet_short short_zero (gvw ρ b o cap) (hnone _ _ _ _) (hσ _ _ _ _) (Nat.le_refl _) (hargs _ _ hsl h2)
    · by_cases h7 : 7 ≤ len
      · exact feet_long (gvw ρ b o cap) (hnone _ _ _ _) (hσ _ _ _ _) (Nat.le_refl _) (hargs _ _ hsu h2) (by show 7 ≤ E.ρ.iv 95; rw [iv95]; omega)
      · have hL : len ∈ [1, 2, 3, 4, 5, 6] := by
          simp only [List.mem_cons, List.not_mem_nil, or_false]; omega
        obtain ⟨cells, el, fz, c1, c2⟩ := hcells (by omega)
        have hview : ∀ g ∈ viewV len, ViewIn W E g := fun g hg => by
          rcases List.mem_cons.1 hg with rfl | hg
          · refine ⟨b, o, _, cells, el, fz, by simp [E, lawEnv], cellsUp_vals E (fun j => z (j - 10)) (6 * len) 10 (fun j h3 h4 => ?_), c1, fun i hi => ?_⟩
            · simp only [E, lawEnv, ρ, lawRho]
              rw [if_neg (by omega), if_neg (by omega), if_neg (by omega), if_neg (by omega), if_neg (by omega), if_neg (by omega), if_neg (by omega), if_neg (by omega), if_neg (by omega)]
            · simp only [List.length_map, List.length_range] at hi
              rw [c2 i hi, List.getElem?_map, List.getElem?_range hi]
              simp
          · exact gvw ρ b o cap g hg
        by_cases hcs : ∀ c ∈ csL len, c.den E.ρ = true
        · by_cases hk : 0 ≤ m0 ∧ m0 < len
          · obtain ⟨k, rfl⟩ : ∃ k : Nat, m0 = k := ⟨m0.toNat, by omega⟩
            have hkl : k < len := by omega
            exact feet_valid (lk21_in len k (by omega) (by omega) hkl) hkl hview (hnone _ _ _ _) (hσ _ _ _ _) (Nat.le_refl _) (hargs _ _ hsl (h3 k rfl)) hcs
          · exact feet_out hL hview (hnone _ _ _ _) (hσ _ _ _ _) (Nat.le_refl _) (hargs _ _ hsl h2) hcs (by rw [iv88]; exact hk)
        · exact feet_inv hL hview (hnone _ _ _ _) (hσ _ _ _ _) (Nat.le_refl _) (hargs _ _ hsl h2) hcs
end Go.Sx
