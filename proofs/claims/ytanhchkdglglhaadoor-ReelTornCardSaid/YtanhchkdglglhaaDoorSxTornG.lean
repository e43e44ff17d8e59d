/- THE LAW OF WHAT IS TORN OFF, CALLED WITH WHATEVER CAN BE READ. -/
import Derived.Test.YtanhchkdglglhaaDoorSxTornW
import Derived.Test.YtanhchkdglglhaaDoorSxTornI
import Derived.Test.YtanhchkdglglhaaDoorSxTurnedE
/-! THE LAW OF WHAT IS TORN OFF: films that are not valid, lists of no reel or too many. -/
namespace Go.Sx
open Go.RowKit Go.Proofs
set_option maxRecDepth 100000
theorem csUp_mem {ρ : Rho} : ∀ (n b : Nat), (∀ c ∈ csUp n b, c.den ρ = true) → (∀ i, i < n → ∀ c ∈ reelC (b + 6 * i), c.den ρ = true) ∧ ∀ c ∈ restC, c.den ρ = true
  | 0, b, H => ⟨fun i hi => by omega, H⟩
  | n + 1, b, H => by
    simp only [csUp, List.mem_append] at H
    obtain ⟨h1, h2⟩ := csUp_mem n (b + 6) (fun c hc => H c (.inr hc))
    refine ⟨fun i hi c hc => ?_, h2⟩
    cases i with
    | zero => exact H c (.inl hc)
    | succ i => exact h1 i (by omega) c (by rw [show b + 6 + 6 * i = b + 6 * (i + 1) by omega]; exact hc)
theorem rdom_of {ρ : Rho} {L k : Nat} (hk : k < L) (H : ∀ c ∈ csL L, c.den ρ = true) : ∀ c ∈ rdom k, c.den ρ = true := by
  obtain ⟨h1, h2⟩ := csUp_mem L 10 H
  have h1 := h1 k hk
  simp only [reelC, restC, le2, List.mem_cons, List.not_mem_nil, or_false, forall_eq_or_imp, forall_eq, BE.t_leq, IE.den_lit, IE.den_var] at h1 h2
  obtain ⟨_, _, _, _, _, _, a7, a8, a9, _⟩ := h1
  obtain ⟨_, _, _, b4, b5, b6, _, _⟩ := h2
  rw [show 10 + 6 * k + 4 = hadV k 0 by simp only [hadV]; omega] at a7 a8
  rw [show 10 + 6 * k + 5 = hadV k 1 by simp only [hadV]; omega] at a8 a9
  simp only [rdom, List.mem_cons, List.not_mem_nil, or_false, forall_eq_or_imp, forall_eq, BE.t_leq, IE.den_lit, IE.den_var]
  omega
theorem conj_false {ρ : Rho} : ∀ (l : List BE), (conjC l).den ρ = true → ∀ c ∈ l, c.den ρ = true
  | [], _, c, hc => by cases hc
  | d :: l, h, c, hc => by
    simp only [conjC, BE.den, Bool.and_eq_true] at h
    rcases List.mem_cons.1 hc with rfl | hc
    · exact h.1
    · exact conj_false l h.2 c hc


theorem orcTI_ok {L : Nat} (hL : L ∈ [1, 2, 3, 4, 5, 6]) : ∀ f args h t, orcTI L f args h = some t → CallOk pT f args h t := by
  intro f args h t e
  have h1 : ckI L = true := lAll_mem ckI_all L hL
  unfold orcTI at e
  cases h25 : Nat.beq f 25 with
  | true => rw [h25] at e; have := beq_t.1 h25; subst this; exact turned_orc e
  | false =>
    rw [h25, cond_false] at e
    obtain ⟨h68, e⟩ := cond_some e
    have := beq_t.1 h68; subst this
    exact CSpec.ok (c := notFilm L) (eval_ok tabs0 60 68 (notFilm L).args _) h1 (Nat.le_of_ble_eq_true rfl) e
theorem orcTS_ok : ∀ f args h t, orcTS f args h = some t → CallOk pT f args h t := by
  intro f args h t e
  unfold orcTS at e
  obtain ⟨h25, e⟩ := cond_some e
  have := beq_t.1 h25; subst this
  exact turned_orc e
section
variable {E : Env} {w : World} {vs : List Value}
/-- a film that is not valid -/
theorem torn_bad {L : Nat} (hL : L ∈ [1, 2, 3, 4, 5, 6]) (hv : ∀ g ∈ viewV L, ViewIn w E g) (hf : ∀ b, 2000 ≤ b → E.σ b = none) (hg : ∀ b, b < 1000 → E.σ b = some (b, 0)) (hn : E.n ≤ 2000)
    (ha : concL E (tornArgs L) = some vs) (hno : ¬ ∀ c ∈ csL L, c.den E.ρ = true) : Calls Tryd.prog 11 vs.toArray w fun e w' => e = .returned (.bool true) ∧ Below w.heap.size w w' := by
  have h1 : lawTI L = true := lAll_mem lawTI_all L hL
  have hc : (conjC (csL L)).den E.ρ = false := by
    cases h : (conjC (csL L)).den E.ρ with
    | false => rfl
    | true => exact absurd (conj_false _ h) hno
  have hK : KnOk E.ρ ⟨.nil, [], [⟨conjC (csL L), false⟩]⟩ := by
    refine ⟨fun i v h => ?_, fun f hf => (List.not_mem_nil hf).elim, fun a ha => ?_⟩
    · rw [PT.get_nil] at h; cases h
    · rcases List.mem_singleton.1 ha with rfl; exact hc
  exact law_view (Tryd.tab (orcTI L) (orcTI_ok hL) 2000) hv hf hg hn ha (allK_ok (fun K a H h => isTrueK_ok H h) _ _ hK h1) (Par.okB_all (fun _ _ => trivial) _ _)
/-- a list of no reel, or of too many -/
theorem torn_short {s : AV} {cs : List BE} (h1 : lawTS s cs = true) (hv : ∀ g ∈ glV, ViewIn w E g) (hf : ∀ b, 2000 ≤ b → E.σ b = none) (hg : ∀ b, b < 1000 → E.σ b = some (b, 0)) (hn : E.n ≤ 2000)
    (ha : concL E [filmW s, .agg [vi 87, vi 86], .sliceU 96, vi 85] = some vs) (hcs : ∀ c ∈ cs, c.den E.ρ = true) : Calls Tryd.prog 11 vs.toArray w fun e w' => e = .returned (.bool true) ∧ Below w.heap.size w w' := by
  have hK : KnOk E.ρ (knOf [] cs) := knOf_ok (fun c hc => by simp [ivC] at hc) hcs
  exact law_view (Tryd.tab orcTS orcTS_ok 2000) hv hf hg hn ha (allK_ok (fun K a H h => isTrueK_ok H h) _ _ hK h1) (Par.okB_all (fun _ _ => trivial) _ _)
end
end Go.Sx
/-! THE LAW OF WHAT IS TORN OFF, CALLED WITH WHATEVER CAN BE READ. -/
namespace Go.Sx
open Go.RowKit Go.Proofs
set_option maxRecDepth 100000
theorem cellsUp_vals (E : Env) (z : Nat → Int) : ∀ (k i : Nat), (∀ j, i ≤ j → j < i + k → E.ρ.iv j = z j) → concL E (cellsUp k i) = some ((List.range k).map fun q => .int .i64 (z (i + q)))
  | 0, i, _ => rfl
  | k + 1, i, h => by
    simp only [cellsUp, vi, concL, conc, IE.den]
    rw [h i (Nat.le_refl _) (by omega), cellsUp_vals E z k (i + 1) fun j h1 h2 => h j (by omega) (by omega)]
    simp only [List.range_succ_eq_map, List.map_cons, List.map_map, Nat.add_zero]
    congr 2
    apply List.map_congr_left
    intro q _
    simp only [Function.comp, Nat.succ_eq_add_one]
    rw [show i + 1 + q = i + (q + 1) by omega]

theorem lk21_in : ∀ L k : Nat, 1 ≤ L → L ≤ 6 → k < L → (L, k, 0) ∈ lk21 := by
  intro L k h1 h2 h3
  have hL : L = 1 ∨ L = 2 ∨ L = 3 ∨ L = 4 ∨ L = 5 ∨ L = 6 := by omega
  have hk : k = 0 ∨ k = 1 ∨ k = 2 ∨ k = 3 ∨ k = 4 ∨ k = 5 := by omega
  rcases hL with rfl | rfl | rfl | rfl | rfl | rfl <;> rcases hk with rfl | rfl | rfl | rfl | rfl | rfl <;> first | omega | simp [lk21]


def tornFi (y : Nat → Int) (bl : Nat) (f : Nat) (a _ _ : Int) : Int := if f = 1001 then y a.toNat else if f = 1000 then (if bl = 0 then 0 else y (turnF a bl).toNat) else 0
def x97 (low high tl th want : Int) : Int := if want > high then 0 else servesF low th want
def x98 (high tl want : Int) : Int := if want > high then 0 else servesF high tl want
def x99 (high want : Int) : Int := if want > high then 4 else 0
def tornRho (nf : Nat → Int) (n0 n1 need : Int) (z : Nat → Int) (k : Nat) (s : Value) (len : Nat) (bits : Value) (bl : Nat) (y : Nat → Int) : Rho :=
  ⟨fun j => if j ≤ 4 then nf j else if j < 85 then z (j - 10) else if j = 85 then need else if j = 86 then n1 else if j = 87 then n0 else if j = 88 then turnF n1 120
    else if j = 92 then chooseF (z (6 * k + 4)) (z (6 * k + 5)) (tornFi y bl 1000 0 0 0) else if j = 94 then turnF need 1200 else if j = 95 then len else if j = 96 then bl
    else if j = 97 then x97 (z (6 * k + 4)) (z (6 * k + 5)) (nf 2) (nf 3) (1 + turnF need 1200) else if j = 98 then x98 (z (6 * k + 5)) (nf 2) (1 + turnF need 1200) else if j = 99 then x99 (z (6 * k + 5)) (1 + turnF need 1200) else 0,
   fun _ => false, tornFi y bl, fun _ _ _ _ => false, fun j => if j = 95 then s else bits⟩
def lawEnv (ρ : Rho) (b o cap : Nat) : Env := ⟨ρ, fun x => if x < 1000 then some (x, 0) else if x = 1001 then some (b, o) else none, fun _ => cap, 2000, fun _ => #[]⟩

theorem torn_any {W : World} {ρ0 : Rho} (hG : ∀ g ∈ glV, GlobIn W ρ0 g) {s bits : Value} {n0 n1 need : Int} {nf : Nat → Int}
    (hs : s = .slice none 0 0 ∨ ∃ (b o len cap : Nat) (z : Nat → Int), s = .slice (some ⟨b, o, none⟩) len cap ∧ len ≤ cap ∧
        (0 < len → ∃ cells el fz, W.heap[b]? = some (.cells cells el fz) ∧ ∀ q, q < 6 * len → cells[o + q]? = some (.int .i64 (z q))))
    {bb : Option Addr} {bl bc : Nat} (hbits : bits = .slice bb bl bc) (hbl : (bl : Int) ≤ 9223372036854775807) (hbc : bl ≤ bc) {y : Nat → Int}
    (hb : 0 < bl → ∃ c x cells el fz, bb = some ⟨c, x, none⟩ ∧ W.heap[c]? = some (.cells cells el fz) ∧ ∀ q, q < bl → cells[x + q]? = some (.int .i64 (y q))) :
    Calls Tryd.prog 11 #[.agg #[s, .int .i64 (nf 0), .int .i64 (nf 1), .int .i64 (nf 2), .int .i64 (nf 3), .int .i64 (nf 4)], .agg #[.int .i64 n0, .int .i64 n1], bits, .int .i64 need] W fun e w' => e = .returned (.bool true) ∧ Below W.heap.size W w' := by
  have hσ : ∀ ρ b o cap, ∀ x, x < 1000 → (lawEnv ρ b o cap).σ x = some (x, 0) := fun ρ b o cap x hx => by simp [lawEnv, hx]
  have hnone : ∀ ρ b o cap, ∀ x, 2000 ≤ x → (lawEnv ρ b o cap).σ x = none := fun ρ b o cap x hx => by
    simp only [lawEnv]; rw [if_neg (by omega), if_neg (by omega)]
  have gvw : ∀ ρ b o cap, ∀ g ∈ glV, ViewIn W (lawEnv ρ b o cap) g := fun ρ b o cap => glob_view glV_lit' hG (hσ ρ b o cap)
  have rest : ∀ z k s len b o cap, concL (lawEnv (tornRho nf n0 n1 need z k s len bits bl y) b o cap) [vi 0, vi 1, vi 2, vi 3, vi 4] = some [.int .i64 (nf 0), .int .i64 (nf 1), .int .i64 (nf 2), .int .i64 (nf 3), .int .i64 (nf 4)] := fun z k s len b o cap => by
    simp [vi, concL, conc, IE.den, lawEnv, tornRho]
  have args : ∀ z k s len b o cap (x : AV), conc (lawEnv (tornRho nf n0 n1 need z k s len bits bl y) b o cap) x = some s → concL (lawEnv (tornRho nf n0 n1 need z k s len bits bl y) b o cap) [.agg [x, vi 0, vi 1, vi 2, vi 3, vi 4], .agg [vi 87, vi 86], .sliceU 96, vi 85] =
      some [.agg #[s, .int .i64 (nf 0), .int .i64 (nf 1), .int .i64 (nf 2), .int .i64 (nf 3), .int .i64 (nf 4)], .agg #[.int .i64 n0, .int .i64 n1], bits, .int .i64 need] := fun z k s len b o cap x hx => by
    have h1 : conc (lawEnv (tornRho nf n0 n1 need z k s len bits bl y) b o cap) (.agg [x, vi 0, vi 1, vi 2, vi 3, vi 4]) = some (.agg #[s, .int .i64 (nf 0), .int .i64 (nf 1), .int .i64 (nf 2), .int .i64 (nf 3), .int .i64 (nf 4)]) := by
      rw [conc, concL_cons.2 ⟨_, _, hx, rest z k s len b o cap, rfl⟩]; rfl
    have h2 : concL (lawEnv (tornRho nf n0 n1 need z k s len bits bl y) b o cap) [.agg [vi 87, vi 86], .sliceU 96, vi 85] = some [.agg #[.int .i64 n0, .int .i64 n1], bits, .int .i64 need] := by
      simp [vi, concL, conc, IE.den, lawEnv, tornRho, hbits]
    exact concL_cons.2 ⟨_, _, h1, h2, rfl⟩
  rcases hs with rfl | ⟨b, o, len, cap, z, rfl, hlc, hcells⟩
  · exact torn_short lawTS_nil (gvw _ 0 0 0) (hnone _ 0 0 0) (hσ _ 0 0 0) (Nat.le_refl _) (args (fun _ => 0) 0 _ 0 0 0 0 .nilslice (by simp [conc])) (fun c hc => (List.not_mem_nil hc).elim)
  · obtain ⟨k, hk⟩ : ∃ k : Nat, k = (turnF n0 len).toNat := ⟨_, rfl⟩
    let ρ := tornRho nf n0 n1 need z k (.slice (some ⟨b, o, none⟩) len cap) len bits bl y
    let E := lawEnv ρ b o cap
    have hsl : conc E (.sliceX 1001 6 0 len) = some (.slice (some ⟨b, o, none⟩) len cap) := by
      simp only [conc, E, lawEnv]
      rw [if_pos (by omega)]
      simp
    have iv95 : E.ρ.iv 95 = len := by simp [E, lawEnv, ρ, tornRho]
    have hsu : conc E (.sliceU 95) = some (.slice (some ⟨b, o, none⟩) len cap) := by
      simp [conc, E, lawEnv, ρ, tornRho]
    by_cases h0 : len = 0
    · exact torn_short lawTS_few (gvw ρ b o cap) (hnone _ _ _ _) (hσ _ _ _ _) (Nat.le_refl _) (args z k _ len b o cap (.sliceU 95) hsu) (fun c hc => by
        rcases List.mem_singleton.1 hc with rfl
        rw [BE.t_leq, IE.den_var, IE.den_lit]; show E.ρ.iv 95 ≤ 0; rw [iv95]; omega)
    · by_cases h7 : 7 ≤ len
      · exact torn_short lawTS_many (gvw ρ b o cap) (hnone _ _ _ _) (hσ _ _ _ _) (Nat.le_refl _) (args z k _ len b o cap (.sliceU 95) hsu) (fun c hc => by
          rcases List.mem_singleton.1 hc with rfl
          rw [BE.t_leq, IE.den_var, IE.den_lit]; show 7 ≤ E.ρ.iv 95; rw [iv95]; omega)
      · have hL : len ∈ [1, 2, 3, 4, 5, 6] := by
          simp only [List.mem_cons, List.not_mem_nil, or_false]; omega
        obtain ⟨cells, el, fz, c1, c2⟩ := hcells (by omega)
        have hview : ∀ g ∈ viewV len, ViewIn W E g := fun g hg => by
          rcases List.mem_cons.1 hg with rfl | hg
          · refine ⟨b, o, _, cells, el, fz, by simp [E, lawEnv], cellsUp_vals E (fun j => z (j - 10)) (6 * len) 10 (fun j h3 h4 => ?_), c1, fun i hi => ?_⟩
            · simp only [E, lawEnv, ρ, tornRho]
              rw [if_neg (by omega), if_pos (by omega)]
            · simp only [List.length_map, List.length_range] at hi
              rw [c2 i hi, List.getElem?_map, List.getElem?_range hi]
              simp
          · exact gvw ρ b o cap g hg
        by_cases hcs : ∀ c ∈ csL len, c.den E.ρ = true
        · have ht := turnF_in (n := n0) (m := len) (by omega)
          have hkl : k < len := by omega
          have hrd := rdom_of hkl hcs
          have i94 : E.ρ.iv 94 = turnF need 1200 := by simp [E, lawEnv, ρ, tornRho]
          have i88 : E.ρ.iv 88 = turnF n1 120 := by simp [E, lawEnv, ρ, tornRho]
          have i85 : E.ρ.iv 85 = need := by simp [E, lawEnv, ρ, tornRho]
          have i86 : E.ρ.iv 86 = n1 := by simp [E, lawEnv, ρ, tornRho]
          have i87 : E.ρ.iv 87 = n0 := by simp [E, lawEnv, ρ, tornRho]
          have i2 : E.ρ.iv 2 = nf 2 := by simp [E, lawEnv, ρ, tornRho]
          have i3 : E.ρ.iv 3 = nf 3 := by simp [E, lawEnv, ρ, tornRho]
          have ilo : E.ρ.iv (hadV k 0) = z (6 * k + 4) := by
            simp only [E, lawEnv, ρ, tornRho, hadV]
            rw [if_neg (by omega), if_pos (by omega), show 6 * k + 14 + 0 - 10 = 6 * k + 4 by omega]
          have ihi : E.ρ.iv (hadV k 1) = z (6 * k + 5) := by
            simp only [E, lawEnv, ρ, tornRho, hadV]
            rw [if_neg (by omega), if_pos (by omega), show 6 * k + 14 + 1 - 10 = 6 * k + 5 by omega]
          have i92 : E.ρ.iv 92 = chooseF (z (6 * k + 4)) (z (6 * k + 5)) (tornFi y bl 1000 0 0 0) := by simp [E, lawEnv, ρ, tornRho]
          have i97 : E.ρ.iv 97 = x97 (z (6 * k + 4)) (z (6 * k + 5)) (nf 2) (nf 3) (1 + turnF need 1200) := by simp [E, lawEnv, ρ, tornRho]
          have i98 : E.ρ.iv 98 = x98 (z (6 * k + 5)) (nf 2) (1 + turnF need 1200) := by simp [E, lawEnv, ρ, tornRho]
          have i99 : E.ρ.iv 99 = x99 (z (6 * k + 5)) (1 + turnF need 1200) := by simp [E, lawEnv, ρ, tornRho]
          have hlh : z (6 * k + 4) ≤ z (6 * k + 5) := by
            obtain ⟨h1, _⟩ := csUp_mem len 10 hcs
            have h1 := h1 k hkl
            simp only [reelC, le2, List.mem_cons, List.not_mem_nil, or_false, forall_eq_or_imp, forall_eq, BE.t_leq, IE.den_lit, IE.den_var] at h1
            obtain ⟨_, _, _, _, _, _, _, a8, _⟩ := h1
            rw [show 10 + 6 * k + 4 = hadV k 0 by simp only [hadV]; omega, show 10 + 6 * k + 5 = hadV k 1 by simp only [hadV]; omega, ilo, ihi] at a8
            exact a8
          have t94 := turnF_in (n := need) (m := 1200) (by omega)
          have t88 := turnF_in (n := n1) (m := 120) (by omega)
          have hv : toldV k E.ρ := by
            unfold toldV
            rw [i94, ihi, ilo, i2, i3, i97, i98, i99]
            unfold x97 x98 x99
            split
            · exact ⟨rfl, rfl, rfl⟩
            · exact ⟨rfl, rfl, rfl⟩
          have hall : ∀ c ∈ csL len ++ rdom k, c.den E.ρ = true := fun c hc => by
            rcases List.mem_append.1 hc with hc | hc
            · exact hcs c hc
            · exact hrd c hc
          have hp : okPick E.ρ (Base.of W).has := by
            refine ⟨bb, bl, bc, by simp [E, lawEnv, ρ, tornRho, hbits], by simp [E, lawEnv, ρ, tornRho], hbl, hbc, fun n => ?_, fun hl => ?_⟩
            · show tornFi y bl 1000 n 0 0 = _
              simp [E, lawEnv, ρ, tornRho, tornFi]
            · obtain ⟨c, x, cells, el, fz, e1, e2, e3⟩ := hb hl
              refine ⟨c, x, cells, el, fz, e1, ⟨(Array.getElem?_eq_some_iff.1 e2).1, e2⟩, fun j hj => ?_⟩
              rw [e3 j hj]
              simp [E, lawEnv, ρ, tornRho, tornFi]
          have hc92 := chooseF_in (n := tornFi y bl 1000 0 0 0) hlh
          exact torn_valid (q := (len, k, 0)) (lk21_in len k (by omega) (by omega) hkl) (fun _ _ _ e => turned_orc e) hview (hnone _ _ _ _) (hσ _ _ _ _) (Nat.le_refl _) (args z k _ len b o cap _ hsl) hall
            (by rw [i88]; omega) (by rw [i94]; omega) (by rw [ilo, ihi, i92]; exact hc92) (toldV_told hv)
            ⟨_, okLaw_of hp (by rw [i87]; show turnF n0 (len : Int) = (k : Int); omega) (by rw [i86, i88]) (by rw [i85, i94]) (by rw [i92, ilo, ihi]; rfl) hall (by rw [i94]; omega) hv, fun _ _ h => h⟩
        · exact torn_bad hL hview (hnone _ _ _ _) (hσ _ _ _ _) (Nat.le_refl _) (args z k _ len b o cap _ hsl) hcs
end Go.Sx
