/- THE LAW OF WHAT IS OVER IN TIME: its run, for a town that is valid, and for one that is not. -/
import Derived.Test.YtpejfdjeejdocaaDoorLicA
import Derived.Test.YtpejfdjeejdocaaDoorLicK
import Derived.Test.YtpejfdjeejdocaaDoorSxCSpecK
/-! A NUMBER THAT CHOOSES, of a span: Turn and Choose, as they are said. -/
namespace Go.Sx
open Go.RowKit Go.Proofs
set_option maxRecDepth 100000
/-! ## Turn -/
noncomputable def big : IE := .lit 9223372036854775807
noncomputable def turnC : CSpec := ⟨35, [vi 80, vi 81], [], 2000, [.cmp .leq (.var 81) big], .ret (.int .i64 (.app 6 (.var 80) (.var 81) (.lit 0)))⟩
noncomputable def turnRun : T (AV × Heap) := evalN tb0 10 false 35 [vi 80, vi 81] (viewHeap 2000 [])
noncomputable def remE : IE := .bin .rem .i64 (.var 80) (.var 81)
noncomputable def turnT : T AV := .br (.cmp .lss (.var 81) (.lit 1)) (.ret (.int .i64 (.lit 0))) (.br (.cmp .neq (.var 81) (.lit 0)) (.br (.cmp .lss remE (.lit 0)) (.ret (.int .i64 (.bin .add .i64 remE (.var 81)))) (.ret (.int .i64 remE))) (.fail 10))
theorem turn_run : (turnRun.bind fun r => .ret r.1) = turnT := by kernel_rfl
theorem turn_den {n m : Int} (h1 : ¬ m < 1) (hm : m ≤ 9223372036854775807) : (n.tmod m < 0 → IntKind.i64.wrap (n.tmod m + m) = turnF n m) ∧ (¬ n.tmod m < 0 → n.tmod m = turnF n m) := by
  have e1 := Int.emod_nonneg n (show m ≠ 0 by omega)
  have e2 := Int.emod_lt_of_pos n (show 0 < m by omega)
  have e3 : n.tmod m = n % m ∨ n.tmod m = n % m - m ∧ n % m ≠ 0 := by
    rw [Int.tmod_eq_emod]
    split
    · left; omega
    · rename_i hh
      right
      refine ⟨by omega, fun h0 => hh (.inr (Int.dvd_of_emod_eq_zero h0))⟩
  unfold turnF
  rw [if_neg h1]
  generalize n % m = r at *
  generalize n.tmod m = t at *
  constructor
  · intro h
    rw [IntWalk.i64_in _ (by omega)]; omega
  · intro h; omega
theorem turn_orc {p : Par} (hP : pT.P = p.P) {args : List AV} {h : Heap} {t : T (AV × Heap)} (ho : turnC.orc args h = some t) : CallOk p 35 args h t := by
  refine CSpec.okS (c := turnC) (p0 := pT) (eval_ok tabs0 10 35 [vi 80, vi 81] _) (fun ρ hd P hP => ?_) (Nat.le_of_ble_eq_true rfl) ho hP
  have hd := hd _ List.mem_cons_self
  rw [BE.t_leq] at hd
  have hd : ρ.iv 81 ≤ 9223372036854775807 := hd
  have hP : P (.int .i64 (.app 6 (.var 80) (.var 81) (.lit 0))) := hP
  show ((turnRun.bind fun r => .ret r.1) : T AV).Holds ρ _
  rw [turn_run]
  have hden : (IE.app 6 (.var 80) (.var 81) (.lit 0)).den ρ = turnF (ρ.iv 80) (ρ.iv 81) := rfl
  have fin : ∀ e : IE, e.den ρ = turnF (ρ.iv 80) (ρ.iv 81) → ∃ b, P b ∧ pureAV b = true ∧ SameE ρ (.int .i64 e) b := fun e he =>
    ⟨_, hP, rfl, by intro E hE; simp only [conc, hE]; rw [he, hden]⟩
  unfold turnT
  simp only [T.Holds]
  split
  · rename_i h1
    rw [BE.t_lss] at h1
    refine fin _ ?_
    have h1 : ρ.iv 81 < 1 := h1
    unfold turnF; rw [if_pos h1]; rfl
  · rename_i h1
    rw [BE.t_lss] at h1
    have h1 : ¬ ρ.iv 81 < 1 := h1
    obtain ⟨d1, d2⟩ := turn_den (n := ρ.iv 80) h1 hd
    split
    · split
      · rename_i h2
        rw [BE.t_lss] at h2
        exact fin _ (d1 h2)
      · rename_i h2
        rw [BE.t_lss] at h2
        exact fin _ (d2 h2)
    · rename_i h3
      refine absurd ?_ h3
      show (ρ.iv 81 != 0) = true
      simp only [bne_iff_ne, ne_eq]; omega

noncomputable def orcT (f : FuncId) (args : List AV) (h : Heap) : Option (T (AV × Heap)) := cond (Nat.beq f 35) (turnC.orc args h) none
noncomputable def tbT : Tabs := ⟨Sx.Tryd.ft.get, lFind Sx.Tryd.rt, 2000, orcT⟩
theorem tabsT : TabOk pT Sx.Tryd.tt.get tbT := Tryd.tab orcT (fun f args h t e => by
  unfold orcT at e
  obtain ⟨h1, h2⟩ := cond_some e
  have := beq_t.1 h1; subst this
  exact turn_orc rfl h2) 2000
theorem turnF_in {n m : Int} (h : 1 ≤ m) : 0 ≤ turnF n m ∧ turnF n m < m := by
  unfold turnF
  rw [if_neg (by omega)]
  exact ⟨Int.emod_nonneg _ (by omega), Int.emod_lt_of_pos _ (by omega)⟩
theorem chooseF_in {l h n : Int} (k : l ≤ h) : l ≤ chooseF l h n ∧ chooseF l h n ≤ h := by
  unfold chooseF
  rw [if_neg (by omega)]
  have := turnF_in (n := n) (m := h - l + 1) (by omega)
  omega
noncomputable def chooseC : CSpec := ⟨41, [.agg [vi 80, vi 81], vi 82], [], 2000, [.cmp .leq (.lit 0) (.var 80), .cmp .leq (.var 81) (.lit 1000000)], .ret (.int .i64 (.app 7 (.var 80) (.var 81) (.var 82)))⟩
noncomputable def chooseRun : T (AV × Heap) := evalN tbT 20 false 41 [.agg [vi 80, vi 81], vi 82] (viewHeap 2000 [])
noncomputable def manyE : IE := .bin .add .i64 (.bin .sub .i64 (.var 81) (.var 80)) (.lit 1)
noncomputable def chooseT : T AV := .br (.cmp .gtr (.var 80) (.var 81)) (.ret (vi 80)) (.br (.cmp .leq manyE big) (.ret (.int .i64 (.bin .add .i64 (.var 80) (.app 6 (.var 82) manyE (.lit 0))))) (.fail 99))
theorem choose_run : (chooseRun.bind fun r => .ret r.1) = chooseT := by kernel_rfl
theorem choose_orc {p : Par} (hP : pT.P = p.P) {args : List AV} {h : Heap} {t : T (AV × Heap)} (ho : chooseC.orc args h = some t) : CallOk p 41 args h t := by
  refine CSpec.okS (c := chooseC) (p0 := pT) (eval_ok tabsT 20 41 [.agg [vi 80, vi 81], vi 82] _) (fun ρ hd P hP => ?_) (Nat.le_of_ble_eq_true rfl) ho hP
  have hd1 := hd _ List.mem_cons_self
  have hd2 := hd _ (List.mem_cons_of_mem _ List.mem_cons_self)
  rw [BE.t_leq] at hd1 hd2
  have hd1 : 0 ≤ ρ.iv 80 := hd1
  have hd2 : ρ.iv 81 ≤ 1000000 := hd2
  have hP : P (.int .i64 (.app 7 (.var 80) (.var 81) (.var 82))) := hP
  show ((chooseRun.bind fun r => .ret r.1) : T AV).Holds ρ _
  rw [choose_run]
  have hden : (IE.app 7 (.var 80) (.var 81) (.var 82)).den ρ = chooseF (ρ.iv 80) (ρ.iv 81) (ρ.iv 82) := rfl
  have fin : ∀ e : IE, e.den ρ = chooseF (ρ.iv 80) (ρ.iv 81) (ρ.iv 82) → ∃ b, P b ∧ pureAV b = true ∧ SameE ρ (.int .i64 e) b := fun e he =>
    ⟨_, hP, rfl, by intro E hE; simp only [conc, hE]; rw [he, hden]⟩
  unfold chooseT
  simp only [T.Holds]
  split
  · rename_i h1
    have h1 : decide (ρ.iv 80 > ρ.iv 81) = true := h1
    have h1 := of_decide_eq_true h1
    refine fin _ ?_
    show ρ.iv 80 = _
    unfold chooseF; rw [if_pos h1]
  · rename_i h1
    have h1 : ¬ decide (ρ.iv 80 > ρ.iv 81) = true := h1
    have h1 : ¬ ρ.iv 80 > ρ.iv 81 := fun h => h1 (decide_eq_true h)
    have hm : manyE.den ρ = ρ.iv 81 - ρ.iv 80 + 1 := by
      show IntKind.i64.wrap (IntKind.i64.wrap (ρ.iv 81 - ρ.iv 80) + 1) = _
      rw [IntWalk.i64_in (ρ.iv 81 - ρ.iv 80) (by omega), IntWalk.i64_in _ (by omega)]
    have ht := turnF_in (n := ρ.iv 82) (m := ρ.iv 81 - ρ.iv 80 + 1) (by omega)
    rw [if_pos (by show decide (manyE.den ρ ≤ 9223372036854775807) = true; rw [hm]; exact decide_eq_true (by omega))]
    refine fin _ ?_
    show IntKind.i64.wrap (ρ.iv 80 + turnF (ρ.iv 82) (manyE.den ρ)) = _
    rw [hm, IntWalk.i64_in _ (by omega)]
    unfold chooseF; rw [if_neg (by omega)]

noncomputable def servesX (R : Rules) (u t : T AV) : Kn → Bool :=
  @T.rec AV (fun _ => Kn → Bool) (fun a K => cond (matchU a u K) true (fires R K (.lit false)))
    (fun c _ _ ih1 ih2 K => match decW R K c with
      | some b => cond b (ih1 K) (ih2 K)
      | none => and (ih1 (addK true c K)) (ih2 (addK false c K)))
    (fun _ K => cond (deadU u K) true (fires R K (.lit false))) t
theorem servesX_ok {ρ : Rho} {R : Rules} (HR : RulesOk ρ R) {P : AV → Prop} {u : T AV} (hu : u.Holds ρ P) : ∀ (t : T AV) (K : Kn), KnOk ρ K → servesX R u t K = true → t.Holds ρ fun a => ∃ b, P b ∧ pureAV b = true ∧ SameE ρ a b
  | .ret a, K, H, h => by
    have h : cond (matchU a u K) true (fires R K (.lit false)) = true := h
    cases hm : matchU a u K with
    | true => exact matchU_ok u K H hm hu
    | false => rw [hm] at h; exact absurd (fires_ok H HR h) (by simp [BE.den])
  | .fail w, K, H, h => by
    have h : cond (deadU u K) true (fires R K (.lit false)) = true := h
    cases hm : deadU u K with
    | true => exact (deadU_ok u K H hm hu).elim
    | false => rw [hm] at h; exact absurd (fires_ok H HR h) (by simp [BE.den])
  | .br c x y, K, H, h => by
    have h : (match decW R K c with
      | some b => cond b (servesX R u x K) (servesX R u y K)
      | none => and (servesX R u x (addK true c K)) (servesX R u y (addK false c K))) = true := h
    simp only [T.Holds]
    split at h
    · rename_i b hb
      have hc := decW_ok HR H hb
      cases b with
      | true => rw [hc, if_pos rfl]; exact servesX_ok HR hu x K H h
      | false => rw [hc, if_neg (by simp)]; exact servesX_ok HR hu y K H h
    · simp only [Bool.and_eq_true] at h
      cases hc : c.den ρ with
      | true => rw [if_pos rfl]; exact servesX_ok HR hu x _ (addK_ok c true K H hc) h.1
      | false => rw [if_neg (by simp)]; exact servesX_ok HR hu y _ (addK_ok c false K H hc) h.2

end Go.Sx
/-! THE LAW OF WHAT IS OVER IN TIME: its run, for a town that is valid, and for one that is not. -/
namespace Go.Sx
open Go.RowKit Go.Proofs
set_option maxRecDepth 100000
noncomputable def overArgs (q : Shp) : List AV := [townV q, .agg [vi 87, vi 88, vi 89, vi 90]]
noncomputable def turnAt (a b : IE) : CSpec := ⟨35, [.int .i64 a, .int .i64 b], [], 2000, [], .ret (.int .i64 (.app 6 a b (.lit 0)))⟩
/-- the most that an evening lasts, as it is known -/
noncomputable def highE : IE := .mn (.lit 1439) (.bin .add .i64 (.var 92) (.var 93))
noncomputable def lowC : List BE := [.cmp .leq (.lit 0) (.var 92), .cmp .leq highE (.lit 1439)]
noncomputable def chooseAt : CSpec := ⟨41, [.agg [vi 92, .int .i64 highE], vi 90], [], 2000, lowC, .ret (.int .i64 (.app 7 (.var 92) highE (.var 90)))⟩
noncomputable def namedL : List (CSpec × AV) := [(turnAt (.var 87) (.lit 1440), vi 91), (turnAt (.var 88) (.lit 1440), vi 92), (turnAt (.var 89) (.lit 90), vi 93), (chooseAt, vi 94)]
noncomputable def namedOrc (f : FuncId) (args : List AV) (h : Heap) (l : List (CSpec × AV)) : Option (T (AV × Heap)) :=
  @List.rec (CSpec × AV) (fun _ => Option (T (AV × Heap))) none (fun c _ ih => cond (Nat.beq f c.1.f) (match c.1.orcX c.2 args h with
    | some t => some t
    | none => ih) ih) l
noncomputable def knowC (q : Shp) : CSpec := ⟨53, [townV q], viewT q, 2000, [], .fail 0⟩
/-- a town that is valid, or one that is not -/
noncomputable def knowV (q : Shp) (ok : Bool) : AV := cond ok (okV q) errV
noncomputable def knowOrc (q : Shp) (ok : Bool) (args : List AV) (h : Heap) : Option (T (AV × Heap)) := (knowC q).orcY (.ret (knowV q ok)) args h
noncomputable def orcS (q : Shp) (ok : Bool) (f : FuncId) (args : List AV) (h : Heap) : Option (T (AV × Heap)) := cond (Nat.beq f 53) (knowOrc q ok args h) none
noncomputable def tbS (q : Shp) (ok : Bool) : Tabs := ⟨Sx.Tryd.ft.get, lFind Sx.Tryd.rt, 2000, orcS q ok⟩
noncomputable def soundC (q : Shp) : CSpec := ⟨36, [townV q], viewT q, 2000, [], .fail 0⟩
noncomputable def soundRun (q : Shp) (ok : Bool) : T (AV × Heap) := evalN (tbS q ok) 40 false 36 [townV q] (viewHeap 2000 (viewT q))
noncomputable def soundK (q : Shp) (ok : Bool) : List BE := emptyC q ++ cond ok (csT q) []
noncomputable def soundCk (q : Shp) (ok : Bool) : Bool := servesX [] (.ret (.bool (.lit ok))) (only (soundRun q ok)) (knOf [] (soundK q ok))
noncomputable def orcL (q : Shp) (ok : Bool) (f : FuncId) (args : List AV) (h : Heap) : Option (T (AV × Heap)) :=
  cond (Nat.beq f 23) (closedOrc glV args h) (cond (Nat.beq f 53) (knowOrc q ok args h) (cond (Nat.beq f 36) ((soundC q).orcY (.ret (.bool (.lit ok))) args h) (namedOrc f args h namedL)))
noncomputable def tbL (q : Shp) (ok : Bool) : Tabs := ⟨Sx.Tryd.ft.get, lFind Sx.Tryd.rt, 2000, orcL q ok⟩
noncomputable def overRun (q : Shp) (ok : Bool) : T (AV × Heap) := evalN (tbL q ok) 60 false 8 (overArgs q) (viewHeap 2000 (viewT q))
noncomputable def nameQ : List (Nat × Int × Int) := [(91, 0, 1439), (92, 0, 1439), (93, 0, 89), (94, 0, 1439)]
noncomputable def nameC : List BE := [.cmp .leq (.var 92) highE, .cmp .leq highE (.lit 1439), .cmp .leq (.var 92) (.var 94), .cmp .leq (.var 94) highE]
noncomputable def overK (q : Shp) (ok : Bool) : List BE := nameC ++ soundK q ok
noncomputable def endE (x : IE) : IE := .bin .add .i64 (.var 91) x
noncomputable def overR : Rules := [([.cmp .leq (endE highE) (.var 2), .cmp .gtr (endE (.var 94)) (.var 2)], .lit false), ([.cmp .leq (endE (.var 94)) (.var 2), .cmp .gtr (endE (.var 92)) (.var 2)], .lit false)]
noncomputable def overCk (q : Shp) (ok : Bool) : Bool := servesX overR (.ret (.bool (.lit true))) (only (overRun q ok)) (knOf nameQ (overK q ok))
noncomputable def bothCk (q : Shp) : Bool := and (and (soundCk q true) (soundCk q false)) (and (overCk q true) (overCk q false))
/-- some kinds of a town -/
def sh2 (a : Nat) (l : List Nat) : List Shp := l.flatMap fun b => [0, 1, 2, 3, 4].map fun c => (a, b, c)
end Go.Sx
