/- A NUMBER THAT CHOOSES ONE OF A FEW: each by itself. -/
import Derived.Test.YtnedannoknflnaaDoorSxTurned
import Derived.Test.YtnedannoknflnaaDoorSxView
/-! A NUMBER THAT CHOOSES ONE OF A FEW: each by itself. -/
namespace Go.Sx
open Go.RowKit Go.Proofs
set_option maxRecDepth 100000

noncomputable def remE (n : IE) (m : Int) : IE := .bin .rem .i64 n (.lit m)
/-- what comes out is i -/
noncomputable def turnIs (n : IE) (m i : Int) : BE := .not (.and (.not (.cmp .eql (remE n m) (.lit i))) (.not (.cmp .eql (remE n m) (.lit (i - m)))))
/-- of m, those from m - k on -/
noncomputable def turnT (n : IE) (m : Nat) : Nat → T AV
  | 0 => .fail 96
  | 1 => .ret (li (m - 1))
  | k + 2 => .br (turnIs n m (m - (k + 2))) (.ret (li (m - (k + 2)))) (turnT n m (k + 1))

noncomputable def turnRes (m : Nat) : T AV :=
  .br (.cmp .lss (remE (.var 0) m) (.lit 0)) (.ret (.int .i64 (.bin .add .i64 (remE (.var 0) m) (.lit m)))) (.ret (.int .i64 (remE (.var 0) m)))

noncomputable def turnChk (m : Nat) : Bool := eqTV ((evalN tb0 20 false 48 [.int .i64 (.var 0), .int .i64 (.lit m)] (viewHeap 2000 [])).map fun r => r.1) (turnRes m)
theorem turn_run : (List.range 6).all (fun k => turnChk (k + 1)) = true := by kernel_rfl

theorem turn_eq {m : Nat} (h1 : 1 ≤ m) (h2 : m ≤ 6) : (evalN tb0 20 false 48 [.int .i64 (.var 0), .int .i64 (.lit m)] (viewHeap 2000 [])).map (fun r => r.1) = turnRes m := by
  have := List.all_eq_true.1 turn_run (m - 1) (by simp; omega)
  rw [show m - 1 + 1 = m by omega] at this
  exact eqTV_eq _ _ this

/-- the number that comes out -/
def turnZ (z m : Int) : Int := if z.tmod m < 0 then z.tmod m + m else z.tmod m

theorem turnZ_bnd {z m : Int} (hm : 0 < m) : 0 ≤ turnZ z m ∧ turnZ z m < m := by
  have h1 := Int.tmod_lt_of_pos z hm
  have h2 : -m < z.tmod m := by
    have := Int.tmod_lt_of_pos (-z) hm
    rw [Int.neg_tmod] at this; omega
  unfold turnZ
  split <;> omega

theorem turnT_holds {ρ : Rho} {n : IE} {m : Nat} {Q : AV → Prop} (hm : 1 ≤ m) (hm6 : m ≤ 6) : ∀ k, k ≤ m → (m : Int) - k ≤ turnZ (n.den ρ) m → (turnT n m k).Holds ρ Q → Q (li (turnZ (n.den ρ) m))
  | 0, _, _, h => h.elim
  | 1, _, hk, h => by
    have hb := turnZ_bnd (z := n.den ρ) (m := m) (by omega)
    have h' : Q (li (m - 1)) := h
    have : turnZ (n.den ρ) m = m - 1 := by omega
    rw [this]; exact h'
  | k + 2, hkm, hk, h => by
    have hb := turnZ_bnd (z := n.den ρ) (m := m) (by omega)
    simp only [turnT, T.Holds] at h
    have hd : (turnIs n m (m - (k + 2))).den ρ = true ↔ turnZ (n.den ρ) m = (m : Int) - (k + 2) := by
      have h1 := Int.tmod_lt_of_pos (n.den ρ) (show (0 : Int) < m by omega)
      have h2 : -(m : Int) < (n.den ρ).tmod m := by
        have := Int.tmod_lt_of_pos (-(n.den ρ)) (show (0 : Int) < m by omega)
        rw [Int.neg_tmod] at this; omega
      simp only [turnIs, remE, BE.den, IE.den, cmpDen, binDen]
      unfold turnZ
      generalize (n.den ρ).tmod m = t at *
      simp only [Bool.not_and, Bool.not_not, Bool.or_eq_true, beq_iff_eq]
      split <;> omega
    split at h
    · rename_i hc
      rw [hd.1 hc]; exact h
    · rename_i hc
      have hne : turnZ (n.den ρ) m ≠ (m : Int) - (k + 2) := fun e => hc (hd.2 e)
      exact turnT_holds hm hm6 (k + 1) (by omega) (by push_cast at *; omega) h

noncomputable def turnOrc (args : List AV) (h : Heap) : Option (T (AV × Heap)) :=
  match args with
  | [.int .i64 n, .int .i64 (.lit (.ofNat m))] => (match n with
    | .lit _ => none
    | n => cond (and (Nat.ble 1 m) (Nat.ble m 6)) (some ((turnT n m m).map fun v => (v, h))) none)
  | _ => none

theorem turnOrc_ok (B : TabOk pT Sx.Tryd.tt.get tb0) {args : List AV} {h : Heap} {t : T (AV × Heap)} (ho : turnOrc args h = some t) : CallOk pT 48 args h t := by
  have main : ∀ (n : IE) (m : Nat), 1 ≤ m → m ≤ 6 → CallOk pT 48 [.int .i64 n, .int .i64 (.lit m)] h ((turnT n m m).map fun v => (v, h)) := by
    intro n m h1 h6
    refine callOk_of fun vs E w0 w Q HH ha k => ?_
    rw [T.holds_map] at k
    have hq := turnT_holds h1 h6 m (Nat.le_refl _) (by have := (turnZ_bnd (z := n.den E.ρ) (m := m) (by omega)).1; omega) k
    let ES : Env := ⟨⟨fun _ => n.den E.ρ, fun _ => false, fun _ _ _ _ => 0, fun _ _ _ _ => false, fun _ => .tuple #[]⟩, fun b => if b < 1000 then some (b, 0) else none, fun _ => 0, 1000⟩
    have hargs : concL ES [.int .i64 (.var 0), .int .i64 (.lit m)] = some vs := by
      rw [← ha]; simp only [concL, conc, IE.den, ES]
    have hrun : (evalN tb0 20 false 48 [.int .i64 (.var 0), .int .i64 (.lit m)] (viewHeap 2000 [])).Holds ES.ρ (fun r => conc ES r.1 = some (.int .i64 (turnZ (n.den E.ρ) m)) ∧ pureAV r.1 = true) := by
      have : ((evalN tb0 20 false 48 [.int .i64 (.var 0), .int .i64 (.lit m)] (viewHeap 2000 [])).map (fun r => r.1)).Holds ES.ρ (fun v => conc ES v = some (.int .i64 (turnZ (n.den E.ρ) m)) ∧ pureAV v = true) := by
        rw [turn_eq h1 h6]
        have b1 := Int.tmod_lt_of_pos (n.den E.ρ) (show (0 : Int) < m by omega)
        have b2 : -(m : Int) < (n.den E.ρ).tmod m := by
          have := Int.tmod_lt_of_pos (-(n.den E.ρ)) (show (0 : Int) < m by omega)
          rw [Int.neg_tmod] at this; omega
        simp only [turnRes, T.Holds, BE.t_lss, remE, IE.den, binDen, conc, pureAV]
        show if (n.den E.ρ).tmod m < 0 then some (Value.int .i64 (IntKind.i64.wrap ((n.den E.ρ).tmod m + m))) = some (.int .i64 (turnZ (n.den E.ρ) m)) ∧ True else some (Value.int .i64 ((n.den E.ρ).tmod m)) = some (.int .i64 (turnZ (n.den E.ρ) m)) ∧ True
        unfold turnZ
        by_cases hc : (n.den E.ρ).tmod m < 0
        · rw [if_pos hc, if_pos hc, IntWalk.i64_in _ (by omega)]; exact ⟨rfl, trivial⟩
        · rw [if_neg hc, if_neg hc]; exact ⟨rfl, trivial⟩
      rw [T.holds_map] at this; exact this
    have hσ : ∀ b, b < 1000 → ES.σ b = some (b, 0) := fun b hb => by simp [ES, hb]
    obtain ⟨c1, c2⟩ := call_view B (d := 20) (f := 48) (Q := fun v => conc ES v = some (.int .i64 (turnZ (n.den E.ρ) m)) ∧ pureAV v = true) (l := []) (n := 2000) (E := ES) (w := w) (fun g hg => by cases hg) (fun b hb => by simp only [ES]; rw [if_neg (by omega)]) hσ (by simp [ES]) hargs hrun
    refine ⟨c1, c2.mono ?_⟩
    rintro e w' ⟨v, cv, E', rfl, ⟨q1, q2⟩, hle, hcv, hb⟩
    rw [conc_pure hle.ρ v q2, q1] at hcv
    cases hcv
    exact ⟨li (turnZ (n.den E.ρ) m), _, rfl, hq, rfl, hb⟩
  unfold turnOrc at ho
  split at ho
  · rename_i n m
    cases hb : and (Nat.ble 1 m) (Nat.ble m 6) with
    | false => cases n <;> simp only [hb, cond_false] at ho <;> cases ho
    | true =>
      simp only [Bool.and_eq_true] at hb
      have h1 := ble_t.1 hb.1
      have h6 := ble_t.1 hb.2
      have e : some ((turnT n m m).map fun v => (v, h)) = some t := by
        cases n <;> simp only [hb.1, hb.2, Bool.and_self, cond_true] at ho <;> first | exact ho | cases ho
      cases e
      exact main n m h1 h6
  · cases ho

end Go.Sx
