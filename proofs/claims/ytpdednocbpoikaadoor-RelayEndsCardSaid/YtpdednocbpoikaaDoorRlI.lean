/- RlI -/
import Derived.Test.YtpdednocbpoikaaDoorRlG
namespace Go.Sx
open Go.RowKit Go.Proofs
set_option maxRecDepth 100000
noncomputable def le2 (a b : IE) : BE := .cmp .leq a b
noncomputable def reelC (b : Nat) : List BE :=
  [le2 (.lit 0) (.var b), le2 (.var b) (.var (b + 1)), le2 (.var (b + 1)) (.lit 99), le2 (.lit 0) (.var (b + 2)), le2 (.var (b + 2)) (.var (b + 3)), le2 (.var (b + 3)) (.lit 99), le2 (.lit 1) (.var (b + 4)), le2 (.var (b + 4)) (.var (b + 5)), le2 (.var (b + 5)) (.lit 1200), le2 (.var b) (.var (b + 3))]
noncomputable def restC : List BE := [le2 (.lit 1) (.var 0), le2 (.var 0) (.var 1), le2 (.var 1) (.lit 20), le2 (.lit 0) (.var 2), le2 (.var 2) (.var 3), le2 (.var 3) (.lit 50), le2 (.lit 1) (.var 4), le2 (.var 4) (.lit 6000)]
noncomputable def csUp : Nat → Nat → List BE
  | 0, _ => restC
  | n + 1, b => reelC b ++ csUp n (b + 6)
noncomputable def csL (L : Nat) : List BE := csUp L 10
noncomputable def bookCs : List BE := [le2 (.lit 0) (.var 60), le2 (.var 60) (.lit 998), le2 (.lit 1) (.var 65), le2 (.var 65) (.lit 6), le2 (.lit 0) (.var 61), le2 (.var 61) (.var 62), le2 (.var 62) (.lit 3600), le2 (.lit 0) (.var 63), le2 (.var 63) (.var 64), le2 (.var 64) (.lit 3600)]
noncomputable def conjC : List BE → BE
  | [] => .lit true
  | c :: l => .and c (conjC l)
theorem conj_false {ρ : Rho} : ∀ (l : List BE), (conjC l).den ρ = true → ∀ c ∈ l, c.den ρ = true
  | [], _, c, hc => by cases hc
  | d :: l, h, c, hc => by
    simp only [conjC, BE.den, Bool.and_eq_true] at h
    rcases List.mem_cons.1 hc with rfl | hc
    · exact h.1
    · exact conj_false l h.2 c hc
noncomputable def cellsUp : Nat → Nat → List AV
  | 0, _ => []
  | n + 1, i => vi i :: cellsUp n (i + 1)
noncomputable def filmV (L : Nat) : AV := .agg [.sliceX 1001 6 0 L, vi 0, vi 1, vi 2, vi 3, vi 4]
noncomputable def viewV (L : Nat) : List (Nat × List AV) := (1001, cellsUp (6 * L) 10) :: glR
noncomputable def notFilm (L : Nat) : CSpec := ⟨43, [filmV L], viewV L, 2000, [], .br (conjC (csL L)) (.fail 1) (.ret (.bool (.lit false)))⟩
noncomputable def ckI (L : Nat) : Bool := (notFilm L).chk (evalN tb0 60 false 43 (notFilm L).args (viewHeap 2000 (notFilm L).view))
theorem ckI_all : lAll ckI [1, 2, 3, 4, 5, 6] = true := by kernel_rfl
noncomputable def orcTI (L : Nat) (f : FuncId) (args : List AV) (h : Heap) : Option (T (AV × Heap)) :=
  cond (Nat.beq f 7) (closedOrc glR args h) (cond (Nat.beq f 43) ((notFilm L).orc args h) none)
noncomputable def tbTI (L : Nat) : Tabs := ⟨Sx.Tryd.ft.get, lFind Sx.Tryd.rt, 2000, orcTI L⟩
noncomputable def bookW (s : AV) : AV := .agg [s, vj 0, vj 1, vj 2, vj 3, vj 4, vj 60, vj 61, vj 62, vj 63, vj 64, vj 65]
noncomputable def orcTS (f : FuncId) (args : List AV) (h : Heap) : Option (T (AV × Heap)) := cond (Nat.beq f 7) (closedOrc glR args h) none
noncomputable def tbTS : Tabs := ⟨Sx.Tryd.ft.get, lFind Sx.Tryd.rt, 2000, orcTS⟩
theorem orcTI_ok {L : Nat} (hL : L ∈ [1, 2, 3, 4, 5, 6]) : ∀ f args h t, orcTI L f args h = some t → CallOk pT f args h t := by
  intro f args h t e
  have h1 : ckI L = true := lAll_mem ckI_all L hL
  unfold orcTI at e
  cases h25 : Nat.beq f 7 with
  | true => rw [h25] at e; have := beq_t.1 h25; subst this; exact carried_orc e
  | false =>
    rw [h25, cond_false] at e
    obtain ⟨h68, e⟩ := cond_some e
    have := beq_t.1 h68; subst this
    exact CSpec.ok (c := notFilm L) (eval_ok tabs0 60 43 (notFilm L).args _) h1 (Nat.le_of_ble_eq_true rfl) e
theorem orcTS_ok : ∀ f args h t, orcTS f args h = some t → CallOk pT f args h t := by
  intro f args h t e
  unfold orcTS at e
  obtain ⟨h25, e⟩ := cond_some e
  have := beq_t.1 h25; subst this
  exact carried_orc e
theorem first_none {L : Nat} (h0 : 1 ≤ L) (hL : L ≤ 6) : CallOk (pOk fun ρ _ => okT L ρ ∧ okFilm L ρ ∧ (noneB L).den ρ = true) 40 [filmF L] (viewA 2000 (vK L)) (.ret (noneVF, viewA 2001 (vF0 L))) := by
  refine CallOk.read (p0 := pF L) (p := pOk fun ρ _ => okT L ρ ∧ okFilm L ρ ∧ (noneB L).den ρ = true) rfl (first_said h0 hL) fun ρ b ⟨m, k1, k2⟩ Q k => ⟨ρ, ⟨m, ⟨k1.1, k1.2.1⟩, k2⟩, SameL.refl _ _, ⟨rfl, fun j o g => ⟨o, g, SameA.refl o⟩⟩, ?_⟩
  have k : Q (noneVF, viewA 2001 (vF0 L)) := k
  have hn : (noneE (fullM L) (.lit 0) (.lit 100)).den ρ = true := k1.2.2
  unfold saidF
  simp only [T.Holds]
  rw [if_pos hn]
  exact ⟨_, k, SameV.refl _ _, rfl, fun j o g => ⟨o, g, SameA.refl o⟩⟩
noncomputable def orcTN (L : Nat) (f : FuncId) (args : List AV) (h : Heap) : Option (T (AV × Heap)) :=
  cond (Nat.beq f 7) (closedOrc glR args h) (cond (Nat.beq f 40) (smallO 2000 [filmF L] (vK L) (.ret (noneVF, viewA 2001 (vF0 L))) (fun _ => [2000]) args h) none)
noncomputable def tbTN (L : Nat) : Tabs := ⟨Sx.Tryd.ft.get, lFind Sx.Tryd.rt, 2000, orcTN L⟩
noncomputable def notRelay (L : Nat) : CSpec := ⟨70, [bookF L], viewV L, 2000, [], .br (conjC bookCs) (.fail 1) (.ret (.bool (.lit false)))⟩
noncomputable def ckNR (L : Nat) : Bool := (notRelay L).chk (evalN tb0 60 false 70 (notRelay L).args (viewHeap 2000 (notRelay L).view))
theorem ckNR_all : lAll ckNR [1, 2, 3, 4, 5, 6] = true := by kernel_rfl
theorem first_found' {L : Nat} (h0 : 1 ≤ L) (hL : L ≤ 6) : CallOk (pOk fun ρ _ => okT L ρ ∧ okFilm L ρ ∧ (noneB L).den ρ = false) 40 [filmF L] (viewA 2000 (vK L)) (.ret (foundVF L, viewA 2001 (vF L))) := by
  refine CallOk.read (p0 := pF L) (p := pOk fun ρ _ => okT L ρ ∧ okFilm L ρ ∧ (noneB L).den ρ = false) rfl (first_said h0 hL) fun ρ b ⟨m, k1, k2⟩ Q k => ⟨ρ, ⟨m, ⟨k1.1, k1.2.1⟩, k2⟩, SameL.refl _ _, ⟨rfl, fun j o g => ⟨o, g, SameA.refl o⟩⟩, ?_⟩
  have k : Q (foundVF L, viewA 2001 (vF L)) := k
  have hn : (noneE (fullM L) (.lit 0) (.lit 100)).den ρ = false := k1.2.2
  unfold saidF
  simp only [T.Holds]
  rw [if_neg (by rw [hn]; exact Bool.false_ne_true)]
  exact ⟨_, k, SameV.refl _ _, rfl, fun j o g => ⟨o, g, SameA.refl o⟩⟩
noncomputable def orcTB (L : Nat) (f : FuncId) (args : List AV) (h : Heap) : Option (T (AV × Heap)) :=
  cond (Nat.beq f 7) (closedOrc glR args h) (cond (Nat.beq f 40) (smallO 2000 [filmF L] (vK L) (.ret (foundVF L, viewA 2001 (vF L))) (fun _ => [2000]) args h) (cond (Nat.beq f 70) ((notRelay L).orc args h) none))
noncomputable def tbTB (L : Nat) : Tabs := ⟨Sx.Tryd.ft.get, lFind Sx.Tryd.rt, 2000, orcTB L⟩
theorem mem_six {L : Nat} (h0 : 1 ≤ L) (hL : L ≤ 6) : L ∈ [1, 2, 3, 4, 5, 6] := by
  rcases six h0 hL with rfl | rfl | rfl | rfl | rfl | rfl <;> decide
end Go.Sx
