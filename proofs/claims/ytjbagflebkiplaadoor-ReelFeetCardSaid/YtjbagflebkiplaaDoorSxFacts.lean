/- WHAT IS SO OF THE NUMBERS of the law of the feet. -/
import Derived.Test.YtjbagflebkiplaaDoorSxLawFeet
/-! WHAT IS SO OF THE NUMBERS of the law of the feet. -/
namespace Go.Sx
open Go.RowKit Go.Proofs
set_option maxRecDepth 100000

theorem facts_ok {ρ : Rho} {k : Nat} (hd : ∀ c ∈ rdom k, c.den ρ = true) : ∃ g s, AsmOk ρ (facts k g s) := by
  simp only [rdom, List.mem_cons, List.not_mem_nil, or_false, forall_eq_or_imp, forall_eq] at hd
  obtain ⟨d1, d2, d3, d4, d5, d6, d7, d8⟩ := hd
  rw [BE.t_leq] at d1 d2 d3 d4 d5 d6 d7 d8
  simp only [IE.den_lit, IE.den_var] at d1 d2 d3 d4 d5 d6 d7 d8
  let need := ρ.iv 90
  let high := ρ.iv (hadV k 1)
  have hV : (servesV k 1).den ρ = servesF high (ρ.iv 2) need := by simp only [servesV, IE.den, FI, tornV, if_true]; rfl
  have h0 : ∀ b, decide (need > high) = b → ((servesV k 1).den ρ < 0 ↔ b = true) := by
    intro b hb
    have hf : feetAt high (ρ.iv 2) 0 = high := by simp only [feetAt]; omega
    rw [hV]
    simp only [servesF]
    by_cases hg : need > high
    · have : firstAt (fun n => decide (feetAt high (ρ.iv 2) n < need)) 1000 0 = 0 := by
        unfold firstAt; rw [if_pos (by rw [hf]; exact decide_eq_true hg)]
      rw [this, ← hb, decide_eq_true hg]; simp
    · have h1 : 1 ≤ firstAt (fun n => decide (feetAt high (ρ.iv 2) n < need)) 1000 0 := by
        unfold firstAt; rw [if_neg (by rw [hf]; simpa using hg)]
        exact (firstAt_le _ 999 1).1
      rw [← hb, decide_eq_false hg]; simp; omega
  refine ⟨decide (need > high), (seenP ((pkA k).den ρ) (pkB.den ρ) need).1, ?_⟩
  have cg : ∀ (c : BE) (b : Bool), c.den ρ = b → (canon c b).c.den ρ = (canon c b).b := fun c b h => (canon_den c b).2 h
  have hg1 : (BE.cmp .gtr (.var 90) (.var (hadV k 1))).den ρ = decide (need > high) := by simp only [BE.den, cmpDen, IE.den]; rfl
  have hg2 : (noneC k).den ρ = decide (need > high) := by
    simp only [noneC, BE.den, cmpDen, IE.den_lit]
    cases hb : decide (need > high) with
    | true => exact decide_eq_true ((h0 _ hb).2 rfl)
    | false => exact decide_eq_false fun h => by have := (h0 _ hb).1 h; cases this
  have hs1 : (seenB k).den ρ = (seenP ((pkA k).den ρ) (pkB.den ρ) need).1 := by simp only [seenB, BE.den, FB, if_true]; rfl
  have e2 : (seenI 2 k).den ρ = (seenP ((pkA k).den ρ) (pkB.den ρ) need).2.1 := by
    show FI 2 ((pkA k).den ρ) (pkB.den ρ) need = _
    simp only [FI]; rfl
  have e3 : (seenI 3 k).den ρ = (seenP ((pkA k).den ρ) (pkB.den ρ) need).2.2 := by
    show FI 3 ((pkA k).den ρ) (pkB.den ρ) need = _
    simp only [FI]; rfl
  have e4 : (seenI 4 k).den ρ = if (seenP ((pkA k).den ρ) (pkB.den ρ) need).1 then ((seenP ((pkA k).den ρ) (pkB.den ρ) need).2.1 : Int) else -1 := by
    show FI 4 ((pkA k).den ρ) (pkB.den ρ) need = _
    simp only [FI]; rfl
  have e5 : (seenI 5 k).den ρ = if (seenP ((pkA k).den ρ) (pkB.den ρ) need).1 then ((seenP ((pkA k).den ρ) (pkB.den ρ) need).2.2 : Int) else -1 := by
    show FI 5 ((pkA k).den ρ) (pkB.den ρ) need = _
    simp only [FI]; rfl
  intro a ha
  simp only [facts, List.mem_append, List.mem_cons, List.not_mem_nil, or_false] at ha
  rcases ha with ((ha | ha) | ha) | ha
  · rcases ha with rfl | rfl
    · exact cg _ _ hg1
    · exact cg _ _ hg2
  · cases hb : decide (need > high) with
    | false => rw [hb] at ha; cases ha
    | true =>
      rw [hb] at ha
      rcases List.mem_singleton.1 ha with rfl
      refine cg _ _ ?_
      have := (h0 _ hb).2 rfl
      simp only [lessC, BE.den, cmpDen, IE.den_lit]
      exact decide_eq_true (by omega)
  · rcases ha with rfl | rfl
    · exact cg _ _ hs1
    · refine cg _ _ ?_
      simp only [BE.den, cmpDen, IE.den_lit, e4]
      cases (seenP ((pkA k).den ρ) (pkB.den ρ) need).1 <;> simp
  · cases hb : (seenP ((pkA k).den ρ) (pkB.den ρ) need).1 with
    | false => rw [hb] at ha; cases ha
    | true =>
      rw [hb] at ha e4 e5
      simp only [cond_true, List.mem_cons, List.not_mem_nil, or_false] at ha
      rcases ha with rfl | rfl
      · refine cg _ _ ?_
        simp only [BE.den, cmpDen, e2, e4, if_true, beq_self_eq_true]
      · refine cg _ _ ?_
        simp only [BE.den, cmpDen, e3, e5, if_true, beq_self_eq_true]
end Go.Sx
