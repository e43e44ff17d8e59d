/- ReI -/
import Derived.Test.YtpdednocbpoikaaDoorReD
namespace Go.Sx
open Go.RowKit Go.Proofs
set_option maxRecDepth 100000
noncomputable def lawTI4 (L : Nat) : Bool := allK isTrueK (evalN (tbTI L) 60 false 4 (argsEn L) (viewHeap 2000 (viewV L))) ⟨.nil, [], [⟨conjC (csL L), false⟩]⟩
theorem lawTI4_all : lAll lawTI4 [1, 2, 3, 4, 5, 6] = true := by kernel_rfl
noncomputable def lawTS4 (s : AV) (cs : List BE) : Bool := allK isTrueK (evalN tbTS 60 false 4 [bookW s, .sliceU 96, .agg [vj 97, vj 93]] (viewHeap 2000 glR)) (knOf [] cs)
theorem lawTS4_nil : lawTS4 .nilslice [] = true := by kernel_rfl
theorem lawTS4_few : lawTS4 (.sliceU 95) [.cmp .leq (.var 95) (.lit 0)] = true := by kernel_rfl
theorem lawTS4_many : lawTS4 (.sliceU 95) [.cmp .leq (.lit 7) (.var 95)] = true := by kernel_rfl
section
variable {E : Env} {w : World} {vs : List Value}
theorem ends_bad {L : Nat} (hL : L ∈ [1, 2, 3, 4, 5, 6]) (hv : ∀ g ∈ viewV L, ViewIn w E g) (hf : ∀ b, 2000 ≤ b → E.σ b = none) (hg : ∀ b, b < 1000 → E.σ b = some (b, 0)) (hn : E.n ≤ 2000)
    (ha : concL E (argsEn L) = some vs) (hno : ¬ ∀ c ∈ csL L, c.den E.ρ = true) : Calls Tryd.prog 4 vs.toArray w fun e w' => e = .returned (.bool true) ∧ Below w.heap.size w w' := by
  have h1 : lawTI4 L = true := lAll_mem lawTI4_all L hL
  have hc : (conjC (csL L)).den E.ρ = false := by
    cases h : (conjC (csL L)).den E.ρ with
    | false => rfl
    | true => exact absurd (conj_false _ h) hno
  have hK : KnOk E.ρ ⟨.nil, [], [⟨conjC (csL L), false⟩]⟩ := by
    refine ⟨fun i v h => ?_, fun f hf => (List.not_mem_nil hf).elim, fun a ha => ?_⟩
    · rw [PT.get_nil] at h; cases h
    · rcases List.mem_singleton.1 ha with rfl; exact hc
  exact law_view (Tryd.tab (orcTI L) (orcTI_ok hL) 2000) hv hf hg hn ha (allK_ok (fun K a H h => isTrueK_ok H h) _ _ hK h1) (Par.okB_all (fun _ _ => trivial) _ _)
theorem ends_short {s : AV} {cs : List BE} (h1 : lawTS4 s cs = true) (hv : ∀ g ∈ glR, ViewIn w E g) (hf : ∀ b, 2000 ≤ b → E.σ b = none) (hg : ∀ b, b < 1000 → E.σ b = some (b, 0)) (hn : E.n ≤ 2000)
    (ha : concL E [bookW s, .sliceU 96, .agg [vj 97, vj 93]] = some vs) (hcs : ∀ c ∈ cs, c.den E.ρ = true) : Calls Tryd.prog 4 vs.toArray w fun e w' => e = .returned (.bool true) ∧ Below w.heap.size w w' := by
  have hK : KnOk E.ρ (knOf [] cs) := knOf_ok (fun c hc => by simp [ivC] at hc) hcs
  exact law_view (Tryd.tab orcTS orcTS_ok 2000) hv hf hg hn ha (allK_ok (fun K a H h => isTrueK_ok H h) _ _ hK h1) (Par.okB_all (fun _ _ => trivial) _ _)
end
noncomputable def lawTN4 (L : Nat) : Bool := allK isTrueK (evalN (tbTN L) 60 false 4 (argsEn L) (viewA 2000 (vR L))) (knOf [] [])
theorem lawTN4_all : lAll lawTN4 [1, 2, 3, 4, 5, 6] = true := by kernel_rfl
noncomputable def lawTB4 (L : Nat) : Bool := allK isTrueK (evalN (tbTB L) 60 false 4 (argsEn L) (viewA 2000 (vR L))) ⟨.nil, [], [⟨conjC bookCs, false⟩]⟩
theorem lawTB4_all : lAll lawTB4 [1, 2, 3, 4, 5, 6] = true := by kernel_rfl
theorem ends_none {L : Nat} (h0 : 1 ≤ L) (hL : L ≤ 6) {E : Env} {w : World} {vs : List Value} (HS : HeapOk (pOk fun ρ _ => okT L ρ ∧ okFilm L ρ ∧ (noneB L).den ρ = true) E (viewA 2000 (vR L)) (Base.of w) w) (ha : concL E (argsEn L) = some vs) :
    Calls Tryd.prog 4 vs.toArray w fun e w' => e = .returned (.bool true) ∧ Below w.heap.size w w' := by
  refine law_end4 (orc := orcTN L) (fun f args h t e => ?_) (K := knOf [] []) (lAll_mem lawTN4_all L (mem_six h0 hL)) (knOf_ok (fun c hc => by cases hc) (fun c hc => by cases hc)) HS ha
  unfold orcTN at e
  cases h7 : Nat.beq f 7 with
  | true => rw [h7, cond_true] at e; rw [beq_t.1 h7]; exact CallOk.weak (fun _ _ _ => trivial) (carried_orc e)
  | false =>
    rw [h7, cond_false] at e
    obtain ⟨h40, e1⟩ := cond_some e
    rw [beq_t.1 h40]
    exact smallO_ok (first_none h0 hL) (by omega) rfl (viewK_ok h0 hL) e1
theorem ends_book {L : Nat} (h0 : 1 ≤ L) (hL : L ≤ 6) {E : Env} {w : World} {vs : List Value} (HS : HeapOk (pOk fun ρ _ => okT L ρ ∧ okFilm L ρ ∧ (noneB L).den ρ = false) E (viewA 2000 (vR L)) (Base.of w) w) (ha : concL E (argsEn L) = some vs)
    (hno : ¬ ∀ c ∈ bookCs, c.den E.ρ = true) : Calls Tryd.prog 4 vs.toArray w fun e w' => e = .returned (.bool true) ∧ Below w.heap.size w w' := by
  have hc : (conjC bookCs).den E.ρ = false := by
    cases h : (conjC bookCs).den E.ρ with
    | false => rfl
    | true => exact absurd (conj_false _ h) hno
  have hK : KnOk E.ρ ⟨.nil, [], [⟨conjC bookCs, false⟩]⟩ := by
    refine ⟨fun i v h => ?_, fun f hf => (List.not_mem_nil hf).elim, fun a ha => ?_⟩
    · rw [PT.get_nil] at h; cases h
    · rcases List.mem_singleton.1 ha with rfl; exact hc
  refine law_end4 (orc := orcTB L) (fun f args h t e => ?_) (lAll_mem lawTB4_all L (mem_six h0 hL)) hK HS ha
  unfold orcTB at e
  cases h7 : Nat.beq f 7 with
  | true => rw [h7, cond_true] at e; rw [beq_t.1 h7]; exact CallOk.weak (fun _ _ _ => trivial) (carried_orc e)
  | false =>
    rw [h7, cond_false] at e
    cases h40 : Nat.beq f 40 with
    | true => rw [h40, cond_true] at e; rw [beq_t.1 h40]; exact smallO_ok (first_found' h0 hL) (by omega) rfl (viewK_ok h0 hL) e
    | false =>
      rw [h40, cond_false] at e
      obtain ⟨h70, e1⟩ := cond_some e
      have := beq_t.1 h70; subst this
      exact CallOk.weak (ok0 := fun _ _ => True) (fun _ _ _ => trivial) (CSpec.ok (c := notRelay L) (p := pT) (eval_ok tabs0 60 70 (notRelay L).args _) (lAll_mem ckNR_all L (mem_six h0 hL)) (Nat.le_of_ble_eq_true rfl) e1)
end Go.Sx
