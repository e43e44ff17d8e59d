/- THE LAW OF THE TIME: films that are not valid, lists of no reel or too many. -/
import Derived.Test.YtanhchkdglglhaaDoorRtV
/-! THE LAW OF THE TIME: films that are not valid, lists of no reel or too many. -/
namespace Go.Sx
open Go.RowKit Go.Proofs
set_option maxRecDepth 100000
theorem ckI_all : lAll ckI [1, 2, 3, 4, 5, 6] = true := by kernel_rfl
noncomputable def orcTI (L : Nat) (f : FuncId) (args : List AV) (h : Heap) : Option (T (AV × Heap)) :=
  cond (Nat.beq f 25) (closedOrc glV args h) (cond (Nat.beq f 68) ((notFilm L).orc args h) none)
noncomputable def tbTI (L : Nat) : Tabs := ⟨Sx.Tryd.ft.get, lFind Sx.Tryd.rt, 2000, orcTI L⟩
noncomputable def lawTI (L : Nat) : Bool := allK isTrueK (evalN (tbTI L) 60 false 13 [filmV L, .sliceU 96, vi 85] (viewHeap 2000 (viewV L))) ⟨.nil, [], [⟨conjC (csL L), false⟩]⟩
theorem lawTI_all : lAll lawTI [1, 2, 3, 4, 5, 6] = true := by kernel_rfl
/-- a list of no reel, or of too many -/
noncomputable def filmW (s : AV) : AV := .agg [s, vi 0, vi 1, vi 2, vi 3, vi 4]
noncomputable def orcTS (f : FuncId) (args : List AV) (h : Heap) : Option (T (AV × Heap)) := cond (Nat.beq f 25) (closedOrc glV args h) none
noncomputable def tbTS : Tabs := ⟨Sx.Tryd.ft.get, lFind Sx.Tryd.rt, 2000, orcTS⟩
noncomputable def lawTS (s : AV) (cs : List BE) : Bool := allK isTrueK (evalN tbTS 60 false 13 [filmW s, .sliceU 96, vi 85] (viewHeap 2000 glV)) (knOf [] cs)
theorem lawTS_nil : lawTS .nilslice [] = true := by kernel_rfl
theorem lawTS_few : lawTS (.sliceU 95) [.cmp .leq (.var 95) (.lit 0)] = true := by kernel_rfl
theorem lawTS_many : lawTS (.sliceU 95) [.cmp .leq (.lit 7) (.var 95)] = true := by kernel_rfl

theorem conj_false {ρ : Rho} : ∀ (l : List BE), (conjC l).den ρ = true → ∀ c ∈ l, c.den ρ = true
  | [], _, c, hc => by cases hc
  | d :: l, h, c, hc => by
    simp only [conjC, BE.den, Bool.and_eq_true] at h
    rcases List.mem_cons.1 hc with rfl | hc
    · exact h.1
    · exact conj_false l h.2 c hc


theorem orcTI_ok {L : Nat} (hL : L ∈ [1, 2, 3, 4, 5, 6]) : ∀ f args h t, orcTI L f args h = some t → CallOk pT f args h t := by
  intro f args h t e
  have h1 : ckI L = true := lAll_mem ckI_all L hL
  unfold orcTI at e
  cases h25 : Nat.beq f 25 with
  | true => rw [h25] at e; have := beq_t.1 h25; subst this; exact turned_orc e
  | false =>
    rw [h25, cond_false] at e
    obtain ⟨h68, e⟩ := cond_some e
    have := beq_t.1 h68; subst this
    exact CSpec.ok (c := notFilm L) (eval_ok tabs0 60 68 (notFilm L).args _) h1 (Nat.le_of_ble_eq_true rfl) e
theorem orcTS_ok : ∀ f args h t, orcTS f args h = some t → CallOk pT f args h t := by
  intro f args h t e
  unfold orcTS at e
  obtain ⟨h25, e⟩ := cond_some e
  have := beq_t.1 h25; subst this
  exact turned_orc e
section
variable {E : Env} {w : World} {vs : List Value}
/-- a film that is not valid -/
theorem time_bad {L : Nat} (hL : L ∈ [1, 2, 3, 4, 5, 6]) (hv : ∀ g ∈ viewV L, ViewIn w E g) (hf : ∀ b, 2000 ≤ b → E.σ b = none) (hg : ∀ b, b < 1000 → E.σ b = some (b, 0)) (hn : E.n ≤ 2000)
    (ha : concL E (timeArgs L) = some vs) (hno : ¬ ∀ c ∈ csL L, c.den E.ρ = true) : Calls Tryd.prog 13 vs.toArray w fun e w' => e = .returned (.bool true) ∧ Below w.heap.size w w' := by
  have h1 : lawTI L = true := lAll_mem lawTI_all L hL
  have hc : (conjC (csL L)).den E.ρ = false := by
    cases h : (conjC (csL L)).den E.ρ with
    | false => rfl
    | true => exact absurd (conj_false _ h) hno
  have hK : KnOk E.ρ ⟨.nil, [], [⟨conjC (csL L), false⟩]⟩ := by
    refine ⟨fun i v h => ?_, fun f hf => (List.not_mem_nil hf).elim, fun a ha => ?_⟩
    · rw [PT.get_nil] at h; cases h
    · rcases List.mem_singleton.1 ha with rfl; exact hc
  exact law_view (Tryd.tab (orcTI L) (orcTI_ok hL) 2000) hv hf hg hn ha (allK_ok (fun K a H h => isTrueK_ok H h) _ _ hK h1) (Par.okB_all (fun _ _ => trivial) _ _)
/-- a list of no reel, or of too many -/
theorem time_short {s : AV} {cs : List BE} (h1 : lawTS s cs = true) (hv : ∀ g ∈ glV, ViewIn w E g) (hf : ∀ b, 2000 ≤ b → E.σ b = none) (hg : ∀ b, b < 1000 → E.σ b = some (b, 0)) (hn : E.n ≤ 2000)
    (ha : concL E [filmW s, .sliceU 96, vi 85] = some vs) (hcs : ∀ c ∈ cs, c.den E.ρ = true) : Calls Tryd.prog 13 vs.toArray w fun e w' => e = .returned (.bool true) ∧ Below w.heap.size w w' := by
  have hK : KnOk E.ρ (knOf [] cs) := knOf_ok (fun c hc => by simp [ivC] at hc) hcs
  exact law_view (Tryd.tab orcTS orcTS_ok 2000) hv hf hg hn ha (allK_ok (fun K a H h => isTrueK_ok H h) _ _ hK h1) (Par.okB_all (fun _ _ => trivial) _ _)
end
end Go.Sx
