/- MxW -/
import Derived.Test.YtlaakbmimplceaaDoorFiTu
namespace Go.Sx
noncomputable section
open Go.RowKit Go.Proofs
set_option maxRecDepth 100000
theorem badF_all : lAll ckI [1, 2, 3, 4, 5, 6] = true := by kernel_rfl
def orcBS (L : Nat) (f : FuncId) (args : List AV) (h : Heap) : Option (T (AV × Heap)) :=
 cond (Nat.beq f 8) (closedOrc glV args h) (cond (Nat.beq f 49) ((notFilm L).orc args h) none)
def tbBS (L : Nat) : Tabs := ⟨Sx.Tryd.ft.get, lFind Sx.Tryd.rt, 2000, orcBS L⟩
def lawBS (L : Nat) : Bool := allK isTrueK (evalN (tbBS L) 60 false 3 [filmV L, .sliceU 96, .agg [vi 301, vi 302]] (viewHeap 2000 (viewV L))) ⟨.nil, [], [⟨conjC (csL L), false⟩]⟩
theorem lawBS_all : lAll lawBS [1, 2, 3, 4, 5, 6] = true := by kernel_rfl
def filmX (s : AV) : AV := .agg [s, vi 0, vi 1, vi 2, vi 3, vi 4]
def orcBT (f : FuncId) (args : List AV) (h : Heap) : Option (T (AV × Heap)) := cond (Nat.beq f 8) (closedOrc glV args h) none
def tbBT : Tabs := ⟨Sx.Tryd.ft.get, lFind Sx.Tryd.rt, 2000, orcBT⟩
def lawBT (s : AV) (cs : List BE) : Bool := allK isTrueK (evalN tbBT 60 false 3 [filmX s, .sliceU 96, .agg [vi 301, vi 302]] (viewHeap 2000 glV)) (knOf [] cs)
theorem lawBT_nil : lawBT .nilslice [] = true := by kernel_rfl
theorem lawBT_few : lawBT (.sliceU 95) [.cmp .leq (.var 95) (.lit 0)] = true := by kernel_rfl
theorem lawBT_many : lawBT (.sliceU 95) [.cmp .leq (.lit 7) (.var 95)] = true := by kernel_rfl
theorem conjB_false {ρ : Rho} : ∀ (l : List BE), (conjC l).den ρ = true → ∀ c ∈ l, c.den ρ = true
 | [], _, c, hc => by cases hc
 | d :: l, h, c, hc => by
  simp only [conjC, BE.den, Bool.and_eq_true] at h
  rcases List.mem_cons.1 hc with rfl | hc
  ·exact h.1
  ·exact conjB_false l h.2 c hc
theorem orcBS_ok {L : Nat} (hL : L ∈ [1, 2, 3, 4, 5, 6]) : ∀ f args h t, orcBS L f args h = some t → CallOk pT f args h t := by
 intro f args h t e
 have h1 : ckI L = true := lAll_mem badF_all L hL
 unfold orcBS at e
 cases h25 : Nat.beq f 8 with
 | true => rw [h25] at e; have := beq_t.1 h25; subst this; exact turned_orc e
 | false =>
  rw [h25, cond_false] at e
  obtain ⟨h68, e⟩ := cond_some e
  have := beq_t.1 h68; subst this
  exact CSpec.ok (c := notFilm L) (eval_ok tabs0 60 49 (notFilm L).args _) h1 (Nat.le_of_ble_eq_true rfl) e
theorem orcBT_ok : ∀ f args h t, orcBT f args h = some t → CallOk pT f args h t := by
 intro f args h t e
 unfold orcBT at e
 obtain ⟨h25, e⟩ := cond_some e
 have := beq_t.1 h25; subst this
 exact turned_orc e
section
variable {E : Env} {w : World} {vs : List Value}
theorem mix_bad {L : Nat} (hL : L ∈ [1, 2, 3, 4, 5, 6]) (hv : ∀ g ∈ viewV L, ViewIn w E g) (hf : ∀ b, 2000 ≤ b → E.σ b = none) (hg : ∀ b, b < 1000 → E.σ b = some (b, 0)) (hn : E.n ≤ 2000)
  (ha : concL E ([filmV L, .sliceU 96, .agg [vi 301, vi 302]]) = some vs) (hno : ¬ ∀ c ∈ csL L, c.den E.ρ = true) : Calls Tryd.prog 3 vs.toArray w fun e w' => e = .returned (.bool true) ∧ Below w.heap.size w w' := by
 have h1 : lawBS L = true := lAll_mem lawBS_all L hL
 have hc : (conjC (csL L)).den E.ρ = false := by
  cases h : (conjC (csL L)).den E.ρ with
  | false => rfl
  | true => exact absurd (conjB_false _ h) hno
 have hK : KnOk E.ρ ⟨.nil, [], [⟨conjC (csL L), false⟩]⟩ := by
  refine ⟨fun i v h => ?_, fun f hf => (List.not_mem_nil hf).elim, fun a ha => ?_⟩
  ·rw [PT.get_nil] at h; cases h
  ·rcases List.mem_singleton.1 ha with rfl; exact hc
 exact law_view (Tryd.tab (orcBS L) (orcBS_ok hL) 2000) hv hf hg hn ha (allK_ok (fun K a H h => isTrueK_ok H h) _ _ hK h1) (Par.okB_all (fun _ _ => trivial) _ _)
theorem mix_short {s : AV} {cs : List BE} (h1 : lawBT s cs = true) (hv : ∀ g ∈ glV, ViewIn w E g) (hf : ∀ b, 2000 ≤ b → E.σ b = none) (hg : ∀ b, b < 1000 → E.σ b = some (b, 0)) (hn : E.n ≤ 2000)
  (ha : concL E [filmX s, .sliceU 96, .agg [vi 301, vi 302]] = some vs) (hcs : ∀ c ∈ cs, c.den E.ρ = true) : Calls Tryd.prog 3 vs.toArray w fun e w' => e = .returned (.bool true) ∧ Below w.heap.size w w' := by
 have hK : KnOk E.ρ (knOf [] cs) := knOf_ok (fun c hc => by simp [ivC] at hc) hcs
 exact law_view (Tryd.tab orcBT orcBT_ok 2000) hv hf hg hn ha (allK_ok (fun K a H h => isTrueK_ok H h) _ _ hK h1) (Par.okB_all (fun _ _ => trivial) _ _)
end
end
end Go.Sx
