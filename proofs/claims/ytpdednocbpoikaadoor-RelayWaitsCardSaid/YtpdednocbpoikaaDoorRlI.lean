/- THE LAW OF WHO WAITS: books that are not valid. -/
import Derived.Test.YtpdednocbpoikaaDoorRlG
/-! THE LAW OF WHO WAITS: books that are not valid. -/
namespace Go.Sx
open Go.RowKit Go.Proofs
set_option maxRecDepth 100000
/-! ## Conditions -/
noncomputable def le2 (a b : IE) : BE := .cmp .leq a b
noncomputable def reelC (b : Nat) : List BE :=
  [le2 (.lit 0) (.var b), le2 (.var b) (.var (b + 1)), le2 (.var (b + 1)) (.lit 99), le2 (.lit 0) (.var (b + 2)), le2 (.var (b + 2)) (.var (b + 3)), le2 (.var (b + 3)) (.lit 99), le2 (.lit 1) (.var (b + 4)), le2 (.var (b + 4)) (.var (b + 5)), le2 (.var (b + 5)) (.lit 1200), le2 (.var b) (.var (b + 3))]
noncomputable def restC : List BE := [le2 (.lit 1) (.var 0), le2 (.var 0) (.var 1), le2 (.var 1) (.lit 20), le2 (.lit 0) (.var 2), le2 (.var 2) (.var 3), le2 (.var 3) (.lit 50), le2 (.lit 1) (.var 4), le2 (.var 4) (.lit 6000)]
noncomputable def csUp : Nat → Nat → List BE
  | 0, _ => restC
  | n + 1, b => reelC b ++ csUp n (b + 6)
noncomputable def csL (L : Nat) : List BE := csUp L 10
noncomputable def bookCs : List BE := [le2 (.lit 0) (.var 60), le2 (.var 60) (.lit 998), le2 (.lit 1) (.var 65), le2 (.var 65) (.lit 6), le2 (.lit 0) (.var 61), le2 (.var 61) (.var 62), le2 (.var 62) (.lit 3600), le2 (.lit 0) (.var 63), le2 (.var 63) (.var 64), le2 (.var 64) (.lit 3600)]
noncomputable def conjC : List BE → BE
  | [] => .lit true
  | c :: l => .and c (conjC l)
theorem conj_false {ρ : Rho} : ∀ (l : List BE), (conjC l).den ρ = true → ∀ c ∈ l, c.den ρ = true
  | [], _, c, hc => by cases hc
  | d :: l, h, c, hc => by
    simp only [conjC, BE.den, Bool.and_eq_true] at h
    rcases List.mem_cons.1 hc with rfl | hc
    · exact h.1
    · exact conj_false l h.2 c hc
/-! ## Films that are not valid -/
noncomputable def cellsUp : Nat → Nat → List AV
  | 0, _ => []
  | n + 1, i => vi i :: cellsUp n (i + 1)
noncomputable def filmV (L : Nat) : AV := .agg [.sliceX 1001 6 0 L, vi 0, vi 1, vi 2, vi 3, vi 4]
noncomputable def viewV (L : Nat) : List (Nat × List AV) := (1001, cellsUp (6 * L) 10) :: glR
noncomputable def notFilm (L : Nat) : CSpec := ⟨43, [filmV L], viewV L, 2000, [], .br (conjC (csL L)) (.fail 1) (.ret (.bool (.lit false)))⟩
noncomputable def ckI (L : Nat) : Bool := (notFilm L).chk (evalN tb0 60 false 43 (notFilm L).args (viewHeap 2000 (notFilm L).view))
theorem ckI_all : lAll ckI [1, 2, 3, 4, 5, 6] = true := by kernel_rfl
noncomputable def orcTI (L : Nat) (f : FuncId) (args : List AV) (h : Heap) : Option (T (AV × Heap)) :=
  cond (Nat.beq f 7) (closedOrc glR args h) (cond (Nat.beq f 43) ((notFilm L).orc args h) none)
noncomputable def tbTI (L : Nat) : Tabs := ⟨Sx.Tryd.ft.get, lFind Sx.Tryd.rt, 2000, orcTI L⟩
noncomputable def bookW (s : AV) : AV := .agg [s, vj 0, vj 1, vj 2, vj 3, vj 4, vj 60, vj 61, vj 62, vj 63, vj 64, vj 65]
noncomputable def lawTI (L : Nat) : Bool := allK isTrueK (evalN (tbTI L) 60 false 5 [bookF L, .sliceU 96] (viewHeap 2000 (viewV L))) ⟨.nil, [], [⟨conjC (csL L), false⟩]⟩
theorem lawTI_all : lAll lawTI [1, 2, 3, 4, 5, 6] = true := by kernel_rfl
/-- a list of no reel, or of too many -/
noncomputable def orcTS (f : FuncId) (args : List AV) (h : Heap) : Option (T (AV × Heap)) := cond (Nat.beq f 7) (closedOrc glR args h) none
noncomputable def tbTS : Tabs := ⟨Sx.Tryd.ft.get, lFind Sx.Tryd.rt, 2000, orcTS⟩
noncomputable def lawTS (s : AV) (cs : List BE) : Bool := allK isTrueK (evalN tbTS 60 false 5 [bookW s, .sliceU 96] (viewHeap 2000 glR)) (knOf [] cs)
theorem lawTS_nil : lawTS .nilslice [] = true := by kernel_rfl
theorem lawTS_few : lawTS (.sliceU 95) [.cmp .leq (.var 95) (.lit 0)] = true := by kernel_rfl
theorem lawTS_many : lawTS (.sliceU 95) [.cmp .leq (.lit 7) (.var 95)] = true := by kernel_rfl
theorem orcTI_ok {L : Nat} (hL : L ∈ [1, 2, 3, 4, 5, 6]) : ∀ f args h t, orcTI L f args h = some t → CallOk pT f args h t := by
  intro f args h t e
  have h1 : ckI L = true := lAll_mem ckI_all L hL
  unfold orcTI at e
  cases h25 : Nat.beq f 7 with
  | true => rw [h25] at e; have := beq_t.1 h25; subst this; exact carried_orc e
  | false =>
    rw [h25, cond_false] at e
    obtain ⟨h68, e⟩ := cond_some e
    have := beq_t.1 h68; subst this
    exact CSpec.ok (c := notFilm L) (eval_ok tabs0 60 43 (notFilm L).args _) h1 (Nat.le_of_ble_eq_true rfl) e
theorem orcTS_ok : ∀ f args h t, orcTS f args h = some t → CallOk pT f args h t := by
  intro f args h t e
  unfold orcTS at e
  obtain ⟨h25, e⟩ := cond_some e
  have := beq_t.1 h25; subst this
  exact carried_orc e
section
variable {E : Env} {w : World} {vs : List Value}
/-- a film that is not valid -/
theorem waits_bad {L : Nat} (hL : L ∈ [1, 2, 3, 4, 5, 6]) (hv : ∀ g ∈ viewV L, ViewIn w E g) (hf : ∀ b, 2000 ≤ b → E.σ b = none) (hg : ∀ b, b < 1000 → E.σ b = some (b, 0)) (hn : E.n ≤ 2000)
    (ha : concL E ([bookF L, .sliceU 96]) = some vs) (hno : ¬ ∀ c ∈ csL L, c.den E.ρ = true) : Calls Tryd.prog 5 vs.toArray w fun e w' => e = .returned (.bool true) ∧ Below w.heap.size w w' := by
  have h1 : lawTI L = true := lAll_mem lawTI_all L hL
  have hc : (conjC (csL L)).den E.ρ = false := by
    cases h : (conjC (csL L)).den E.ρ with
    | false => rfl
    | true => exact absurd (conj_false _ h) hno
  have hK : KnOk E.ρ ⟨.nil, [], [⟨conjC (csL L), false⟩]⟩ := by
    refine ⟨fun i v h => ?_, fun f hf => (List.not_mem_nil hf).elim, fun a ha => ?_⟩
    · rw [PT.get_nil] at h; cases h
    · rcases List.mem_singleton.1 ha with rfl; exact hc
  exact law_view (Tryd.tab (orcTI L) (orcTI_ok hL) 2000) hv hf hg hn ha (allK_ok (fun K a H h => isTrueK_ok H h) _ _ hK h1) (Par.okB_all (fun _ _ => trivial) _ _)
/-- a list of no reel, or of too many -/
theorem waits_short {s : AV} {cs : List BE} (h1 : lawTS s cs = true) (hv : ∀ g ∈ glR, ViewIn w E g) (hf : ∀ b, 2000 ≤ b → E.σ b = none) (hg : ∀ b, b < 1000 → E.σ b = some (b, 0)) (hn : E.n ≤ 2000)
    (ha : concL E [bookW s, .sliceU 96] = some vs) (hcs : ∀ c ∈ cs, c.den E.ρ = true) : Calls Tryd.prog 5 vs.toArray w fun e w' => e = .returned (.bool true) ∧ Below w.heap.size w w' := by
  have hK : KnOk E.ρ (knOf [] cs) := knOf_ok (fun c hc => by simp [ivC] at hc) hcs
  exact law_view (Tryd.tab orcTS orcTS_ok 2000) hv hf hg hn ha (allK_ok (fun K a H h => isTrueK_ok H h) _ _ hK h1) (Par.okB_all (fun _ _ => trivial) _ _)
end
/-! ## Valid films: no order, or a book's numbers beyond their bounds -/
theorem first_none {L : Nat} (h0 : 1 ≤ L) (hL : L ≤ 6) : CallOk (pOk fun ρ _ => okT L ρ ∧ okFilm L ρ ∧ (noneB L).den ρ = true) 40 [filmF L] (viewA 2000 (vK L)) (.ret (noneVF, viewA 2001 (vF0 L))) := by
  refine CallOk.read (p0 := pF L) (p := pOk fun ρ _ => okT L ρ ∧ okFilm L ρ ∧ (noneB L).den ρ = true) rfl (first_said h0 hL) fun ρ b ⟨m, k1, k2⟩ Q k => ⟨ρ, ⟨m, ⟨k1.1, k1.2.1⟩, k2⟩, SameL.refl _ _, ⟨rfl, fun j o g => ⟨o, g, SameA.refl o⟩⟩, ?_⟩
  have k : Q (noneVF, viewA 2001 (vF0 L)) := k
  have hn : (noneE (fullM L) (.lit 0) (.lit 100)).den ρ = true := k1.2.2
  unfold saidF
  simp only [T.Holds]
  rw [if_pos hn]
  exact ⟨_, k, SameV.refl _ _, rfl, fun j o g => ⟨o, g, SameA.refl o⟩⟩
noncomputable def orcTN (L : Nat) (f : FuncId) (args : List AV) (h : Heap) : Option (T (AV × Heap)) :=
  cond (Nat.beq f 7) (closedOrc glR args h) (cond (Nat.beq f 40) (smallO 2000 [filmF L] (vK L) (.ret (noneVF, viewA 2001 (vF0 L))) (fun _ => [2000]) args h) none)
noncomputable def tbTN (L : Nat) : Tabs := ⟨Sx.Tryd.ft.get, lFind Sx.Tryd.rt, 2000, orcTN L⟩
noncomputable def lawTN (L : Nat) : Bool := allK isTrueK (evalN (tbTN L) 60 false 5 [bookF L, .sliceU 96] (viewA 2000 (vR L))) (knOf [] [])
theorem lawTN_all : lAll lawTN [1, 2, 3, 4, 5, 6] = true := by kernel_rfl
/-- whether a book's numbers are within their bounds, asked of one of which they are not -/
noncomputable def notRelay (L : Nat) : CSpec := ⟨70, [bookF L], viewV L, 2000, [], .br (conjC bookCs) (.fail 1) (.ret (.bool (.lit false)))⟩
noncomputable def ckNR (L : Nat) : Bool := (notRelay L).chk (evalN tb0 60 false 70 (notRelay L).args (viewHeap 2000 (notRelay L).view))
theorem ckNR_all : lAll ckNR [1, 2, 3, 4, 5, 6] = true := by kernel_rfl
theorem first_found' {L : Nat} (h0 : 1 ≤ L) (hL : L ≤ 6) : CallOk (pOk fun ρ _ => okT L ρ ∧ okFilm L ρ ∧ (noneB L).den ρ = false) 40 [filmF L] (viewA 2000 (vK L)) (.ret (foundVF L, viewA 2001 (vF L))) := by
  refine CallOk.read (p0 := pF L) (p := pOk fun ρ _ => okT L ρ ∧ okFilm L ρ ∧ (noneB L).den ρ = false) rfl (first_said h0 hL) fun ρ b ⟨m, k1, k2⟩ Q k => ⟨ρ, ⟨m, ⟨k1.1, k1.2.1⟩, k2⟩, SameL.refl _ _, ⟨rfl, fun j o g => ⟨o, g, SameA.refl o⟩⟩, ?_⟩
  have k : Q (foundVF L, viewA 2001 (vF L)) := k
  have hn : (noneE (fullM L) (.lit 0) (.lit 100)).den ρ = false := k1.2.2
  unfold saidF
  simp only [T.Holds]
  rw [if_neg (by rw [hn]; exact Bool.false_ne_true)]
  exact ⟨_, k, SameV.refl _ _, rfl, fun j o g => ⟨o, g, SameA.refl o⟩⟩
noncomputable def orcTB (L : Nat) (f : FuncId) (args : List AV) (h : Heap) : Option (T (AV × Heap)) :=
  cond (Nat.beq f 7) (closedOrc glR args h) (cond (Nat.beq f 40) (smallO 2000 [filmF L] (vK L) (.ret (foundVF L, viewA 2001 (vF L))) (fun _ => [2000]) args h) (cond (Nat.beq f 70) ((notRelay L).orc args h) none))
noncomputable def tbTB (L : Nat) : Tabs := ⟨Sx.Tryd.ft.get, lFind Sx.Tryd.rt, 2000, orcTB L⟩
noncomputable def lawTB (L : Nat) : Bool := allK isTrueK (evalN (tbTB L) 60 false 5 [bookF L, .sliceU 96] (viewA 2000 (vR L))) ⟨.nil, [], [⟨conjC bookCs, false⟩]⟩
theorem lawTB_all : lAll lawTB [1, 2, 3, 4, 5, 6] = true := by kernel_rfl
theorem mem_six {L : Nat} (h0 : 1 ≤ L) (hL : L ≤ 6) : L ∈ [1, 2, 3, 4, 5, 6] := by
  rcases six h0 hL with rfl | rfl | rfl | rfl | rfl | rfl <;> decide
theorem law_end {ok : Rho → (Nat → Obj → Prop) → Prop} {orc : FuncId → List AV → Heap → Option (T (AV × Heap))} {L : Nat} (ho : ∀ f args h t, orc f args h = some t → CallOk (pOk ok) f args h t) {E : Env} {w : World} {vs : List Value} {K : Kn}
    (hck : allK isTrueK (evalN ⟨Sx.Tryd.ft.get, lFind Sx.Tryd.rt, 2000, orc⟩ 60 false 5 [bookF L, .sliceU 96] (viewA 2000 (vR L))) K = true) (hK : KnOk E.ρ K)
    (HS : HeapOk (pOk ok) E (viewA 2000 (vR L)) (Base.of w) w) (ha : concL E [bookF L, .sliceU 96] = some vs) : Calls Tryd.prog 5 vs.toArray w fun e w' => e = .returned (.bool true) ∧ Below w.heap.size w w' := by
  have key := allK_ok (fun K a H h => isTrueK_ok H h) _ _ hK hck
  obtain ⟨r1, r2⟩ := eval_ok (Tryd.tab orc ho 2000) 60 5 [bookF L, .sliceU 96] (viewA 2000 (vR L)) vs E (Base.of w) w _ (fun cv w' => cv = .bool true ∧ Below w.heap.size w w') key HS ha
    (fun v h' E2 w' cv hq2 hle HH' hv2 => by
      obtain ⟨b, hb1, hb2⟩ := hq2
      refine ⟨?_, Base.keeps_below HH'.below⟩
      have hb1 : v = .bool b := hb1
      rw [hb1] at hv2
      simp only [conc, Option.some.injEq] at hv2
      rw [← hv2, hle.ρ, hb2])
  refine r2.mono ?_
  rintro e w' ⟨cv, rfl, rfl, hb⟩
  exact ⟨rfl, hb⟩
theorem waits_none {L : Nat} (h0 : 1 ≤ L) (hL : L ≤ 6) {E : Env} {w : World} {vs : List Value} (HS : HeapOk (pOk fun ρ _ => okT L ρ ∧ okFilm L ρ ∧ (noneB L).den ρ = true) E (viewA 2000 (vR L)) (Base.of w) w) (ha : concL E [bookF L, .sliceU 96] = some vs) :
    Calls Tryd.prog 5 vs.toArray w fun e w' => e = .returned (.bool true) ∧ Below w.heap.size w w' := by
  refine law_end (orc := orcTN L) (fun f args h t e => ?_) (K := knOf [] []) (lAll_mem lawTN_all L (mem_six h0 hL)) (knOf_ok (fun c hc => by cases hc) (fun c hc => by cases hc)) HS ha
  unfold orcTN at e
  cases h7 : Nat.beq f 7 with
  | true => rw [h7, cond_true] at e; rw [beq_t.1 h7]; exact CallOk.weak (fun _ _ _ => trivial) (carried_orc e)
  | false =>
    rw [h7, cond_false] at e
    obtain ⟨h40, e1⟩ := cond_some e
    rw [beq_t.1 h40]
    exact smallO_ok (first_none h0 hL) (by omega) rfl (viewK_ok h0 hL) e1
theorem waits_book {L : Nat} (h0 : 1 ≤ L) (hL : L ≤ 6) {E : Env} {w : World} {vs : List Value} (HS : HeapOk (pOk fun ρ _ => okT L ρ ∧ okFilm L ρ ∧ (noneB L).den ρ = false) E (viewA 2000 (vR L)) (Base.of w) w) (ha : concL E [bookF L, .sliceU 96] = some vs)
    (hno : ¬ ∀ c ∈ bookCs, c.den E.ρ = true) : Calls Tryd.prog 5 vs.toArray w fun e w' => e = .returned (.bool true) ∧ Below w.heap.size w w' := by
  have hc : (conjC bookCs).den E.ρ = false := by
    cases h : (conjC bookCs).den E.ρ with
    | false => rfl
    | true => exact absurd (conj_false _ h) hno
  have hK : KnOk E.ρ ⟨.nil, [], [⟨conjC bookCs, false⟩]⟩ := by
    refine ⟨fun i v h => ?_, fun f hf => (List.not_mem_nil hf).elim, fun a ha => ?_⟩
    · rw [PT.get_nil] at h; cases h
    · rcases List.mem_singleton.1 ha with rfl; exact hc
  refine law_end (orc := orcTB L) (fun f args h t e => ?_) (lAll_mem lawTB_all L (mem_six h0 hL)) hK HS ha
  unfold orcTB at e
  cases h7 : Nat.beq f 7 with
  | true => rw [h7, cond_true] at e; rw [beq_t.1 h7]; exact CallOk.weak (fun _ _ _ => trivial) (carried_orc e)
  | false =>
    rw [h7, cond_false] at e
    cases h40 : Nat.beq f 40 with
    | true => rw [h40, cond_true] at e; rw [beq_t.1 h40]; exact smallO_ok (first_found' h0 hL) (by omega) rfl (viewK_ok h0 hL) e
    | false =>
      rw [h40, cond_false] at e
      obtain ⟨h70, e1⟩ := cond_some e
      have := beq_t.1 h70; subst this
      exact CallOk.weak (ok0 := fun _ _ => True) (fun _ _ _ => trivial) (CSpec.ok (c := notRelay L) (p := pT) (eval_ok tabs0 60 70 (notRelay L).args _) (lAll_mem ckNR_all L (mem_six h0 hL)) (Nat.le_of_ble_eq_true rfl) e1)
end Go.Sx
