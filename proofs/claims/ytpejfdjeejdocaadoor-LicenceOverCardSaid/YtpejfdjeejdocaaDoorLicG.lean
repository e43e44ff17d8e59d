/- THE CALLS OF THE LAW, for a town of some kind: what they end with has names. -/
import Derived.Test.YtpejfdjeejdocaaDoorSxSelfZ
import Derived.Test.YtpejfdjeejdocaaDoorLicN1
import Derived.Test.YtpejfdjeejdocaaDoorLicN2
import Derived.Test.YtpejfdjeejdocaaDoorLicL
import Derived.Test.YtpejfdjeejdocaaDoorLicS
/-! THE CALLS OF THE LAW, for a town of some kind: what they end with has names. -/
namespace Go.Sx
open Go.RowKit Go.Proofs
set_option maxRecDepth 100000
/-- what the names mean -/
structure OkT (q : Shp) (ok : Bool) (ρ : Rho) : Prop where
  next : ∀ j ∈ upTo q.2.2, (∀ d ∈ (nextC q j).cs, d.den ρ = true) → ∃ v, (only (nextRun q j)).leaf ρ = some v ∧ intV 60 v = true ∧ SameE ρ v (vi (60 + j))
  go : ∀ j ∈ upTo q.2.2, (∀ d ∈ (goC q j).cs, d.den ρ = true) → ∃ v, (only (goRun q j)).leaf ρ = some v ∧ boolV 70 v = true ∧ SameE ρ v (goV j)
  know : (only (knowRun q)).leaf ρ = some (knowV q ok)
  sound : ∀ d ∈ soundK q ok, d.den ρ = true
  named : ∀ cv ∈ namedL, (∀ d ∈ cv.1.cs, d.den ρ = true) ∧ ∃ b, cv.1.u.leaf ρ = some b ∧ SameE ρ cv.2 b
noncomputable def pL (q : Shp) (ok : Bool) : Par := ⟨Tryd.prog, rcOf Tryd.rows, fun ρ _ => OkT q ok ρ⟩
theorem pL_ok {q : Shp} {ok : Bool} {ρ : Rho} {b : Base} (h : (pL q ok).okB ρ b) : OkT q ok ρ := by
  obtain ⟨_, h, _⟩ := h; exact h
theorem pL_okB {q : Shp} {ok : Bool} {ρ : Rho} (h : OkT q ok ρ) (b : Base) : (pL q ok).okB ρ b := ⟨fun _ _ => False, h, fun _ _ h => h.elim⟩
/-- every kind of a town -/
noncomputable def shOk (q : Shp) : Bool := and (preCk q) (and (idsC (knowC q)) (idsLt 2000 (okV q)))
theorem ids1 : lAll (fun q => and (idsC (knowC q)) (idsLt 2000 (okV q))) (sh1 1) = true := by kernel_rfl
theorem ids2 : lAll (fun q => and (idsC (knowC q)) (idsLt 2000 (okV q))) (sh1 2) = true := by kernel_rfl
theorem ids3 : lAll (fun q => and (idsC (knowC q)) (idsLt 2000 (okV q))) (sh1 3) = true := by kernel_rfl
theorem ids4 : lAll (fun q => and (idsC (knowC q)) (idsLt 2000 (okV q))) (sh1 4) = true := by kernel_rfl
def InSh (q : Shp) : Prop := q ∈ sh1 1 ∨ q ∈ sh1 2 ∨ q ∈ sh1 3 ∨ q ∈ sh1 4
theorem sh_pre {q : Shp} (h : InSh q) : preCk q = true := by
  rcases h with h | h | h | h
  · exact lAll_mem pre1 q h
  · exact lAll_mem pre2 q h
  · exact lAll_mem pre3 q h
  · exact lAll_mem pre4 q h
theorem sh_ids {q : Shp} (h : InSh q) : idsC (knowC q) = true ∧ idsLt 2000 (okV q) = true := by
  have : (and (idsC (knowC q)) (idsLt 2000 (okV q))) = true := by
    rcases h with h | h | h | h
    · exact lAll_mem ids1 q h
    · exact lAll_mem ids2 q h
    · exact lAll_mem ids3 q h
    · exact lAll_mem ids4 q h
  simpa only [Bool.and_eq_true] using this
theorem intV_is {n : Nat} {v : AV} (h : intV n v = true) : ∃ e, v = .int .i64 e ∧ varsI n e = true := by
  unfold intV at h
  split at h
  · exact ⟨_, rfl, h⟩
  · cases h
theorem boolV_is {n : Nat} {v : AV} (h : boolV n v = true) : ∃ b, v = .bool b ∧ varsB n b = true := by
  unfold boolV at h
  split at h
  · exact ⟨_, rfl, h⟩
  · cases h
theorem only_leaf {ρ : Rho} {P : AV → Prop} {t : T (AV × Heap)} (h : t.Holds ρ fun r => P r.1) : ∃ v, (only t).leaf ρ = some v ∧ P v := by
  have : (only t).Holds ρ P := by unfold only; rw [T.holds_bind]; exact h
  exact T.holds_leaf _ this
theorem know_def {q : Shp} {ok : Bool} : ∀ (E : Env) (vs : List Value), concL E [townV q] = some vs → ∃ x, conc E (knowV q ok) = some x := by
  intro E vs h
  cases ok with
  | false => exact ⟨_, rfl⟩
  | true =>
    obtain ⟨x, l, h1, h2, _⟩ := concL_cons.1 h
    refine ⟨.tuple #[x, .int .i64 0], ?_⟩
    show conc E (.tup [townV q, li 0]) = _
    have : concL E [townV q, li 0] = some [x, .int .i64 0] := concL_cons.2 ⟨x, [.int .i64 0], h1, rfl, rfl⟩
    rw [conc, this]; rfl
section
variable {q : Shp} {ok : Bool} (hq : InSh q)
include hq
theorem nextCk_of {j : Nat} (hj : j ∈ upTo q.2.2) : nextCk q j = true ∧ goCk q j = true := by
  have h : lAll (fun j => and (nextCk q j) (goCk q j)) (upTo q.2.2) = true := sh_pre hq
  have := lAll_mem h j hj
  simpa only [Bool.and_eq_true] using this
theorem orcN_ok : ∀ f args h t, orcN q f args h = some t → CallOk (pL q ok) f args h t := by
  intro f args h t e
  unfold orcN at e
  obtain ⟨hf, e⟩ := cond_some e
  have := beq_t.1 hf; subst this
  have key : ∀ js : List Nat, (∀ j ∈ js, j ∈ upTo q.2.2) → nextOrc q args h js = some t → ∃ j ∈ upTo q.2.2, (nextC q j).orcY (.ret (vi (60 + j))) args h = some t := by
    intro js
    induction js with
    | nil => intro _ e; cases e
    | cons j js ih =>
      intro hjs e
      have e : (match (nextC q j).orcY (.ret (vi (60 + j))) args h with
        | some t => some t
        | none => nextOrc q args h js) = some t := e
      split at e
      · rename_i u hu; cases e; exact ⟨j, hjs j List.mem_cons_self, hu⟩
      · exact ih (fun i hi => hjs i (List.mem_cons_of_mem _ hi)) e
  obtain ⟨j, hj, hu⟩ := key _ (fun j hj => hj) e
  have hck := (nextCk_of hq hj).1
  simp only [nextCk, Bool.and_eq_true, idsC] at hck
  refine CSpec.okZ (p0 := pT) (p := pL q ok) (c := nextC q j) (eval_ok tabs0 20 99 (nextC q j).args _) (Nat.le_of_ble_eq_true rfl) hck.1.1 hck.1.2 (fun ρ b hb hcs => ?_) hu rfl (fun ρ b b' _ => Par.okB_all (fun _ _ => trivial) _ _)
  obtain ⟨v, h1, h2, h3⟩ := (pL_ok hb).next j hj hcs
  obtain ⟨e, rfl, he⟩ := intV_is h2
  exact ⟨_, _, h1, fun E E' h1 h2 _ => by simp only [conc, h1, h2], fun E vs _ _ => ⟨_, by simp only [conc]; rfl⟩, rfl, h3⟩
theorem tabsN : TabOk (pL q ok) Sx.Tryd.tt.get (tbN q) := Tryd.tab (orcN q) (orcN_ok hq) 2000
theorem orcG_ok : ∀ f args h t, orcG q f args h = some t → CallOk (pL q ok) f args h t := by
  intro f args h t e
  unfold orcG at e
  obtain ⟨hf, e⟩ := cond_some e
  have := beq_t.1 hf; subst this
  have key : ∀ js : List Nat, (∀ j ∈ js, j ∈ upTo q.2.2) → goOrc q args h js = some t → ∃ j ∈ upTo q.2.2, (goC q j).orcY (.ret (goV j)) args h = some t := by
    intro js
    induction js with
    | nil => intro _ e; cases e
    | cons j js ih =>
      intro hjs e
      have e : (match (goC q j).orcY (.ret (goV j)) args h with
        | some t => some t
        | none => goOrc q args h js) = some t := e
      split at e
      · rename_i u hu; cases e; exact ⟨j, hjs j List.mem_cons_self, hu⟩
      · exact ih (fun i hi => hjs i (List.mem_cons_of_mem _ hi)) e
  obtain ⟨j, hj, hu⟩ := key _ (fun j hj => hj) e
  have hck := (nextCk_of hq hj).2
  simp only [goCk, Bool.and_eq_true, idsC] at hck
  refine CSpec.okZ (p0 := pL q ok) (p := pL q ok) (c := goC q j) (eval_ok (tabsN hq) 30 98 (goC q j).args _) (Nat.le_of_ble_eq_true rfl) hck.1.1 hck.1.2 (fun ρ b hb hcs => ?_) hu rfl (fun ρ b b' h => pL_okB (pL_ok h) _)
  obtain ⟨v, h1, h2, h3⟩ := (pL_ok hb).go j hj hcs
  obtain ⟨e, rfl, he⟩ := boolV_is h2
  exact ⟨_, _, h1, fun E E' h1 h2 _ => by simp only [conc, h1, h2], fun E vs _ _ => ⟨_, by simp only [conc]; rfl⟩, rfl, h3⟩
theorem tabsG : TabOk (pL q ok) Sx.Tryd.tt.get (tbG q) := Tryd.tab (orcG q) (orcG_ok hq) 2000
theorem know_orc {args : List AV} {h : Heap} {t : T (AV × Heap)} (e : knowOrc q ok args h = some t) : CallOk (pL q ok) 53 args h t := by
  have hck := (sh_ids hq).1
  simp only [idsC, Bool.and_eq_true] at hck
  refine CSpec.okZ (p0 := pL q ok) (p := pL q ok) (c := knowC q) (eval_ok (tabsG hq) 40 53 (knowC q).args _) (Nat.le_of_ble_eq_true rfl) hck.1 hck.2 (fun ρ b hb hcs => ?_) e rfl (fun ρ b b' h => pL_okB (pL_ok h) _)
  refine ⟨_, _, (pL_ok hb).know, fun E E' h1 h2 h3 => ?_, fun E vs _ hv => know_def E vs hv, rfl, fun _ _ => rfl⟩
  cases ok with
  | false => rfl
  | true => exact conc_ids (h2.trans h1.symm) h3 _ (sh_ids hq).2
theorem orcS_ok : ∀ f args h t, orcS q ok f args h = some t → CallOk (pL q ok) f args h t := by
  intro f args h t e
  unfold orcS at e
  obtain ⟨hf, e⟩ := cond_some e
  have := beq_t.1 hf; subst this
  exact know_orc hq e
theorem tabsS : TabOk (pL q ok) Sx.Tryd.tt.get (tbS q ok) := Tryd.tab (orcS q ok) (orcS_ok hq) 2000
theorem sound_orc (hs : soundCk q ok = true) {args : List AV} {h : Heap} {t : T (AV × Heap)} (e : (soundC q).orcY (.ret (.bool (.lit ok))) args h = some t) : CallOk (pL q ok) 36 args h t := by
  have hck := (sh_ids hq).1
  simp only [idsC, Bool.and_eq_true] at hck
  refine CSpec.okZ (p0 := pL q ok) (p := pL q ok) (c := soundC q) (eval_ok (tabsS hq) 40 36 (soundC q).args _) (Nat.le_of_ble_eq_true rfl) hck.1 hck.2 (fun ρ b hb hcs => ?_) e rfl (fun ρ b b' h => pL_okB (pL_ok h) _)
  have hK : KnOk ρ (knOf [] (soundK q ok)) := knOf_ok (fun c hc => by simp [ivC] at hc) (pL_ok hb).sound
  have hu : (T.ret (AV.bool (.lit ok)) : T AV).Holds ρ (fun b => b = .bool (.lit ok)) := rfl
  have key := servesX_ok (R := []) (fun r hr => (List.not_mem_nil hr).elim) hu _ _ hK hs
  obtain ⟨v, hv, b', rfl, _, hsame⟩ := T.holds_leaf _ key
  refine ⟨v, _, hv, fun E E' h1 h2 _ => ?_, fun E vs h1 _ => ⟨_, (hsame E h1).trans (by simp only [conc]; rfl)⟩, rfl, hsame⟩
  rw [hsame E h1, hsame E' h2]; simp only [conc, BE.den]
end
end Go.Sx
