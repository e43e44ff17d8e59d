/- ORDERS THAT NUMBERS CHOOSE: the call, with names. -/
import Derived.Test.YtanhchkdglglhaaDoorSpRtA
/-! ORDERS THAT NUMBERS CHOOSE: the call, with names. -/
namespace Go.Sx
open Go.RowKit Go.Proofs
set_option maxRecDepth 100000
structure OkSh (L : Nat) (ρ : Rho) : Prop where
  turn : ∀ i, i < L → ρ.iv (100 + i) = turnF (ρ.fi 1000 i 0 0) (i + 1)
  names : ∀ (i n : Nat), (orderOf L ρ)[i]? = some n → ρ.iv (110 + i) = n
noncomputable def got (o : Option (T (AV × Heap))) : T (AV × Heap) :=
  match o with
  | some t => t
  | none => .fail 77
theorem got_ok {p : Par} {f : FuncId} {args : List AV} {h : Heap} {o : Option (T (AV × Heap))} (H : ∀ t, o = some t → CallOk p f args h t) : CallOk p f args h (got o) := by
  cases o with
  | some t => exact H t rfl
  | none => intro vs E w0 w Q K k; exact k.elim
noncomputable def only (t : T (AV × Heap)) : T AV := t.bind fun r => .ret r.1
theorem only_leaf {ρ : Rho} {P : AV → Prop} {t : T (AV × Heap)} (h : t.Holds ρ fun r => P r.1) : ∃ v, (only t).leaf ρ = some v ∧ P v := by
  have : (only t).Holds ρ P := by unfold only; rw [T.holds_bind]; exact h
  exact T.holds_leaf _ this
noncomputable def turnSR (i : Nat) : T (AV × Heap) := got (turnC.orc (turnS i).args (viewHeap 2000 []))
noncomputable def idsC (c : CSpec) : Bool := and (idsLts c.nv c.args) (lAll (fun g : Nat × List AV => and (Nat.ble (g.1 + 1) c.nv) (idsLts c.nv g.2)) c.view)
noncomputable def turnSCk (i : Nat) : Bool := and (idsC (turnS i)) (servesW [] (turnS i).u (only (turnSR i)) (knOf [] []))
theorem turnS_all : lAll turnSCk (upTo 6) = true := by kernel_rfl
section
variable {ok : Rho → (Nat → Obj → Prop) → Prop} {L : Nat} (hL : L ≤ 6) (hpick : ∀ ρ m, ok ρ m → okPick ρ m) (hsh : ∀ ρ m, ok ρ m → OkSh L ρ)
include hL hpick hsh
theorem orcSh_ok : ∀ f args h t, orcSh L f args h = some t → CallOk ⟨Tryd.prog, rcOf Tryd.rows, ok⟩ f args h t := by
  intro f args h t e
  unfold orcSh at e
  cases h54 : Nat.beq f 54 with
  | true => rw [h54] at e; have := beq_t.1 h54; subst this; exact pick_orc (p := ⟨Tryd.prog, rcOf Tryd.rows, ok⟩) rfl hpick e
  | false =>
    rw [h54, cond_false] at e
    obtain ⟨h48, e⟩ := cond_some e
    have := beq_t.1 h48; subst this
    have key : ∀ js : List Nat, (∀ j ∈ js, j ∈ upTo L) → turnsOrc args h js = some t → ∃ j ∈ upTo L, (turnS j).orcY (caseT (100 + j) j) args h = some t := by
      intro js
      induction js with
      | nil => intro _ e; cases e
      | cons j js ih =>
        intro hjs e
        have e : (match (turnS j).orcY (caseT (100 + j) j) args h with
          | some t => some t
          | none => turnsOrc args h js) = some t := e
        split at e
        · rename_i u hu; cases e; exact ⟨j, hjs j List.mem_cons_self, hu⟩
        · exact ih (fun i hi => hjs i (List.mem_cons_of_mem _ hi)) e
    obtain ⟨j, hj, hu⟩ := key _ (fun j hj => hj) e
    have hjL := (upTo_mem _ _).1 hj
    have hck : turnSCk j = true := lAll_mem turnS_all j ((upTo_mem _ _).2 (by omega))
    simp only [turnSCk, idsC, Bool.and_eq_true] at hck
    refine CSpec.okZ (p0 := pT) (p := ⟨Tryd.prog, rcOf Tryd.rows, ok⟩) (c := turnS j) (run := turnSR j) (got_ok fun t e => turn_orc rfl e) (Nat.le_of_ble_eq_true rfl) hck.1.1 hck.1.2 (fun ρ b hb _ => ?_) hu rfl (fun ρ b b' _ => Par.okB_all (fun _ _ => trivial) _ _)
    obtain ⟨m, hm, _⟩ := hb
    have ht := (hsh _ _ hm).turn j hjL
    have hin := turnF_in (n := ρ.fi 1000 j 0 0) (m := (j : Int) + 1) (by omega)
    have hw : ((turnS j).u).Holds ρ (fun b => b = .int .i64 (.app 6 (pickE j) (.lit (Int.ofNat (j + 1))) (.lit 0))) := rfl
    have hK : KnOk ρ (knOf [] []) := knOf_ok (fun c hc => by simp [ivC] at hc) (fun c hc => (List.not_mem_nil hc).elim)
    have hs : servesW [] (turnS j).u (only (turnSR j)) (knOf [] []) = true := hck.2
    generalize hu0 : (turnS j).u = u0 at hw hs
    have honly : only (turnSR j) = (turnSR j).bind fun r => T.ret r.1 := by unfold only; rfl
    rw [honly] at hs
    generalize ((turnSR j).bind fun r => T.ret r.1) = t0 at hs ⊢
    have key := servesW_ok (R := []) (rules_nil ρ) hw t0 (knOf [] []) hK hs
    obtain ⟨v, hv, b', rfl, _, hsame⟩ := T.holds_leaf _ key
    have hden : (IE.app 6 (pickE j) (.lit (Int.ofNat (j + 1))) (.lit 0)).den ρ = ρ.iv (100 + j) := by
      rw [ht]; rfl
    refine ⟨v, _, hv, fun E E' h1 h2 _ => ?_, fun E vs h1 _ => ⟨_, (hsame E h1).trans (show conc E (.int .i64 (.app 6 (pickE j) (.lit (Int.ofNat (j + 1))) (.lit 0))) = some _ by rw [conc])⟩, caseT_leaf j (by rw [ht]; exact hin.1) (by rw [ht]; omega), fun E hE => ?_⟩
    · rw [hsame E h1, hsame E' h2]; simp only [conc, h1, h2]
    · rw [hsame E hE]; simp only [conc, li, IE.den, hE]
      rw [← hden]; rfl
theorem tabsSh : TabOk ⟨Tryd.prog, rcOf Tryd.rows, ok⟩ Sx.Tryd.tt.get (tbSh L) := Tryd.tab (orcSh L) (orcSh_ok hL hpick hsh) 2000
omit hL hpick hsh in
theorem turnBd_ok {ρ : Rho} (h : OkSh L ρ) : ∀ c ∈ turnBd L, c.den ρ = true := by
  intro c hc
  simp only [turnBd, List.mem_flatMap] at hc
  obtain ⟨i, hi, hc⟩ := hc
  have hi := (upTo_mem _ _).1 hi
  have ht := h.turn i hi
  have hin := turnF_in (n := ρ.fi 1000 i 0 0) (m := (i : Int) + 1) (by omega)
  simp only [List.mem_cons, List.not_mem_nil, or_false] at hc
  rcases hc with rfl | rfl
  · rw [BE.t_leq, IE.den_lit, IE.den_var, ht]; exact hin.1
  · rw [BE.t_leq, IE.den_lit, IE.den_var, ht]; simp only [Int.ofNat_eq_natCast]; omega
end
theorem lits_same {ρ : Rho} : ∀ (cs : List AV) (l : List Nat) (i : Nat), litsA cs = some l → (∀ (j n : Nat), l[j]? = some n → ρ.iv (i + j) = n) → SameEs ρ cs (cellsUp cs.length i) ∧ l.length = cs.length
  | [], l, i, h, _ => by
    simp only [litsA, Option.some.injEq] at h; subst h
    exact ⟨fun E _ => rfl, rfl⟩
  | a :: cs, l, i, h, hn => by
    simp only [litsA] at h
    split at h
    · rename_i n m h1 h2
      cases h
      have := natA_some h1; subst this
      obtain ⟨r1, r2⟩ := lits_same cs m (i + 1) h2 (fun j n' hj => by
        have := hn (j + 1) n' (by simpa using hj)
        rw [show i + 1 + j = i + (j + 1) by omega]; exact this)
      have h0 := hn 0 n rfl
      refine ⟨fun E hE => ?_, by simp [r2]⟩
      simp only [List.length_cons, cellsUp, concL, vi, conc, IE.den, r1 E hE, hE]
      rw [show ρ.iv i = Int.ofNat n from h0]
    · cases h
/-- what the run ends with -/
theorem shufB_some {L : Nat} {r : AV × Heap} {b : Nat} {cs : List AV} (h : shufB L r = some (b, cs)) : r.1 = .sliceX b 1 0 L ∧ 2000 ≤ b ∧ r.2.get b = some (.cells cs 3 true true) ∧ cs.length = L := by
  unfold shufB at h
  split at h
  · rename_i b' s lo n hr
    obtain ⟨h1, h⟩ := cond_some h
    simp only [Bool.and_eq_true] at h1
    split at h
    · rename_i cs' el own ext hg
      obtain ⟨h2, h3⟩ := cond_some h
      simp only [Bool.and_eq_true] at h2
      cases h3
      have e1 := beq_t.1 h1.1; have e2 := beq_t.1 h1.2.1; have e3 := beq_t.1 h1.2.2.1; have e4 := beq_t.1 h2.2.2.1; have e5 := beq_t.1 h2.2.2.2
      subst e1 e2 e3 e4
      rw [hr, hg, h2.1, h2.2.1]
      exact ⟨rfl, ble_t.1 h1.2.2.2, rfl, by rw [← lLen_eq]; exact e5⟩
    · cases h
  · cases h
noncomputable def shufE (L b : Nat) : Ent := ⟨49, shufArgs L, 2000, [], .sliceX b 1 0 L, [(b, .cells (cellsUp L 110) 3 true)], []⟩
theorem rnL_cellsUp (g : Nat → Option Nat) : ∀ n i, rnL g (cellsUp n i) = some (cellsUp n i)
  | 0, _ => rfl
  | n + 1, i => by simp only [cellsUp, vi, rnL, rnV, rnL_cellsUp g n]
theorem shufE_meet {L b : Nat} (hb : 2000 ≤ b) (args : List AV) (h : Heap) : (shufE L b).meet args h = (shufE L 2000).meet args h := by
  have key : ∀ b, 2000 ≤ b → ∀ r, blR 2000 r (newsR [(b, NB.cells (cellsUp L 110) 3 true)] h.next) b = some h.next := fun b hb r => by
    unfold blR
    have k1 : Nat.ble (Nat.succ b) 1000 = false := by
      cases hk : Nat.ble (Nat.succ b) 1000 with
      | false => rfl
      | true => have := ble_t.1 hk; omega
    have k2 : Nat.ble (Nat.succ b) 2000 = false := by
      cases hk : Nat.ble (Nat.succ b) 2000 with
      | false => rfl
      | true => have := ble_t.1 hk; omega
    rw [k1, k2, cond_false, cond_false]
    simp only [newsR, lFind_cons]
    rw [beq_t.2 rfl]; rfl
  unfold Ent.meet
  simp only [shufE, rnV, newsH, putsH, NB.ren, rnL_cellsUp, key b hb, key 2000 (Nat.le_refl _)]
noncomputable def shufOrc (L : Nat) (args : List AV) (h : Heap) : Option (T (AV × Heap)) :=
  match (shufE L 2000).meet args h with
  | some (.ret r) => some (.ret r)
  | _ => none
/-- THE CALL -/
theorem shuf_ok {ok : Rho → (Nat → Obj → Prop) → Prop} {L : Nat} (hL : L ≤ 6) (hpick : ∀ ρ m, ok ρ m → okPick ρ m) (hsh : ∀ ρ m, ok ρ m → OkSh L ρ) (hck : shufCk L = true) {args : List AV} {h : Heap} {t : T (AV × Heap)} (e : shufOrc L args h = some t) :
    CallOk ⟨Tryd.prog, rcOf Tryd.rows, ok⟩ 49 args h t := by
  unfold shufOrc at e
  split at e
  · rename_i r hr
    cases e
    refine meetN (tabsSh hL hpick hsh) (d := 40) (f := 49) (args0 := shufArgs L) (n := 2000) (view := []) rfl (cs := []) fun ρ b hb _ => ?_
    obtain ⟨m, hm, _⟩ := hb
    have hS := hsh _ _ hm
    have hold : (shufRun L).Holds ρ (fun r => ∃ K, shufQ L K r = true) := allW_ok (R := []) (Q := shufQ L) (rules_nil ρ) (fun K a _ h => ⟨K, h⟩) _ _ (knOf_ok (fun c hc => by simp [ivC] at hc) (turnBd_ok hS)) hck
    obtain ⟨r1, hleaf, K, hq⟩ := T.holds_leaf _ hold
    unfold shufQ at hq
    split at hq
    · rename_i q hB
      split at hq
      · rename_i l hl
        obtain ⟨b1, cs⟩ := q
        obtain ⟨e1, e2, e3, e4⟩ := shufB_some hB
        have ho : orderOf L ρ = l := by unfold orderOf; rw [hleaf]; simp only [hB, hl]
        obtain ⟨s1, s2⟩ := lits_same cs l 110 hl (fun j n hj => hS.names j n (by rw [ho]; exact hj))
        rw [e4] at s1
        refine ⟨.sliceX b1 1 0 L, [(b1, .cells (cellsUp L 110) 3 true)], r1, ?_, (shufE_meet e2 args h).trans hr, hleaf, by rw [e1]; exact fun _ _ => rfl, fun q hq => ?_⟩
        · simp only [rises]; rw [ble_t.2 e2]; rfl
        · rcases List.mem_singleton.1 hq with rfl
          exact ⟨_, e3, cs, [], by rw [List.append_nil], s1, .inl rfl⟩
      · cases hq
    · cases hq
  · cases e
end Go.Sx
