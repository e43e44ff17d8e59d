/- RtW -/
import Derived.Test.YtpdednocbpoikaaDoorRtD
namespace Go.Sx
open Go.RowKit Go.Proofs
set_option maxRecDepth 100000
theorem orcTurn_gen {L : Nat} (hL : L ≤ 6) {plan : List Nat} (hp : plan ∈ plansL L) {ok : Rho → (Nat → Obj → Prop) → Prop} (hok : ∀ ρ m, ok ρ m → OkTr L plan ρ) {args : List AV} {h : Heap} {t : T (AV × Heap)} (e : orcTurn L plan args h = some t) : CallOk (pOk ok) 11 args h t := by
  unfold orcTurn at e
  split at e
  · rename_i k1 a k2 m
    obtain ⟨i1, e⟩ := cond_some e
    rw [Bool.and_eq_true] at i1
    rw [isI64_eq i1.1, isI64_eq i1.2]
    have key : ∀ (l : List (Nat × Nat × Nat)), (@List.rec (Nat × Nat × Nat) (fun _ => Option (T (AV × Heap))) none (fun q _ ih => cond (eqIE (.app 6 a m (.lit 0)) (tripE q.1 q.2.1)) (some (.ret (.int .i64 (.lit (Int.sub (Int.ofNat q.2.2) 1)), h))) ih) l) = some t →
        ∃ q ∈ l, IE.app 6 a m (.lit 0) = tripE q.1 q.2.1 ∧ t = .ret (.int .i64 (.lit (Int.sub (Int.ofNat q.2.2) 1)), h) := by
      intro l
      induction l with
      | nil => intro h; cases h
      | cons q l ih =>
        intro hh
        have hh : cond (eqIE (.app 6 a m (.lit 0)) (tripE q.1 q.2.1)) (some (T.ret (.int .i64 (.lit (Int.sub (Int.ofNat q.2.2) 1)), h))) (@List.rec (Nat × Nat × Nat) (fun _ => Option (T (AV × Heap))) none (fun q _ ih => cond (eqIE (.app 6 a m (.lit 0)) (tripE q.1 q.2.1)) (some (.ret (.int .i64 (.lit (Int.sub (Int.ofNat q.2.2) 1)), h))) ih) l) = some t := hh
        cases hc : eqIE (.app 6 a m (.lit 0)) (tripE q.1 q.2.1) with
        | true => rw [hc] at hh; cases hh; exact ⟨q, List.mem_cons_self, eqIE_eq _ _ hc, rfl⟩
        | false =>
          rw [hc, cond_false] at hh
          obtain ⟨q', h1, h2⟩ := ih hh
          exact ⟨q', List.mem_cons_of_mem _ h1, h2⟩
    obtain ⟨q, hq, he, rfl⟩ := key _ e
    refine CallOk.read (p0 := pOk ok) (p := pOk ok) rfl (turn_at (p := pOk ok) rfl a m h) fun ρ b hk Q k => ⟨ρ, hk, SameL.refl _ _, ⟨rfl, fun j o g => ⟨o, g, SameA.refl o⟩⟩, ?_⟩
    obtain ⟨_, hA, _⟩ := hk
    have k : Q (.int .i64 (.lit (Int.sub (Int.ofNat q.2.2) 1)), h) := k
    have hd := hok ρ _ hA q hq
    have hl := trips_left plan L 0 (plansN_mem _ _ _ hp).1 (plansN_mem _ _ _ hp).2 q hq
    have hm : m = .mn (.lit (Int.ofNat q.1)) (.var 65) := by unfold tripE at he; cases he; rfl
    simp only [T.Holds]
    rw [if_pos]
    · refine ⟨_, k, SameV.int ?_, rfl, fun j o g => ⟨o, g, SameA.refl o⟩⟩
      rw [he, hd]; rfl
    · rw [BE.t_leq, hm, IE.den_mn, IE.den_lit, IE.den_var]
      have : big.den ρ = 9223372036854775807 := rfl
      rw [this]
      have : Int.ofNat q.1 ≤ 6 := by have := hl.1; show ((q.1 : Nat) : Int) ≤ 6; omega
      omega
  · cases e
noncomputable def orcC (L : Nat) (plan : List Nat) (f : FuncId) (args : List AV) (h : Heap) : Option (T (AV × Heap)) := cond (Nat.beq f 31) (pickB args h) (cond (Nat.beq f 11) (orcTurn L plan args h) none)
noncomputable def tbC (L : Nat) (plan : List Nat) : Tabs := ⟨Sx.Tryd.ft.get, lFind Sx.Tryd.rt, 2000, orcC L plan⟩
noncomputable def pC (L : Nat) (plan : List Nat) : Par := pOk fun ρ m => OkTr L plan ρ ∧ okPick ρ m
theorem tabsC {L : Nat} (hL : L ≤ 6) {plan : List Nat} (hp : plan ∈ plansL L) : TabOk (pC L plan) Sx.Tryd.tt.get (tbC L plan) := by
  refine Tryd.tab (orcC L plan) (fun f args h t e => ?_) 2000
  unfold orcC at e
  cases h1 : Nat.beq f 31 with
  | true =>
    rw [h1, cond_true] at e
    rw [beq_t.1 h1]
    exact pick_orc (p := pC L plan) rfl (fun ρ m h => h.2) e
  | false =>
    rw [h1, cond_false] at e
    obtain ⟨h2, e1⟩ := cond_some e
    rw [beq_t.1 h2]
    exact orcTurn_gen hL hp (ok := fun ρ m => OkTr L plan ρ ∧ okPick ρ m) (fun ρ m h => h.1) e1
noncomputable def nwC (r : AV × Heap) : List Nat := match r.1 with
  | .sliceX b _ _ _ => [b]
  | _ => []
noncomputable def runC8 (L : Nat) (plan : List Nat) : T (AV × Heap) := (evalN (tbC L plan) 60 false 8 [bookF L, .sliceU 96] (viewA 2000 (vR L))).bind fun r => graftT 2000 (vR L) (viewA 2000 (vR L)) (nwC r) r
noncomputable def planO (plan : List Nat) : AObj := .cells (litsN plan) 3 true true
noncomputable def vC (L : Nat) (plan : List Nat) : List (Nat × AObj) := vR L ++ [(2000, planO plan)]
noncomputable def endC8 (L : Nat) (plan : List Nat) (_ : Kn) (q : AV × Heap) : Bool := and (eqAV q.1 (planA plan)) (and (isO (q.2.get 2000) (planO plan)) (and (allO q.2 (vR L)) (Nat.beq q.2.next 2001)))
noncomputable def ckC8 (L : Nat) (plan : List Nat) : Bool := allW [] (endC8 L plan) (runC8 L plan) (knOf [] [])
theorem ckC8_all' : lAll (fun L => lAll (ckC8 L) (plansL L)) [1, 2, 3, 4, 5, 6] = true := by kernel_rfl
theorem chosen_said {L : Nat} (h0 : 1 ≤ L) (hL : L ≤ 6) {plan : List Nat} (hp : plan ∈ plansL L) : CallOk (pC L plan) 8 [bookF L, .sliceU 96] (viewA 2000 (vR L)) (.ret (planA plan, viewA 2001 (vC L plan))) := by
  have hck := lAll_mem (lAll_mem ckC8_all' L (mem6 h0 hL)) plan hp
  have base := eval_ok (tabsC hL hp) 60 8 [bookF L, .sliceU 96] (viewA 2000 (vR L))
  have up : upA 0 (vR L) = true := rfl
  have fr : CallOk (pC L plan) 8 [bookF L, .sliceU 96] (viewA 2000 (vR L)) (runC8 L plan) := base.frame (n := 2000) (l := vR L) (by omega) rfl (viewR_ok h0 hL)
    (fun g hg => ⟨g.2, viewA_mem 2000 _ 0 up g hg, .refl _⟩) (by rw [viewA_next]; exact Nat.le_refl _) nwC
  refine CallOk.read (p0 := pC L plan) (p := pC L plan) rfl fr fun ρ b hok Q k => ⟨ρ, hok, SameL.refl _ _, ⟨rfl, fun j o g => ⟨o, g, SameA.refl o⟩⟩, ?_⟩
  have k : Q (planA plan, viewA 2001 (vC L plan)) := k
  refine allW_ok (rules_nil ρ) (fun K q _ hq => ?_) (runC8 L plan) _ (knOf_ok (fun c hc => by cases hc) (fun c hc => by cases hc)) hck
  unfold endC8 at hq
  simp only [Bool.and_eq_true] at hq
  obtain ⟨q1, q2, q3, q4⟩ := hq
  refine ⟨_, k, by rw [eqAV_eq _ _ q1]; exact SameV.refl _ _, (beq_t.1 q4).trans (viewA_next _ _).symm, fun j o g => ?_⟩
  rcases List.mem_append.1 (viewA_get _ _ _ _ g) with hm | hm
  · exact ⟨o, allO_get q3 hm, SameA.refl o⟩
  · rw [List.mem_singleton] at hm
    cases hm; exact ⟨_, isO_eq q2, SameA.refl _⟩
end Go.Sx
