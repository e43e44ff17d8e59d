/- RlW -/
import Derived.Test.YtpdednocbpoikaaDoorRlE
import Derived.Test.YtpdednocbpoikaaDoorSxMove3
import Derived.Test.YtpdednocbpoikaaDoorRlA
namespace Go.Sx
open Go.RowKit Go.Proofs
set_option maxRecDepth 100000
noncomputable def zipI : List IE → List IE → List IE
  | a :: l, b :: m => a :: b :: zipI l m
  | _, _ => []
theorem zipC_eq : ∀ (l m : List IE), zipC l m = lMap iA (zipI l m)
  | [], _ => rfl
  | _ :: _, [] => rfl
  | a :: l, b :: m => by
    have e : lMap iA (a :: b :: zipI l m) = iA a :: iA b :: lMap iA (zipI l m) := rfl
    show iA a :: iA b :: zipC l m = _
    rw [zipC_eq l m]; exact e.symm
structure OkP (L : Nat) (plan : List Nat) (ρ : Rho) : Prop where
  ats : (zipI (thereE 0 plan) (thereE 1 plan)).map (IE.den ρ) = (upN (2 * L) 200).map ρ.iv
  sure : ρ.iv 220 = (surelyE plan).den ρ
  may : ρ.iv 221 = (perhapsE plan).den ρ
  carry : ∀ c ∈ carryC plan, c.den ρ = true
def okPB (L : Nat) (plan : List Nat) (ρ : Rho) : Prop := okBN L ρ ∧ OkP L plan ρ
noncomputable def pP (L : Nat) (plan : List Nat) : Par := pOk fun ρ _ => okPB L plan ρ
noncomputable def namesC (L : Nat) : List AV := lMap vj (upN (2 * L) 200)
theorem vj_eq (l : List Nat) : lMap vj l = lMap iA (lMap IE.var l) := by rw [lMap_eq, lMap_eq, lMap_eq, List.map_map]; rfl
theorem ats_same {L : Nat} {plan : List Nat} {ρ : Rho} (h : OkP L plan ρ) : SameL ρ (zipC (thereE 0 plan) (thereE 1 plan)) ρ (namesC L) := by
  rw [zipC_eq]
  unfold namesC
  rw [vj_eq]
  refine same_ints ?_
  rw [h.ats, lMap_eq, List.map_map]; rfl
theorem idsN (n : Nat) : ∀ l : List Nat, idsLts n (litsN l) = true
  | [] => rfl
  | _ :: l => idsN n l
theorem vR_ids {L : Nat} (h0 : 1 ≤ L) (hL : L ≤ 6) : lAll (fun g : Nat × AObj => and (Nat.ble (g.1 + 1) 2001) (idsO 2001 g.2)) (vR L) = true := by
  rcases six h0 hL with rfl | rfl | rfl | rfl | rfl | rfl <;> rfl
theorem viewP_ok {L : Nat} (h0 : 1 ≤ L) (hL : L ≤ 6) (plan : List Nat) : viewOk 2001 (vP L plan) = true := by
  unfold viewOk
  rw [Bool.and_eq_true]
  refine ⟨rfl, ?_⟩
  unfold vP
  refine lAll_app (vR_ids h0 hL) (lAll_cons ?_ rfl)
  show and (Nat.ble 2001 2001) (idsLts 2001 (litsN plan)) = true
  rw [idsN]; rfl
theorem kn_carry {L : Nat} {plan : List Nat} {ρ : Rho} (h : OkP L plan ρ) : KnOk ρ (knOf [] (carryC plan)) := knOf_ok (fun c hc => by cases hc) h.carry
section
variable {L : Nat} (h0 : 1 ≤ L) (hL : L ≤ 6) {plan : List Nat}
include h0 hL
theorem there_said (hck : ckTh L plan = true) : CallOk (pP L plan) 9 [bookF L, planA plan] (viewA 2001 (vP L plan)) (.ret (thereV L, viewA 2002 (vP L plan ++ [(2001, .cells (namesC L) 24 true false)]))) := by
  have base := eval_ok (tabsTP (b := 2004) (.inl rfl) h0 hL) 200 9 [bookF L, planA plan] (viewA 2001 (vP L plan))
  have up : upA 0 (vP L plan) = true := rfl
  have fr : CallOk (pBN L) 9 [bookF L, planA plan] (viewA 2001 (vP L plan)) (runTh L plan) := base.frame (n := 2001) (l := vP L plan) (by omega) rfl (viewP_ok h0 hL plan)
    (fun g hg => ⟨g.2, viewA_mem 2001 _ 0 up g hg, .refl _⟩) (by rw [viewA_next]; exact Nat.le_refl _) nwTh
  have fr' : CallOk (pP L plan) 9 [bookF L, planA plan] (viewA 2001 (vP L plan)) (runTh L plan) := CallOk.weak (ok0 := fun ρ _ => okBN L ρ) (fun ρ m k => k.1) fr
  refine CallOk.read (p0 := pP L plan) (p := pP L plan) rfl fr' fun ρ b hok Q k => ⟨ρ, hok, SameL.refl _ _, ⟨rfl, fun j o g => ⟨o, g, SameA.refl o⟩⟩, ?_⟩
  obtain ⟨_, hA, _⟩ := hok
  have hA : okPB L plan ρ := hA
  have k : Q (thereV L, viewA 2002 (vP L plan ++ [(2001, .cells (namesC L) 24 true false)])) := k
  refine allW_ok (rules_nil ρ) (fun K q _ hq => ?_) (runTh L plan) _ (kn_carry hA.2) hck
  unfold endTh at hq
  simp only [Bool.and_eq_true] at hq
  obtain ⟨q1, q2, q3, q4⟩ := hq
  refine ⟨_, k, by rw [eqAV_eq _ _ q1]; exact SameV.refl _ _, (beq_t.1 q4).trans (viewA_next _ _).symm, fun j o g => ?_⟩
  have hm := viewA_get _ _ _ _ g
  rcases List.mem_append.1 hm with hm | hm
  · exact ⟨o, allO_get q3 hm, SameA.refl o⟩
  · rw [List.mem_singleton] at hm
    cases hm
    exact ⟨_, isO_eq q2, SameA.cells rfl (ats_same hA.2)⟩
theorem starts_said (hck : ckSt L plan = true) : CallOk (pP L plan) 10 [bookF L, planA plan] (viewA 2001 (vP L plan)) (.ret (.tup [vj 220, vj 221, ln 0], viewA 2001 (vP L plan))) := by
  have base := eval_ok (tabsTP (b := 2004) (.inl rfl) h0 hL) 200 10 [bookF L, planA plan] (viewA 2001 (vP L plan))
  have up : upA 0 (vP L plan) = true := rfl
  have fr : CallOk (pBN L) 10 [bookF L, planA plan] (viewA 2001 (vP L plan)) (runSt L plan) := base.frame (n := 2001) (l := vP L plan) (by omega) rfl (viewP_ok h0 hL plan)
    (fun g hg => ⟨g.2, viewA_mem 2001 _ 0 up g hg, .refl _⟩) (by rw [viewA_next]; exact Nat.le_refl _) (fun _ => [])
  have fr' : CallOk (pP L plan) 10 [bookF L, planA plan] (viewA 2001 (vP L plan)) (runSt L plan) := CallOk.weak (ok0 := fun ρ _ => okBN L ρ) (fun ρ m k => k.1) fr
  refine CallOk.read (p0 := pP L plan) (p := pP L plan) rfl fr' fun ρ b hok Q k => ⟨ρ, hok, SameL.refl _ _, ⟨rfl, fun j o g => ⟨o, g, SameA.refl o⟩⟩, ?_⟩
  obtain ⟨_, hA, _⟩ := hok
  have hA : okPB L plan ρ := hA
  have k : Q (.tup [vj 220, vj 221, ln 0], viewA 2001 (vP L plan)) := k
  refine allW_ok (rules_nil ρ) (fun K q _ hq => ?_) (runSt L plan) _ (kn_carry hA.2) hck
  unfold endSt at hq
  simp only [Bool.and_eq_true] at hq
  obtain ⟨q1, q2, q3⟩ := hq
  refine ⟨_, k, by rw [eqAV_eq _ _ q1]; exact SameV.tup (SameL.cons (SameV.int hA.2.sure.symm) (SameL.cons (SameV.int hA.2.may.symm) (SameL.refl _ _))), (beq_t.1 q3).trans (viewA_next _ _).symm, fun j o g => ⟨o, allO_get q2 (viewA_get _ _ _ _ g), SameA.refl o⟩⟩
omit h0 hL in
theorem vP_ro : ∀ g ∈ vP L plan, g.1 < 2001 ∧ ownO g.2 = false ∧ idsO 0 g.2 = true := fun g hg => by
  unfold vP at hg
  rcases List.mem_append.1 hg with hg | hg
  · simp only [vR, List.mem_cons, List.not_mem_nil, or_false] at hg
    rcases hg with rfl | rfl | rfl | rfl | rfl
    · exact ⟨by omega, rfl, rfl⟩
    · exact ⟨by omega, rfl, rfl⟩
    · exact ⟨by omega, rfl, rfl⟩
    · exact ⟨by omega, rfl, rfl⟩
    · exact ⟨by omega, rfl, ids0 _⟩
  · rw [List.mem_singleton] at hg; subst hg
    exact ⟨by omega, rfl, idsN 0 plan⟩
omit h0 hL in
theorem vP_at {c : Nat} {h : Heap} (h1 : lessAll h (vR L) = true) (h2 : lessO (ro (litsN plan)) (h.get c) = true) : ∀ g ∈ vP L plan, ∃ o, h.get (mvN 2000 c g.1) = some o ∧ Less g.2 o := fun g hg => by
  have hl := lessAll_ok h1
  unfold vP at hg
  rcases List.mem_append.1 hg with hg | hg
  · have hlg := hl g hg
    have ne : g.1 ≠ 2000 := by
      simp only [vR, List.mem_cons, List.not_mem_nil, or_false] at hg
      rcases hg with rfl | rfl | rfl | rfl | rfl <;> exact Nat.ne_of_lt (Nat.le_of_ble_eq_true rfl)
    unfold mvN
    rw [if_neg ne]; exact hlg
  · rw [List.mem_singleton] at hg; subst hg
    show ∃ o, h.get (mvN 2000 c 2000) = some o ∧ _
    have e : mvN 2000 c 2000 = c := if_pos rfl
    rw [e]
    exact lessO_ok h2
omit h0 hL in
theorem args_mv {c n : Nat} {E : Env} : concL (E.mv 2000 c 2001) [bookF L, .sliceX 2000 1 0 n] = concL E [bookF L, .sliceX c 1 0 n] := by simp [bookF, bookC, concL, conc, Env.mv, mvN, vj]
noncomputable def thereT (L : Nat) (plan : List Nat) (h : Heap) : T (AV × Heap) := (T.ret (thereV L, viewA 2002 (vP L plan ++ [(2001, .cells (namesC L) 24 true false)]))).bind fun r => mvT 2001 h r
theorem there_at (hck : ckTh L plan = true) {ok : Rho → (Nat → Obj → Prop) → Prop} (hok : ∀ ρ m, ok ρ m → okPB L plan ρ) {c : Nat} {h : Heap} (h1 : lessAll h (vR L) = true) (h2 : lessO (ro (litsN plan)) (h.get c) = true) (hn : 2001 ≤ h.next) :
    CallOk (pOk ok) 9 [bookF L, .sliceX c 1 0 (lLen plan)] h (thereT L plan h) :=
  CallOk.movedT (a := 2000) (c := c) (CallOk.weak (ok0 := fun ρ _ => okPB L plan ρ) hok (there_said h0 hL hck)) (by omega) (by omega) vP_ro hn (vP_at h1 h2) fun E => args_mv
theorem starts_at (hck : ckSt L plan = true) {ok : Rho → (Nat → Obj → Prop) → Prop} (hok : ∀ ρ m, ok ρ m → okPB L plan ρ) {c : Nat} {h : Heap} (h1 : lessAll h (vR L) = true) (h2 : lessO (ro (litsN plan)) (h.get c) = true) :
    CallOk (pOk ok) 10 [bookF L, .sliceX c 1 0 (lLen plan)] h (.ret (.tup [vj 220, vj 221, ln 0], h)) :=
  CallOk.moved (a := 2000) (c := c) (CallOk.weak (ok0 := fun ρ _ => okPB L plan ρ) hok (starts_said h0 hL hck)) (by omega) (by omega) rfl vP_ro (vP_at h1 h2) fun E => args_mv
end
end Go.Sx
namespace Go.Sx
open Go.RowKit Go.Proofs
set_option maxRecDepth 100000
noncomputable def orcS (L : Nat) (f : FuncId) (args : List AV) (h : Heap) : Option (T (AV × Heap)) :=
  cond (Nat.beq f 42) (smallO 2000 [bookF L] (vR L) (.ret (knowVR L, viewA 2002 (vKR L false))) (fun _ => [2000, 2001]) args h) none
noncomputable def tbS (L : Nat) : Tabs := ⟨Sx.Tryd.ft.get, lFind Sx.Tryd.rt, 2000, orcS L⟩
theorem tabsS {L : Nat} (h0 : 1 ≤ L) (hL : L ≤ 6) : TabOk (pB L) Sx.Tryd.tt.get (tbS L) := by
  refine Tryd.tab (orcS L) (fun f args h t e => ?_) 2000
  unfold orcS at e
  obtain ⟨h1, e⟩ := cond_some e
  rw [beq_t.1 h1]
  exact smallO_ok (knowR_said h0 hL) (by omega) rfl (viewR_ok h0 hL) e
noncomputable def runSB (L : Nat) : T (AV × Heap) := (evalN (tbS L) 100 false 6 [bookF L] (viewA 2000 (vR L))).bind fun r => graftT 2000 (vR L) (viewA 2000 (vR L)) [] r
noncomputable def endSB (L : Nat) (_ : Kn) (q : AV × Heap) : Bool := and (eqAV q.1 (tag true)) (and (allO q.2 (vR L)) (Nat.beq q.2.next 2000))
noncomputable def ckSB (L : Nat) : Bool := allW [] (endSB L) (runSB L) (knOf (filmQ L ++ bookQ) (filmC L ++ bookLe))
theorem ckSB1 : ckSB 1 = true := by kernel_rfl
theorem ckSB2 : ckSB 2 = true := by kernel_rfl
theorem ckSB3 : ckSB 3 = true := by kernel_rfl
theorem ckSB4 : ckSB 4 = true := by kernel_rfl
theorem ckSB5 : ckSB 5 = true := by kernel_rfl
theorem ckSB6 : ckSB 6 = true := by kernel_rfl
theorem ckSB_all {L : Nat} (h0 : 1 ≤ L) (hL : L ≤ 6) : ckSB L = true := by
  rcases six h0 hL with rfl | rfl | rfl | rfl | rfl | rfl
  · exact ckSB1
  · exact ckSB2
  · exact ckSB3
  · exact ckSB4
  · exact ckSB5
  · exact ckSB6
theorem ivC_app : ∀ (l m : List (Nat × Int × Int)), ivC (l ++ m) = ivC l ++ ivC m
  | [], _ => rfl
  | q :: l, m => by simp only [List.cons_append, ivC, ivC_app l m]
theorem okB_kn {L : Nat} {ρ : Rho} (h : okB L ρ) : KnOk ρ (knOf (filmQ L ++ bookQ) (filmC L ++ bookLe)) := by
  refine knOf_ok (fun c hc => ?_) fun c hc => ?_
  · rw [ivC_app] at hc
    rcases List.mem_append.1 hc with hc | hc
    · exact h.2.1.1 c hc
    · exact h.2.2.2.1 c hc
  · rcases List.mem_append.1 hc with hc | hc
    · exact h.2.1.2 c hc
    · exact h.2.2.2.2 c hc
theorem soundB_said {L : Nat} (h0 : 1 ≤ L) (hL : L ≤ 6) : CallOk (pB L) 6 [bookF L] (viewA 2000 (vR L)) (.ret (tag true, viewA 2000 (vR L))) := by
  have base := eval_ok (tabsS h0 hL) 100 6 [bookF L] (viewA 2000 (vR L))
  have up : upA 0 (vR L) = true := rfl
  have fr : CallOk (pB L) 6 [bookF L] (viewA 2000 (vR L)) (runSB L) := base.frame (n := 2000) (l := vR L) (by omega) rfl (viewR_ok h0 hL)
    (fun g hg => ⟨g.2, viewA_mem 2000 _ 0 up g hg, .refl _⟩) (by rw [viewA_next]; exact Nat.le_refl _) (fun _ => [])
  refine CallOk.read (p0 := pB L) (p := pB L) rfl fr fun ρ b hok Q k => ⟨ρ, hok, SameL.refl _ _, ⟨rfl, fun j o g => ⟨o, g, SameA.refl o⟩⟩, ?_⟩
  obtain ⟨_, hA, _⟩ := hok
  have hA : okB L ρ := hA
  have k : Q (tag true, viewA 2000 (vR L)) := k
  refine allW_ok (rules_nil ρ) (fun K q _ hq => ?_) (runSB L) _ (okB_kn hA) (ckSB_all h0 hL)
  unfold endSB at hq
  simp only [Bool.and_eq_true] at hq
  obtain ⟨q1, q2, q3⟩ := hq
  exact ⟨_, k, by rw [eqAV_eq _ _ q1]; exact SameV.refl _ _, (beq_t.1 q3).trans (viewA_next _ _).symm, fun j o g => ⟨o, allO_get q2 (viewA_get _ _ _ _ g), SameA.refl o⟩⟩
end Go.Sx
namespace Go.Sx
open Go.RowKit Go.Proofs
set_option maxRecDepth 100000
noncomputable def tripE (left k : Nat) : IE := .app 6 (.app 1000 (.lit (Int.ofNat k)) (.lit 0) (.lit 0)) (.mn (.lit (Int.ofNat left)) (.var 65)) (.lit 0)
noncomputable def tripsL (plan : List Nat) : Nat → Nat → List (Nat × Nat × Nat) := @List.rec Nat (fun _ => Nat → Nat → List (Nat × Nat × Nat)) (fun _ _ => []) (fun p _ ih left k => (left, k, p) :: ih (left - p) (k + 1)) plan
def OkTr (L : Nat) (plan : List Nat) (ρ : Rho) : Prop := ∀ q ∈ tripsL plan L 0, (tripE q.1 q.2.1).den ρ = ((q.2.2 : Int) - 1)
noncomputable def orcTurn (L : Nat) (plan : List Nat) (args : List AV) (h : Heap) : Option (T (AV × Heap)) :=
  match args with
  | [.int k1 a, .int k2 m] => cond (and (isI64 k1) (isI64 k2)) (@List.rec (Nat × Nat × Nat) (fun _ => Option (T (AV × Heap))) none (fun q _ ih => cond (eqIE (.app 6 a m (.lit 0)) (tripE q.1 q.2.1)) (some (.ret (.int .i64 (.lit (Int.sub (Int.ofNat q.2.2) 1)), h))) ih) (tripsL plan L 0)) none
  | _ => none
noncomputable def pickB (args : List AV) (h : Heap) : Option (T (AV × Heap)) :=
  match args with
  | [.sliceU i, .int .i64 e] => cond (Nat.beq i 96) (some (.ret (.int .i64 (.app 1000 e (.lit 0) (.lit 0)), h))) none
  | _ => none
noncomputable def startsV : AV := .tup [vj 220, vj 221, ln 0]
noncomputable def orcP (L : Nat) (plan : List Nat) (f : FuncId) (args : List AV) (h : Heap) : Option (T (AV × Heap)) :=
  match args with
  | [fa, .sliceX c s z n] => cond (and (and (eqAV fa (bookF L)) (and (Nat.beq s 1) (and (Nat.beq z 0) (Nat.beq n (lLen plan))))) (and (lessAll h (vR L)) (and (lessO (ro (litsN plan)) (h.get c)) (Nat.ble 2001 h.next))))
      (cond (Nat.beq f 9) (some (thereT L plan h)) (cond (Nat.beq f 10) (some (.ret (startsV, h))) none)) none
  | _ => none
end Go.Sx
