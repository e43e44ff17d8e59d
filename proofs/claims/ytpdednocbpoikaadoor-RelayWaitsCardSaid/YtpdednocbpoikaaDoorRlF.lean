/- WHO WAITS, in numbers: what the names of a plan mean. -/
import Derived.Test.YtpdednocbpoikaaDoorRlE
import Derived.Test.YtpdednocbpoikaaDoorSxMove3
import Derived.Test.YtpdednocbpoikaaDoorRlT
/-! WHEN REELS ARE THERE, by a plan: There and Starts, as they are said, wherever the plan lies. -/
namespace Go.Sx
open Go.RowKit Go.Proofs
set_option maxRecDepth 100000
noncomputable def zipI : List IE → List IE → List IE
  | a :: l, b :: m => a :: b :: zipI l m
  | _, _ => []
theorem zipC_eq : ∀ (l m : List IE), zipC l m = lMap iA (zipI l m)
  | [], _ => rfl
  | _ :: _, [] => rfl
  | a :: l, b :: m => by
    have e : lMap iA (a :: b :: zipI l m) = iA a :: iA b :: lMap iA (zipI l m) := rfl
    show iA a :: iA b :: zipC l m = _
    rw [zipC_eq l m]; exact e.symm
/-- what the names of a plan mean -/
structure OkP (L : Nat) (plan : List Nat) (ρ : Rho) : Prop where
  ats : (zipI (thereE 0 plan) (thereE 1 plan)).map (IE.den ρ) = (upN (2 * L) 200).map ρ.iv
  sure : ρ.iv 220 = (surelyE plan).den ρ
  may : ρ.iv 221 = (perhapsE plan).den ρ
  carry : ∀ c ∈ carryC plan, c.den ρ = true
def okPB (L : Nat) (plan : List Nat) (ρ : Rho) : Prop := okBN L ρ ∧ OkP L plan ρ
noncomputable def pP (L : Nat) (plan : List Nat) : Par := pOk fun ρ _ => okPB L plan ρ
noncomputable def namesC (L : Nat) : List AV := lMap vj (upN (2 * L) 200)
theorem vj_eq (l : List Nat) : lMap vj l = lMap iA (lMap IE.var l) := by rw [lMap_eq, lMap_eq, lMap_eq, List.map_map]; rfl
theorem ats_same {L : Nat} {plan : List Nat} {ρ : Rho} (h : OkP L plan ρ) : SameL ρ (zipC (thereE 0 plan) (thereE 1 plan)) ρ (namesC L) := by
  rw [zipC_eq]
  unfold namesC
  rw [vj_eq]
  refine same_ints ?_
  rw [h.ats, lMap_eq, List.map_map]; rfl
theorem idsN (n : Nat) : ∀ l : List Nat, idsLts n (litsN l) = true
  | [] => rfl
  | _ :: l => idsN n l
theorem vR_ids {L : Nat} (h0 : 1 ≤ L) (hL : L ≤ 6) : lAll (fun g : Nat × AObj => and (Nat.ble (g.1 + 1) 2001) (idsO 2001 g.2)) (vR L) = true := by
  rcases six h0 hL with rfl | rfl | rfl | rfl | rfl | rfl <;> rfl
theorem viewP_ok {L : Nat} (h0 : 1 ≤ L) (hL : L ≤ 6) (plan : List Nat) : viewOk 2001 (vP L plan) = true := by
  unfold viewOk
  rw [Bool.and_eq_true]
  refine ⟨rfl, ?_⟩
  unfold vP
  refine lAll_app (vR_ids h0 hL) (lAll_cons ?_ rfl)
  show and (Nat.ble 2001 2001) (idsLts 2001 (litsN plan)) = true
  rw [idsN]; rfl
theorem kn_carry {L : Nat} {plan : List Nat} {ρ : Rho} (h : OkP L plan ρ) : KnOk ρ (knOf [] (carryC plan)) := knOf_ok (fun c hc => by cases hc) h.carry
section
variable {L : Nat} (h0 : 1 ≤ L) (hL : L ≤ 6) {plan : List Nat}
include h0 hL
theorem there_said (hck : ckTh L plan = true) : CallOk (pP L plan) 9 [bookF L, planA plan] (viewA 2001 (vP L plan)) (.ret (thereV L, viewA 2002 (vP L plan ++ [(2001, .cells (namesC L) 24 true false)]))) := by
  have base := eval_ok (tabsTP (b := 2004) (.inl rfl) h0 hL) 200 9 [bookF L, planA plan] (viewA 2001 (vP L plan))
  have up : upA 0 (vP L plan) = true := rfl
  have fr : CallOk (pBN L) 9 [bookF L, planA plan] (viewA 2001 (vP L plan)) (runTh L plan) := base.frame (n := 2001) (l := vP L plan) (by omega) rfl (viewP_ok h0 hL plan)
    (fun g hg => ⟨g.2, viewA_mem 2001 _ 0 up g hg, .refl _⟩) (by rw [viewA_next]; exact Nat.le_refl _) nwTh
  have fr' : CallOk (pP L plan) 9 [bookF L, planA plan] (viewA 2001 (vP L plan)) (runTh L plan) := CallOk.weak (ok0 := fun ρ _ => okBN L ρ) (fun ρ m k => k.1) fr
  refine CallOk.read (p0 := pP L plan) (p := pP L plan) rfl fr' fun ρ b hok Q k => ⟨ρ, hok, SameL.refl _ _, ⟨rfl, fun j o g => ⟨o, g, SameA.refl o⟩⟩, ?_⟩
  obtain ⟨_, hA, _⟩ := hok
  have hA : okPB L plan ρ := hA
  have k : Q (thereV L, viewA 2002 (vP L plan ++ [(2001, .cells (namesC L) 24 true false)])) := k
  refine allW_ok (rules_nil ρ) (fun K q _ hq => ?_) (runTh L plan) _ (kn_carry hA.2) hck
  unfold endTh at hq
  simp only [Bool.and_eq_true] at hq
  obtain ⟨q1, q2, q3, q4⟩ := hq
  refine ⟨_, k, by rw [eqAV_eq _ _ q1]; exact SameV.refl _ _, (beq_t.1 q4).trans (viewA_next _ _).symm, fun j o g => ?_⟩
  have hm := viewA_get _ _ _ _ g
  rcases List.mem_append.1 hm with hm | hm
  · exact ⟨o, allO_get q3 hm, SameA.refl o⟩
  · rw [List.mem_singleton] at hm
    cases hm
    exact ⟨_, isO_eq q2, SameA.cells rfl (ats_same hA.2)⟩
theorem starts_said (hck : ckSt L plan = true) : CallOk (pP L plan) 10 [bookF L, planA plan] (viewA 2001 (vP L plan)) (.ret (.tup [vj 220, vj 221, ln 0], viewA 2001 (vP L plan))) := by
  have base := eval_ok (tabsTP (b := 2004) (.inl rfl) h0 hL) 200 10 [bookF L, planA plan] (viewA 2001 (vP L plan))
  have up : upA 0 (vP L plan) = true := rfl
  have fr : CallOk (pBN L) 10 [bookF L, planA plan] (viewA 2001 (vP L plan)) (runSt L plan) := base.frame (n := 2001) (l := vP L plan) (by omega) rfl (viewP_ok h0 hL plan)
    (fun g hg => ⟨g.2, viewA_mem 2001 _ 0 up g hg, .refl _⟩) (by rw [viewA_next]; exact Nat.le_refl _) (fun _ => [])
  have fr' : CallOk (pP L plan) 10 [bookF L, planA plan] (viewA 2001 (vP L plan)) (runSt L plan) := CallOk.weak (ok0 := fun ρ _ => okBN L ρ) (fun ρ m k => k.1) fr
  refine CallOk.read (p0 := pP L plan) (p := pP L plan) rfl fr' fun ρ b hok Q k => ⟨ρ, hok, SameL.refl _ _, ⟨rfl, fun j o g => ⟨o, g, SameA.refl o⟩⟩, ?_⟩
  obtain ⟨_, hA, _⟩ := hok
  have hA : okPB L plan ρ := hA
  have k : Q (.tup [vj 220, vj 221, ln 0], viewA 2001 (vP L plan)) := k
  refine allW_ok (rules_nil ρ) (fun K q _ hq => ?_) (runSt L plan) _ (kn_carry hA.2) hck
  unfold endSt at hq
  simp only [Bool.and_eq_true] at hq
  obtain ⟨q1, q2, q3⟩ := hq
  refine ⟨_, k, by rw [eqAV_eq _ _ q1]; exact SameV.tup (SameL.cons (SameV.int hA.2.sure.symm) (SameL.cons (SameV.int hA.2.may.symm) (SameL.refl _ _))), (beq_t.1 q3).trans (viewA_next _ _).symm, fun j o g => ⟨o, allO_get q2 (viewA_get _ _ _ _ g), SameA.refl o⟩⟩
/-! ## Wherever the plan lies -/
omit h0 hL in
theorem vP_ro : ∀ g ∈ vP L plan, g.1 < 2001 ∧ ownO g.2 = false ∧ idsO 0 g.2 = true := fun g hg => by
  unfold vP at hg
  rcases List.mem_append.1 hg with hg | hg
  · simp only [vR, List.mem_cons, List.not_mem_nil, or_false] at hg
    rcases hg with rfl | rfl | rfl | rfl | rfl
    · exact ⟨by omega, rfl, rfl⟩
    · exact ⟨by omega, rfl, rfl⟩
    · exact ⟨by omega, rfl, rfl⟩
    · exact ⟨by omega, rfl, rfl⟩
    · exact ⟨by omega, rfl, ids0 _⟩
  · rw [List.mem_singleton] at hg; subst hg
    exact ⟨by omega, rfl, idsN 0 plan⟩
omit h0 hL in
theorem vP_at {c : Nat} {h : Heap} (h1 : lessAll h (vR L) = true) (h2 : lessO (ro (litsN plan)) (h.get c) = true) : ∀ g ∈ vP L plan, ∃ o, h.get (mvN 2000 c g.1) = some o ∧ Less g.2 o := fun g hg => by
  have hl := lessAll_ok h1
  unfold vP at hg
  rcases List.mem_append.1 hg with hg | hg
  · have hlg := hl g hg
    have ne : g.1 ≠ 2000 := by
      simp only [vR, List.mem_cons, List.not_mem_nil, or_false] at hg
      rcases hg with rfl | rfl | rfl | rfl | rfl <;> exact Nat.ne_of_lt (Nat.le_of_ble_eq_true rfl)
    unfold mvN
    rw [if_neg ne]; exact hlg
  · rw [List.mem_singleton] at hg; subst hg
    show ∃ o, h.get (mvN 2000 c 2000) = some o ∧ _
    have e : mvN 2000 c 2000 = c := if_pos rfl
    rw [e]
    exact lessO_ok h2
omit h0 hL in
theorem args_mv {c n : Nat} {E : Env} : concL (E.mv 2000 c 2001) [bookF L, .sliceX 2000 1 0 n] = concL E [bookF L, .sliceX c 1 0 n] := by simp [bookF, bookC, concL, conc, Env.mv, mvN, vj]
noncomputable def thereT (L : Nat) (plan : List Nat) (h : Heap) : T (AV × Heap) := (T.ret (thereV L, viewA 2002 (vP L plan ++ [(2001, .cells (namesC L) 24 true false)]))).bind fun r => mvT 2001 h r
theorem there_at (hck : ckTh L plan = true) {ok : Rho → (Nat → Obj → Prop) → Prop} (hok : ∀ ρ m, ok ρ m → okPB L plan ρ) {c : Nat} {h : Heap} (h1 : lessAll h (vR L) = true) (h2 : lessO (ro (litsN plan)) (h.get c) = true) (hn : 2001 ≤ h.next) :
    CallOk (pOk ok) 9 [bookF L, .sliceX c 1 0 (lLen plan)] h (thereT L plan h) :=
  CallOk.movedT (a := 2000) (c := c) (CallOk.weak (ok0 := fun ρ _ => okPB L plan ρ) hok (there_said h0 hL hck)) (by omega) (by omega) vP_ro hn (vP_at h1 h2) fun E => args_mv
theorem starts_at (hck : ckSt L plan = true) {ok : Rho → (Nat → Obj → Prop) → Prop} (hok : ∀ ρ m, ok ρ m → okPB L plan ρ) {c : Nat} {h : Heap} (h1 : lessAll h (vR L) = true) (h2 : lessO (ro (litsN plan)) (h.get c) = true) :
    CallOk (pOk ok) 10 [bookF L, .sliceX c 1 0 (lLen plan)] h (.ret (.tup [vj 220, vj 221, ln 0], h)) :=
  CallOk.moved (a := 2000) (c := c) (CallOk.weak (ok0 := fun ρ _ => okPB L plan ρ) hok (starts_said h0 hL hck)) (by omega) (by omega) rfl vP_ro (vP_at h1 h2) fun E => args_mv
end
end Go.Sx
/-! A VALID BOOK IS SOUND, as the laws find. -/
namespace Go.Sx
open Go.RowKit Go.Proofs
set_option maxRecDepth 100000
noncomputable def orcS (L : Nat) (f : FuncId) (args : List AV) (h : Heap) : Option (T (AV × Heap)) :=
  cond (Nat.beq f 42) (smallO 2000 [bookF L] (vR L) (.ret (knowVR L, viewA 2002 (vKR L false))) (fun _ => [2000, 2001]) args h) none
noncomputable def tbS (L : Nat) : Tabs := ⟨Sx.Tryd.ft.get, lFind Sx.Tryd.rt, 2000, orcS L⟩
theorem tabsS {L : Nat} (h0 : 1 ≤ L) (hL : L ≤ 6) : TabOk (pB L) Sx.Tryd.tt.get (tbS L) := by
  refine Tryd.tab (orcS L) (fun f args h t e => ?_) 2000
  unfold orcS at e
  obtain ⟨h1, e⟩ := cond_some e
  rw [beq_t.1 h1]
  exact smallO_ok (knowR_said h0 hL) (by omega) rfl (viewR_ok h0 hL) e
noncomputable def runSB (L : Nat) : T (AV × Heap) := (evalN (tbS L) 100 false 6 [bookF L] (viewA 2000 (vR L))).bind fun r => graftT 2000 (vR L) (viewA 2000 (vR L)) [] r
noncomputable def endSB (L : Nat) (_ : Kn) (q : AV × Heap) : Bool := and (eqAV q.1 (tag true)) (and (allO q.2 (vR L)) (Nat.beq q.2.next 2000))
noncomputable def ckSB (L : Nat) : Bool := allW [] (endSB L) (runSB L) (knOf (filmQ L ++ bookQ) (filmC L ++ bookLe))
theorem ckSB1 : ckSB 1 = true := by kernel_rfl
theorem ckSB2 : ckSB 2 = true := by kernel_rfl
theorem ckSB3 : ckSB 3 = true := by kernel_rfl
theorem ckSB4 : ckSB 4 = true := by kernel_rfl
theorem ckSB5 : ckSB 5 = true := by kernel_rfl
theorem ckSB6 : ckSB 6 = true := by kernel_rfl
theorem ckSB_all {L : Nat} (h0 : 1 ≤ L) (hL : L ≤ 6) : ckSB L = true := by
  rcases six h0 hL with rfl | rfl | rfl | rfl | rfl | rfl
  · exact ckSB1
  · exact ckSB2
  · exact ckSB3
  · exact ckSB4
  · exact ckSB5
  · exact ckSB6
theorem ivC_app : ∀ (l m : List (Nat × Int × Int)), ivC (l ++ m) = ivC l ++ ivC m
  | [], _ => rfl
  | q :: l, m => by simp only [List.cons_append, ivC, ivC_app l m]
theorem okB_kn {L : Nat} {ρ : Rho} (h : okB L ρ) : KnOk ρ (knOf (filmQ L ++ bookQ) (filmC L ++ bookLe)) := by
  refine knOf_ok (fun c hc => ?_) fun c hc => ?_
  · rw [ivC_app] at hc
    rcases List.mem_append.1 hc with hc | hc
    · exact h.2.1.1 c hc
    · exact h.2.2.2.1 c hc
  · rcases List.mem_append.1 hc with hc | hc
    · exact h.2.1.2 c hc
    · exact h.2.2.2.2 c hc
theorem soundB_said {L : Nat} (h0 : 1 ≤ L) (hL : L ≤ 6) : CallOk (pB L) 6 [bookF L] (viewA 2000 (vR L)) (.ret (tag true, viewA 2000 (vR L))) := by
  have base := eval_ok (tabsS h0 hL) 100 6 [bookF L] (viewA 2000 (vR L))
  have up : upA 0 (vR L) = true := rfl
  have fr : CallOk (pB L) 6 [bookF L] (viewA 2000 (vR L)) (runSB L) := base.frame (n := 2000) (l := vR L) (by omega) rfl (viewR_ok h0 hL)
    (fun g hg => ⟨g.2, viewA_mem 2000 _ 0 up g hg, .refl _⟩) (by rw [viewA_next]; exact Nat.le_refl _) (fun _ => [])
  refine CallOk.read (p0 := pB L) (p := pB L) rfl fr fun ρ b hok Q k => ⟨ρ, hok, SameL.refl _ _, ⟨rfl, fun j o g => ⟨o, g, SameA.refl o⟩⟩, ?_⟩
  obtain ⟨_, hA, _⟩ := hok
  have hA : okB L ρ := hA
  have k : Q (tag true, viewA 2000 (vR L)) := k
  refine allW_ok (rules_nil ρ) (fun K q _ hq => ?_) (runSB L) _ (okB_kn hA) (ckSB_all h0 hL)
  unfold endSB at hq
  simp only [Bool.and_eq_true] at hq
  obtain ⟨q1, q2, q3⟩ := hq
  exact ⟨_, k, by rw [eqAV_eq _ _ q1]; exact SameV.refl _ _, (beq_t.1 q3).trans (viewA_next _ _).symm, fun j o g => ⟨o, allO_get q2 (viewA_get _ _ _ _ g), SameA.refl o⟩⟩
end Go.Sx
/-! THE LAW OF WHO WAITS: its run, for a valid book and a plan. -/
namespace Go.Sx
open Go.RowKit Go.Proofs
set_option maxRecDepth 100000
/-! ## A plan, as numbers choose it -/
noncomputable def tripE (left k : Nat) : IE := .app 6 (.app 1000 (.lit (Int.ofNat k)) (.lit 0) (.lit 0)) (.mn (.lit (Int.ofNat left)) (.var 65)) (.lit 0)
/-- the trips of a plan, as they are chosen: how many reels are left, which one it is, and how many it has -/
noncomputable def tripsL (plan : List Nat) : Nat → Nat → List (Nat × Nat × Nat) := @List.rec Nat (fun _ => Nat → Nat → List (Nat × Nat × Nat)) (fun _ _ => []) (fun p _ ih left k => (left, k, p) :: ih (left - p) (k + 1)) plan
def OkTr (L : Nat) (plan : List Nat) (ρ : Rho) : Prop := ∀ q ∈ tripsL plan L 0, (tripE q.1 q.2.1).den ρ = ((q.2.2 : Int) - 1)
noncomputable def orcTurn (L : Nat) (plan : List Nat) (args : List AV) (h : Heap) : Option (T (AV × Heap)) :=
  match args with
  | [.int k1 a, .int k2 m] => cond (and (isI64 k1) (isI64 k2)) (@List.rec (Nat × Nat × Nat) (fun _ => Option (T (AV × Heap))) none (fun q _ ih => cond (eqIE (.app 6 a m (.lit 0)) (tripE q.1 q.2.1)) (some (.ret (.int .i64 (.lit (Int.sub (Int.ofNat q.2.2) 1)), h))) ih) (tripsL plan L 0)) none
  | _ => none
noncomputable def pickB (args : List AV) (h : Heap) : Option (T (AV × Heap)) :=
  match args with
  | [.sliceU i, .int .i64 e] => cond (Nat.beq i 96) (some (.ret (.int .i64 (.app 1000 e (.lit 0) (.lit 0)), h))) none
  | _ => none
noncomputable def startsV : AV := .tup [vj 220, vj 221, ln 0]
noncomputable def orcP (L : Nat) (plan : List Nat) (f : FuncId) (args : List AV) (h : Heap) : Option (T (AV × Heap)) :=
  match args with
  | [fa, .sliceX c s z n] => cond (and (and (eqAV fa (bookF L)) (and (Nat.beq s 1) (and (Nat.beq z 0) (Nat.beq n (lLen plan))))) (and (lessAll h (vR L)) (and (lessO (ro (litsN plan)) (h.get c)) (Nat.ble 2001 h.next))))
      (cond (Nat.beq f 9) (some (thereT L plan h)) (cond (Nat.beq f 10) (some (.ret (startsV, h))) none)) none
  | _ => none
noncomputable def orcW (L : Nat) (plan : List Nat) (f : FuncId) (args : List AV) (h : Heap) : Option (T (AV × Heap)) :=
  cond (Nat.beq f 7) (closedOrc glR args h) (cond (Nat.beq f 31) (pickB args h) (cond (Nat.beq f 11) (orcTurn L plan args h)
  (cond (Nat.beq f 6) (smallO 2000 [bookF L] (vR L) (.ret (tag true, viewA 2000 (vR L))) (fun _ => []) args h)
  (cond (Nat.beq f 40) (smallO 2000 [filmF L] (vK L) (.ret (foundVF L, viewA 2001 (vF L))) (fun _ => [2000]) args h)
  (cond (Nat.beq f 41) (orcLs L args h) (orcP L plan f args h))))))
noncomputable def tbW (L : Nat) (plan : List Nat) : Tabs := ⟨Sx.Tryd.ft.get, lFind Sx.Tryd.rt, 2000, orcW L plan⟩
/-! ## What is known -/
noncomputable def lastQ (L : Nat) : List (Nat × Int × Int) := lMap (fun j => (100 + j, (0 : Int), (24000 : Int))) (upN (4 * L) 0)
noncomputable def thereQ (L : Nat) : List (Nat × Int × Int) := lMap (fun j => (200 + j, (0 : Int), (1000000 : Int))) (upN (2 * L) 0)
noncomputable def lawQ (L : Nat) : List (Nat × Int × Int) := (220, 0, 1000000) :: (221, 0, 1000000) :: (lastQ L ++ thereQ L)
noncomputable def lastLe (L : Nat) : List BE := lMap (fun j => leV (102 + 4 * j) (103 + 4 * j)) (upN L 0)
noncomputable def slowE (n : Nat) : IE := @Nat.rec (fun _ => IE) (tenE (sbE (.var 220) (.lit 1))) (fun j ih => adE ih (aV 1 0 j)) n
noncomputable def fastE (n : Nat) : IE := @Nat.rec (fun _ => IE) (tenE (.var 221)) (fun j ih => adE ih (aV 1 1 j)) n
noncomputable def earlyC (L : Nat) : List BE := lMap (fun i => .cmp .leq (.var (200 + 2 * i)) (fastE i)) (upN L 0)
/-- the second is 0, or the i-th reel is the first one that is late -/
noncomputable def lateC (i : Nat) : List BE := .cmp .lss (slowE i) (.var (201 + 2 * i)) :: lMap (fun j => .cmp .leq (.var (201 + 2 * j)) (slowE j)) (upN i 0)
noncomputable def caseC (L i : Nat) : List BE := cond (Nat.beq i L) [.cmp .eql (.var 220) (.lit 0)] (lateC i)
noncomputable def lawW (L : Nat) (plan : List Nat) (i : Nat) : Bool := allK isTrueK (evalN (tbW L plan) 60 false 5 [bookF L, .sliceU 96] (viewA 2000 (vR L))) (knOf (lawQ L) (caseC L i ++ earlyC L ++ lastLe L))
noncomputable def ckW (L : Nat) (plan : List Nat) : Bool := lAll (lawW L plan) (upN (L + 1) 0)
theorem ckW1 : lAll (ckW 1) (plansL 1) = true := by kernel_rfl
theorem ckW2 : lAll (ckW 2) (plansL 2) = true := by kernel_rfl
end Go.Sx
/-! WHO WAITS, in numbers: what the names of a plan mean. -/
namespace Go.Sx
open Go.RowKit Go.Proofs
set_option maxRecDepth 100000
/-! ## Plans -/
theorem plansN_mem : ∀ (f n : Nat) (l : List Nat), l ∈ plansN f n → (∀ p ∈ l, 1 ≤ p) ∧ sumN l = n
  | 0, _, _, h => by cases h
  | _ + 1, 0, l, h => by
    have h : l ∈ [[]] := h
    rw [List.mem_singleton] at h
    subst h; exact ⟨fun p hp => (by cases hp), rfl⟩
  | f + 1, n + 1, l, h => by
    have h : l ∈ (upN (n + 1) 1).flatMap fun p => (plansN f (n + 1 - p)).map fun l => p :: l := h
    obtain ⟨p, hp, h⟩ := List.mem_flatMap.1 h
    obtain ⟨m, hm, rfl⟩ := List.mem_map.1 h
    have hp := upN_lt _ _ _ hp
    obtain ⟨h1, h2⟩ := plansN_mem f _ m hm
    refine ⟨fun q hq => ?_, by simp only [sumN, h2]; omega⟩
    rcases List.mem_cons.1 hq with rfl | hq
    · exact hp.1
    · exact h1 q hq
theorem mem_plansN : ∀ (f n : Nat) (l : List Nat), n < f → (∀ p ∈ l, 1 ≤ p) → sumN l = n → l ∈ plansN f n
  | 0, _, _, h, _, _ => by omega
  | f + 1, 0, [], _, _, _ => List.mem_singleton.2 rfl
  | f + 1, 0, p :: l, _, h, hs => by have := h p List.mem_cons_self; simp only [sumN] at hs; omega
  | f + 1, n + 1, [], _, _, hs => by simp only [sumN] at hs; omega
  | f + 1, n + 1, p :: l, hf, h, hs => by
    have hp := h p List.mem_cons_self
    simp only [sumN] at hs
    refine List.mem_flatMap.2 ⟨p, mem_upN _ _ _ hp (by omega), List.mem_map.2 ⟨l, mem_plansN f _ l (by omega) (fun q hq => h q (List.mem_cons_of_mem _ hq)) (by omega), rfl⟩⟩
theorem sum_len : ∀ (l : List Nat), (∀ p ∈ l, 1 ≤ p) → l.length ≤ sumN l
  | [], _ => Nat.le_refl _
  | p :: l, h => by
    have := h p List.mem_cons_self
    have := sum_len l fun q hq => h q (List.mem_cons_of_mem _ hq)
    simp only [List.length_cons, sumN]; omega
/-! ## How long reels last -/
structure LastZ (L : Nat) (ρ : Rho) : Prop where
  t0 : ∀ j, j < L → 0 ≤ ρ.iv (100 + 4 * j) ∧ ρ.iv (100 + 4 * j) ≤ ρ.iv (101 + 4 * j) ∧ ρ.iv (101 + 4 * j) ≤ 24000
  t1 : ∀ j, j < L → 0 ≤ ρ.iv (102 + 4 * j) ∧ ρ.iv (102 + 4 * j) ≤ ρ.iv (103 + 4 * j) ∧ ρ.iv (103 + 4 * j) ≤ 24000
  go : 0 ≤ ρ.iv 61 ∧ ρ.iv 61 ≤ ρ.iv 62 ∧ ρ.iv 62 ≤ 3600
  back : 0 ≤ ρ.iv 63 ∧ ρ.iv 63 ≤ ρ.iv 64 ∧ ρ.iv 64 ≤ 3600
theorem lastZ_of {L : Nat} (h0 : 1 ≤ L) (hL : L ≤ 6) {ρ : Rho} (h : okBN L ρ) : LastZ L ρ := by
  have b := h.1.2.2.2
  have q := ivC_in b.1
  have q1 := q (61, 0, 3600) (by simp [bookQ])
  have q2 := q (62, 0, 3600) (by simp [bookQ])
  have q3 := q (63, 0, 3600) (by simp [bookQ])
  have q4 := q (64, 0, 3600) (by simp [bookQ])
  have l1 := BE.t_leq.1 (b.2 (leV 61 62) (by simp [bookLe]))
  have l2 := BE.t_leq.1 (b.2 (leV 63 64) (by simp [bookLe]))
  simp only [IE.den_var] at l1 l2 q1 q2 q3 q4
  refine ⟨fun j hj => ?_, fun j hj => ?_, ⟨q1.1, l1, q2.2⟩, ⟨q3.1, l2, q4.2⟩⟩
  · have := okN_in h0 hL h.1 h.2.1 hj (show 0 < 2 by omega)
    exact this
  · have := okN_in h0 hL h.1 h.2.1 hj (show 1 < 2 by omega)
    rw [show 100 + 4 * j + 2 * 1 = 102 + 4 * j by omega, show 101 + 4 * j + 2 * 1 = 103 + 4 * j by omega] at this
    exact this
theorem LastZ.a {L : Nat} {ρ : Rho} (H : LastZ L ρ) {t e j : Nat} (ht : t < 2) (he : e < 2) (hj : j < L) : 0 ≤ ρ.iv (100 + 4 * j + 2 * t + e) ∧ ρ.iv (100 + 4 * j + 2 * t + e) ≤ 24000 := by
  have a := H.t0 j hj
  have b := H.t1 j hj
  rcases (by omega : t = 0 ∧ e = 0 ∨ t = 0 ∧ e = 1 ∨ t = 1 ∧ e = 0 ∨ t = 1 ∧ e = 1) with ⟨rfl, rfl⟩ | ⟨rfl, rfl⟩ | ⟨rfl, rfl⟩ | ⟨rfl, rfl⟩
  · rw [show 100 + 4 * j + 2 * 0 + 0 = 100 + 4 * j by omega]; omega
  · rw [show 100 + 4 * j + 2 * 0 + 1 = 101 + 4 * j by omega]; omega
  · rw [show 100 + 4 * j + 2 * 1 + 0 = 102 + 4 * j by omega]; omega
  · rw [show 100 + 4 * j + 2 * 1 + 1 = 103 + 4 * j by omega]; omega
def befZ (ρ : Rho) (t e : Nat) : Nat → Int
  | 0 => 0
  | n + 1 => befZ ρ t e n + ρ.iv (100 + 4 * n + 2 * t + e)
theorem befZ_in {L : Nat} {ρ : Rho} (H : LastZ L ρ) {t e : Nat} (ht : t < 2) (he : e < 2) : ∀ n, n ≤ L → 0 ≤ befZ ρ t e n ∧ befZ ρ t e n ≤ 24000 * n
  | 0, _ => ⟨Int.le_refl _, Int.le_refl _⟩
  | n + 1, hn => by
    have i := befZ_in H ht he n (by omega)
    have a := H.a ht he (show n < L by omega)
    simp only [befZ]
    omega
theorem befE_den {L : Nat} (hL : L ≤ 6) {ρ : Rho} (H : LastZ L ρ) {t e : Nat} (ht : t < 2) (he : e < 2) : ∀ n, n ≤ L → (befE t e n).den ρ = befZ ρ t e n
  | 0, _ => rfl
  | n + 1, hn => by
    have i := befZ_in H ht he n (by omega)
    have a := H.a ht he (show n < L by omega)
    have e1 : befE t e (n + 1) = adE (befE t e n) (aV t e n) := rfl
    rw [e1]
    unfold adE
    rw [IE.den_add, befE_den hL H ht he n (by omega)]
    show IntKind.i64.wrap (befZ ρ t e n + ρ.iv (100 + 4 * n + 2 * t + e)) = _
    rw [wrap_sm (by omega) (by omega)]; rfl
/-! ## When reels are there -/
theorem ten_den {ρ : Rho} {a : IE} (h0 : -1000000 ≤ a.den ρ) (h1 : a.den ρ ≤ 1000000) : (tenE a).den ρ = 10 * a.den ρ := by
  unfold tenE
  rw [IE.den_mul, IE.den_lit]
  exact wrap_sm (by omega) (by omega)
theorem repE_mem {a x : IE} : ∀ (n : Nat) (l : List IE), x ∈ repE a n l → x = a ∨ x ∈ l
  | 0, _, h => .inr h
  | n + 1, l, h => by
    have h : x ∈ a :: repE a n l := h
    rcases List.mem_cons.1 h with h | h
    · exact .inl h
    · exact repE_mem n l h
theorem repE_len {a : IE} : ∀ (n : Nat) (l : List IE), (repE a n l).length = n + l.length
  | 0, l => (Nat.zero_add _).symm
  | n + 1, l => by
    have e : repE a (n + 1) l = a :: repE a n l := rfl
    rw [e, List.length_cons, repE_len n l]; omega
theorem atsE_cons (e p : Nat) (plan : List Nat) (next : Nat) (boy : IE) : atsE e (p :: plan) next boy = repE (atE e (next + p) boy) p (atsE e plan (next + p) (adE (atE e (next + p) boy) (tenE (.var (63 + e))))) := rfl
theorem atsE_len (e : Nat) : ∀ (plan : List Nat) (next : Nat) (boy : IE), (atsE e plan next boy).length = sumN plan
  | [], _, _ => rfl
  | p :: plan, next, boy => by rw [atsE_cons, repE_len, atsE_len e plan]; rfl
theorem at_den {L : Nat} (hL : L ≤ 6) {ρ : Rho} (H : LastZ L ρ) {e next : Nat} (he : e < 2) (hn : next ≤ L) {boy : IE} {M : Int} (h0 : 0 ≤ boy.den ρ) (h1 : boy.den ρ ≤ M) (hM : 144000 ≤ M) (hM2 : M ≤ 10000000) :
    (atE e next boy).den ρ = max (boy.den ρ) (befZ ρ 0 e next) + 10 * ρ.iv (61 + e) ∧ 0 ≤ (atE e next boy).den ρ ∧ (atE e next boy).den ρ ≤ M + 36000 := by
  have b := befZ_in H (show 0 < 2 by omega) he next hn
  have g : 0 ≤ ρ.iv (61 + e) ∧ ρ.iv (61 + e) ≤ 3600 := by
    have := H.go
    rcases (by omega : e = 0 ∨ e = 1) with rfl | rfl
    · rw [show 61 + 0 = 61 by omega]; omega
    · rw [show 61 + 1 = 62 by omega]; omega
  have hd : (atE e next boy).den ρ = max (boy.den ρ) (befZ ρ 0 e next) + 10 * ρ.iv (61 + e) := by
    unfold atE adE
    rw [IE.den_add, IE.den_mx, befE_den hL H (by omega) he next hn, ten_den (by rw [IE.den_var]; omega) (by rw [IE.den_var]; omega), IE.den_var]
    exact wrap_sm (by omega) (by omega)
  refine ⟨hd, ?_, ?_⟩ <;> rw [hd] <;> omega
theorem boy_den {L : Nat} {ρ : Rho} (H : LastZ L ρ) {e : Nat} (he : e < 2) {x : IE} {M : Int} (h0 : 0 ≤ x.den ρ) (h1 : x.den ρ ≤ M) (hM : M ≤ 10000000) :
    (adE x (tenE (.var (63 + e)))).den ρ = x.den ρ + 10 * ρ.iv (63 + e) ∧ 0 ≤ (adE x (tenE (.var (63 + e)))).den ρ ∧ (adE x (tenE (.var (63 + e)))).den ρ ≤ M + 36000 := by
  have g : 0 ≤ ρ.iv (63 + e) ∧ ρ.iv (63 + e) ≤ 3600 := by
    have := H.back
    rcases (by omega : e = 0 ∨ e = 1) with rfl | rfl
    · rw [show 63 + 0 = 63 by omega]; omega
    · rw [show 63 + 1 = 64 by omega]; omega
  have hd : (adE x (tenE (.var (63 + e)))).den ρ = x.den ρ + 10 * ρ.iv (63 + e) := by
    unfold adE
    rw [IE.den_add, ten_den (by rw [IE.den_var]; omega) (by rw [IE.den_var]; omega), IE.den_var]
    exact wrap_sm (by omega) (by omega)
  refine ⟨hd, ?_, ?_⟩ <;> rw [hd] <;> omega
theorem atsE_in {L : Nat} (hL : L ≤ 6) {ρ : Rho} (H : LastZ L ρ) {e : Nat} (he : e < 2) : ∀ (plan : List Nat) (next : Nat) (boy : IE) (k : Nat), next + sumN plan ≤ L → plan.length + k ≤ 6 → 0 ≤ boy.den ρ → boy.den ρ ≤ 144000 + 72000 * k →
    ∀ x ∈ atsE e plan next boy, 0 ≤ x.den ρ ∧ x.den ρ ≤ 600000
  | [], _, _, _, _, _, _, _, x, hx => by cases hx
  | p :: plan, next, boy, k, hn, hk, h0, h1, x, hx => by
    simp only [sumN, List.length_cons] at hn hk
    have a := at_den hL H (next := next + p) he (by omega) h0 h1 (by omega) (by omega)
    rw [atsE_cons] at hx
    rcases repE_mem _ _ hx with rfl | hx
    · omega
    · have b := boy_den H he a.2.1 a.2.2 (by omega)
      exact atsE_in hL H he plan (next + p) _ (k + 1) (by omega) (by omega) b.2.1 (by have := b.2.2; push_cast; omega) x hx
/-! ## How late -/
theorem lateE_cons (e2 : Nat) (a : IE) (l : List IE) (i : Nat) (acc : IE) : lateE e2 (a :: l) i acc = lateE e2 l (i + 1) (.mx acc (sbE a (befE 1 e2 i))) := rfl
theorem lateE_den {L : Nat} (hL : L ≤ 6) {ρ : Rho} (H : LastZ L ρ) {e2 : Nat} (he : e2 < 2) : ∀ (l : List IE) (i : Nat) (acc : IE), i + l.length ≤ L → (∀ x ∈ l, 0 ≤ x.den ρ ∧ x.den ρ ≤ 600000) → 0 ≤ acc.den ρ → acc.den ρ ≤ 600000 →
    acc.den ρ ≤ (lateE e2 l i acc).den ρ ∧ (lateE e2 l i acc).den ρ ≤ 600000 ∧ (∀ k x, l[k]? = some x → x.den ρ - befZ ρ 1 e2 (i + k) ≤ (lateE e2 l i acc).den ρ) ∧
      ((lateE e2 l i acc).den ρ = acc.den ρ ∨ ∃ k x, l[k]? = some x ∧ (lateE e2 l i acc).den ρ = x.den ρ - befZ ρ 1 e2 (i + k))
  | [], i, acc, _, _, h0, h1 => ⟨Int.le_refl _, h1, fun k x h => by simp at h, .inl rfl⟩
  | a :: l, i, acc, hi, hl, h0, h1 => by
    simp only [List.length_cons] at hi
    have ha := hl a List.mem_cons_self
    have b := befZ_in H (show 1 < 2 by omega) he i (by omega)
    have hs : (sbE a (befE 1 e2 i)).den ρ = a.den ρ - befZ ρ 1 e2 i := by
      unfold sbE
      rw [IE.den_sub, befE_den hL H (by omega) he i (by omega)]
      exact wrap_sm (by omega) (by omega)
    have hm : (IE.mx acc (sbE a (befE 1 e2 i))).den ρ = max (acc.den ρ) (a.den ρ - befZ ρ 1 e2 i) := by rw [IE.den_mx, hs]
    obtain ⟨r1, r2, r3, r4⟩ := lateE_den hL H he l (i + 1) (.mx acc (sbE a (befE 1 e2 i))) (by omega) (fun x hx => hl x (List.mem_cons_of_mem _ hx)) (by rw [hm]; omega) (by rw [hm]; omega)
    rw [lateE_cons]
    rw [hm] at r1 r4
    refine ⟨by omega, r2, fun k x hx => ?_, ?_⟩
    · cases k with
      | zero => simp only [List.getElem?_cons_zero, Option.some.injEq] at hx; subst hx; rw [Nat.add_zero]; omega
      | succ k =>
        rw [List.getElem?_cons_succ] at hx
        have := r3 k x hx
        rw [show i + (k + 1) = i + 1 + k by omega]; exact this
    · rcases r4 with r4 | ⟨k, x, hx, r4⟩
      · by_cases h : acc.den ρ ≤ a.den ρ - befZ ρ 1 e2 i
        · exact .inr ⟨0, a, rfl, by rw [r4, Nat.add_zero]; omega⟩
        · exact .inl (by omega)
      · exact .inr ⟨k + 1, x, by rw [List.getElem?_cons_succ]; exact hx, by rw [r4, show i + (k + 1) = i + 1 + k by omega]⟩
theorem sec_den {ρ : Rho} {x : IE} (h0 : 0 ≤ x.den ρ) (h1 : x.den ρ ≤ 600000) : 0 ≤ (secE x).den ρ ∧ (secE x).den ρ ≤ 100000 ∧ x.den ρ ≤ 10 * (secE x).den ρ ∧ 10 * (secE x).den ρ ≤ x.den ρ + 9 := by
  have e : (secE x).den ρ = (x.den ρ + 10 - 1) / 10 := by
    have d : (sbE (adE x (.lit 10)) (.lit 1)).den ρ = x.den ρ + 10 - 1 := by
      unfold sbE adE
      have w : IntKind.i64.wrap (x.den ρ + 10) = x.den ρ + 10 := wrap_sm (by omega) (by omega)
      rw [IE.den_sub, IE.den_add, IE.den_lit, IE.den_lit, w]
      exact wrap_sm (by omega) (by omega)
    have : (secE x).den ρ = IntKind.i64.wrap ((sbE (adE x (.lit 10)) (.lit 1)).den ρ |>.tdiv 10) := rfl
    rw [this, d, Int.tdiv_eq_ediv_of_nonneg (by omega)]
    exact wrap_sm (by omega) (by omega)
  rw [e]
  omega
end Go.Sx
