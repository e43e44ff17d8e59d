/- ReD -/
import Derived.Test.YtpdednocbpoikaaDoorReC
import Derived.Test.YtpdednocbpoikaaDoorReK5
import Derived.Test.YtpdednocbpoikaaDoorReK61
import Derived.Test.YtpdednocbpoikaaDoorReK63
namespace Go.Sx
open Go.RowKit Go.Proofs
set_option maxRecDepth 100000
theorem lawEn5_all : lAll (lawEn 5) (plansL 5) = true := by
  have h2 : lAll (lawEn 5) (lDrop (plansL 5) 16) = true := by kernel_rfl
  have h1 := chunk lawEn5b h2
  have h0 := chunk lawEn5a h1
  rw [lDrop_eq, List.drop_zero] at h0
  exact h0
theorem lawEn6_all : lAll (lawEn 6) (plansL 6) = true := by
  have h4 : lAll (lawEn 6) (lDrop (plansL 6) 32) = true := by kernel_rfl
  have h3 := chunk lawEn6_3 h4
  have h2 := chunk lawEn6_2 h3
  have h1 := chunk lawEn6_1 h2
  have h0 := chunk lawEn6_0 h1
  rw [lDrop_eq, List.drop_zero] at h0
  exact h0
theorem lawEn_all {L : Nat} (h0 : 1 ≤ L) (hL : L ≤ 6) {plan : List Nat} (hp : plan ∈ plansL L) : lawEn L plan = true := by
  rcases six h0 hL with rfl | rfl | rfl | rfl | rfl | rfl
  · exact lAll_mem lawEn1 plan hp
  · exact lAll_mem lawEn2 plan hp
  · exact lAll_mem lawEn3 plan hp
  · exact lAll_mem lawEn4 plan hp
  · exact lAll_mem lawEn5_all plan hp
  · exact lAll_mem lawEn6_all plan hp
theorem edge_said {ok : Rho → (Nat → Obj → Prop) → Prop} {L : Nat} (h0 : 1 ≤ L) (hL : L ≤ 6) {e : Nat} (he : e < 2) : CallOk (pOk ok) 15 (argsEd e L) (viewA 2000 (vR L)) (.ret (edV e 2000 L, viewA 2001 (vEd e L))) := by
  have hck : allW [] (endEd e L) (runEd e L) (knOf [] []) = true := by
    have h := lAll_mem ckEd_all L (mem6 h0 hL)
    have h : and (allW [] (endEd 0 L) (runEd 0 L) (knOf [] [])) (allW [] (endEd 1 L) (runEd 1 L) (knOf [] [])) = true := h
    rw [Bool.and_eq_true] at h
    rcases (by omega : e = 0 ∨ e = 1) with rfl | rfl
    · exact h.1
    · exact h.2
  have base := eval_ok (p := pOk ok) (Tryd.tab (fun _ _ _ => none) (fun _ _ _ _ h => by cases h) 2000) 60 15 (argsEd e L) (viewA 2000 (vR L))
  have up : upA 0 (vR L) = true := rfl
  have fr : CallOk (pOk ok) 15 (argsEd e L) (viewA 2000 (vR L)) (runEd e L) := base.frame (n := 2000) (l := vR L) (by omega) rfl (viewR_ok h0 hL)
    (fun g hg => ⟨g.2, viewA_mem 2000 _ 0 up g hg, .refl _⟩) (by rw [viewA_next]; exact Nat.le_refl _) nwEd
  refine CallOk.read (p0 := pOk ok) (p := pOk ok) rfl fr fun ρ b hok Q k => ⟨ρ, hok, SameL.refl _ _, ⟨rfl, fun j o g => ⟨o, g, SameA.refl o⟩⟩, ?_⟩
  have k : Q (edV e 2000 L, viewA 2001 (vEd e L)) := k
  refine allW_ok (rules_nil ρ) (fun K q _ hq => ?_) (runEd e L) _ (knOf_ok (fun c hc => by cases hc) (fun c hc => by cases hc)) hck
  unfold endEd at hq
  simp only [Bool.and_eq_true] at hq
  obtain ⟨q1, q2, q3, q4⟩ := hq
  refine ⟨_, k, by rw [eqAV_eq _ _ q1]; exact SameV.refl _ _, (beq_t.1 q4).trans (viewA_next _ _).symm, fun j o g => ?_⟩
  rcases List.mem_append.1 (viewA_get _ _ _ _ g) with hm | hm
  · exact ⟨o, allO_get q3 hm, SameA.refl o⟩
  · rw [List.mem_singleton] at hm
    cases hm; exact ⟨_, isO_eq q2, SameA.refl _⟩
def mvE (cF c b : Nat) : Nat := if b = 1001 then cF else if b = 2000 then c else b
theorem idsEd (e : Nat) : ∀ l : List Nat, idsLts 0 (lMap (fun j => vj (edN e j)) l) = true
  | [] => rfl
  | _ :: l => idsEd e l
theorem vPE_ro {e L : Nat} {plan : List Nat} : ∀ g ∈ vPE e L plan, g.1 < 2001 ∧ ∃ cs, g.2 = .cells cs 0 false false ∧ idsLts 0 cs = true := fun g hg => by
  simp only [vPE, List.mem_cons, List.not_mem_nil, or_false] at hg
  rcases hg with rfl | rfl | rfl | rfl | rfl | rfl
  · exact ⟨by omega, _, rfl, rfl⟩
  · exact ⟨by omega, _, rfl, rfl⟩
  · exact ⟨by omega, _, rfl, rfl⟩
  · exact ⟨by omega, _, rfl, rfl⟩
  · exact ⟨by omega, _, rfl, idsEd e _⟩
  · exact ⟨by omega, _, rfl, idsN 0 plan⟩
theorem vPE_at {e L cF c : Nat} {plan : List Nat} {h : Heap} (h1 : lessAll h (vR L) = true) (h2 : lessO (ro (edC e L)) (h.get cF) = true) (h3 : lessO (ro (litsN plan)) (h.get c) = true) : ∀ g ∈ vPE e L plan, ∃ o, h.get (mvE cF c g.1) = some o ∧ Less g.2 o := fun g hg => by
  have hl := lessAll_ok h1
  simp only [vPE, List.mem_cons, List.not_mem_nil, or_false] at hg
  rcases hg with rfl | rfl | rfl | rfl | rfl | rfl
  · exact hl _ List.mem_cons_self
  · exact hl _ (List.mem_cons_of_mem _ List.mem_cons_self)
  · exact hl _ (List.mem_cons_of_mem _ (List.mem_cons_of_mem _ List.mem_cons_self))
  · exact hl _ (List.mem_cons_of_mem _ (List.mem_cons_of_mem _ (List.mem_cons_of_mem _ List.mem_cons_self)))
  · exact lessO_ok h2
  · exact lessO_ok h3
section
variable {L : Nat} (h0 : 1 ≤ L) (hL : L ≤ 6) {plan : List Nat} (hp : plan ∈ plansL L) {e : Nat} (he : e < 2) {ok : Rho → (Nat → Obj → Prop) → Prop}
include h0 hL hp he
theorem there_edAt (hok : ∀ ρ m, ok ρ m → okPB L plan ρ) {cF c : Nat} {h : Heap} (h1 : lessAll h (vR L) = true) (h2 : lessO (ro (edC e L)) (h.get cF) = true) (h3 : lessO (ro (litsN plan)) (h.get c) = true) (hn : 2001 ≤ h.next) :
    CallOk (pOk ok) 9 [edV e cF L, .sliceX c 1 0 (lLen plan)] h (thereTE e L plan h) :=
  CallOk.movedG (mv := mvE cF c) (CallOk.weak (ok0 := fun ρ _ => okPB L plan ρ) hok (there_ed h0 hL hp he)) (by omega) (fun b hb => by unfold mvE; rw [if_neg (by omega), if_neg (by omega)])
    (fun g hg => by obtain ⟨a1, cs, a2, a3⟩ := vPE_ro g hg; rw [a2]; exact ⟨a1, rfl, a3⟩) hn (vPE_at h1 h2 h3) fun E => by simp [edV, planA, concL, conc, Env.mvg, mvE, vj]
theorem over_edAt (hok : ∀ ρ m, ok ρ m → okPB L plan ρ ∧ (0 ≤ ρ.iv 98 ∧ ρ.iv 98 ≤ 99999) ∧ ρ.iv (240 + e) = (ovE e plan (.var 98)).den ρ) {cF c : Nat} {h : Heap} (h1 : lessAll h (vR L) = true) (h2 : lessO (ro (edC e L)) (h.get cF) = true) (h3 : lessO (ro (litsN plan)) (h.get c) = true) :
    CallOk (pOk ok) 12 [edV e cF L, .sliceX c 1 0 (lLen plan), vj 98] h (.ret (lastV (.var (240 + e)) (.var (240 + e)), h)) := by
  refine CallOk.moved3 (mv := mvE cF c) (off := fun _ => 0) (over_ed h0 hL hp he hok) (by omega) (fun b hb => ⟨by unfold mvE; rw [if_neg (by omega), if_neg (by omega)], rfl⟩) rfl (fun g hg => ?_) (fun E => ?_)
  · obtain ⟨a1, cs, a2, a3⟩ := vPE_ro g hg
    have := vPE_at (plan := plan) h1 h2 h3 g hg
    rw [a2] at this
    exact ⟨a1, cs, a2, a3, less_part0 this⟩
  · simp [edV, planA, concL, conc, Env.mv3, mvE, vj]
end
theorem fitE_ok {e L : Nat} {plan : List Nat} {fa : AV} {cF c s z n : Nat} {h : Heap} (k : fitE e L plan fa cF c s z n h = true) : fa = edV e cF L ∧ s = 1 ∧ z = 0 ∧ n = lLen plan ∧ lessAll h (vR L) = true ∧ lessO (ro (edC e L)) (h.get cF) = true ∧ lessO (ro (litsN plan)) (h.get c) = true ∧ 2001 ≤ h.next := by
  unfold fitE at k
  simp only [Bool.and_eq_true] at k
  obtain ⟨⟨k1, k2, k3, k4⟩, k5, k6, k7, k8⟩ := k
  exact ⟨eqAV_eq _ _ k1, beq_t.1 k2, beq_t.1 k3, beq_t.1 k4, k5, k6, k7, ble_t.1 k8⟩
structure OkEnds (L : Nat) (plan : List Nat) (ρ : Rho) (m : Nat → Obj → Prop) : Prop where
  pb : okPB L plan ρ
  tr : OkTr L plan ρ
  pk : okPick ρ m
  ov : ∀ e, e < 2 → ρ.iv (240 + e) = (ovE e plan (.var 98)).den ρ
  ov2 : ∀ e, e < 2 → ρ.iv (242 + e) = (ovE e plan lateX).den ρ
  st : ρ.iv 98 = turnF (ρ.iv 97) 100000
  st2 : ρ.iv 94 = turnF (ρ.iv 93) 900
noncomputable def pEn (L : Nat) (plan : List Nat) : Par := pOk (OkEnds L plan)
theorem OkEnds.s {L : Nat} {plan : List Nat} {ρ : Rho} {m : Nat → Obj → Prop} (h : OkEnds L plan ρ m) : (0 ≤ ρ.iv 98 ∧ ρ.iv 98 ≤ 99999) ∧ 0 ≤ ρ.iv 94 ∧ ρ.iv 94 ≤ 899 := by
  have a := turnF_in (n := ρ.iv 97) (m := 100000) (by omega)
  have b := turnF_in (n := ρ.iv 93) (m := 900) (by omega)
  have := h.st; have := h.st2
  omega
theorem late_den {ρ : Rho} (h1 : 0 ≤ ρ.iv 98 ∧ ρ.iv 98 ≤ 99999) (h2 : 0 ≤ ρ.iv 94 ∧ ρ.iv 94 ≤ 899) : lateX.den ρ = min 99999 (ρ.iv 98 + ρ.iv 94) := by
  show (IE.mn (.lit 99999) (adE (.var 98) (.var 94))).den ρ = _
  unfold adE
  rw [IE.den_mn, IE.den_lit, IE.den_add, IE.den_var, IE.den_var, wrap_sm (by omega) (by omega)]
theorem turn_named {p : Par} (hP : p.P = Tryd.prog) {a n : Nat} {c : Int} (hc : c ≤ 9223372036854775807) (hok : ∀ ρ b, p.okB ρ b → ρ.iv n = turnF (ρ.iv a) c) (h : Heap) : CallOk p 11 [vj a, .int .i64 (.lit c)] h (.ret (vj n, h)) := by
  refine CallOk.read (p0 := p) (p := p) rfl (turn_at (p := p) hP.symm (.var a) (.lit c) h) fun ρ b hk Q k => ⟨ρ, hk, SameL.refl _ _, ⟨rfl, fun j o g => ⟨o, g, by cases p; exact SameA.refl o⟩⟩, ?_⟩
  have k : Q (vj n, h) := k
  simp only [T.Holds]
  rw [if_pos (by rw [BE.t_leq, IE.den_lit]; exact hc)]
  exact ⟨_, k, SameV.int (hok ρ b hk).symm, rfl, fun j o g => ⟨o, g, by cases p; exact SameA.refl o⟩⟩
theorem orcEO_ok {L : Nat} (h0 : 1 ≤ L) (hL : L ≤ 6) {plan : List Nat} (hp : plan ∈ plansL L) {args : List AV} {h : Heap} {t : T (AV × Heap)} (e : orcEO L plan args h = some t) : CallOk (pEn L plan) 12 args h t := by
  unfold orcEO at e
  split at e
  · rename_i cF a1 a2 a3 fs c s z n k x
    generalize hfa : AV.agg (.sliceX cF a1 a2 a3 :: fs) = fa at e
    obtain ⟨j1, e1⟩ := cond_some e
    clear e
    simp only [Bool.and_eq_true] at j1
    obtain ⟨i1, i2, i3, i4⟩ := j1
    rw [isI64_eq i1, beq_t.1 i2, beq_t.1 i3, beq_t.1 i4]
    have dec : ∀ {b : Bool} {x y : Option (T (AV × Heap))}, cond b x y = some t → (b = true ∧ x = some t) ∨ y = some t := fun {b x y} e => by
      cases b with
      | true => exact .inl ⟨rfl, e⟩
      | false => exact .inr e
    rcases dec e1 with ⟨j2, e2⟩ | e2
    · simp only [Bool.and_eq_true] at j2
      obtain ⟨j3, j4, j5⟩ := j2
      rw [eqAV_eq _ _ j3]
      rcases dec e2 with ⟨hx, e3⟩ | e3
      · cases e3
        rw [eqIE_eq _ _ hx]
        exact over_at h0 hL hp (ckOv_all h0 hL hp) (x := .var 98) (a := .var 240) (b := .var 241) (ok := OkEnds L plan) (fun ρ m k => ⟨⟨k.pb.1, k.pb.2.carry⟩, k.s.1.1, k.s.1.2, k.ov 0 (by omega), k.ov 1 (by omega)⟩) j4 j5
      · obtain ⟨hx, e4⟩ := cond_some e3
        cases e4
        rw [eqIE_eq _ _ hx]
        refine over_at h0 hL hp (ckOv_all h0 hL hp) (x := lateX) (a := .var 242) (b := .var 243) (ok := OkEnds L plan) (fun ρ m k => ?_) j4 j5
        have d := late_den k.s.1 k.s.2
        have s := k.s
        exact ⟨⟨k.pb.1, k.pb.2.carry⟩, by omega, by omega, k.ov2 0 (by omega), k.ov2 1 (by omega)⟩
    · obtain ⟨hx, e3⟩ := cond_some e2
      rw [eqIE_eq _ _ hx]
      rcases dec e3 with ⟨f1, e4⟩ | e4
      · cases e4
        obtain ⟨g1, rfl, rfl, rfl, g5, g6, g7, g8⟩ := fitE_ok f1
        rw [g1]
        exact over_edAt h0 hL hp (e := 0) (by omega) (ok := OkEnds L plan) (fun ρ m k => ⟨k.pb, k.s.1, k.ov 0 (by omega)⟩) g5 g6 g7
      · obtain ⟨f1, e5⟩ := cond_some e4
        cases e5
        obtain ⟨g1, rfl, rfl, rfl, g5, g6, g7, g8⟩ := fitE_ok f1
        rw [g1]
        exact over_edAt h0 hL hp (e := 1) (by omega) (ok := OkEnds L plan) (fun ρ m k => ⟨k.pb, k.s.1, k.ov 1 (by omega)⟩) g5 g6 g7
  · cases e
theorem orcET_ok {L : Nat} (h0 : 1 ≤ L) (hL : L ≤ 6) {plan : List Nat} (hp : plan ∈ plansL L) {args : List AV} {h : Heap} {t : T (AV × Heap)} (e : orcET L plan args h = some t) : CallOk (pEn L plan) 9 args h t := by
  unfold orcET at e
  split at e
  · rename_i cF a1 a2 a3 fs c s z n
    generalize hfa : AV.agg (.sliceX cF a1 a2 a3 :: fs) = fa at e
    cases h1 : fitE 0 L plan fa cF c s z n h with
    | true =>
      rw [h1, cond_true] at e
      cases e
      obtain ⟨g1, rfl, rfl, rfl, g5, g6, g7, g8⟩ := fitE_ok h1
      rw [g1]
      exact there_edAt h0 hL hp (e := 0) (by omega) (ok := OkEnds L plan) (fun ρ m k => k.pb) g5 g6 g7 g8
    | false =>
      rw [h1, cond_false] at e
      obtain ⟨f1, e5⟩ := cond_some e
      cases e5
      obtain ⟨g1, rfl, rfl, rfl, g5, g6, g7, g8⟩ := fitE_ok f1
      rw [g1]
      exact there_edAt h0 hL hp (e := 1) (by omega) (ok := OkEnds L plan) (fun ρ m k => k.pb) g5 g6 g7 g8
  · cases e
theorem orcEn_ok {L : Nat} (h0 : 1 ≤ L) (hL : L ≤ 6) {plan : List Nat} (hp : plan ∈ plansL L) : ∀ f args h t, orcEn L plan f args h = some t → CallOk (pEn L plan) f args h t := by
  intro f args h t e
  unfold orcEn at e
  have dec : ∀ {n : Nat} {a b : Option (T (AV × Heap))}, cond (Nat.beq f n) a b = some t → (f = n ∧ a = some t) ∨ b = some t := fun {n a b} e => by
    cases hf : Nat.beq f n with
    | true => rw [hf, cond_true] at e; exact .inl ⟨beq_t.1 hf, e⟩
    | false => rw [hf, cond_false] at e; exact .inr e
  rcases dec e with ⟨rfl, e⟩ | e
  · exact CallOk.weak (fun _ _ _ => trivial) (carried_orc e)
  rcases dec e with ⟨rfl, e⟩ | e
  · exact smallO_ok (CallOk.weak (fun ρ m h => h.pb.1.1) (soundB_said h0 hL)) (by omega) rfl (viewR_ok h0 hL) e
  rcases dec e with ⟨rfl, e⟩ | e
  · exact smallO_ok (CallOk.weak (ok0 := fun ρ m => OkTr L plan ρ ∧ okPick ρ m) (fun ρ m (h : OkEnds L plan ρ m) => ⟨h.tr, h.pk⟩) (chosen_said h0 hL hp)) (by omega) rfl (viewR_ok h0 hL) e
  rcases dec e with ⟨rfl, e5⟩ | e
  · cases h1 : eqAVs args [vj 97, .int .i64 (.lit 100000)] with
    | true =>
      rw [h1, cond_true] at e5
      rw [eqAVs_eq _ _ h1]
      cases e5
      exact turn_named (p := pEn L plan) rfl (by omega) (fun ρ b ⟨m, hm, _⟩ => OkEnds.st hm) h
    | false =>
      rw [h1, cond_false] at e5
      obtain ⟨h2, e6⟩ := cond_some e5
      rw [eqAVs_eq _ _ h2]
      cases e6
      exact turn_named (p := pEn L plan) rfl (by omega) (fun ρ b ⟨m, hm, _⟩ => OkEnds.st2 hm) h
  rcases dec e with ⟨rfl, e⟩ | e
  · exact orcEO_ok h0 hL hp e
  rcases dec e with ⟨rfl, e⟩ | e
  · split at e
    · rename_i t' ht
      cases e
      exact smallO_ok (edge_said (ok := OkEnds L plan) h0 hL (e := 0) (by omega)) (by omega) rfl (viewR_ok h0 hL) ht
    · exact smallO_ok (edge_said (ok := OkEnds L plan) h0 hL (e := 1) (by omega)) (by omega) rfl (viewR_ok h0 hL) e
  obtain ⟨h9, e⟩ := cond_some e
  have := beq_t.1 h9; subst this
  split at e
  · rename_i t' ht
    cases e
    exact orcP_gen h0 hL hp (ok := OkEnds L plan) (fun ρ m h => h.pb) ht
  · exact orcET_ok h0 hL hp e
theorem tog_ok {ρ : Rho} : ∀ (plan : List Nat) (at_ n0 n1 : Nat) (b0 b1 : IE), (∀ i a, (atsE 0 plan n0 b0)[i]? = some a → ρ.iv (200 + 2 * (at_ + i)) = a.den ρ) → (∀ i a, (atsE 1 plan n1 b1)[i]? = some a → ρ.iv (201 + 2 * (at_ + i)) = a.den ρ) → ∀ c ∈ togC plan at_, c.den ρ = true
  | [], _, _, _, _, _, _, _, c, hc => by cases hc
  | p :: plan, at_, n0, n1, b0, b1, H0, H1, c, hc => by
    have hc : c ∈ lApp (lMap (fun k => BE.cmp .eql (.var (200 + 2 * (at_ + k))) (.var (200 + 2 * at_))) (upN p 0)) (lApp (lMap (fun k => BE.cmp .eql (.var (201 + 2 * (at_ + k))) (.var (201 + 2 * at_))) (upN p 0)) (togC plan (at_ + p))) := hc
    rcases lApp_mem hc with hc | hc
    · rw [lMap_eq, List.mem_map] at hc
      obtain ⟨k, hk, rfl⟩ := hc
      have hk := upN_lt _ _ _ hk
      have a := H0 k (atE 0 (n0 + p) b0) (by rw [atsE_cons, repE_get, if_pos (by omega)])
      have b := H0 0 (atE 0 (n0 + p) b0) (by rw [atsE_cons, repE_get, if_pos (by omega)])
      rw [BE.t_eql, IE.den_var, IE.den_var, a, ← b]
      rfl
    rcases lApp_mem hc with hc | hc
    · rw [lMap_eq, List.mem_map] at hc
      obtain ⟨k, hk, rfl⟩ := hc
      have hk := upN_lt _ _ _ hk
      have a := H1 k (atE 1 (n1 + p) b1) (by rw [atsE_cons, repE_get, if_pos (by omega)])
      have b := H1 0 (atE 1 (n1 + p) b1) (by rw [atsE_cons, repE_get, if_pos (by omega)])
      rw [BE.t_eql, IE.den_var, IE.den_var, a, ← b]
      rfl
    · refine tog_ok plan (at_ + p) (n0 + p) (n1 + p) (adE (atE 0 (n0 + p) b0) (tenE (.var (63 + 0)))) (adE (atE 1 (n1 + p) b1) (tenE (.var (63 + 1)))) (fun i a ha => ?_) (fun i a ha => ?_) c hc
      · have := H0 (p + i) a (by rw [atsE_cons, repE_get, if_neg (by omega), Nat.add_sub_cancel_left]; exact ha)
        rwa [← Nat.add_assoc] at this
      · have := H1 (p + i) a (by rw [atsE_cons, repE_get, if_neg (by omega), Nat.add_sub_cancel_left]; exact ha)
        rwa [← Nat.add_assoc] at this
theorem over_mono {L : Nat} (hL : L ≤ 6) {ρ : Rho} (H : LastZ L ρ) {e : Nat} (he : e < 2) : ∀ (l : List IE) (i : Nat) (a b : IE), i + l.length ≤ L → (∀ x ∈ l, 0 ≤ x.den ρ ∧ x.den ρ ≤ 600000) → 0 ≤ a.den ρ → a.den ρ ≤ b.den ρ → b.den ρ ≤ 1000000 + 24000 * i → (overE e l i a).den ρ ≤ (overE e l i b).den ρ
  | [], _, _, _, _, _, _, h, _ => h
  | x :: l, i, a, b, hi, hx, h0, h1, h2 => by
    simp only [List.length_cons] at hi
    have hx0 := hx x List.mem_cons_self
    have z := H.a (t := 1) (e := e) (j := i) (by omega) he (by omega)
    have av : aV 1 e i = .var (100 + 4 * i + 2 * 1 + e) := rfl
    generalize 100 + 4 * i + 2 * 1 + e = v at z av
    have m0 : (IE.mx a x).den ρ = max (a.den ρ) (x.den ρ) := IE.den_mx
    have m1 : (IE.mx b x).den ρ = max (b.den ρ) (x.den ρ) := IE.den_mx
    have d0 := now_den (ρ := ρ) (x := .mx a x) (v := v) (by rw [m0]; omega) (by rw [m0]; omega) z.1 z.2
    have d1 := now_den (ρ := ρ) (x := .mx b x) (v := v) (by rw [m1]; omega) (by rw [m1]; omega) z.1 z.2
    rw [overE_cons, overE_cons, av]
    exact over_mono hL H he l (i + 1) _ _ (by omega) (fun y hy => hx y (List.mem_cons_of_mem _ hy)) (by rw [d0, m0]; omega) (by rw [d0, d1, m0, m1]; omega) (by rw [d1, m1]; push_cast; omega)
theorem ends_kn {L : Nat} (h0 : 1 ≤ L) (hL : L ≤ 6) {plan : List Nat} (hp : plan ∈ plansL L) {ρ : Rho} {m : Nat → Obj → Prop} (T : OkEnds L plan ρ m) : KnOk ρ (knOf endsQ (endsC plan)) := by
  have W := waitZ_of h0 hL hp T.pb
  have H := W.last
  have s := T.s
  obtain ⟨p1, p2⟩ := plansN_mem _ _ _ hp
  have p2 : sumN plan = L := p2
  have pl := sum_len plan p1
  have len : ∀ e, (thereE e plan).length = L := fun e => by unfold thereE; rw [atsE_len, p2]
  have bd : ∀ e, e < 2 → ∀ x ∈ thereE e plan, 0 ≤ x.den ρ ∧ x.den ρ ≤ 600000 := fun e he => atsE_in hL H he plan 0 (.lit 0) 0 (by omega) (by omega) (Int.le_refl _) (by rw [IE.den_lit]; omega)
  have dl := late_den s.1 s.2
  have t0 : (tenE (.var 98)).den ρ = 10 * ρ.iv 98 := ten_den (by rw [IE.den_var]; omega) (by rw [IE.den_var]; omega)
  have t1 : (tenE lateX).den ρ = 10 * lateX.den ρ := ten_den (by omega) (by omega)
  have mono : ∀ e, e < 2 → ρ.iv (240 + e) ≤ ρ.iv (242 + e) := fun e he => by
    rw [T.ov e he, T.ov2 e he]
    exact over_mono hL H he (thereE e plan) 0 (tenE (.var 98)) (tenE lateX) (by rw [len]; omega) (bd e he) (by omega) (by omega) (by omega)
  have nm : ∀ e, e < 2 → ∀ i a, (thereE e plan)[i]? = some a → ρ.iv (200 + 2 * (0 + i) + e) = a.den ρ := fun e he i a ha => by
    have hi : i < L := by rw [← len e]; exact (List.getElem?_eq_some_iff.1 ha).1
    obtain ⟨b, b1, b2⟩ := there_val p2 T.pb.2 he hi
    rw [ha] at b1; cases b1
    rw [Nat.zero_add]; exact b2
  refine knOf_ok (fun c hc => ?_) fun c hc => ?_
  · simp only [endsQ, ivC, List.mem_cons, List.not_mem_nil, or_false] at hc
    rcases hc with rfl | rfl | rfl | rfl
    · rw [BE.t_leq]; exact s.1.1
    · rw [BE.t_leq]; exact s.1.2
    · rw [BE.t_leq]; exact s.2.1
    · rw [BE.t_leq]; exact s.2.2
  · simp only [endsC, List.mem_cons] at hc
    rcases hc with rfl | rfl | hc
    · unfold leV; rw [BE.t_leq]; exact mono 0 (by omega)
    · unfold leV; rw [BE.t_leq]; exact mono 1 (by omega)
    · refine tog_ok plan 0 0 0 (.lit 0) (.lit 0) (fun i a ha => nm 0 (by omega) i a ha) (fun i a ha => ?_) c hc
      have := nm 1 (by omega) i a ha
      rwa [show 200 + 2 * (0 + i) + 1 = 201 + 2 * (0 + i) by omega] at this
theorem law_end4 {ok : Rho → (Nat → Obj → Prop) → Prop} {orc : FuncId → List AV → Heap → Option (T (AV × Heap))} {L : Nat} (ho : ∀ f args h t, orc f args h = some t → CallOk (pOk ok) f args h t) {E : Env} {w : World} {vs : List Value} {K : Kn}
    (hck : allK isTrueK (evalN ⟨Sx.Tryd.ft.get, lFind Sx.Tryd.rt, 2000, orc⟩ 60 false 4 (argsEn L) (viewA 2000 (vR L))) K = true) (hK : KnOk E.ρ K)
    (HS : HeapOk (pOk ok) E (viewA 2000 (vR L)) (Base.of w) w) (ha : concL E (argsEn L) = some vs) : Calls Tryd.prog 4 vs.toArray w fun e w' => e = .returned (.bool true) ∧ Below w.heap.size w w' := by
  have key := allK_ok (fun K a H h => isTrueK_ok H h) _ _ hK hck
  obtain ⟨r1, r2⟩ := eval_ok (Tryd.tab orc ho 2000) 60 4 (argsEn L) (viewA 2000 (vR L)) vs E (Base.of w) w _ (fun cv w' => cv = .bool true ∧ Below w.heap.size w w') key HS ha
    (fun v h' E2 w' cv hq2 hle HH' hv2 => by
      obtain ⟨b, hb1, hb2⟩ := hq2
      refine ⟨?_, Base.keeps_below HH'.below⟩
      have hb1 : v = .bool b := hb1
      rw [hb1] at hv2
      simp only [conc, Option.some.injEq] at hv2
      rw [← hv2, hle.ρ, hb2])
  refine r2.mono ?_
  rintro e w' ⟨cv, rfl, rfl, hb⟩
  exact ⟨rfl, hb⟩
theorem ends_valid {L : Nat} (h0 : 1 ≤ L) (hL : L ≤ 6) {plan : List Nat} (hp : plan ∈ plansL L) {E : Env} {w : World} {vs : List Value} (HS : HeapOk (pEn L plan) E (viewA 2000 (vR L)) (Base.of w) w) (ha : concL E (argsEn L) = some vs) :
    Calls Tryd.prog 4 vs.toArray w fun e w' => e = .returned (.bool true) ∧ Below w.heap.size w w' := by
  obtain ⟨m, hm, _⟩ := HS.ok
  exact law_end4 (orc := orcEn L plan) (orcEn_ok h0 hL hp) (lawEn_all h0 hL hp) (ends_kn h0 hL hp hm) HS ha
end Go.Sx
