/- THE LAW OF WHAT IS OVER IN TIME, CALLED WITH WHATEVER CAN BE READ. -/
import Derived.Test.YtpejfdjeejdocaaDoorLicG
import Derived.Test.YtpejfdjeejdocaaDoorLicO1a
import Derived.Test.YtpejfdjeejdocaaDoorLicO1b
import Derived.Test.YtpejfdjeejdocaaDoorLicO2a
import Derived.Test.YtpejfdjeejdocaaDoorLicO2b
import Derived.Test.YtpejfdjeejdocaaDoorLicO3a
import Derived.Test.YtpejfdjeejdocaaDoorLicO3b
import Derived.Test.YtpejfdjeejdocaaDoorLicO4a
import Derived.Test.YtpejfdjeejdocaaDoorLicO4b
import Derived.Test.YtpejfdjeejdocaaDoorLicL
import Derived.Test.YtpejfdjeejdocaaDoorLicS
import Derived.Test.YtpejfdjeejdocaaDoorLicK1
import Derived.Test.YtpejfdjeejdocaaDoorLicK2
import Derived.Test.YtpejfdjeejdocaaDoorLicK3a
import Derived.Test.YtpejfdjeejdocaaDoorLicK3b
import Derived.Test.YtpejfdjeejdocaaDoorLicK4a
import Derived.Test.YtpejfdjeejdocaaDoorLicK4b
/-! THE LAW OF WHAT IS OVER IN TIME: for a town of some kind, wherever the names mean what they should. -/
namespace Go.Sx
open Go.RowKit Go.Proofs
set_option maxRecDepth 100000
noncomputable def got (o : Option (T (AV × Heap))) : T (AV × Heap) :=
  match o with
  | some t => t
  | none => .fail 77
theorem got_ok {p : Par} {f : FuncId} {args : List AV} {h : Heap} {o : Option (T (AV × Heap))} (H : ∀ t, o = some t → CallOk p f args h t) : CallOk p f args h (got o) := by
  cases o with
  | some t => exact H t rfl
  | none => intro vs E w0 w Q K k; exact k.elim
noncomputable def ckAt (c : CSpec) (o : Option (T (AV × Heap))) : Bool := servesW [] c.u (only (got o)) (knOf [] c.cs)
noncomputable def turnR (a b : IE) : Option (T (AV × Heap)) := turnC.orc (turnAt a b).args (viewHeap 2000 [])
noncomputable def chooseR : Option (T (AV × Heap)) := chooseC.orc chooseAt.args (viewHeap 2000 [])
theorem ck_turn1 : ckAt (turnAt (.var 87) (.lit 1440)) (turnR (.var 87) (.lit 1440)) = true := by kernel_rfl
theorem ck_turn2 : ckAt (turnAt (.var 88) (.lit 1440)) (turnR (.var 88) (.lit 1440)) = true := by kernel_rfl
theorem ck_turn3 : ckAt (turnAt (.var 89) (.lit 90)) (turnR (.var 89) (.lit 90)) = true := by kernel_rfl
theorem ck_choose : ckAt chooseAt chooseR = true := by kernel_rfl
theorem ids_named : lAll (fun cv : CSpec × AV => idsC cv.1) namedL = true := by kernel_rfl
section
variable {q : Shp} {ok : Bool}
theorem at_ok {c : CSpec} {v : AV} (hm : (c, v) ∈ namedL) {o : Option (T (AV × Heap))} (ho : ∀ t, o = some t → CallOk pT c.f c.args (viewHeap c.nv c.view) t) (hck : ckAt c o = true) (hnv : 1000 ≤ c.nv)
    {args : List AV} {h : Heap} {t : T (AV × Heap)} (e : c.orcX v args h = some t) : CallOk (pL q ok) c.f args h t := by
  have hids : idsC c = true := lAll_mem ids_named _ hm
  unfold idsC at hids
  simp only [Bool.and_eq_true] at hids
  refine CSpec.okX (p0 := pT) (p := pL q ok) (got_ok ho) (fun ρ hd => ⟨[], knOf [] c.cs, fun r hr => (List.not_mem_nil hr).elim, knOf_ok (fun d hc => by simp [ivC] at hc) hd, hck⟩) hnv hids.1 hids.2 (fun ρ b hb => (pL_ok hb).named _ hm) e
theorem named_ok : ∀ cv ∈ namedL, ∀ args h t, cv.1.orcX cv.2 args h = some t → CallOk (pL q ok) cv.1.f args h t := by
  intro cv hcv args h t e
  have hcv' := hcv
  simp only [namedL, List.mem_cons, List.not_mem_nil, or_false] at hcv'
  rcases hcv' with rfl | rfl | rfl | rfl
  · exact at_ok hcv (fun t e => turn_orc rfl e) ck_turn1 (Nat.le_of_ble_eq_true rfl) e
  · exact at_ok hcv (fun t e => turn_orc rfl e) ck_turn2 (Nat.le_of_ble_eq_true rfl) e
  · exact at_ok hcv (fun t e => turn_orc rfl e) ck_turn3 (Nat.le_of_ble_eq_true rfl) e
  · exact at_ok hcv (fun t e => choose_orc rfl e) ck_choose (Nat.le_of_ble_eq_true rfl) e
theorem namedOrc_ok {p : Par} {f : FuncId} {args : List AV} {h : Heap} {t : T (AV × Heap)} : ∀ (l : List (CSpec × AV)), (∀ cv ∈ l, ∀ t, cv.1.orcX cv.2 args h = some t → CallOk p cv.1.f args h t) → namedOrc f args h l = some t → CallOk p f args h t
  | [], _, e => by cases e
  | c :: l, H, e => by
    have e : cond (Nat.beq f c.1.f) (match c.1.orcX c.2 args h with
      | some t => some t
      | none => namedOrc f args h l) (namedOrc f args h l) = some t := e
    have ih := namedOrc_ok l (fun cv hcv => H cv (List.mem_cons_of_mem _ hcv)) (f := f) (t := t)
    cases hf : Nat.beq f c.1.f with
    | false => rw [hf] at e; exact ih e
    | true =>
      rw [hf, cond_true] at e
      have := beq_t.1 hf; subst this
      split at e
      · rename_i u hu; cases e; exact H c List.mem_cons_self _ hu
      · exact ih e
theorem sh2_mem {a : Nat} {q : Shp} (h : q ∈ sh1 a) : q ∈ sh2 a [0, 1] ∨ q ∈ sh2 a [2, 3, 4] := by
  simp only [sh1, sh2, List.mem_flatMap] at h ⊢
  obtain ⟨b, hb, hc⟩ := h
  simp only [List.mem_cons, List.not_mem_nil, or_false] at hb
  rcases hb with rfl | rfl | rfl | rfl | rfl
  · exact .inl ⟨0, by simp, hc⟩
  · exact .inl ⟨1, by simp, hc⟩
  · exact .inr ⟨2, by simp, hc⟩
  · exact .inr ⟨3, by simp, hc⟩
  · exact .inr ⟨4, by simp, hc⟩
theorem both_all (hq : InSh q) : bothCk q = true := by
  rcases hq with h | h | h | h <;> rcases sh2_mem h with h | h
  · exact lAll_mem over1a q h
  · exact lAll_mem over1b q h
  · exact lAll_mem over2a q h
  · exact lAll_mem over2b q h
  · exact lAll_mem over3a q h
  · exact lAll_mem over3b q h
  · exact lAll_mem over4a q h
  · exact lAll_mem over4b q h
theorem both_of (hq : InSh q) : soundCk q ok = true ∧ overCk q ok = true := by
  have h := both_all hq
  unfold bothCk at h
  simp only [Bool.and_eq_true] at h
  cases ok with
  | true => exact ⟨h.1.1, h.2.1⟩
  | false => exact ⟨h.1.2, h.2.2⟩
variable (hq : InSh q)
include hq
theorem orcL_ok : ∀ f args h t, orcL q ok f args h = some t → CallOk (pL q ok) f args h t := by
  intro f args h t e
  unfold orcL at e
  cases h1 : Nat.beq f 23 with
  | true => rw [h1] at e; have := beq_t.1 h1; subst this; exact CallOk.lift (stamped_orc e)
  | false =>
    rw [h1, cond_false] at e
    cases h2 : Nat.beq f 53 with
    | true => rw [h2] at e; have := beq_t.1 h2; subst this; exact know_orc hq e
    | false =>
      rw [h2, cond_false] at e
      cases h3 : Nat.beq f 36 with
      | true => rw [h3] at e; have := beq_t.1 h3; subst this; exact sound_orc hq (both_of hq).1 e
      | false => rw [h3, cond_false] at e; exact namedOrc_ok _ (fun cv hcv t e => named_ok cv hcv args h t e) e
theorem tabsL : TabOk (pL q ok) Sx.Tryd.tt.get (tbL q ok) := Tryd.tab (orcL q ok) (orcL_ok hq) 2000
/-- the law, for a town of some kind -/
theorem over_town {E : Env} {w : World} {vs : List Value} (hv : ∀ g ∈ viewT q, ViewIn w E g) (hf : ∀ b, 2000 ≤ b → E.σ b = none) (hg : ∀ b, b < 1000 → E.σ b = some (b, 0)) (hn : E.n ≤ 2000)
    (ha : concL E (overArgs q) = some vs) (hiv : ∀ c ∈ ivC nameQ, c.den E.ρ = true) (hK : ∀ c ∈ overK q ok, c.den E.ρ = true) (hR : RulesOk E.ρ overR) (hok : OkT q ok E.ρ) :
    Calls Tryd.prog 8 vs.toArray w fun e w' => e = .returned (.bool true) ∧ Below w.heap.size w w' := by
  have hck : overCk q ok = true := (both_of hq).2
  have hu : (T.ret (AV.bool (.lit true)) : T AV).Holds E.ρ (fun b => b = .bool (.lit true)) := rfl
  have key := servesX_ok hR hu _ _ (knOf_ok hiv hK) hck
  unfold only at key
  rw [T.holds_bind] at key
  have HS : HeapOk (pL q ok) E (viewHeap 2000 (viewT q)) (Base.of w) w := view_ok hv hf hg hn (pL_okB hok _)
  obtain ⟨r1, r2⟩ := eval_ok (tabsL hq) 60 8 (overArgs q) (viewHeap 2000 (viewT q)) vs E (Base.of w) w _ (fun cv w' => cv = .bool true ∧ Below w.heap.size w w') key HS ha
    (fun v h' E2 w' cv hq2 hle HH' hv2 => by
      obtain ⟨b, rfl, _, hs⟩ := hq2
      refine ⟨?_, Base.keeps_below HH'.below⟩
      have := hs E2 hle.ρ
      rw [hv2] at this
      simpa [conc, BE.den] using this)
  refine r2.mono ?_
  rintro e w' ⟨cv, rfl, rfl, hb⟩
  exact ⟨rfl, hb⟩
end
end Go.Sx
/-! THE LAW OF WHAT IS OVER IN TIME: lists that are too short, or too long. -/
namespace Go.Sx
open Go.RowKit Go.Proofs
set_option maxRecDepth 100000
noncomputable def townU : AV := townL (.sliceU 40) (.sliceU 41) (.sliceU 42)
noncomputable def overU : List AV := [townU, .agg [vi 87, vi 88, vi 89, vi 90]]
noncomputable def orcU (f : FuncId) (args : List AV) (h : Heap) : Option (T (AV × Heap)) := cond (Nat.beq f 23) (closedOrc glV args h) none
noncomputable def tbU : Tabs := ⟨Sx.Tryd.ft.get, lFind Sx.Tryd.rt, 2000, orcU⟩
noncomputable def lawU (cs : List BE) : Bool := allK isTrueK (evalN tbU 60 false 8 overU (viewHeap 2000 glV)) (knOf [] cs)
theorem lawU_few : lawU [.cmp .leq (.var 40) (.lit 0)] = true := by kernel_rfl
theorem lawU_kinds : lawU [.cmp .leq (.lit 5) (.var 40)] = true := by kernel_rfl
theorem lawU_barred : lawU [.cmp .leq (.lit 5) (.var 41)] = true := by kernel_rfl
theorem lawU_held : lawU [.cmp .leq (.lit 5) (.var 42)] = true := by kernel_rfl
theorem tabsU : TabOk pT Sx.Tryd.tt.get tbU := Tryd.tab orcU (fun f args h t e => by
  unfold orcU at e
  obtain ⟨h1, h2⟩ := cond_some e
  have := beq_t.1 h1; subst this
  exact stamped_orc h2) 2000
theorem over_long {E : Env} {w : World} {vs : List Value} {cs : List BE} (h1 : lawU cs = true) (hv : ∀ g ∈ glV, ViewIn w E g) (hf : ∀ b, 2000 ≤ b → E.σ b = none) (hg : ∀ b, b < 1000 → E.σ b = some (b, 0)) (hn : E.n ≤ 2000)
    (ha : concL E overU = some vs) (hcs : ∀ c ∈ cs, c.den E.ρ = true) : Calls Tryd.prog 8 vs.toArray w fun e w' => e = .returned (.bool true) ∧ Below w.heap.size w w' := by
  have hK : KnOk E.ρ (knOf [] cs) := knOf_ok (fun c hc => by simp [ivC] at hc) hcs
  exact law_view tabsU hv hf hg hn ha (allK_ok (fun K a H h => isTrueK_ok H h) _ _ hK h1) (Par.okB_all (fun _ _ => trivial) _ _)
end Go.Sx
/-! THE LAW OF WHAT IS OVER IN TIME, CALLED WITH WHATEVER CAN BE READ. -/
namespace Go.Sx
open Go.RowKit Go.Proofs
set_option maxRecDepth 100000
/-! ## What the names mean -/
noncomputable def leafI (ρ : Rho) (t : T AV) : Int := match t.leaf ρ with
  | some (.int _ e) => e.den ρ
  | _ => 0
noncomputable def leafB (ρ : Rho) (t : T AV) : Int := match t.leaf ρ with
  | some (.bool b) => if b.den ρ = true then 1 else 0
  | _ => 0
noncomputable def rho2 (q : Shp) (ρ : Rho) : Rho := ⟨fun j => if 60 ≤ j ∧ j < 70 then leafI ρ (only (nextRun q (j - 60))) else ρ.iv j, ρ.bv, ρ.fi, ρ.fb, ρ.ov⟩
noncomputable def rho3 (q : Shp) (ρ : Rho) : Rho := ⟨fun j => if 70 ≤ j ∧ j < 80 then leafB ρ (only (goRun q (j - 70))) else ρ.iv j, ρ.bv, ρ.fi, ρ.fb, ρ.ov⟩
theorem upTo_mem : ∀ (n j : Nat), j ∈ upTo n ↔ j < n
  | 0, j => by simp [upTo]
  | n + 1, j => by simp only [upTo, List.mem_append, List.mem_singleton, upTo_mem n j]; omega
theorem inSh_of {a b c : Nat} (h1 : 1 ≤ a) (h2 : a ≤ 4) (h3 : b ≤ 4) (h4 : c ≤ 4) : InSh (a, b, c) := by
  have key : ∀ a, (a, b, c) ∈ sh1 a := fun a => by
    simp only [sh1, List.mem_flatMap, List.mem_map]
    exact ⟨b, by simp only [List.mem_cons, List.not_mem_nil, or_false]; omega, c, by simp only [List.mem_cons, List.not_mem_nil, or_false]; omega, rfl⟩
  have ha : a = 1 ∨ a = 2 ∨ a = 3 ∨ a = 4 := by omega
  rcases ha with rfl | rfl | rfl | rfl
  · exact .inl (key 1)
  · exact .inr (.inl (key 2))
  · exact .inr (.inr (.inl (key 3)))
  · exact .inr (.inr (.inr (key 4)))
theorem inSh_le {q : Shp} (h : InSh q) : q.2.2 ≤ 4 := by
  have key : ∀ a, q ∈ sh1 a → q.2.2 ≤ 4 := fun a h => by
    simp only [sh1, List.mem_flatMap, List.mem_map, List.mem_cons, List.not_mem_nil, or_false] at h
    obtain ⟨b, _, c, hc, rfl⟩ := h
    show c ≤ 4
    omega
  rcases h with h | h | h | h <;> exact key _ h
theorem sh3_mem {a : Nat} {q : Shp} (h : q ∈ sh1 a) : q ∈ sh2 a [0, 1, 2] ∨ q ∈ sh2 a [3, 4] := by
  simp only [sh1, sh2, List.mem_flatMap] at h ⊢
  obtain ⟨b, hb, hc⟩ := h
  simp only [List.mem_cons, List.not_mem_nil, or_false] at hb
  rcases hb with rfl | rfl | rfl | rfl | rfl
  · exact .inl ⟨0, by simp, hc⟩
  · exact .inl ⟨1, by simp, hc⟩
  · exact .inl ⟨2, by simp, hc⟩
  · exact .inr ⟨3, by simp, hc⟩
  · exact .inr ⟨4, by simp, hc⟩
theorem know_all {q : Shp} (hq : InSh q) : knowCk q = true := by
  rcases hq with h | h | h | h
  · exact lAll_mem know1 q h
  · exact lAll_mem know2 q h
  · rcases sh3_mem h with h | h
    · exact lAll_mem know3a q h
    · exact lAll_mem know3b q h
  · rcases sh3_mem h with h | h
    · exact lAll_mem know4a q h
    · exact lAll_mem know4b q h
theorem know_cases {q : Shp} (hq : InSh q) {ρ : Rho} (he : ∀ c ∈ emptyC q, c.den ρ = true) : ∃ ok, (only (knowRun q)).leaf ρ = some (knowV q ok) ∧ ∀ c ∈ soundK q ok, c.den ρ = true := by
  have hK : KnOk ρ (knOf [] (emptyC q)) := knOf_ok (fun c hc => by simp [ivC] at hc) he
  have hold : (knowRun q).Holds ρ (fun r => r.1 = errV ∨ r.1 = okV q ∧ ∀ c ∈ csT q, c.den ρ = true) := allW_ok (R := []) (Q := knowQ q) (rules_nil ρ) (fun K a H h => by
    unfold knowQ at h
    cases h1 : eqAV a.1 errV with
    | true => exact .inl (eqAV_eq _ _ h1)
    | false =>
      rw [h1, cond_false] at h
      simp only [Bool.and_eq_true] at h
      refine .inr ⟨eqAV_eq _ _ h.1, fun c hc => ?_⟩
      have := lAll_mem' h.2 c hc
      split at this
      · rename_i b hb; subst this; exact decK_ok H c _ hb
      · cases this) _ _ hK (know_all hq)
  obtain ⟨v, hv, h⟩ := only_leaf (P := fun v => v = errV ∨ v = okV q ∧ ∀ c ∈ csT q, c.den ρ = true) hold
  rcases h with rfl | ⟨rfl, hc⟩
  · exact ⟨false, hv, fun c hc => by
      simp only [soundK, cond_false, List.append_nil] at hc
      exact he c hc⟩
  · exact ⟨true, hv, fun c hc2 => by
      simp only [soundK, cond_true, List.mem_append] at hc2
      rcases hc2 with h | h
      · exact he c h
      · exact hc c h⟩
section
variable {q : Shp} (hq : InSh q) (ρ1 : Rho)
include hq
theorem next_ok : ∀ j ∈ upTo q.2.2, (∀ d ∈ (nextC q j).cs, d.den (rho3 q (rho2 q ρ1)) = true) → ∃ v, (only (nextRun q j)).leaf (rho3 q (rho2 q ρ1)) = some v ∧ intV 60 v = true ∧ SameE (rho3 q (rho2 q ρ1)) v (vi (60 + j)) := by
  intro j hj hcs
  have hj4 : j < 4 := by
    have h1 := (upTo_mem _ _).1 hj
    have h2 := inSh_le hq
    omega
  have hck := (nextCk_of hq hj).1
  simp only [nextCk, Bool.and_eq_true] at hck
  obtain ⟨_, hA, hT⟩ := hck
  have hold : (nextRun q j).Holds (rho3 q (rho2 q ρ1)) (fun r => intV 60 r.1 = true) := allW_ok (R := []) (Q := nextQ) (rules_nil _) (fun K a _ h => h) _ _ (knOf_ok (fun c hc => by simp [ivC] at hc) hcs) hA
  obtain ⟨v, hv, hi⟩ := only_leaf (P := fun v => intV 60 v = true) hold
  refine ⟨v, hv, hi, ?_⟩
  obtain ⟨e, rfl, he⟩ := intV_is hi
  have hlow : ∀ i, i < 60 → (rho3 q (rho2 q ρ1)).iv i = ρ1.iv i := fun i hi => by
    simp only [rho3, rho2]
    rw [if_neg (by omega), if_neg (by omega)]
  have hl := (varsT_leaf (n := 60) (ρ := ρ1) (ρ' := rho3 q (rho2 q ρ1)) hlow rfl ⟨rfl, rfl⟩ _ hT).1
  have e1 : (rho3 q (rho2 q ρ1)).iv (60 + j) = e.den ρ1 := by
    simp only [rho3, rho2]
    rw [if_neg (by omega), if_pos (by omega), Nat.add_sub_cancel_left]
    unfold leafI
    rw [← hl, hv]
  have e2 := varsI_den (ρ := ρ1) (ρ' := rho3 q (rho2 q ρ1)) hlow ⟨rfl, rfl⟩ e he
  intro E hE
  simp only [vi, conc, IE.den, hE, e1, e2]
theorem go_ok : ∀ j ∈ upTo q.2.2, (∀ d ∈ (goC q j).cs, d.den (rho3 q (rho2 q ρ1)) = true) → ∃ v, (only (goRun q j)).leaf (rho3 q (rho2 q ρ1)) = some v ∧ boolV 70 v = true ∧ SameE (rho3 q (rho2 q ρ1)) v (goV j) := by
  intro j hj hcs
  have hj4 : j < 4 := by
    have h1 := (upTo_mem _ _).1 hj
    have h2 := inSh_le hq
    omega
  have hck := (nextCk_of hq hj).2
  simp only [goCk, Bool.and_eq_true] at hck
  obtain ⟨_, hA, hT⟩ := hck
  have hold : (goRun q j).Holds (rho3 q (rho2 q ρ1)) (fun r => boolV 70 r.1 = true) := allW_ok (R := []) (Q := goQ) (rules_nil _) (fun K a _ h => h) _ _ (knOf_ok (fun c hc => by simp [ivC] at hc) hcs) hA
  obtain ⟨v, hv, hi⟩ := only_leaf (P := fun v => boolV 70 v = true) hold
  refine ⟨v, hv, hi, ?_⟩
  obtain ⟨b, rfl, he⟩ := boolV_is hi
  have hlow : ∀ i, i < 70 → (rho3 q (rho2 q ρ1)).iv i = (rho2 q ρ1).iv i := fun i hi => by
    show (if 70 ≤ i ∧ i < 80 then _ else _) = _
    rw [if_neg (by omega)]
  have hl := (varsT_leaf (n := 70) (ρ := rho2 q ρ1) (ρ' := rho3 q (rho2 q ρ1)) hlow rfl ⟨rfl, rfl⟩ _ hT).1
  have e1 : (rho3 q (rho2 q ρ1)).iv (70 + j) = if b.den (rho2 q ρ1) = true then 1 else 0 := by
    show (if 70 ≤ 70 + j ∧ 70 + j < 80 then leafB (rho2 q ρ1) (only (goRun q (70 + j - 70))) else _) = _
    rw [if_pos (by omega), Nat.add_sub_cancel_left]
    unfold leafB
    rw [← hl, hv]
  have e2 := varsB_den (ρ := rho2 q ρ1) (ρ' := rho3 q (rho2 q ρ1)) hlow rfl ⟨rfl, rfl⟩ b he
  intro E hE
  simp only [goV, conc, hE, e2]
  congr 2
  show _ = ((rho3 q (rho2 q ρ1)).iv (70 + j) == 1)
  rw [e1]
  cases b.den (rho2 q ρ1) <;> simp
end
end Go.Sx
/-! THE LAW OF WHAT IS OVER IN TIME: any town, any numbers. -/
namespace Go.Sx
open Go.RowKit Go.Proofs
set_option maxRecDepth 100000
/-- a list of rows of some numbers each -/
def SlIn (W : World) (k : Nat) (s : Value) : Prop := ∃ (b : Option Addr) (len cap : Nat) (z : Nat → Int), s = .slice b len cap ∧ len ≤ cap ∧
  (0 < len → ∃ c x cells el fz, b = some ⟨c, x, none⟩ ∧ W.heap[c]? = some (.cells cells el fz) ∧ ∀ i, i < k * len → cells[x + i]? = some (.int .i64 (z i)))
def adr (b : Option Addr) : Nat × Nat := match b with
  | some a => (a.block, a.off)
  | none => (0, 0)
def highF (lo d : Int) : Int := if lo + d < 1439 then lo + d else 1439
/-- the numbers of a town, and of the law -/
def ivO (nf zk zb zh : Nat → Int) (lk lb lh : Int) (n0 n1 n2 n3 : Int) (j : Nat) : Int :=
  if j < 10 then nf j else if j < 30 then zk (j - 10) else if j < 40 then zb (j - 30) else if j = 40 then lk else if j = 41 then lb else if j = 42 then lh else if j < 50 then 0 else if j < 60 then zh (j - 50)
  else if j = 87 then n0 else if j = 88 then n1 else if j = 89 then n2 else if j = 90 then n3
  else if j = 91 then turnF n0 1440 else if j = 92 then turnF n1 1440 else if j = 93 then turnF n2 90 else if j = 94 then chooseF (turnF n1 1440) (highF (turnF n1 1440) (turnF n2 90)) n3 else 0
def rhoO (iv : Nat → Int) (sk sb sh : Value) : Rho := ⟨iv, fun _ => false, fun _ _ _ _ => 0, fun _ _ _ _ => false, fun j => if j = 40 then sk else if j = 41 then sb else sh⟩
def envO (ρ : Rho) (pk pb ph : Nat × Nat) (ck cb ch : Nat) : Env := ⟨ρ, fun x => if x < 1000 then some (x, 0) else if x = 1001 then some pk else if x = 1002 then some pb else if x = 1003 then some ph else none,
  fun x => if x = 1001 then ck else if x = 1002 then cb else ch, 2000, fun _ => #[]⟩
theorem cellsUp_vals (E : Env) (z : Nat → Int) : ∀ (k i : Nat), (∀ j, i ≤ j → j < i + k → E.ρ.iv j = z j) → concL E (cellsUp k i) = some ((List.range k).map fun q => .int .i64 (z (i + q)))
  | 0, i, _ => rfl
  | k + 1, i, h => by
    simp only [cellsUp, vi, concL, conc, IE.den]
    rw [h i (Nat.le_refl _) (by omega), cellsUp_vals E z k (i + 1) fun j h1 h2 => h j (by omega) (by omega)]
    simp only [List.range_succ_eq_map, List.map_cons, List.map_map, Nat.add_zero]
    congr 2
    apply List.map_congr_left
    intro q _
    simp only [Function.comp, Nat.succ_eq_add_one]
    rw [show i + 1 + q = i + (q + 1) by omega]
theorem lst0_conc {E : Env} {b s i L cap : Nat} {p : Option Addr} (hL : L = 0 → E.ρ.ov i = .slice p L cap ∧ E.ρ.iv i = (L : Int)) (hs : 0 < L → ∃ c x, p = some ⟨c, x, none⟩ ∧ E.σ b = some (c, x) ∧ E.κ b = cap) (hlc : L ≤ cap) : conc E (lst0 b s i L) = some (.slice p L cap) := by
  cases L with
  | zero =>
    obtain ⟨h1, h2⟩ := hL rfl
    simp only [lst0, conc, h1, h2, if_true]
  | succ n =>
    obtain ⟨c, x, rfl, h2, h3⟩ := hs (by omega)
    simp only [lst0, conc, h2, h3]
    rw [if_pos (by omega)]
    simp
theorem cells_view {W : World} {E : Env} {b i n c x : Nat} {cells : Array Value} {el : TypeId} {fz : Nat × Nat} {z : Nat → Int} (hs : E.σ b = some (c, x)) (hz : ∀ j, i ≤ j → j < i + n → E.ρ.iv j = z (j - i))
    (hc : W.heap[c]? = some (.cells cells el fz)) (hcell : ∀ j, j < n → cells[x + j]? = some (.int .i64 (z j))) : ViewIn W E (b, cellsUp n i) := by
  refine ⟨c, x, _, cells, el, fz, hs, cellsUp_vals E (fun j => z (j - i)) n i hz, hc, fun j hj => ?_⟩
  simp only [List.length_map, List.length_range] at hj
  rw [hcell j hj, List.getElem?_map, List.getElem?_range hj]
  simp
theorem blk0_view {W : World} {E : Env} {b i n : Nat} {l : List (Nat × List AV)} (hl : ∀ g ∈ l, ViewIn W E g) (h : 0 < n → ViewIn W E (b, cellsUp n i)) : ∀ g ∈ blk0 b i n l, ViewIn W E g := by
  cases n with
  | zero => exact hl
  | succ k =>
    intro g hg
    simp only [blk0] at hg
    rcases List.mem_cons.1 hg with rfl | hg
    · exact h (by omega)
    · exact hl g hg
theorem gtr_den {ρ : Rho} {a b : IE} : (BE.cmp .gtr a b).den ρ = true ↔ a.den ρ > b.den ρ := by
  show decide (a.den ρ > b.den ρ) = true ↔ _
  exact decide_eq_true_iff
/-- what the names of the law mean -/
theorem names_of {ρ : Rho} (h91 : ρ.iv 91 = turnF (ρ.iv 87) 1440) (h92 : ρ.iv 92 = turnF (ρ.iv 88) 1440) (h93 : ρ.iv 93 = turnF (ρ.iv 89) 90) (h94 : ρ.iv 94 = chooseF (ρ.iv 92) (highF (ρ.iv 92) (ρ.iv 93)) (ρ.iv 90)) :
    (∀ cv ∈ namedL, (∀ d ∈ cv.1.cs, d.den ρ = true) ∧ ∃ b, cv.1.u.leaf ρ = some b ∧ SameE ρ cv.2 b) ∧ (∀ c ∈ ivC nameQ, c.den ρ = true) ∧ (∀ c ∈ nameC, c.den ρ = true) ∧ RulesOk ρ overR := by
  have b91 := turnF_in (n := ρ.iv 87) (m := 1440) (by omega)
  have b92 := turnF_in (n := ρ.iv 88) (m := 1440) (by omega)
  have b93 := turnF_in (n := ρ.iv 89) (m := 90) (by omega)
  rw [← h91] at b91; rw [← h92] at b92; rw [← h93] at b93
  have hw : IntKind.i64.wrap (ρ.iv 92 + ρ.iv 93) = ρ.iv 92 + ρ.iv 93 := IntWalk.i64_in _ (by omega)
  have hH : highE.den ρ = highF (ρ.iv 92) (ρ.iv 93) := by
    show (if IntKind.i64.wrap (ρ.iv 92 + ρ.iv 93) < 1439 then IntKind.i64.wrap (ρ.iv 92 + ρ.iv 93) else 1439) = _
    rw [hw]; rfl
  have hHi : ρ.iv 92 ≤ highF (ρ.iv 92) (ρ.iv 93) ∧ highF (ρ.iv 92) (ρ.iv 93) ≤ 1439 := by
    unfold highF
    split <;> omega
  have b94 := chooseF_in (n := ρ.iv 90) hHi.1
  rw [← h94] at b94
  generalize highF (ρ.iv 92) (ρ.iv 93) = H at *
  have one : ∀ {a b : IE}, a.den ρ = b.den ρ → SameE ρ (.int .i64 a) (.int .i64 b) := fun h E hE => by subst hE; simp only [conc, h]
  refine ⟨fun cv hcv => ?_, fun c hc => ?_, fun c hc => ?_, fun r hr => ?_⟩
  · simp only [namedL, List.mem_cons, List.not_mem_nil, or_false] at hcv
    rcases hcv with rfl | rfl | rfl | rfl
    · exact ⟨fun d hd => (List.not_mem_nil hd).elim, _, rfl, one h91⟩
    · exact ⟨fun d hd => (List.not_mem_nil hd).elim, _, rfl, one h92⟩
    · exact ⟨fun d hd => (List.not_mem_nil hd).elim, _, rfl, one h93⟩
    · refine ⟨fun d hd => ?_, _, rfl, one ?_⟩
      · have hd : d ∈ lowC := hd
        simp only [lowC, List.mem_cons, List.not_mem_nil, or_false] at hd
        rcases hd with rfl | rfl
        · rw [BE.t_leq, IE.den_lit, IE.den_var]; omega
        · rw [BE.t_leq, IE.den_lit, hH]; omega
      · show ρ.iv 94 = chooseF (ρ.iv 92) (highE.den ρ) (ρ.iv 90)
        rw [hH]; exact h94
  · simp only [ivC, nameQ, List.mem_cons, List.not_mem_nil, or_false] at hc
    rcases hc with rfl | rfl | rfl | rfl | rfl | rfl | rfl | rfl <;> rw [BE.t_leq, IE.den_lit, IE.den_var] <;> omega
  · simp only [nameC, List.mem_cons, List.not_mem_nil, or_false] at hc
    rcases hc with rfl | rfl | rfl | rfl
    · rw [BE.t_leq, IE.den_var, hH]; omega
    · rw [BE.t_leq, IE.den_lit, hH]; omega
    · rw [BE.t_leq, IE.den_var, IE.den_var]; omega
    · rw [BE.t_leq, IE.den_var, hH]; omega
  · have hadd : ∀ x : IE, 0 ≤ x.den ρ → x.den ρ ≤ 1439 → (endE x).den ρ = ρ.iv 91 + x.den ρ := fun x h1 h2 => by
      show IntKind.i64.wrap (ρ.iv 91 + x.den ρ) = _
      exact IntWalk.i64_in _ (by omega)
    have e1 := hadd highE (by rw [hH]; omega) (by rw [hH]; omega)
    have e2 := hadd (.var 94) (by rw [IE.den_var]; omega) (by rw [IE.den_var]; omega)
    have e3 := hadd (.var 92) (by rw [IE.den_var]; omega) (by rw [IE.den_var]; omega)
    rw [hH] at e1
    rw [IE.den_var] at e2 e3
    simp only [overR, List.mem_cons, List.not_mem_nil, or_false] at hr
    rcases hr with rfl | rfl
    · intro hp
      have p1 := hp _ List.mem_cons_self
      have p2 := hp _ (List.mem_cons_of_mem _ List.mem_cons_self)
      rw [BE.t_leq, e1, IE.den_var] at p1
      rw [gtr_den, e2, IE.den_var] at p2
      omega
    · intro hp
      have p1 := hp _ List.mem_cons_self
      have p2 := hp _ (List.mem_cons_of_mem _ List.mem_cons_self)
      rw [BE.t_leq, e2, IE.den_var] at p1
      rw [gtr_den, e3, IE.den_var] at p2
      omega
end Go.Sx
/-! THE LAW OF WHAT IS OVER IN TIME, CALLED WITH WHATEVER CAN BE READ. -/
namespace Go.Sx
open Go.RowKit Go.Proofs
set_option maxRecDepth 100000
theorem over_any {W : World} {ρ0 : Rho} (hG : ∀ g ∈ glV, GlobIn W ρ0 g) {sk sb sh : Value} {nf : Nat → Int} {n0 n1 n2 n3 : Int} (hk : SlIn W 3 sk) (hb : SlIn W 2 sb) (hh : SlIn W 2 sh) :
    Calls Tryd.prog 8 #[.agg #[sk, .int .i64 (nf 0), sb, .int .i64 (nf 1), .int .i64 (nf 2), sh], .agg #[.int .i64 n0, .int .i64 n1, .int .i64 n2, .int .i64 n3]] W fun e w' => e = .returned (.bool true) ∧ Below W.heap.size W w' := by
  obtain ⟨pk, lk, ck, zk, rfl, hkc, hk⟩ := hk
  obtain ⟨pb, lb, cb, zb, rfl, hbc, hb⟩ := hb
  obtain ⟨ph, lh, ch, zh, rfl, hhc, hh⟩ := hh
  have hσ : ∀ ρ x, x < 1000 → (envO ρ (adr pk) (adr pb) (adr ph) ck cb ch).σ x = some (x, 0) := fun ρ x hx => by simp [envO, hx]
  have hnone : ∀ ρ x, 2000 ≤ x → (envO ρ (adr pk) (adr pb) (adr ph) ck cb ch).σ x = none := fun ρ x hx => by
    simp only [envO]; rw [if_neg (by omega), if_neg (by omega), if_neg (by omega), if_neg (by omega)]
  have gvw : ∀ ρ, ∀ g ∈ glV, ViewIn W (envO ρ (adr pk) (adr pb) (adr ph) ck cb ch) g := fun ρ => glob_view glV_lit hG (hσ ρ)
  let ρ1 := rhoO (ivO nf zk zb zh lk lb lh n0 n1 n2 n3) (.slice pk lk ck) (.slice pb lb cb) (.slice ph lh ch)
  -- the numbers that the law is called with
  have rest : ∀ ρ : Rho, (∀ j, j < 3 → ρ.iv j = nf j) → ρ.iv 87 = n0 → ρ.iv 88 = n1 → ρ.iv 89 = n2 → ρ.iv 90 = n3 → ∀ (a b c : AV), conc (envO ρ (adr pk) (adr pb) (adr ph) ck cb ch) a = some (.slice pk lk ck) → conc (envO ρ (adr pk) (adr pb) (adr ph) ck cb ch) b = some (.slice pb lb cb) →
      conc (envO ρ (adr pk) (adr pb) (adr ph) ck cb ch) c = some (.slice ph lh ch) → concL (envO ρ (adr pk) (adr pb) (adr ph) ck cb ch) [townL a b c, .agg [vi 87, vi 88, vi 89, vi 90]] =
        some [.agg #[.slice pk lk ck, .int .i64 (nf 0), .slice pb lb cb, .int .i64 (nf 1), .int .i64 (nf 2), .slice ph lh ch], .agg #[.int .i64 n0, .int .i64 n1, .int .i64 n2, .int .i64 n3]] := by
    intro ρ h0 h87 h88 h89 h90 a b c ha hb hc
    have i0 := h0 0 (by omega)
    have i1 := h0 1 (by omega)
    have i2 := h0 2 (by omega)
    have t1 : conc (envO ρ (adr pk) (adr pb) (adr ph) ck cb ch) (townL a b c) = some (.agg #[.slice pk lk ck, .int .i64 (nf 0), .slice pb lb cb, .int .i64 (nf 1), .int .i64 (nf 2), .slice ph lh ch]) := by
      unfold townL
      rw [conc]
      have : concL (envO ρ (adr pk) (adr pb) (adr ph) ck cb ch) [a, vi 0, b, vi 1, vi 2, c] = some [.slice pk lk ck, .int .i64 (nf 0), .slice pb lb cb, .int .i64 (nf 1), .int .i64 (nf 2), .slice ph lh ch] := by
        refine concL_cons.2 ⟨_, _, ha, concL_cons.2 ⟨.int .i64 (nf 0), _, by simp only [vi, conc, IE.den, envO, i0], concL_cons.2 ⟨_, _, hb, concL_cons.2 ⟨.int .i64 (nf 1), _, by simp only [vi, conc, IE.den, envO, i1], concL_cons.2 ⟨.int .i64 (nf 2), _, by simp only [vi, conc, IE.den, envO, i2], concL_cons.2 ⟨_, _, hc, rfl, rfl⟩, rfl⟩, rfl⟩, rfl⟩, rfl⟩, rfl⟩
      rw [this]; rfl
    refine concL_cons.2 ⟨_, _, t1, ?_, rfl⟩
    simp only [vi, concL, conc, IE.den, envO, h87, h88, h89, h90]
    rfl
  have a0 : ∀ j, j < 3 → ρ1.iv j = nf j := fun j hj => by
    show ivO nf zk zb zh lk lb lh n0 n1 n2 n3 j = nf j
    unfold ivO; rw [if_pos (by omega)]
  have a40 : ρ1.iv 40 = lk ∧ ρ1.iv 41 = lb ∧ ρ1.iv 42 = lh := ⟨rfl, rfl, rfl⟩
  have a90 : ρ1.iv 87 = n0 ∧ ρ1.iv 88 = n1 ∧ ρ1.iv 89 = n2 ∧ ρ1.iv 90 = n3 := ⟨rfl, rfl, rfl, rfl⟩
  -- lists that are too short, or too long
  have long : ∀ cs, lawU cs = true → (∀ c ∈ cs, c.den ρ1 = true) → Calls Tryd.prog 8 #[.agg #[.slice pk lk ck, .int .i64 (nf 0), .slice pb lb cb, .int .i64 (nf 1), .int .i64 (nf 2), .slice ph lh ch], .agg #[.int .i64 n0, .int .i64 n1, .int .i64 n2, .int .i64 n3]] W fun e w' => e = .returned (.bool true) ∧ Below W.heap.size W w' := by
    intro cs hl hcs
    have hu : ∀ i s (l : Nat) p c, ρ1.ov i = s → s = .slice p l c → ρ1.iv i = (l : Int) → conc (envO ρ1 (adr pk) (adr pb) (adr ph) ck cb ch) (.sliceU i) = some (.slice p l c) := fun i s l p c h1 h2 h3 => by
      subst h2
      have h1 : (envO ρ1 (adr pk) (adr pb) (adr ph) ck cb ch).ρ.ov i = .slice p l c := h1
      have h3 : (envO ρ1 (adr pk) (adr pb) (adr ph) ck cb ch).ρ.iv i = (l : Int) := h3
      simp only [conc, h1, h3, if_true]
    exact over_long hl (gvw ρ1) (hnone ρ1) (hσ ρ1) (Nat.le_refl _) (rest ρ1 a0 rfl rfl rfl rfl _ _ _ (hu 40 _ _ _ _ rfl rfl rfl) (hu 41 _ _ _ _ rfl rfl rfl) (hu 42 _ _ _ _ rfl rfl rfl)) hcs
  by_cases k0 : lk = 0
  · exact long _ lawU_few fun c hc => by
      rcases List.mem_singleton.1 hc with rfl
      rw [BE.t_leq, IE.den_lit, IE.den_var, a40.1]; omega
  by_cases k5 : 5 ≤ lk
  · exact long _ lawU_kinds fun c hc => by
      rcases List.mem_singleton.1 hc with rfl
      rw [BE.t_leq, IE.den_lit, IE.den_var, a40.1]; omega
  by_cases b5 : 5 ≤ lb
  · exact long _ lawU_barred fun c hc => by
      rcases List.mem_singleton.1 hc with rfl
      rw [BE.t_leq, IE.den_lit, IE.den_var, a40.2.1]; omega
  by_cases h5 : 5 ≤ lh
  · exact long _ lawU_held fun c hc => by
      rcases List.mem_singleton.1 hc with rfl
      rw [BE.t_leq, IE.den_lit, IE.den_var, a40.2.2]; omega
  -- a town of some kind
  have hq : InSh (lk, lb, lh) := inSh_of (by omega) (by omega) (by omega) (by omega)
  let q : Shp := (lk, lb, lh)
  let ρ := rho3 q (rho2 q ρ1)
  have hiv : ∀ j, j < 60 ∨ 80 ≤ j → ρ.iv j = ρ1.iv j := fun j hj => by
    show (if 70 ≤ j ∧ j < 80 then _ else (if 60 ≤ j ∧ j < 70 then _ else ρ1.iv j)) = _
    rw [if_neg (by omega), if_neg (by omega)]
  have hov : ρ.ov = ρ1.ov := rfl
  have hz : ∀ j, 10 ≤ j → j < 10 + 3 * lk → ρ.iv j = zk (j - 10) := fun j h1 h2 => by
    rw [hiv j (by omega)]
    show ivO nf zk zb zh lk lb lh n0 n1 n2 n3 j = _
    unfold ivO; rw [if_neg (by omega), if_pos (by omega)]
  have hzb : ∀ j, 30 ≤ j → j < 30 + 2 * lb → ρ.iv j = zb (j - 30) := fun j h1 h2 => by
    rw [hiv j (by omega)]
    show ivO nf zk zb zh lk lb lh n0 n1 n2 n3 j = _
    unfold ivO; rw [if_neg (by omega), if_neg (by omega), if_pos (by omega)]
  have hzh : ∀ j, 50 ≤ j → j < 50 + 2 * lh → ρ.iv j = zh (j - 50) := fun j h1 h2 => by
    rw [hiv j (by omega)]
    show ivO nf zk zb zh lk lb lh n0 n1 n2 n3 j = _
    unfold ivO; rw [if_neg (by omega), if_neg (by omega), if_neg (by omega), if_neg (by omega), if_neg (by omega), if_neg (by omega), if_neg (by omega), if_pos (by omega)]
  let E := envO ρ (adr pk) (adr pb) (adr ph) ck cb ch
  have vw : ∀ g ∈ viewT q, ViewIn W E g := by
    refine blk0_view (blk0_view (blk0_view (gvw ρ) fun hp => ?_) fun hp => ?_) fun hp => ?_
    · obtain ⟨c, x, cells, el, fz, rfl, h1, h2⟩ := hh (by simp only [q] at hp; omega)
      exact cells_view (c := c) (x := x) (z := zh) rfl hzh h1 h2
    · obtain ⟨c, x, cells, el, fz, rfl, h1, h2⟩ := hb (by simp only [q] at hp; omega)
      exact cells_view (c := c) (x := x) (z := zb) rfl hzb h1 h2
    · obtain ⟨c, x, cells, el, fz, rfl, h1, h2⟩ := hk (by simp only [q] at hp; omega)
      exact cells_view (c := c) (x := x) (z := zk) rfl hz h1 h2
  have ha : concL E (overArgs q) = some [.agg #[.slice pk lk ck, .int .i64 (nf 0), .slice pb lb cb, .int .i64 (nf 1), .int .i64 (nf 2), .slice ph lh ch], .agg #[.int .i64 n0, .int .i64 n1, .int .i64 n2, .int .i64 n3]] := by
    refine rest ρ (fun j hj => (hiv j (by omega)).trans (a0 j hj)) (hiv 87 (by omega)) (hiv 88 (by omega)) (hiv 89 (by omega)) (hiv 90 (by omega)) _ _ _ ?_ ?_ ?_
    · refine lst0_conc (fun h => absurd h k0) (fun hp => ?_) hkc
      obtain ⟨c, x, _, _, _, rfl, _, _⟩ := hk hp
      exact ⟨c, x, rfl, rfl, rfl⟩
    · refine lst0_conc (fun h => ⟨rfl, (hiv 41 (by omega)).trans a40.2.1⟩) (fun hp => ?_) hbc
      obtain ⟨c, x, _, _, _, rfl, _, _⟩ := hb hp
      exact ⟨c, x, rfl, rfl, rfl⟩
    · refine lst0_conc (fun h => ⟨rfl, (hiv 42 (by omega)).trans a40.2.2⟩) (fun hp => ?_) hhc
      obtain ⟨c, x, _, _, _, rfl, _, _⟩ := hh hp
      exact ⟨c, x, rfl, rfl, rfl⟩
  have hem : ∀ c ∈ emptyC q, c.den ρ = true := by
    have e : ∀ (x y : Int), x = y → (x == y) = true := fun x y h => by rw [h]; exact beq_self_eq_true _
    intro c hc
    simp only [emptyC, List.mem_append] at hc
    rcases hc with hc | hc
    · cases hb0 : Nat.beq q.2.1 0 with
      | false => rw [hb0] at hc; exact (List.not_mem_nil hc).elim
      | true =>
        rw [hb0] at hc
        rcases List.mem_singleton.1 hc with rfl
        have h0 : lb = 0 := beq_t.1 hb0
        refine e _ _ ?_
        show ρ.iv 41 = 0
        rw [hiv 41 (by omega), a40.2.1, h0]; rfl
    · cases hb0 : Nat.beq q.2.2 0 with
      | false => rw [hb0] at hc; exact (List.not_mem_nil hc).elim
      | true =>
        rw [hb0] at hc
        rcases List.mem_singleton.1 hc with rfl
        have h0 : lh = 0 := beq_t.1 hb0
        refine e _ _ ?_
        show ρ.iv 42 = 0
        rw [hiv 42 (by omega), a40.2.2, h0]; rfl
  obtain ⟨ok, hleaf, hsound⟩ := know_cases hq hem
  obtain ⟨m1, m2, m3, m4⟩ := names_of (ρ := ρ) (by rw [hiv 91 (by omega), hiv 87 (by omega)]; rfl) (by rw [hiv 92 (by omega), hiv 88 (by omega)]; rfl) (by rw [hiv 93 (by omega), hiv 89 (by omega)]; rfl)
    (by rw [hiv 94 (by omega), hiv 92 (by omega), hiv 93 (by omega), hiv 90 (by omega)]; rfl)
  exact over_town (q := q) (ok := ok) hq vw (hnone ρ) (hσ ρ) (Nat.le_refl _) ha m2 (fun c hc => by
    rcases List.mem_append.1 hc with h | h
    · exact m3 c h
    · exact hsound c h) m4 ⟨next_ok hq ρ1, go_ok hq ρ1, hleaf, hsound, m1⟩
end Go.Sx
