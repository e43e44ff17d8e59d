/- THE LAW OF THE TIME, for a valid film, wherever the names mean what they should. -/
import Derived.Test.YtanhchkdglglhaaDoorRtN
import Derived.Test.YtanhchkdglglhaaDoorRtT
import Derived.Test.YtanhchkdglglhaaDoorRtM1
import Derived.Test.YtanhchkdglglhaaDoorRtM5
import Derived.Test.YtanhchkdglglhaaDoorRtM6a
import Derived.Test.YtanhchkdglglhaaDoorRtM6b
/-! THE LAW OF THE TIME, for a valid film, wherever the names mean what they should. -/
namespace Go.Sx
open Go.RowKit Go.Proofs
set_option maxRecDepth 100000
theorem name_ok2 {ok : Rho → (Nat → Obj → Prop) → Prop} {tb : Tabs} (B : TabOk ⟨Tryd.prog, rcOf Tryd.rows, ok⟩ Sx.Tryd.tt.get tb) {d : Nat} {f : FuncId} {args0 : List AV} {view : List (Nat × VO)} {v : AV}
    (hst : and (viewUp 0 view) (outsOk 2000 view []) = true)
    (hK : ∀ ρ m, ok ρ m → ∃ u q cs b, servesX [] u (only (evalN tb d false f args0 (viewO 2000 view))) (knOf q cs) = true ∧ (∀ c ∈ ivC q, c.den ρ = true) ∧ (∀ c ∈ cs, c.den ρ = true) ∧ u.leaf ρ = some b ∧ SameE ρ b v) {args : List AV} {h : Heap} {rr : AV × Heap}
    (hm : (Ent.mk f args0 2000 view v [] []).meet args h = some (.ret rr)) : CallOk ⟨Tryd.prog, rcOf Tryd.rows, ok⟩ f args h (.ret rr) := by
  refine meetN B (d := d) (f := f) (args0 := args0) (n := 2000) (view := view) (cs := []) (by rw [Bool.and_eq_true]; exact ⟨rfl, hst⟩) fun ρ b hb _ => ?_
  obtain ⟨m, hm1, _⟩ := hb
  obtain ⟨u, q, cs, b', hck, hq, hc, hl, hs⟩ := hK _ _ hm1
  have key := servesX_ok (R := []) (fun r hr => (List.not_mem_nil hr).elim) (T.leaf_holds u hl) _ _ (knOf_ok hq hc) hck
  unfold only at key
  rw [T.holds_bind] at key
  obtain ⟨r1, hleaf, b2, rfl, _, hsame⟩ := T.holds_leaf _ key
  exact ⟨v, [], r1, rfl, hm, hleaf, fun E hE => (hsame E hE).trans (hs E hE), fun q hq => (List.not_mem_nil hq).elim⟩
section
variable {L : Nat} (hL : InL L)
theorem tabs0R : TabOk (pR L) Sx.Tryd.tt.get tb0 := Tryd.tab (fun _ _ _ => none) (fun _ _ _ _ h => by cases h) 2000
theorem worn_den {ρ : Rho} {m : Nat → Obj → Prop} (H : OkR L ρ m) {k : Nat} (hk : k < L) {e : Nat} (he : e = 0 ∨ e = 1) : (wornI k e).den ρ = wornF (ρ.iv (hadV k e)) (ρ.iv 140) (ρ.iv (tornV e)) := by
  obtain ⟨f1, f2⟩ := film_facts H.film
  have f1 := f1 k hk
  have hn := H.n
  have hh : 1 ≤ ρ.iv (hadV k e) ∧ ρ.iv (hadV k e) ≤ 1200 := by
    subst_vars
    rcases he with rfl | rfl <;> omega
  have ht : 0 ≤ ρ.iv (tornV e) ∧ ρ.iv (tornV e) ≤ 50 := by
    rcases he with rfl | rfl
    · show 0 ≤ ρ.iv 3 ∧ ρ.iv 3 ≤ 50
      omega
    · show 0 ≤ ρ.iv 2 ∧ ρ.iv 2 ≤ 50
      omega
  have hp := prod_in hn.1 hn.2 ht.1 ht.2
  show (if IntKind.i64.wrap (ρ.iv (hadV k e) - IntKind.i64.wrap (ρ.iv 140 * ρ.iv (tornV e))) > 0 then IntKind.i64.wrap (ρ.iv (hadV k e) - IntKind.i64.wrap (ρ.iv 140 * ρ.iv (tornV e))) else 0) = _
  rw [IntWalk.i64_in (ρ.iv 140 * ρ.iv (tornV e)) (by omega), IntWalk.i64_in _ (by omega)]
  rfl
include hL
theorem ents_ok : ∀ e ∈ entsL L, ∀ args h t, entOrc1 e args h = some t → CallOk (pR L) e.f args h t := by
  intro e he args h t ht
  obtain ⟨hf, hst⟩ := films_all hL
  simp only [filmsCk, filmCk, soundCk, Bool.and_eq_true] at hf
  obtain ⟨⟨f1, f2⟩, ⟨f3, f4⟩, f5⟩ := hf
  unfold entOrc1 at ht
  split at ht
  · rename_i r hr
    cases ht
    simp only [entsL, List.mem_cons, List.mem_flatMap, List.not_mem_nil, or_false] at he
    rcases he with rfl | rfl | rfl | ⟨i, hi, he⟩
    · refine name_ok2 (ok := OkR L) tabs0R (d := 60) (v := tT) (args0 := (filmE L).args) (view := (filmE L).view) f1 (fun ρ m H => ⟨.ret tT, [], csL L, tT, f2, fun c hc => by simp [ivC] at hc, H.film, rfl, fun _ _ => rfl⟩) hr
    · refine name_ok2 (ok := OkR L) tabs0R (d := 60) (v := tT) (args0 := (soundE L).args) (view := (soundE L).view) f3 (fun ρ m H => ⟨.ret tT, [], csL L, tT, f4, fun c hc => by simp [ivC] at hc, H.film, rfl, fun _ _ => rfl⟩) hr
    · refine name_ok2 (ok := OkR L) tabs0R (d := 60) (v := tT) (args0 := (reelsE L).args) (view := (reelsE L).view) hst (fun ρ m H => ?_) hr
      obtain ⟨o1, o2⟩ := order_ok hL H.sh
      have hm := permsUp_mem _ o1
      rw [o2] at hm
      exact ⟨.ret tT, pinQ 110 (orderOf L ρ), [], tT, reels_all hL hm, pinQ_ok _ _ H.sh.names, fun c hc => (List.not_mem_nil hc).elim, rfl, fun _ _ => rfl⟩
    · have hi' := (upTo_mem _ _).1 hi
      have hc := lAll_mem f5 i hi
      simp only [wornCk, feetCk, Bool.and_eq_true] at hc
      obtain ⟨⟨w1, w2⟩, ⟨g1, g2⟩, g3, g4⟩ := hc
      have same2 : ∀ {ρ : Rho} {a b c d : IE}, a.den ρ = c.den ρ → b.den ρ = d.den ρ → SameE ρ (.agg [.int .i64 a, .int .i64 b]) (.agg [.int .i64 c, .int .i64 d]) := fun h1 h2 E hE => by
        subst hE; simp only [conc, concL, h1, h2]
      have same1 : ∀ {ρ : Rho} {a c : IE}, a.den ρ = c.den ρ → SameE ρ (.int .i64 a) (.int .i64 c) := fun h1 E hE => by subst hE; simp only [conc, h1]
      rcases he with rfl | rfl | rfl
      · refine name_ok2 (ok := OkR L) tabs0R (d := 60) (v := .agg [vi (120 + i), vi (130 + i)]) (args0 := (wornE L i).args) (view := (wornE L i).view) w1 (fun ρ m H => ?_) hr
        obtain ⟨k, hk, _, hx⟩ := x_at hL H.sh hi'
        obtain ⟨q1, q2⟩ := H.worn i hi' k hk hx
        exact ⟨wornU L i, [], xC L i, _, w2, fun c hc => by simp [ivC] at hc, xC_ok hL H.sh hi', chain_leaf L k hk hx, same2 ((worn_den H hk (.inl rfl)).trans q1.symm) ((worn_den H hk (.inr rfl)).trans q2.symm)⟩
      · refine name_ok2 (ok := OkR L) tabs0R (d := 60) (v := vi (120 + i)) (args0 := (feetE L i 0).args) (view := (feetE L i 0).view) g1 (fun ρ m H => ?_) hr
        obtain ⟨k, hk, _, hx⟩ := x_at hL H.sh hi'
        obtain ⟨q1, q2⟩ := H.worn i hi' k hk hx
        exact ⟨feetU L i 0, [], xC L i, _, g2, fun c hc => by simp [ivC] at hc, xC_ok hL H.sh hi', chain_leaf L k hk hx, same1 ((worn_den H hk (.inl rfl)).trans q1.symm)⟩
      · refine name_ok2 (ok := OkR L) tabs0R (d := 60) (v := vi (130 + i)) (args0 := (feetE L i 1).args) (view := (feetE L i 1).view) g3 (fun ρ m H => ?_) hr
        obtain ⟨k, hk, _, hx⟩ := x_at hL H.sh hi'
        obtain ⟨q1, q2⟩ := H.worn i hi' k hk hx
        exact ⟨feetU L i 1, [], xC L i, _, g4, fun c hc => by simp [ivC] at hc, xC_ok hL H.sh hi', chain_leaf L k hk hx, same1 ((worn_den H hk (.inr rfl)).trans q2.symm)⟩
  · cases ht
end
/-! ## Turn and Choose -/
theorem turnCall {a b : IE} {h : Heap} : turnC.orc [.int .i64 a, .int .i64 b] h = some (brAll (.ret (.int .i64 (.app 6 a b (.lit 0)), h)) [.cmp .leq b big]) := rfl
theorem chooseCall {l hh n : IE} {h : Heap} : chooseC.orc [.agg [.int .i64 l, .int .i64 hh], .int .i64 n] h = some (brAll (.ret (.int .i64 (.app 7 l hh n), h)) [.cmp .leq (.lit 0) l, .cmp .leq hh (.lit 1000000)]) := rfl
theorem brAll_one {α : Type} {ρ : Rho} {Q : α → Prop} {a : α} (h : Q a) : ∀ l : List BE, (∀ c ∈ l, c.den ρ = true) → (brAll (.ret a) l).Holds ρ Q
  | [], _ => h
  | c :: l, hc => by
    simp only [brAll, T.Holds]
    rw [if_pos (hc c List.mem_cons_self)]
    exact brAll_one h l fun d hd => hc d (List.mem_cons_of_mem _ hd)
section
variable {L : Nat}
/-- what is so of the names -/
structure Nums (L : Nat) (ρ : Rho) : Prop where
  film : 1 ≤ ρ.iv 0 ∧ ρ.iv 0 ≤ ρ.iv 1 ∧ ρ.iv 1 ≤ 20 ∧ 1 ≤ ρ.iv 4 ∧ ρ.iv 4 ≤ 6000
  n : 0 ≤ ρ.iv 140 ∧ ρ.iv 140 ≤ 199
  w : ∀ i, i < L → 0 ≤ ρ.iv (120 + i) ∧ ρ.iv (120 + i) ≤ ρ.iv (130 + i) ∧ ρ.iv (130 + i) ≤ 1200
  f : ∀ i, i < L → ρ.iv (120 + i) ≤ ρ.iv (150 + i) ∧ ρ.iv (150 + i) ≤ ρ.iv (130 + i)
  s : ∀ i, i < L → 0 ≤ ρ.iv (160 + i) ∧ ρ.iv (160 + i) ≤ ρ.iv (150 + i)
  c : ∀ j, j < L + 1 → ρ.iv 0 ≤ ρ.iv (172 + j) ∧ ρ.iv (172 + j) ≤ ρ.iv 1
theorem nums_ok (hL : InL L) {ρ : Rho} {m : Nat → Obj → Prop} (H : OkR L ρ m) : Nums L ρ := by
  obtain ⟨f1, f2, f3, f4, f5, f6, f7, f8, f9⟩ := film_facts H.film
  have hw : ∀ i, i < L → 0 ≤ ρ.iv (120 + i) ∧ ρ.iv (120 + i) ≤ ρ.iv (130 + i) ∧ ρ.iv (130 + i) ≤ 1200 := fun i hi => by
    obtain ⟨k, hk, _, hx⟩ := x_at hL H.sh hi
    obtain ⟨q1, q2⟩ := H.worn i hi k hk hx
    obtain ⟨g1, g2, g3⟩ := f1 k hk
    rw [q1, q2]
    have a1 := wornF_in (a := ρ.iv (hadV k 0)) H.n.1 (s := ρ.iv 3) (by omega) (by omega)
    have a2 := wornF_in (a := ρ.iv (hadV k 1)) H.n.1 (s := ρ.iv 2) (by omega) (by omega)
    have a3 := wornF_le g2 H.n.1 f6
    omega
  have hf : ∀ i, i < L → ρ.iv (120 + i) ≤ ρ.iv (150 + i) ∧ ρ.iv (150 + i) ≤ ρ.iv (130 + i) := fun i hi => by
    rw [H.ft i hi]; exact chooseF_in (hw i hi).2.1
  refine ⟨⟨f2, f3, f4, f8, f9⟩, H.n, hw, hf, fun i hi => ?_, fun j hj => ?_⟩
  · have h1 := hw i hi
    have h2 := hf i hi
    have := turnF_in (n := ρ.fi 1000 (i + 1) 0 0) (m := ρ.iv (150 + i) + 1) (by omega)
    rw [H.sl i hi]; omega
  · rw [H.cj j hj]; exact chooseF_in f3
theorem named_ok (hL : InL L) : ∀ cv ∈ namedL L, ∀ args h t, cv.1.orcX cv.2 args h = some t → CallOk (pR L) cv.1.f args h t := by
  intro cv hcv args h t e
  unfold CSpec.orcX at e
  obtain ⟨h1, h2⟩ := cond_some e
  cases h2
  simp only [Bool.and_eq_true] at h1
  have := eqAVs_eq _ _ h1.1
  subst this
  have same : ∀ {ρ : Rho} {a : IE} {x : Nat}, a.den ρ = ρ.iv x → SameE ρ (.int .i64 a) (vi x) := fun h1 E hE => by
    subst hE; simp only [vi, conc, IE.den, h1]
  have turn : ∀ (a b : IE) (x : Nat), (∀ ρ m, OkR L ρ m → b.den ρ ≤ 1000000 ∧ turnF (a.den ρ) (b.den ρ) = ρ.iv x) → CallOk (pR L) 48 [.int .i64 a, .int .i64 b] h (.ret (vi x, h)) := fun a b x hx => by
    refine CallOk.named (turn_orc (p := pR L) rfl turnCall) fun ρ bb hb => ?_
    obtain ⟨m, hm, _⟩ := hb
    obtain ⟨x1, x2⟩ := hx ρ m hm
    refine brAll_one ⟨rfl, same x2⟩ _ fun c hc => ?_
    rcases List.mem_singleton.1 hc with rfl
    rw [BE.t_leq]; show b.den ρ ≤ 9223372036854775807; omega
  have choose : ∀ (l hh n : IE) (x : Nat), (∀ ρ m, OkR L ρ m → 0 ≤ l.den ρ ∧ hh.den ρ ≤ 1000000 ∧ chooseF (l.den ρ) (hh.den ρ) (n.den ρ) = ρ.iv x) → CallOk (pR L) 52 [.agg [.int .i64 l, .int .i64 hh], .int .i64 n] h (.ret (vi x, h)) := fun l hh n x hx => by
    refine CallOk.named (choose_orc (p := pR L) rfl chooseCall) fun ρ bb hb => ?_
    obtain ⟨m, hm, _⟩ := hb
    obtain ⟨x1, x2, x3⟩ := hx ρ m hm
    refine brAll_one ⟨rfl, same x3⟩ _ fun c hc => ?_
    simp only [List.mem_cons, List.not_mem_nil, or_false] at hc
    rcases hc with rfl | rfl
    · rw [BE.t_leq, IE.den_lit]; exact x1
    · rw [BE.t_leq, IE.den_lit]; exact x2
  have pick : ∀ (ρ : Rho) (i : Nat), (pickE i).den ρ = ρ.fi 1000 i 0 0 := fun ρ i => rfl
  simp only [namedL, List.mem_cons, List.mem_append, List.mem_flatMap, List.mem_map, List.cons_append] at hcv
  rcases hcv with rfl | ⟨i, hi, hcv⟩ | ⟨j, hj, rfl⟩
  · exact turn _ _ _ fun ρ m H => ⟨by rw [IE.den_lit]; omega, H.sh140.symm⟩
  · have hi := (upTo_mem _ _).1 hi
    simp only [namedI, List.mem_cons, List.not_mem_nil, or_false] at hcv
    rcases hcv with rfl | rfl
    · refine choose _ _ _ _ fun ρ m H => ?_
      have N := nums_ok hL H
      have := N.w i hi
      rw [IE.den_var, IE.den_var, pick]
      exact ⟨this.1, by omega, (H.ft i hi).symm⟩
    · refine turn _ _ _ fun ρ m H => ?_
      have N := nums_ok hL H
      have h1 := N.w i hi
      have h2 := N.f i hi
      have hp : (plus1 (.var (150 + i))).den ρ = ρ.iv (150 + i) + 1 := by
        show IntKind.i64.wrap (ρ.iv (150 + i) + 1) = _
        exact IntWalk.i64_in _ (by omega)
      rw [hp, pick]
      exact ⟨by omega, (H.sl i hi).symm⟩
  · have hj := (upTo_mem _ _).1 hj
    refine choose _ _ _ _ fun ρ m H => ?_
    have N := nums_ok hL H
    have := N.film
    rw [IE.den_var, IE.den_var, pick]
    refine ⟨by omega, by omega, ?_⟩
    have := H.cj j hj
    rw [show 172 + j = 170 + (j + 2) by omega] at this
    exact this.symm
theorem namedOrc_ok {p : Par} {f : FuncId} {args : List AV} {h : Heap} {t : T (AV × Heap)} : ∀ (l : List (CSpec × AV)), (∀ cv ∈ l, ∀ t, cv.1.orcX cv.2 args h = some t → CallOk p cv.1.f args h t) → namedOrc f args h l = some t → CallOk p f args h t
  | [], _, e => by cases e
  | c :: l, H, e => by
    have e : cond (Nat.beq f c.1.f) (match c.1.orcX c.2 args h with
      | some t => some t
      | none => namedOrc f args h l) (namedOrc f args h l) = some t := e
    have ih := namedOrc_ok l (fun cv hcv => H cv (List.mem_cons_of_mem _ hcv)) (f := f) (t := t)
    cases hf : Nat.beq f c.1.f with
    | false => rw [hf] at e; exact ih e
    | true =>
      rw [hf, cond_true] at e
      have := beq_t.1 hf; subst this
      split at e
      · rename_i u hu; cases e; exact H c List.mem_cons_self _ hu
      · exact ih e
theorem entsOrc_ok {p : Par} {f : FuncId} {args : List AV} {h : Heap} {t : T (AV × Heap)} : ∀ (l : List Ent), (∀ e ∈ l, ∀ t, entOrc1 e args h = some t → CallOk p e.f args h t) → entsOrc f args h l = some t → CallOk p f args h t
  | [], _, e => by cases e
  | c :: l, H, e => by
    have e : cond (Nat.beq f c.f) (match entOrc1 c args h with
      | some t => some t
      | none => entsOrc f args h l) (entsOrc f args h l) = some t := e
    have ih := entsOrc_ok l (fun cv hcv => H cv (List.mem_cons_of_mem _ hcv)) (f := f) (t := t)
    cases hf : Nat.beq f c.f with
    | false => rw [hf] at e; exact ih e
    | true =>
      rw [hf, cond_true] at e
      have := beq_t.1 hf; subst this
      split at e
      · rename_i u hu; cases e; exact H c List.mem_cons_self _ hu
      · exact ih e
theorem orcL_ok (hL : InL L) : ∀ f args h t, orcL L f args h = some t → CallOk (pR L) f args h t := by
  intro f args h t e
  unfold orcL at e
  cases h1 : Nat.beq f 25 with
  | true => rw [h1] at e; have := beq_t.1 h1; subst this; exact CallOk.lift (turned_orc e)
  | false =>
    rw [h1, cond_false] at e
    cases h2 : Nat.beq f 54 with
    | true => rw [h2] at e; have := beq_t.1 h2; subst this; exact pick_orc (p := pR L) rfl (fun _ _ h => h.pick) e
    | false =>
      rw [h2, cond_false] at e
      cases h3 : Nat.beq f 49 with
      | true => rw [h3] at e; have := beq_t.1 h3; subst this; exact shuf_ok (inL_le hL).2 (fun _ _ h => h.pick) (fun _ _ h => h.sh) (shuf_all hL) e
      | false =>
        rw [h3, cond_false] at e
        split at e
        · rename_i u hu; cases e; exact namedOrc_ok _ (fun cv hcv t e => named_ok hL cv hcv args h t e) hu
        · exact entsOrc_ok _ (fun cv hcv t e => ents_ok hL cv hcv args h t e) e
theorem tabsL (hL : InL L) : TabOk (pR L) Sx.Tryd.tt.get (tbL L) := Tryd.tab (orcL L) (orcL_ok hL) 2000
end
end Go.Sx
