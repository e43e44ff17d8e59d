/- THE LAW OF THE SPOOLS: its calls, with names. -/
import Derived.Test.YtanhchkdglglhaaDoorSpRsN
import Derived.Test.YtanhchkdglglhaaDoorSpRtT
/-! THE LAW OF THE SPOOLS: its calls, with names. -/
namespace Go.Sx
open Go.RowKit Go.Proofs
set_option maxRecDepth 100000
theorem name_ok2 {ok : Rho → (Nat → Obj → Prop) → Prop} {tb : Tabs} (B : TabOk ⟨Tryd.prog, rcOf Tryd.rows, ok⟩ Sx.Tryd.tt.get tb) {d : Nat} {f : FuncId} {args0 : List AV} {view : List (Nat × VO)} {v : AV}
    (hst : and (viewUp 0 view) (outsOk 2000 view []) = true)
    (hK : ∀ ρ m, ok ρ m → ∃ u q cs b, servesX [] u (only (evalN tb d false f args0 (viewO 2000 view))) (knOf q cs) = true ∧ (∀ c ∈ ivC q, c.den ρ = true) ∧ (∀ c ∈ cs, c.den ρ = true) ∧ u.leaf ρ = some b ∧ SameE ρ b v) {args : List AV} {h : Heap} {rr : AV × Heap}
    (hm : (Ent.mk f args0 2000 view v [] []).meet args h = some (.ret rr)) : CallOk ⟨Tryd.prog, rcOf Tryd.rows, ok⟩ f args h (.ret rr) := by
  refine meetN B (d := d) (f := f) (args0 := args0) (n := 2000) (view := view) (cs := []) (by rw [Bool.and_eq_true]; exact ⟨rfl, hst⟩) fun ρ b hb _ => ?_
  obtain ⟨m, hm1, _⟩ := hb
  obtain ⟨u, q, cs, b', hck, hq, hc, hl, hs⟩ := hK _ _ hm1
  have key := servesX_ok (R := []) (fun r hr => (List.not_mem_nil hr).elim) (T.leaf_holds u hl) _ _ (knOf_ok hq hc) hck
  unfold only at key
  rw [T.holds_bind] at key
  obtain ⟨r1, hleaf, b2, rfl, _, hsame⟩ := T.holds_leaf _ key
  exact ⟨v, [], r1, rfl, hm, hleaf, fun E hE => (hsame E hE).trans (hs E hE), fun q hq => (List.not_mem_nil hq).elim⟩
theorem turnCall {a b : IE} {h : Heap} : turnC.orc [.int .i64 a, .int .i64 b] h = some (brAll (.ret (.int .i64 (.app 6 a b (.lit 0)), h)) [.cmp .leq b big]) := rfl
theorem brAll_one {α : Type} {ρ : Rho} {Q : α → Prop} {a : α} (h : Q a) : ∀ l : List BE, (∀ c ∈ l, c.den ρ = true) → (brAll (.ret a) l).Holds ρ Q
  | [], _ => h
  | c :: l, hc => by
    simp only [brAll, T.Holds]
    rw [if_pos (hc c List.mem_cons_self)]
    exact brAll_one h l fun d hd => hc d (List.mem_cons_of_mem _ hd)
theorem namedOrc_ok {p : Par} {f : FuncId} {args : List AV} {h : Heap} {t : T (AV × Heap)} : ∀ (l : List (CSpec × AV)), (∀ cv ∈ l, ∀ t, cv.1.orcX cv.2 args h = some t → CallOk p cv.1.f args h t) → namedOrc f args h l = some t → CallOk p f args h t
  | [], _, e => by cases e
  | c :: l, H, e => by
    have e : cond (Nat.beq f c.1.f) (match c.1.orcX c.2 args h with
      | some t => some t
      | none => namedOrc f args h l) (namedOrc f args h l) = some t := e
    have ih := namedOrc_ok l (fun cv hcv => H cv (List.mem_cons_of_mem _ hcv)) (f := f) (t := t)
    cases hf : Nat.beq f c.1.f with
    | false => rw [hf] at e; exact ih e
    | true =>
      rw [hf, cond_true] at e
      have := beq_t.1 hf; subst this
      split at e
      · rename_i u hu; cases e; exact H c List.mem_cons_self _ hu
      · exact ih e
theorem entsOrc_ok {p : Par} {f : FuncId} {args : List AV} {h : Heap} {t : T (AV × Heap)} : ∀ (l : List Ent), (∀ e ∈ l, ∀ t, entOrc1 e args h = some t → CallOk p e.f args h t) → entsOrc f args h l = some t → CallOk p f args h t
  | [], _, e => by cases e
  | c :: l, H, e => by
    have e : cond (Nat.beq f c.f) (match entOrc1 c args h with
      | some t => some t
      | none => entsOrc f args h l) (entsOrc f args h l) = some t := e
    have ih := entsOrc_ok l (fun cv hcv => H cv (List.mem_cons_of_mem _ hcv)) (f := f) (t := t)
    cases hf : Nat.beq f c.f with
    | false => rw [hf] at e; exact ih e
    | true =>
      rw [hf, cond_true] at e
      have := beq_t.1 hf; subst this
      split at e
      · rename_i u hu; cases e; exact H c List.mem_cons_self _ hu
      · exact ih e
section
variable {L : Nat} {bm bk : Bool} (hL : InL L)
theorem tabs0S : TabOk (pS L bm bk) Sx.Tryd.tt.get tb0 := Tryd.tab (fun _ _ _ => none) (fun _ _ _ _ h => by cases h) 2000
include hL
theorem nums_ok {ρ : Rho} {m : Nat → Obj → Prop} (H : OkS L bm bk ρ m) : Nums L ρ := nums_of hL H.sh H.film H.n H.worn
omit hL in
theorem worn_den {ρ : Rho} {m : Nat → Obj → Prop} (H : OkS L bm bk ρ m) {k : Nat} (hk : k < L) {e : Nat} (he : e = 0 ∨ e = 1) {n : IE} (hn : 0 ≤ n.den ρ ∧ n.den ρ ≤ 300) : (wornJ n k e).den ρ = wornF (ρ.iv (hadV k e)) (n.den ρ) (ρ.iv (tornV e)) := by
  obtain ⟨f1, f2⟩ := film_facts H.film
  have f1 := f1 k hk
  have hh : 1 ≤ ρ.iv (hadV k e) ∧ ρ.iv (hadV k e) ≤ 1200 := by
    rcases he with rfl | rfl <;> omega
  have ht : 0 ≤ ρ.iv (tornV e) ∧ ρ.iv (tornV e) ≤ 50 := by
    rcases he with rfl | rfl
    · show 0 ≤ ρ.iv 3 ∧ ρ.iv 3 ≤ 50
      omega
    · show 0 ≤ ρ.iv 2 ∧ ρ.iv 2 ≤ 50
      omega
  have hp1 := Int.mul_nonneg hn.1 ht.1
  have hp2 : n.den ρ * ρ.iv (tornV e) ≤ 300 * 50 := Int.mul_le_mul hn.2 ht.2 ht.1 (by omega)
  show (if IntKind.i64.wrap (ρ.iv (hadV k e) - IntKind.i64.wrap (n.den ρ * ρ.iv (tornV e))) > 0 then IntKind.i64.wrap (ρ.iv (hadV k e) - IntKind.i64.wrap (n.den ρ * ρ.iv (tornV e))) else 0) = _
  rw [IntWalk.i64_in (n.den ρ * ρ.iv (tornV e)) (by omega), IntWalk.i64_in _ (by omega)]
  rfl
theorem ents_ok : ∀ e ∈ entsS L, ∀ args h t, entOrc1 e args h = some t → CallOk (pS L bm bk) e.f args h t := by
  intro e he args h t ht
  obtain ⟨hf, hst⟩ := films_all hL
  obtain ⟨_, hE⟩ := sps_all hL
  simp only [filmsCk, soundCk, Bool.and_eq_true] at hf
  obtain ⟨_, ⟨f3, f4⟩, _⟩ := hf
  simp only [eCk, Bool.and_eq_true] at hE
  obtain ⟨⟨g1, g2, g3⟩, g4, g5⟩ := hE
  unfold entOrc1 at ht
  split at ht
  · rename_i r hr
    cases ht
    simp only [entsS, List.mem_append, List.mem_cons, List.mem_flatMap, List.not_mem_nil, or_false] at he
    rcases he with (rfl | rfl | rfl | rfl | rfl) | ⟨i, hi, he⟩
    · refine name_ok2 (ok := OkS L bm bk) tabs0S (d := 60) (v := tT) (args0 := (eFilm L (.var 4)).args) (view := (eFilm L (.var 4)).view) g1 (fun ρ m H => ⟨.ret tT, [], csL L, tT, g2, fun c hc => by simp [ivC] at hc, H.film, rfl, fun _ _ => rfl⟩) hr
    · refine name_ok2 (ok := OkS L bm bk) tabs0S (d := 60) (v := tT) (args0 := (eFilm L spX).args) (view := (eFilm L spX).view) g1 (fun ρ m H => ?_) hr
      have N := nums_ok hL H
      have hs := N.sp
      have h1 := N.film
      have h2 := N.n
      refine ⟨.ret tT, [], csL L ++ ([.cmp .leq (.lit 1) spX, .cmp .leq spX (.lit 6000)] : List BE), tT, g3, fun c hc => by simp [ivC] at hc, fun c hc => ?_, rfl, fun _ _ => rfl⟩
      rcases List.mem_append.1 hc with hc | hc
      · exact H.film c hc
      · simp only [List.mem_cons, List.not_mem_nil, or_false] at hc
        rcases hc with rfl | rfl
        · rw [BE.t_leq, IE.den_lit, hs]; split <;> omega
        · rw [BE.t_leq, IE.den_lit, hs]; split <;> omega
    · refine name_ok2 (ok := OkS L bm bk) tabs0S (d := 60) (v := tT) (args0 := (soundE L).args) (view := (soundE L).view) f3 (fun ρ m H => ⟨.ret tT, [], csL L, tT, f4, fun c hc => by simp [ivC] at hc, H.film, rfl, fun _ _ => rfl⟩) hr
    · refine name_ok2 (ok := OkS L bm bk) tabs0S (d := 60) (v := tT) (args0 := (eReels L (.var 4)).args) (view := (eReels L (.var 4)).view) g4 (fun ρ m H => ?_) hr
      obtain ⟨o1, o2⟩ := order_ok hL H.sh
      have hm := permsUp_mem _ o1
      rw [o2] at hm
      exact ⟨.ret tT, pinQ 110 (orderOf L ρ), [], tT, reels_all hL hm, pinQ_ok _ _ H.sh.names, fun c hc => (List.not_mem_nil hc).elim, rfl, fun _ _ => rfl⟩
    · refine name_ok2 (ok := OkS L bm bk) tabs0S (d := 60) (v := tT) (args0 := (eReels L spX).args) (view := (eReels L spX).view) g4 (fun ρ m H => ?_) hr
      obtain ⟨o1, o2⟩ := order_ok hL H.sh
      have hm := permsUp_mem _ o1
      rw [o2] at hm
      exact ⟨.ret tT, pinQ 110 (orderOf L ρ), [], tT, reelsX_all hL hm, pinQ_ok _ _ H.sh.names, fun c hc => (List.not_mem_nil hc).elim, rfl, fun _ _ => rfl⟩
    · have hi' := (upTo_mem _ _).1 hi
      have hc := lAll_mem g5 i hi
      simp only [Bool.and_eq_true] at hc
      obtain ⟨w1, w2, w3, w4⟩ := hc
      have same2 : ∀ {ρ : Rho} {a b c d : IE}, a.den ρ = c.den ρ → b.den ρ = d.den ρ → SameE ρ (.agg [.int .i64 a, .int .i64 b]) (.agg [.int .i64 c, .int .i64 d]) := fun h1 h2 E hE => by
        subst hE; simp only [conc, concL, h1, h2]
      rcases he with rfl | rfl | rfl
      · refine name_ok2 (ok := OkS L bm bk) tabs0S (d := 60) (v := .agg [vi (120 + i), vi (130 + i)]) (args0 := (eWorn L i (.var 4) (.var 140) 120 130).args) (view := (eWorn L i (.var 4) (.var 140) 120 130).view) w1 (fun ρ m H => ?_) hr
        obtain ⟨k, hk, _, hx⟩ := x_at hL H.sh hi'
        obtain ⟨q1, q2, _, _⟩ := H.worn i hi' k hk hx
        have N := (nums_ok hL H).n.1
        have hn : 0 ≤ (IE.var 140).den ρ ∧ (IE.var 140).den ρ ≤ 300 := by rw [IE.den_var]; omega
        exact ⟨uWorn L i (.var 140), [], xC L i, _, w2, fun c hc => by simp [ivC] at hc, xC_ok hL H.sh hi', chain_leaf L k hk hx, same2 ((worn_den H hk (.inl rfl) hn).trans q1.symm) ((worn_den H hk (.inr rfl) hn).trans q2.symm)⟩
      · refine name_ok2 (ok := OkS L bm bk) tabs0S (d := 60) (v := .agg [vi (120 + i), vi (130 + i)]) (args0 := (eWorn L i spX (.var 140) 120 130).args) (view := (eWorn L i spX (.var 140) 120 130).view) w1 (fun ρ m H => ?_) hr
        obtain ⟨k, hk, _, hx⟩ := x_at hL H.sh hi'
        obtain ⟨q1, q2, _, _⟩ := H.worn i hi' k hk hx
        have N := (nums_ok hL H).n.1
        have hn : 0 ≤ (IE.var 140).den ρ ∧ (IE.var 140).den ρ ≤ 300 := by rw [IE.den_var]; omega
        exact ⟨uWorn L i (.var 140), [], xC L i, _, w3, fun c hc => by simp [ivC] at hc, xC_ok hL H.sh hi', chain_leaf L k hk hx, same2 ((worn_den H hk (.inl rfl) hn).trans q1.symm) ((worn_den H hk (.inr rfl) hn).trans q2.symm)⟩
      · refine name_ok2 (ok := OkS L bm bk) tabs0S (d := 60) (v := .agg [vi (180 + i), vi (190 + i)]) (args0 := (eWorn L i (.var 4) nK 180 190).args) (view := (eWorn L i (.var 4) nK 180 190).view) w1 (fun ρ m H => ?_) hr
        obtain ⟨k, hk, _, hx⟩ := x_at hL H.sh hi'
        obtain ⟨_, _, q3, q4⟩ := H.worn i hi' k hk hx
        have N := nums_ok hL H
        have hn : 0 ≤ nK.den ρ ∧ nK.den ρ ≤ 300 := by
          have := N.n
          rw [N.nk]; omega
        have e := N.nk
        exact ⟨uWorn L i nK, [], xC L i, _, w4, fun c hc => by simp [ivC] at hc, xC_ok hL H.sh hi', chain_leaf L k hk hx, same2 ((worn_den H hk (.inl rfl) hn).trans (by rw [e]; exact q3.symm)) ((worn_den H hk (.inr rfl) hn).trans (by rw [e]; exact q4.symm))⟩
  · cases ht
theorem orcS_ok : ∀ f args h t, orcS L f args h = some t → CallOk (pS L bm bk) f args h t :=
  fun f args h t e => entsOrc_ok _ (fun x hx t e => ents_ok hL x hx args h t e) e
theorem tabsS : TabOk (pS L bm bk) Sx.Tryd.tt.get (tbS L) := Tryd.tab (orcS L) (orcS_ok hL) 2000
end
/-! ## The call of Spools -/
theorem blR_new {b k : Nat} (hb : 2000 ≤ b) (r : Ren) (q : NB) : blR 2000 r (newsR [(b, q)] k) b = some k := by
  unfold blR
  have k1 : Nat.ble (Nat.succ b) 1000 = false := by
    cases hk : Nat.ble (Nat.succ b) 1000 with
    | false => rfl
    | true => have := ble_t.1 hk; omega
  have k2 : Nat.ble (Nat.succ b) 2000 = false := by
    cases hk : Nat.ble (Nat.succ b) 2000 with
    | false => rfl
    | true => have := ble_t.1 hk; omega
  rw [k1, k2, cond_false, cond_false]
  simp only [newsR, lFind_cons]
  rw [beq_t.2 rfl]; rfl
theorem spE_meet {b x f : Nat} {a : List AV} {view : List (Nat × VO)} (hb : 2000 ≤ b) (args : List AV) (h : Heap) :
    (Ent.mk f a 2000 view (.tup [.sliceV b x, li 0]) [(b, .cells [] 3 true)] []).meet args h = (Ent.mk f a 2000 view (.tup [.sliceV 2000 x, li 0]) [(2000, .cells [] 3 true)] []).meet args h := by
  unfold Ent.meet
  simp only [rnV, rnL, li, newsH, putsH, NB.ren, blR_new hb, blR_new (Nat.le_refl 2000)]
theorem sp_one {L : Nat} {bm bk : Bool} (hL : InL L) {sp n : IE} {w x : Nat} {ok : Bool} (hck : spCk L sp n w = true) (hleaf : ∀ ρ m, OkS L bm bk ρ m → ∃ r c, (spRun L sp n).leaf ρ = some r ∧ spForm ok c r ∧ ρ.iv x = (c : Int))
    {args : List AV} {h : Heap} {t : T (AV × Heap)} (e : entOrc1 (eSp L sp n ok x) args h = some t) : CallOk (pS L bm bk) 38 args h t := by
  unfold entOrc1 at e
  split at e
  · rename_i r hr
    cases e
    simp only [spCk, stS, Bool.and_eq_true] at hck
    refine meetN (tabsS hL (bm := bm) (bk := bk)) (d := 40) (f := 38) (args0 := (eSp L sp n true 97).args) (n := 2000) (view := (eSp L sp n true 97).view) (by rw [Bool.and_eq_true, Bool.and_eq_true]; exact ⟨rfl, hck.1.1, hck.1.2⟩) (cs := []) fun ρ b hb _ => ?_
    obtain ⟨m, hm, _⟩ := hb
    obtain ⟨r1, c, h1, h2, h3⟩ := hleaf ρ m hm
    cases ok with
    | true =>
      obtain ⟨b1, cs, e1, e2, e3⟩ := h2
      refine ⟨.tup [.sliceV b1 x, li 0], [(b1, .cells [] 3 true)], r1, by simp only [rises]; rw [ble_t.2 e2]; rfl, (spE_meet e2 args h).trans hr, h1, fun E hE => ?_, fun q hq => ?_⟩
      · rw [e1]
        have key : conc E (.sliceX b1 1 0 c) = conc E (.sliceV b1 x) := by
          have h3 : E.ρ.iv x = (c : Int) := by rw [hE]; exact h3
          simp only [conc, h3]
          by_cases hk : c ≤ E.κ b1
          · have hk2 : (0 : Int) ≤ (c : Int) ∧ (c : Int) ≤ (E.κ b1 : Int) := by omega
            rw [if_pos (show 0 + c ≤ E.κ b1 by omega), if_pos hk2]
            simp
          · have hk2 : ¬ ((0 : Int) ≤ (c : Int) ∧ (c : Int) ≤ (E.κ b1 : Int)) := by omega
            rw [if_neg (show ¬ 0 + c ≤ E.κ b1 by omega), if_neg hk2]
        rw [conc, conc]
        have : concL E [.sliceX b1 1 0 c, li 0] = concL E [.sliceV b1 x, li 0] := by simp only [concL, key]
        rw [this]
      · rcases List.mem_singleton.1 hq with rfl
        exact ⟨_, e3, [], cs, rfl, fun _ _ => rfl, .inr rfl⟩
    | false =>
      have h2 : r1.1 = .tup [.nilslice, li 4] := h2
      exact ⟨.tup [.nilslice, li 4], [], r1, rfl, hr, h1, by rw [h2]; exact fun _ _ => rfl, fun q hq => (List.not_mem_nil hq).elim⟩
  · cases e
end Go.Sx
