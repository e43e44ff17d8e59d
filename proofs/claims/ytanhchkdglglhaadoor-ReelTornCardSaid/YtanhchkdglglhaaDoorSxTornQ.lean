/- THE LAW OF WHAT IS TORN OFF: its loop is as it is said. -/
import Derived.Test.YtanhchkdglglhaaDoorSxTornC
/-! THE LAW OF WHAT IS TORN OFF: its loop is as it is said. -/
namespace Go.Sx
open Go.RowKit Go.Proofs
set_option maxRecDepth 100000
noncomputable def pTn : Par := ⟨Tryd.prog, rcOf Tryd.rows, okPick⟩
theorem lk21_bnd : ∀ q ∈ lk21, 1 ≤ q.1 ∧ q.1 ≤ 6 ∧ q.2.1 < q.1 := fun q hq => by
  have := allLk_bnd q (lk21_sub q hq).1; omega
theorem callV30 {q : Nat × Nat × Nat} (hq : q ∈ lk21) {args : List AV} {h : Heap} {t : T (AV × Heap)} (ho : (callV 30 q.1 q.2.1 (vi 89) (wornU q.2.1)).orc args h = some t) : CallOk pTn 30 args h t :=
  CallOk.lift (specs_orc hq (c := callV 30 q.1 q.2.1 (vi 89) (wornU q.2.1)) (by simp [specs]) ho)
theorem callV34 {q : Nat × Nat × Nat} (hq : q ∈ lk21) {args : List AV} {h : Heap} {t : T (AV × Heap)} (ho : (callV 34 q.1 q.2.1 (vi 90) (seenU q.2.1)).orc args h = some t) : CallOk pTn 34 args h t :=
  CallOk.lift (specs_orc hq (c := callV 34 q.1 q.2.1 (vi 90) (seenU q.2.1)) (by simp [specs]) ho)
theorem orcTorn_ok {q : Nat × Nat × Nat} (hq : q ∈ lk21) : ∀ f args h t, orcTorn q.1 q.2.1 f args h = some t → CallOk pTn f args h t := by
  intro f args h t e
  unfold orcTorn at e
  cases h30 : Nat.beq f 30 with
  | true => rw [h30] at e; have := beq_t.1 h30; subst this; exact callV30 hq e
  | false =>
    rw [h30, cond_false] at e
    cases h34 : Nat.beq f 34 with
    | true => rw [h34] at e; have := beq_t.1 h34; subst this; exact callV34 hq e
    | false =>
      rw [h34, cond_false] at e
      cases h54 : Nat.beq f 54 with
      | true => rw [h54] at e; have := beq_t.1 h54; subst this; exact pick_orc (p := pTn) rfl (fun _ _ h => h) e
      | false =>
        rw [h54, cond_false] at e
        obtain ⟨h52, e⟩ := cond_some e
        have := beq_t.1 h52; subst this
        exact choose_orc (p := pTn) rfl e
theorem tabsTorn {q : Nat × Nat × Nat} (hq : q ∈ lk21) : TabOk pTn Sx.Tryd.tt.get (tbTorn q.1 q.2.1) := Tryd.tab (orcTorn q.1 q.2.1) (orcTorn_ok hq) 2000
theorem cxTorn_ok {q : Nat × Nat × Nat} (hq : q ∈ lk21) : CxOk pTn (cxTorn q.1 q.2.1) := evalN_ok (tabsTorn hq) 40

/-! ## The numbers of a round -/
def setT (ρ : Rho) (i z : Int) : Rho := ⟨fun q => if q = 91 then i else if q = 93 then z else ρ.iv q, ρ.bv, ρ.fi, ρ.fb, ρ.ov⟩
theorem setT_91 (ρ : Rho) (i z : Int) : (setT ρ i z).iv 91 = i := by simp [setT]
theorem setT_93 (ρ : Rho) (i z : Int) : (setT ρ i z).iv 93 = z := by simp [setT]
theorem setT_ne (ρ : Rho) (i z : Int) {q : Nat} (h : q ≠ 91) (k : q ≠ 93) : (setT ρ i z).iv q = ρ.iv q := by simp [setT, h, k]
theorem setT_ok {ρ : Rho} {m : Nat → Obj → Prop} (h : okPick ρ m) (i z : Int) : okPick (setT ρ i z) m := by
  obtain ⟨b, len, cap, h1, h2, h3⟩ := h
  exact ⟨b, len, cap, h1, by rw [setT_ne _ _ _ (by omega) (by omega)]; exact h2, h3⟩
theorem feetAt_zero {had torn : Int} (h : 0 ≤ had) : feetAt had torn 0 = had := by simp only [feetAt]; omega
theorem feetAt_nonneg (had torn : Int) (n : Nat) : 0 ≤ feetAt had torn n := by simp only [feetAt]; omega
theorem feetAt_le {had torn : Int} (h : 0 ≤ had) (k : 0 ≤ torn) (n : Nat) : feetAt had torn n ≤ had := by
  simp only [feetAt]
  have : (0 : Int) ≤ n * torn := Int.mul_nonneg (by omega) k
  omega
theorem feetAt_mono {had torn : Int} (k : 0 ≤ torn) {a b : Nat} (h : a ≤ b) : feetAt had torn b ≤ feetAt had torn a := by
  simp only [feetAt]
  have : (a : Int) * torn ≤ b * torn := Int.mul_le_mul_of_nonneg_right (by omega) k
  omega
theorem feetAt_low {had torn tear z : Int} {i : Nat} (hz : feetAt had torn i ≤ z) (h : tear ≤ torn) : feetAt had torn (i + 1) ≤ (if tear > z then 0 else z - tear) := by
  simp only [feetAt] at *
  have e : ((i + 1 : Nat) : Int) * torn = i * torn + torn := by rw [Int.natCast_add, Int.add_mul]; simp
  rw [e]
  generalize (i : Int) * torn = p at *
  by_cases h2 : tear > z
  · rw [if_pos h2]; omega
  · rw [if_neg h2]; omega
theorem feetAt_high {had torn tear z : Int} {i : Nat} (hz : z ≤ feetAt had torn i) (h0 : 0 ≤ z) (h1 : 0 ≤ torn) (h : torn ≤ tear) : (if tear > z then 0 else z - tear) ≤ feetAt had torn (i + 1) := by
  simp only [feetAt] at *
  have e : ((i + 1 : Nat) : Int) * torn = i * torn + torn := by rw [Int.natCast_add, Int.add_mul]; simp
  rw [e]
  generalize (i : Int) * torn = p at *
  by_cases h2 : tear > z
  · rw [if_pos h2]; omega
  · rw [if_neg h2]; omega
theorem seenF_in {P : Nat → Bool} {i : Nat} (h : P i = true) : ∀ n, i < n → (seenF P n).1 = true ∧ (seenF P n).2.1 ≤ i ∧ i ≤ (seenF P n).2.2
  | 0, hn => by omega
  | n + 1, hn => by
    have low : (seenF P n).1 = true → (seenF P n).2.1 < n := by
      clear hn h
      induction n with
      | zero => intro h; simp [seenF] at h
      | succ n ih =>
        intro h
        cases hp : P n with
        | true =>
          rw [seenF_yes hp]
          cases hs : (seenF P n).1 with
          | true => simp only [hs, if_true]; have := ih hs; omega
          | false => simp
        | false => rw [seenF_no hp] at h ⊢; have := ih h; omega
    cases hp : P n with
    | true =>
      rw [seenF_yes hp]
      refine ⟨rfl, ?_, by show i ≤ n; omega⟩
      cases hs : (seenF P n).1 with
      | true =>
        simp only [if_true]
        rcases Nat.lt_or_ge i n with hi | hi
        · exact (seenF_in h n hi).2.1
        · have := low hs; omega
      | false =>
        simp only [Bool.false_eq_true, if_false]
        rcases Nat.lt_or_ge i n with hi | hi
        · have := (seenF_in h n hi).1; rw [hs] at this; cases this
        · exact hi
    | false =>
      rw [seenF_no hp]
      have hi : i ≠ n := fun e => by rw [e, hp] at h; cases h
      exact seenF_in h n (by omega)
end Go.Sx
/-! THE LAW OF WHAT IS TORN OFF: its loop is as it is said. -/
namespace Go.Sx
open Go.RowKit Go.Proofs
set_option maxRecDepth 100000
theorem film_vars : lAll (fun q : Nat × Nat × Nat => lAll (varsB 86) (csL q.1 ++ rdom q.2.1)) lk21 = true := by kernel_rfl
theorem rest_up {c : BE} (h : c ∈ restC) : ∀ n b, c ∈ csUp n b
  | 0, _ => h
  | n + 1, b => List.mem_append_right _ (rest_up h n (b + 6))
theorem sameU {ρ ρ' : Rho} {i : Nat} (h : ρ.ov = ρ'.ov) (k : ρ.iv i = ρ'.iv i) : SameV ρ (.sliceU i) ρ' (.sliceU i) := fun _ _ _ _ _ _ => by simp only [conc, h, k]
theorem endV_eq {ρ : Rho} {r : Ex × St} {tag : Nat} {a c : IE} (hs : SameE ρ (endV r) (.tup [li tag, .tup [.int .i64 a], .tup [.int .i64 c]])) :
    tagE r.1 = tag ∧ (∃ v, r.2.tm.tree.get 11 = some v ∧ SameE ρ v (.int .i64 a)) ∧ ∃ v, r.2.tm.tree.get 16 = some v ∧ SameE ρ v (.int .i64 c) := by
  have key : ∀ E : Env, E.ρ = ρ → tagE r.1 = tag ∧ (∃ v, r.2.tm.tree.get 11 = some v ∧ conc E v = conc E (.int .i64 a)) ∧ ∃ v, r.2.tm.tree.get 16 = some v ∧ conc E v = conc E (.int .i64 c) := by
    intro E hE
    have h := hs E hE
    have h2 : conc E (.tup [li tag, .tup [.int .i64 a], .tup [.int .i64 c]]) = some (.tuple #[.int .i64 tag, .tuple #[.int .i64 (a.den E.ρ)], .tuple #[.int .i64 (c.den E.ρ)]]) := by
      simp [conc, concL, li, IE.den]
    rw [h2] at h
    have slot : ∀ {o : Option AV} {e : IE} {x : Value}, conc E (optA o) = some x → x = .tuple #[.int .i64 (e.den E.ρ)] → ∃ v, o = some v ∧ conc E v = conc E (.int .i64 e) := by
      intro o e x h1 h2
      subst h2
      cases o with
      | none => simp [optA, conc, concL] at h1
      | some v =>
        simp only [optA, conc, Option.map_eq_some_iff] at h1
        obtain ⟨l, h3, h4⟩ := h1
        obtain ⟨x, us, h5, h6, h7⟩ := concL_cons.1 h3
        simp only [concL, Option.some.injEq] at h6
        subst h6 h7
        refine ⟨v, rfl, ?_⟩
        rw [h5]
        simpa [conc] using h4
    simp only [endV, conc, Option.map_eq_some_iff] at h
    obtain ⟨l, h3, h4⟩ := h
    obtain ⟨x1, u1, a1, a2, rfl⟩ := concL_cons.1 h3
    obtain ⟨x2, u2, a3, a4, rfl⟩ := concL_cons.1 a2
    obtain ⟨x3, u3, a5, a6, rfl⟩ := concL_cons.1 a4
    simp only [concL, Option.some.injEq] at a6
    subst a6
    simp only [Value.tuple.injEq] at h4
    have h4 := congrArg Array.toList h4
    simp only [List.cons.injEq, and_true] at h4
    obtain ⟨e1, e2, e3⟩ := h4
    refine ⟨?_, slot a3 e2, slot a5 e3⟩
    subst e1
    simp only [li, conc, IE.den, Option.some.injEq, Value.int.injEq, true_and] at a1
    exact Int.ofNat_inj.1 a1
  obtain ⟨k1, ⟨v, k2, _⟩, w, k3, _⟩ := key ⟨ρ, fun _ => none, fun _ => 0, 0, fun _ => #[]⟩ rfl
  refine ⟨k1, ⟨v, k2, fun E hE => ?_⟩, w, k3, fun E hE => ?_⟩
  · obtain ⟨_, ⟨v', h1, h2⟩, _⟩ := key E hE
    rw [k2] at h1; cases h1; exact h2
  · obtain ⟨_, _, v', h1, h2⟩ := key E hE
    rw [k3] at h1; cases h1; exact h2
theorem keepsOk_eq {k : Nat} {r : Ex × St} (h : keepsOk k r = true) (hr : r.1 ≠ .ret) : r.2.df = [] ∧ r.2.tm.tree.get 2 = some (.sliceU 96) ∧ r.2.tm.tree.get 4 = some (.ptr 1001 0) ∧ r.2.tm.tree.get 9 = some (li k) ∧
    r.2.tm.tree.get 10 = some (vi 88) ∧ r.2.tm.tree.get 12 = some (vi 90) ∧ r.2.tm.tree.get 13 = some (vi 97) ∧ r.2.tm.tree.get 14 = some (vi 98) ∧ r.2.tm.tree.get 15 = some (vi 99) := by
  unfold keepsOk at h
  split at h
  · rename_i h1; exact absurd h1 hr
  · split at h
    · rename_i hd
      have e := eqAVs_eq _ _ h
      rw [lMap_eq] at e
      simp only [List.map_cons, List.map_nil, List.cons.injEq, and_true] at e
      obtain ⟨e1, e2, e3, e4, e5, e6, e7, e8⟩ := e
      exact ⟨hd, optA_some e1, optA_some e2, optA_some e3, optA_some e4, optA_some e5, optA_some e6, optA_some e7, optA_some e8⟩
    · cases h
end Go.Sx
/-! THE LAW OF WHAT IS TORN OFF: its loop is as it is said. -/
namespace Go.Sx
open Go.RowKit Go.Proofs
set_option maxRecDepth 100000
theorem torn_loop {q : Nat × Nat × Nat} (hq : q ∈ lk21) : (tornL q.1 q.2.1).OkP okPick okPick (cxTorn q.1 q.2.1) ⟨11, none⟩ tornBody := by
  obtain ⟨b1, b2, b3⟩ := lk21_bnd q hq
  have hc1 : tornCk1 q = true := torn1_all q hq
  have hc2 : tornCk2 q = true := torn2_all q hq
  have hvars : lAll (varsB 86) (csL q.1 ++ rdom q.2.1) = true := lAll_mem film_vars q hq
  obtain ⟨L, k, mm⟩ := q
  simp only at b1 b2 b3 hc1 hc2 hvars ⊢
  unfold tornCk1 at hc1
  unfold tornCk2 at hc2
  simp only at hc1 hc2
  intro ρ m hok hdom
  have hv0 : hadV k 0 < 86 := by simp only [hadV]; omega
  have hv1 : hadV k 1 < 86 := by simp only [hadV]; omega
  have hfilm : ∀ c ∈ csL L ++ rdom k, c.den ρ = true := fun c hc => hdom c (List.mem_append_left _ hc)
  have hr : ∀ c ∈ rdom k, c.den ρ = true := fun c hc => hfilm c (List.mem_append_right _ hc)
  have htt : (le2 (.var 2) (.var 3)).den ρ = true := hfilm _ (List.mem_append_left _ (rest_up (by simp [restC]) L 10))
  simp only [rdom, List.mem_cons, List.not_mem_nil, or_false, forall_eq_or_imp, forall_eq] at hr
  obtain ⟨d1, d2, d3, d4, d5, d6, d7, d8⟩ := hr
  unfold le2 at htt
  rw [BE.t_leq] at d1 d2 d3 d4 d5 d6 d7 d8 htt
  simp only [IE.den_lit, IE.den_var] at d1 d2 d3 d4 d5 d6 d7 d8 htt
  have hrest : ∀ c ∈ [BE.cmp .leq (.lit 0) (.var 88), .cmp .leq (.var 88) (.lit 119), .cmp .leq (.lit 1) (.var 90), .cmp .leq (.var 90) (.lit 1200),
    .cmp .leq (.var (hadV k 0)) (.var 92), .cmp .leq (.var 92) (.var (hadV k 1)), .not (.and (.not (gA k)) (.not (gB k)))], c.den ρ = true := fun c hc => hdom c (List.mem_append_right _ hc)
  simp only [List.mem_cons, List.not_mem_nil, or_false, forall_eq_or_imp, forall_eq] at hrest
  obtain ⟨r1, r2, r3, r4, r5, r6, r7⟩ := hrest
  rw [BE.t_leq] at r1 r2 r3 r4 r5 r6
  simp only [IE.den_lit, IE.den_var] at r1 r2 r3 r4 r5 r6
  generalize hlow : ρ.iv (hadV k 0) = low at d1 d2 r5
  generalize hhigh : ρ.iv (hadV k 1) = high at d3 d4 r6
  generalize htl : ρ.iv 2 = tl at d5 d6 htt
  generalize hth : ρ.iv 3 = th at d7 d8 htt
  generalize hwant : ρ.iv 90 = want at r3 r4
  obtain ⟨S, hS⟩ : ∃ S : Nat, ρ.iv 88 = (S : Int) := ⟨(ρ.iv 88).toNat, by omega⟩
  rw [hS] at r1 r2
  -- what is known of what is told
  have hgood : (ρ.iv 99 = 0 ∧ ρ.iv 97 = (firstAt (fun n => decide (feetAt low th n < want)) 1000 0 : Nat) - 1 ∧ ρ.iv 98 = (firstAt (fun n => decide (feetAt high tl n < want)) 1000 0 : Nat) - 1) ∨ (ρ.iv 99 = 4 ∧ want > high) := by
    have e0 : (servesV k 0).den ρ = servesF low th want := by
      show FI ρ.fi 0 (ρ.iv (hadV k 0)) (ρ.iv 3) (ρ.iv 90) = _
      rw [hlow, hth, hwant]; rfl
    have e1 : (servesV k 1).den ρ = servesF high tl want := by
      show FI ρ.fi 0 (ρ.iv (hadV k 1)) (ρ.iv 2) (ρ.iv 90) = _
      rw [hhigh, htl, hwant]; rfl
    have r7 : (!((!((ρ.iv 99 == 0) && ((ρ.iv 97 == (servesV k 0).den ρ) && (ρ.iv 98 == (servesV k 1).den ρ)))) && (!((ρ.iv 99 == 4) && decide (ρ.iv 90 > ρ.iv (hadV k 1)))))) = true := r7
    rw [e0, e1, hwant, hhigh] at r7
    cases hA : ((ρ.iv 99 == 0) && ((ρ.iv 97 == servesF low th want) && (ρ.iv 98 == servesF high tl want))) with
    | true =>
      simp only [Bool.and_eq_true, beq_iff_eq] at hA
      exact .inl hA
    | false =>
      cases hB : ((ρ.iv 99 == 4) && decide (want > high)) with
      | true =>
        simp only [Bool.and_eq_true, beq_iff_eq, decide_eq_true_eq] at hB
        exact .inr hB
      | false => rw [hA, hB] at r7; cases r7
  have hbelow : ∀ (i z j z' : Int) (q : Nat), q < 90 → (setT ρ i z).iv q = (setT ρ j z').iv q := fun i z j z' q hq => by rw [setT_ne _ _ _ (by omega) (by omega), setT_ne _ _ _ (by omega) (by omega)]
  have hbelow0 : ∀ (i z : Int) (q : Nat), q < 90 → ρ.iv q = (setT ρ i z).iv q := fun i z q hq => by rw [setT_ne _ _ _ (by omega) (by omega)]
  have film : ∀ ρ1 ρ2 : Rho, (∀ q, q < 90 → ρ1.iv q = ρ2.iv q) → SameL ρ1 (lawFilm L) ρ2 (lawFilm L) := fun ρ1 ρ2 h =>
    SameL.cons (SameV.sliceX _ _ _ _) (SameL.cons (same_var (h _ (by omega))) (SameL.cons (same_var (h _ (by omega))) (SameL.cons (same_var (h _ (by omega))) (SameL.cons (same_var (h _ (by omega))) (SameL.cons (same_var (h _ (by omega))) SameL.nil)))))
  have lits : ∀ ρ1 ρ2 : Rho, SameL ρ1 [li 1, li 20, li 0, li 50] ρ2 [li 1, li 20, li 0, li 50] ∧ SameL ρ1 [li 0, li 99, li 0, li 99, li 1, li 1200] ρ2 [li 0, li 99, li 0, li 99, li 1, li 1200] := fun ρ1 ρ2 =>
    ⟨SameL.cons (same_lit _) (SameL.cons (same_lit _) (SameL.cons (same_lit _) (SameL.cons (same_lit _) SameL.nil))),
      SameL.cons (same_lit _) (SameL.cons (same_lit _) (SameL.cons (same_lit _) (SameL.cons (same_lit _) (SameL.cons (same_lit _) (SameL.cons (same_lit _) SameL.nil)))))⟩
  refine ⟨S + 1, fun i ρ' => i ≤ S + 1 ∧ ∃ z : Int, ρ' = setT ρ (i : Int) z ∧ feetAt low th i ≤ z ∧ z ≤ feetAt high tl i, setT ρ 0 (ρ.iv 92), ?_, ?_, ?_, ?_, ?_⟩
  · rintro i ρ' ⟨_, z, rfl, _⟩; exact setT_ok hok _ _
  · exact ⟨by omega, ρ.iv 92, rfl, by rw [feetAt_zero d1]; exact r5, by rw [feetAt_zero d3]; exact r6⟩
  · intro g hg
    simp only [tornL, List.mem_cons, List.not_mem_nil, or_false] at hg
    rcases hg with rfl | rfl | rfl | rfl | rfl | rfl | rfl | rfl | rfl | rfl
    · exact ⟨.sliceU 96, by simp [tornL], sameU rfl (setT_ne _ _ _ (by omega) (by omega)).symm⟩
    · exact ⟨.ptr 1001 0, by simp [tornL], SameV.ptr _ _⟩
    · exact ⟨li k, by simp [tornL], same_lit _⟩
    · exact ⟨vi 88, by simp [tornL], same_var (hbelow0 _ _ _ (by omega))⟩
    · exact ⟨vi 92, by simp [tornL], SameV.int (setT_93 ρ 0 _).symm⟩
    · exact ⟨vi 90, by simp [tornL], same_var (setT_ne _ _ _ (by omega) (by omega)).symm⟩
    · exact ⟨vi 97, by simp [tornL], same_var (setT_ne _ _ _ (by omega) (by omega)).symm⟩
    · exact ⟨vi 98, by simp [tornL], same_var (setT_ne _ _ _ (by omega) (by omega)).symm⟩
    · exact ⟨vi 99, by simp [tornL], same_var (setT_ne _ _ _ (by omega) (by omega)).symm⟩
    · exact ⟨li 0, by simp [tornL], SameV.int (setT_91 ρ 0 _).symm⟩
  · intro g hg
    simp only [tornL, List.mem_cons, List.not_mem_nil, or_false] at hg
    rcases hg with rfl | rfl | rfl | rfl
    · exact (lits _ _).1
    · exact (lits _ _).2
    · exact film _ _ (hbelow0 _ _)
    · exact same_up (hbelow0 _ _) _ _ (by omega)
  · rintro i ρ' hi ⟨hiS, z, rfl, hz1, hz2⟩
    have hok' : okPick (setT ρ i z) m := setT_ok hok _ _
    have h91 : (setT ρ i z).iv 91 = i := setT_91 _ _ _
    have h93 : (setT ρ i z).iv 93 = z := setT_93 _ _ _
    have h90 : (setT ρ i z).iv 90 = want := by rw [setT_ne _ _ _ (by omega) (by omega), hwant]
    have h88 : (setT ρ i z).iv 88 = S := by rw [setT_ne _ _ _ (by omega) (by omega), hS]
    have h97 : (setT ρ i z).iv 97 = ρ.iv 97 := setT_ne _ _ _ (by omega) (by omega)
    have h98 : (setT ρ i z).iv 98 = ρ.iv 98 := setT_ne _ _ _ (by omega) (by omega)
    have h99 : (setT ρ i z).iv 99 = ρ.iv 99 := setT_ne _ _ _ (by omega) (by omega)
    have hl : (setT ρ i z).iv (hadV k 0) = low := by rw [setT_ne _ _ _ (by omega) (by omega), hlow]
    have hh : (setT ρ i z).iv (hadV k 1) = high := by rw [setT_ne _ _ _ (by omega) (by omega), hhigh]
    have h2 : (setT ρ i z).iv 2 = tl := by rw [setT_ne _ _ _ (by omega) (by omega), htl]
    have h3 : (setT ρ i z).iv 3 = th := by rw [setT_ne _ _ _ (by omega) (by omega), hth]
    have f0 := feet_den (ρ := setT ρ i z) (i := i) (a := .var (hadV k 0)) (b := .var 91) (c := .var (tornV 0)) hl h91 h3 ⟨d1, d2⟩ ⟨d7, d8⟩ (by omega)
    have f1 := feet_den (ρ := setT ρ i z) (i := i) (a := .var (hadV k 1)) (b := .var 91) (c := .var (tornV 1)) hh h91 h2 ⟨d3, d4⟩ ⟨d5, d6⟩ (by omega)
    have z0 := feetAt_nonneg low th i
    have z1 := feetAt_le d3 d5 i
    generalize hρ : setT ρ i z = ρ1 at *
    let H : Nat → Bool := holdsAt low high tl th z
    have hH : H i = true := by simp only [H, holdsAt]; rw [decide_eq_true hz1, decide_eq_true hz2]; rfl
    have hsn := seenF_in hH 1000 (by omega)
    have hP : seenP (pack low high) (pack tl th) z = seenF H 1000 := by
      simp only [seenP, pk_fst _ _ ⟨d3, d4⟩, pk_snd _ _ ⟨d3, d4⟩, pk_fst tl th ⟨d7, by omega⟩, pk_snd tl th ⟨d7, by omega⟩]; rfl
    have ePA : (pkA k).den ρ1 = pack low high := by
      show FI ρ1.fi 1 (ρ1.iv (hadV k 0)) (ρ1.iv (hadV k 1)) 0 = _
      rw [hl, hh]; rfl
    have ePB : pkB.den ρ1 = pack tl th := by
      show FI ρ1.fi 1 (ρ1.iv 2) (ρ1.iv 3) 0 = _
      rw [h2, h3]; rfl
    have eB : (BE.app 0 (pkA k) pkB (.var 93)).den ρ1 = true := by
      show FB ρ1.fb 0 ((pkA k).den ρ1) (pkB.den ρ1) (ρ1.iv 93) = true
      rw [ePA, ePB, h93]
      show (seenP (pack low high) (pack tl th) z).1 = true
      rw [hP]; exact hsn.1
    have e2 : (seenI3 2 k).den ρ1 = (seenF H 1000).2.1 := by
      show FI ρ1.fi 2 ((pkA k).den ρ1) (pkB.den ρ1) (ρ1.iv 93) = _
      rw [ePA, ePB, h93]
      show ((seenP (pack low high) (pack tl th) z).2.1 : Int) = _
      rw [hP]
    have e3 : (seenI3 3 k).den ρ1 = (seenF H 1000).2.2 := by
      show FI ρ1.fi 3 ((pkA k).den ρ1) (pkB.den ρ1) (ρ1.iv 93) = _
      rw [ePA, ePB, h93]
      show ((seenP (pack low high) (pack tl th) z).2.2 : Int) = _
      rw [hP]
    have hK : KnOk ρ1 (knOf [] (tornK L k)) := by
      refine knOf_ok (fun c hc => by simp [ivC] at hc) fun c hc => ?_
      rcases List.mem_append.1 hc with hc | hc
      · rw [varsB_den (n := 86) (ρ := ρ) (fun j hj => by rw [← hρ, setT_ne _ _ _ (by omega) (by omega)]) (by rw [← hρ]; rfl) (by rw [← hρ]; exact ⟨rfl, rfl⟩) c (lAll_mem' hvars c hc)]
        exact hfilm c hc
      · simp only [List.mem_cons, List.not_mem_nil, or_false] at hc
        rcases hc with rfl | rfl | rfl | rfl | rfl | rfl | rfl | rfl | rfl | rfl | rfl | rfl
        · rw [BE.t_leq, IE.den_lit, IE.den_var, h91]; omega
        · rw [BE.t_leq, IE.den_lit, IE.den_var, h91]; omega
        · rw [BE.t_leq, IE.den_lit, IE.den_var, h88]; omega
        · rw [BE.t_leq, IE.den_lit, IE.den_var, h88]; omega
        · rw [BE.t_leq, IE.den_add, IE.den_lit, IE.den_var, IE.den_var, h88, h91, IntWalk.i64_in _ (by omega)]; omega
        · rw [BE.t_leq, IE.den_lit, IE.den_var, h93]; omega
        · rw [BE.t_leq, IE.den_lit, IE.den_var, h93]; omega
        · exact eB
        · rw [BE.t_leq, IE.den_var, h93]
          show (feetE k 0).den ρ1 ≤ z
          rw [show (feetE k 0).den ρ1 = feetAt low th i from f0]; exact hz1
        · rw [BE.t_leq, IE.den_var, h93]
          show z ≤ (feetE k 1).den ρ1
          rw [show (feetE k 1).den ρ1 = feetAt high tl i from f1]; exact hz2
        · rw [BE.t_leq, IE.den_var, h91, e2]; omega
        · rw [BE.t_leq, IE.den_var, h91, e3]; omega
    have hR : RulesOk ρ1 tornR := by
      intro r hr hp
      exfalso
      simp only [tornR, List.mem_cons, List.not_mem_nil, or_false] at hr
      rcases hr with rfl | rfl | rfl | rfl
      · simp only [List.mem_cons, List.not_mem_nil, or_false, forall_eq_or_imp, forall_eq] at hp
        obtain ⟨p1, p2, p3⟩ := hp
        have p1 : (ρ1.iv 99 == 0) = true := p1
        rw [h99, beq_iff_eq] at p1
        rw [BE.t_leq] at p2
        rw [BE.t_lss] at p3
        simp only [IE.den_var, h91, h97, h93, h90] at p2 p3
        rcases hgood with ⟨_, g2, _⟩ | ⟨g1, _⟩
        · have hnot := firstAt_not (fun n => decide (feetAt low th n < want)) 1000 0 i (Nat.zero_le _) (by omega)
          have hnot := of_decide_eq_false hnot
          omega
        · omega
      · simp only [List.mem_cons, List.not_mem_nil, or_false, forall_eq_or_imp, forall_eq] at hp
        obtain ⟨p1, p2, p3⟩ := hp
        have p1 : (ρ1.iv 99 == 0) = true := p1
        rw [h99, beq_iff_eq] at p1
        have p2 : decide (ρ1.iv 91 > ρ1.iv 98) = true := p2
        have p3 : decide (ρ1.iv 93 ≥ ρ1.iv 90) = true := p3
        have p2 := of_decide_eq_true p2
        have p3 := of_decide_eq_true p3
        rw [h91, h98] at p2
        rw [h93, h90] at p3
        rcases hgood with ⟨_, _, g3⟩ | ⟨g1, _⟩
        · have hyes := firstAt_yes (fun n => decide (feetAt high tl n < want)) 1000 0 (by omega)
          have hyes := of_decide_eq_true hyes
          have := feetAt_mono (had := high) d5 (a := firstAt (fun n => decide (feetAt high tl n < want)) 1000 0) (b := i) (by omega)
          omega
        · omega
      · simp only [List.mem_cons, List.not_mem_nil, or_false, forall_eq_or_imp, forall_eq] at hp
        obtain ⟨p1, p3⟩ := hp
        have p1 : (ρ1.iv 99 != 0) = true := p1
        rw [h99] at p1
        simp only [bne_iff_ne, ne_eq] at p1
        have p3 : decide (ρ1.iv 93 ≥ ρ1.iv 90) = true := p3
        have p3 := of_decide_eq_true p3
        rw [h93, h90] at p3
        rcases hgood with ⟨g1, _⟩ | ⟨_, g2⟩
        · omega
        · omega
      · simp only [List.mem_cons, List.not_mem_nil, or_false, forall_eq_or_imp, forall_eq] at hp
        obtain ⟨p1, p2⟩ := hp
        have p1 : (ρ1.iv 99 == 0) = true := p1
        have p2 : (ρ1.iv 99 != 0) = true := p2
        simp only [beq_iff_eq] at p1
        simp only [bne_iff_ne, ne_eq] at p2
        exact p2 p1
    -- what is torn off
    have hjup : upJ.den ρ1 = ((i + 1 : Nat) : Int) := by
      show (IE.bin .add .i64 (.var 91) (.lit 1)).den ρ1 = _
      rw [IE.den_add, IE.den_var, IE.den_lit, h91, IntWalk.i64_in _ (by omega)]; simp
    obtain ⟨tear, htear, hb1, hb2⟩ : ∃ tear : Int, tearE.den ρ1 = tear ∧ tl ≤ tear ∧ tear ≤ th := by
      refine ⟨tearE.den ρ1, rfl, ?_⟩
      have : tearE.den ρ1 = chooseF tl th ((IE.app 1000 upJ (.lit 0) (.lit 0)).den ρ1) := by
        show FI ρ1.fi 7 (ρ1.iv 2) (ρ1.iv 3) _ = _
        rw [h2, h3]; rfl
      rw [this]
      exact chooseF_in htt
    have hu : tornU.Holds ρ1 (fun b => (b = .tup [li (0 : Nat), .tup [.int .i64 (.lit 0)], .tup [.int .i64 upJ]] ∧ i ≤ S ∧ tear > z) ∨
        (b = .tup [li (0 : Nat), .tup [.int .i64 (.bin .sub .i64 (.var 93) tearE)], .tup [.int .i64 upJ]] ∧ i ≤ S ∧ ¬ tear > z) ∨
        (b = .tup [li (2 : Nat), .tup [vi 93], .tup [vi 91]] ∧ ¬ i ≤ S)) := by
      unfold tornU
      simp only [T.Holds]
      split
      · rename_i c1
        rw [BE.t_leq, IE.den_var, IE.den_var, h91, h88] at c1
        split
        · rename_i c2
          have c2 : decide (tearE.den ρ1 > ρ1.iv 93) = true := c2
          have c2 := of_decide_eq_true c2
          rw [htear, h93] at c2
          exact .inl ⟨rfl, by omega, c2⟩
        · rename_i c2
          have c2 : ¬ decide (tearE.den ρ1 > ρ1.iv 93) = true := c2
          have c2 : ¬ tearE.den ρ1 > ρ1.iv 93 := fun h => c2 (decide_eq_true h)
          rw [htear, h93] at c2
          exact .inr (.inl ⟨rfl, by omega, c2⟩)
      · rename_i c1
        rw [BE.t_leq, IE.den_var, IE.den_var, h91, h88] at c1
        exact .inr (.inr ⟨rfl, by omega⟩)
    have key := servesX_ok hR hu _ _ hK hc2
    rw [T.holds_bind] at key
    have key2 := endsT_ok _ hc1 key
    refine T.holds_weak key2 fun r hr => ?_
    obtain ⟨⟨b, hb, hpure, hs⟩, hkeep⟩ := hr
    have nxt : ∀ (z' : Int) (e : IE), i ≤ S → SameE ρ1 (endV r) (.tup [li (0 : Nat), .tup [.int .i64 e], .tup [.int .i64 upJ]]) → e.den ρ1 = z' → z' = (if tear > z then 0 else z - tear) →
        r.1 = .norm ∧ ∃ ρ'', (i < S + 1 ∧ i + 1 ≤ S + 1 ∧ ∃ z : Int, ρ'' = setT ρ ((i + 1 : Nat) : Int) z ∧ feetAt low th (i + 1) ≤ z ∧ z ≤ feetAt high tl (i + 1)) ∧ Next (tornL L k).T ρ1 ρ'' r.2 := by
      intro z' e hiS2 hs he hz'
      obtain ⟨t1, ⟨v, t2, t3⟩, v', t4, t5⟩ := endV_eq hs
      have t1 : r.1 = .norm := tagE_inj (by rw [t1]; rfl)
      obtain ⟨k1, k2, k3, k4, k5, k6, k7, k8, k9⟩ := keepsOk_eq hkeep (by rw [t1]; simp)
      have hb3 := feetAt_low (tear := tear) hz1 hb2
      have hb4 := feetAt_high (tear := tear) hz2 (by omega) d5 hb1
      rw [← hz'] at hb3 hb4
      refine ⟨t1, setT ρ ((i + 1 : Nat) : Int) z', ⟨by omega, by omega, z', rfl, hb3, hb4⟩, k1, fun g hg => ?_, fun g hg => ?_⟩
      · have same : ∀ q, q ≠ 91 → q ≠ 93 → ρ1.iv q = (setT ρ ((i + 1 : Nat) : Int) z').iv q := fun q h1 h2 => by rw [← hρ, setT_ne _ _ _ h1 h2, setT_ne _ _ _ h1 h2]
        simp only [LSpec.T, tornL, List.mem_cons, List.not_mem_nil, or_false] at hg
        rcases hg with rfl | rfl | rfl | rfl | rfl | rfl | rfl | rfl | rfl | rfl
        · exact ⟨_, k2, sameU (by rw [← hρ]; rfl) (same _ (by omega) (by omega))⟩
        · exact ⟨_, k3, SameV.ptr _ _⟩
        · exact ⟨_, k4, same_lit _⟩
        · exact ⟨_, k5, same_var (same _ (by omega) (by omega))⟩
        · refine ⟨v, t2, fun σ κ n m rc rc' => (t3 ⟨ρ1, σ, κ, n, rc⟩ rfl).trans ?_⟩
          simp only [conc, he, vi, IE.den, setT_93]
        · exact ⟨_, k6, same_var (same _ (by omega) (by omega))⟩
        · exact ⟨_, k7, same_var (same _ (by omega) (by omega))⟩
        · exact ⟨_, k8, same_var (same _ (by omega) (by omega))⟩
        · exact ⟨_, k9, same_var (same _ (by omega) (by omega))⟩
        · refine ⟨v', t4, fun σ κ n m rc rc' => (t5 ⟨ρ1, σ, κ, n, rc⟩ rfl).trans ?_⟩
          simp only [conc, hjup, vi, IE.den, setT_91]
      · have same : ∀ q, q < 90 → ρ1.iv q = (setT ρ ((i + 1 : Nat) : Int) z').iv q := fun q h => by rw [← hρ]; exact hbelow _ _ _ _ q h
        simp only [LSpec.T, tornL, List.map_cons, List.map_nil, List.mem_cons, List.not_mem_nil, or_false] at hg
        rcases hg with rfl | rfl | rfl | rfl
        · exact (lits _ _).1
        · exact (lits _ _).2
        · exact film _ _ same
        · exact same_up same _ _ (by omega)
    rcases hb with ⟨rfl, g1, g2⟩ | ⟨rfl, g1, g2⟩ | ⟨rfl, g1⟩
    · exact .inl (nxt 0 (.lit 0) g1 hs rfl (by rw [if_pos g2]))
    · refine .inl (nxt (z - tear) _ g1 hs ?_ (by rw [if_neg g2]))
      rw [IE.den_sub, IE.den_var, h93, htear, IntWalk.i64_in _ (by omega)]
    · obtain ⟨t1, ⟨v, t2, t3⟩, v', t4, t5⟩ := endV_eq hs
      have t1 : r.1 = .exit 0 := tagE_inj (by rw [t1]; rfl)
      obtain ⟨k1, _⟩ := keepsOk_eq hkeep (by rw [t1]; simp)
      refine .inr ⟨by rw [t1]; simp, k1, ⟨_, rfl, t1, fun g hg => by cases hg⟩, fun g hg q hown => ?_⟩
      simp only [tornL, List.mem_cons, List.not_mem_nil, or_false] at hg
      rcases hg with rfl | rfl | rfl | rfl <;> cases hown
end Go.Sx
