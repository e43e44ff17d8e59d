/- WITH HOW MANY SHOWINGS A REEL HAS SO MANY FEET: the loop, as it is said. -/
import Derived.Test.YtanhchkdglglhaaDoorSxRShows
/-! WITH HOW MANY SHOWINGS A REEL HAS SO MANY FEET: the loop, as it is said. -/
namespace Go.Sx
open Go.RowKit Go.Proofs
set_option maxRecDepth 100000
noncomputable def seenBody : C := (cSeq (cOps [⟨some 11, true, none, iCmp .lss (.t 10) (.c (.int .i64 (.lit 1000)))⟩])
 (cSeq (cCond (.t 11) cSkip (cExit 0))
 (cSeq (cBlock 1 (cSeq (cOps [⟨some 12, false, none, iMov (.t 10)⟩,
 ⟨some 8, true, none, iMov (.t 12)⟩])
 (cSeq (cOps [⟨some 13, false, none, iLoadN 7 (.t 3)⟩,
 ⟨some 14, false, none, iMov (.t 1)⟩,
 ⟨some 15, false, none, iMov (.t 8)⟩,
 ⟨some 16, false, none, iCall (.c (.func (.func 80) [] [])) [(.t 13), (.t 14), (.t 15)]⟩,
 ⟨some 9, true, none, iAlloc 24 [(.int .i64 (.lit 0)), (.int .i64 (.lit 0))]⟩,
 ⟨none, false, none, iStore 2 (.t 9) (.t 16)⟩])
 (cSeq (cSeq (cOps [⟨some 17, false, none, iMov (.t 2)⟩,
 ⟨some 18, false, none, iFaddr 0 (.t 9)⟩,
 ⟨some 19, false, none, iLoad (.t 18)⟩,
 ⟨some 20, false, none, iCmp .lss (.t 17) (.t 19)⟩,
 ⟨some 21, false, none, iMov (.t 20)⟩,
 ⟨some 22, false, some (21, false), iMov (.t 2)⟩,
 ⟨some 23, false, some (21, false), iFaddr 1 (.t 9)⟩,
 ⟨some 24, false, some (21, false), iLoad (.t 23)⟩,
 ⟨some 25, false, some (21, false), iCmp .gtr (.t 22) (.t 24)⟩,
 ⟨some 26, true, none, iPick (.t 21) (.c (.bool (.lit true))) (.t 25)⟩])
 (cCond (.t 26) (cExit 1) cSkip))
 (cSeq (cSeq (cOps [⟨some 27, false, none, iMov (.t 7)⟩,
 ⟨some 28, true, none, iNot (.t 27)⟩])
 (cCond (.t 28) (cOps [⟨some 29, false, none, iMov (.t 8)⟩,
 ⟨some 30, false, none, iFaddr 0 (.t 6)⟩,
 ⟨none, false, none, iStore 1 (.t 30) (.t 29)⟩]) cSkip))
 (cOps [⟨some 31, false, none, iMov (.t 8)⟩,
 ⟨some 32, false, none, iFaddr 1 (.t 6)⟩,
 ⟨none, false, none, iStore 1 (.t 32) (.t 31)⟩,
 ⟨some 7, true, none, iMov (.c (.bool (.lit true)))⟩]))))))
 (cOps [⟨some 33, false, none, iArith .add (.t 10) (.c (.int .i64 (.lit 1)))⟩,
 ⟨some 10, true, none, iMov (.t 33)⟩]))))
noncomputable def pkA (k : Nat) : IE := .app 1 (.var (hadV k 0)) (.var (hadV k 1)) (.lit 0)
noncomputable def pkB : IE := .app 1 (.var 2) (.var 3) (.lit 0)
noncomputable def seenI (f k : Nat) : IE := .app f (pkA k) pkB (.var 90)
noncomputable def seenB (k : Nat) : BE := .app 0 (pkA k) pkB (.var 90)
noncomputable def progFilm (L : Nat) : List AV := [.sliceX 1002 6 0 L, vi 0, vi 1, vi 2, vi 3, vi 4, .map 1003]
noncomputable def seenL (L k : Nat) : LSpec where
  sl0 := [(1, li k), (2, vi 90), (3, .ptr 1000 0), (6, .ptr 1001 0), (7, .bool (.lit false)), (10, li 0)]
  sl := [(1, li k), (2, vi 90), (3, .ptr 1000 0), (6, .ptr 1001 0), (7, .bool (.var 92)), (10, vi 91)]
  vs := [⟨1000, none, progFilm L, progFilm L, []⟩, ⟨1001, some (24, false), [li 0, li 0], [vi 93, vi 94], [.int .i64 (seenI 2 k), .int .i64 (seenI 3 k)]⟩, ⟨1002, none, cellsUp (6 * L) 10, cellsUp (6 * L) 10, []⟩]
  nv := 2000
  dom := rdom k
  out := .ret (.exit 0, [(6, .ptr 1001 0), (7, .bool (seenB k))])

noncomputable def seenLeaf (tag : Int) (k : Nat) (b : BE) (i lo hi : IE) : T AV := .ret (.tup (li tag :: .nilslice :: [.tup [li k], .tup [vi 90], .tup [.ptr 1000 0], .tup [.ptr 1001 0], .tup [.bool b], .tup [.int .i64 i],
  .tup [.tup [.int .i64 lo, .int .i64 hi], li (24 : Nat), .bool (.lit true), .bool (.lit false)]]))
noncomputable def upI : IE := .bin .add .i64 (.var 91) (.lit 1)
noncomputable def seenT (k : Nat) : T AV :=
  .br (.cmp .lss (.var 91) (.lit 1000))
    (.br (.cmp .lss (.var 90) (servesFeet k 0)) (seenLeaf 0 k (.var 92) upI (.var 93) (.var 94))
      (.br (.cmp .gtr (.var 90) (servesFeet k 1)) (seenLeaf 0 k (.var 92) upI (.var 93) (.var 94))
        (.br (.var 92) (seenLeaf 0 k (.lit true) upI (.var 93) (.var 91)) (seenLeaf 0 k (.lit true) upI (.var 91) (.var 91)))))
    (seenLeaf 2 k (.var 92) (.var 91) (.var 93) (.var 94))
noncomputable def seenChk (q : Nat × Nat × Nat) : Bool := eqTV (extT [1, 2, 3, 6, 7, 10] [1001] (seenBody cx0 ⟨84, none⟩ (seenL q.1 q.2.1).T.st)) (seenT q.2.1)
theorem seen_chk : lAll seenChk allLk = true := by kernel_rfl

def setS (ρ : Rho) (i lo hi : Int) (b : Bool) : Rho := ⟨(setR ρ i lo hi).iv, fun q => if q = 92 then b else ρ.bv q, ρ.fi, ρ.fb, ρ.ov⟩
theorem setS_91 (ρ : Rho) (i a b : Int) (c : Bool) : (setS ρ i a b c).iv 91 = i := setR_91 ρ i a b
theorem setS_93 (ρ : Rho) (i a b : Int) (c : Bool) : (setS ρ i a b c).iv 93 = a := setR_93 ρ i a b
theorem setS_94 (ρ : Rho) (i a b : Int) (c : Bool) : (setS ρ i a b c).iv 94 = b := setR_94 ρ i a b
theorem setS_92 (ρ : Rho) (i a b : Int) (c : Bool) : (setS ρ i a b c).bv 92 = c := by simp [setS]
theorem setS_lt (ρ : Rho) (i a b : Int) (c : Bool) {q : Nat} (h : q < 91) : (setS ρ i a b c).iv q = ρ.iv q := setR_lt ρ i a b h

theorem pk_fst (a b : Int) (h : 0 ≤ b ∧ b ≤ 1200) : fst4 (pack a b) = a := by simp only [fst4, pack]; omega
theorem pk_snd (a b : Int) (h : 0 ≤ b ∧ b ≤ 1200) : snd4 (pack a b) = b := by simp only [snd4, pack]; omega

theorem seenF_yes {P : Nat → Bool} {i : Nat} (h : P i = true) : seenF P (i + 1) = (true, if (seenF P i).1 then (seenF P i).2.1 else i, i) := by simp only [seenF, h, if_true]
theorem seenF_no {P : Nat → Bool} {i : Nat} (h : P i = false) : seenF P (i + 1) = seenF P i := by simp only [seenF, h, Bool.false_eq_true, if_false]

theorem seen_loop {q : Nat × Nat × Nat} (hq : q ∈ allLk) : (seenL q.1 q.2.1).Ok cx0 ⟨84, none⟩ seenBody := by
  obtain ⟨b1, b2, b3, b4⟩ := allLk_bnd q hq
  have hchk : seenChk q = true := lAll_mem seen_chk q hq
  obtain ⟨L, k, m⟩ := q
  simp only at b1 b2 b3 b4 ⊢
  intro ρ hdom
  have hv0 : hadV k 0 < 90 := by simp only [hadV]; omega
  have hv1 : hadV k 1 < 90 := by simp only [hadV]; omega
  simp only [seenL, rdom, List.mem_cons, List.not_mem_nil, or_false, forall_eq_or_imp, forall_eq] at hdom
  obtain ⟨d1, d2, d3, d4, d5, d6, d7, d8⟩ := hdom
  rw [BE.t_leq] at d1 d2 d3 d4 d5 d6 d7 d8
  simp only [IE.den_lit, IE.den_var] at d1 d2 d3 d4 d5 d6 d7 d8
  generalize hlow : ρ.iv (hadV k 0) = low at d1 d2
  generalize hhigh : ρ.iv (hadV k 1) = high at d3 d4
  generalize htl : ρ.iv 2 = tl at d5 d6
  generalize hth : ρ.iv 3 = th at d7 d8
  generalize hfeet : ρ.iv 90 = feet
  let H : Nat → Bool := holdsAt low high tl th feet
  have hP : seenP (pack low high) (pack tl th) feet = seenF H 1000 := by
    simp only [seenP, pk_fst _ _ ⟨d3, d4⟩, pk_snd _ _ ⟨d3, d4⟩, pk_fst tl th ⟨d7, by omega⟩, pk_snd tl th ⟨d7, by omega⟩]; rfl
  let st : Nat → Rho := fun i => setS ρ i (seenF H i).2.1 (seenF H i).2.2 (seenF H i).1
  have hbelow : ∀ i q, q < 90 → ρ.iv q = (st i).iv q := fun i q hq => (setS_lt ρ _ _ _ _ (by omega)).symm
  have hbelow2 : ∀ i j q, q < 90 → (st i).iv q = (st j).iv q := fun i j q hq => (hbelow i q hq).symm.trans (hbelow j q hq)
  have film : ∀ ρ1 ρ2 : Rho, (∀ q, q < 90 → ρ1.iv q = ρ2.iv q) → SameL ρ1 (progFilm L) ρ2 (progFilm L) := fun ρ1 ρ2 h =>
    SameL.cons (SameV.sliceX _ _ _ _) (SameL.cons (same_var (h _ (by omega))) (SameL.cons (same_var (h _ (by omega))) (SameL.cons (same_var (h _ (by omega))) (SameL.cons (same_var (h _ (by omega))) (SameL.cons (same_var (h _ (by omega))) (SameL.cons (SameV.map _) SameL.nil))))))
  refine ⟨1000, fun i ρ' => i ≤ 1000 ∧ ρ' = st i, st 0, ⟨Nat.zero_le _, rfl⟩, ?_, ?_, ?_⟩
  · intro g hg
    simp only [seenL, List.mem_cons, List.not_mem_nil, or_false] at hg
    rcases hg with rfl | rfl | rfl | rfl | rfl | rfl
    · exact ⟨li k, by simp [seenL], same_lit _⟩
    · exact ⟨vi 90, by simp [seenL], same_var (setS_lt ρ _ _ _ _ (by omega)).symm⟩
    · exact ⟨.ptr 1000 0, by simp [seenL], SameV.ptr _ _⟩
    · exact ⟨.ptr 1001 0, by simp [seenL], SameV.ptr _ _⟩
    · exact ⟨.bool (.lit false), by simp [seenL], SameV.bool (by simp only [BE.den, st, setS_92]; rfl)⟩
    · exact ⟨li 0, by simp [seenL], SameV.int (by rw [IE.den_lit, IE.den_var, setS_91]; simp)⟩
  · intro g hg
    simp only [seenL, List.mem_cons, List.not_mem_nil, or_false] at hg
    rcases hg with rfl | rfl | rfl
    · exact film _ _ (hbelow 0)
    · exact SameL.cons (SameV.int (by rw [IE.den_lit, IE.den_var, setS_93]; rfl)) (SameL.cons (SameV.int (by rw [IE.den_lit, IE.den_var, setS_94]; rfl)) SameL.nil)
    · exact same_up (hbelow 0) _ _ (by omega)
  · rintro i ρ' hi ⟨_, rfl⟩
    have h91 : (st i).iv 91 = i := setS_91 _ _ _ _ _
    have h93 : (st i).iv 93 = (seenF H i).2.1 := setS_93 _ _ _ _ _
    have h94 : (st i).iv 94 = (seenF H i).2.2 := setS_94 _ _ _ _ _
    have h92 : (st i).bv 92 = (seenF H i).1 := setS_92 _ _ _ _ _
    have h90 : (st i).iv 90 = feet := by rw [setS_lt ρ _ _ _ _ (by omega), hfeet]
    have hl : (st i).iv (hadV k 0) = low := by rw [setS_lt ρ _ _ _ _ (by omega), hlow]
    have hh : (st i).iv (hadV k 1) = high := by rw [setS_lt ρ _ _ _ _ (by omega), hhigh]
    have h2 : (st i).iv 2 = tl := by rw [setS_lt ρ _ _ _ _ (by omega), htl]
    have h3 : (st i).iv 3 = th := by rw [setS_lt ρ _ _ _ _ (by omega), hth]
    have hT := eqTV_eq _ _ hchk
    simp only at hT
    let Goal : Ex × St → Prop := fun r =>
        (r.1 = .norm ∧ ∃ ρ'', (i < 1000 ∧ i + 1 ≤ 1000 ∧ ρ'' = st (i + 1)) ∧ Next (seenL L k).T (st i) ρ'' r.2) ∨
        (r.1 ≠ .norm ∧ r.2.df = [] ∧ (∃ o, (seenL L k).out.end_ ρ = some o ∧ r.1 = o.1 ∧ ∀ g ∈ o.2, idsLt (seenL L k).nv g.2 = true ∧ ∃ v, r.2.tm.tree.get g.1 = some v ∧ SameV (st i) v ρ g.2) ∧
          ∀ g ∈ (seenL L k).vs, ∀ q, g.own = some q → ∃ cs, r.2.h.get g.id = some (.cells cs q.1 true q.2) ∧ SameL (st i) cs ρ g.cf)
    have nx : ∀ (c : BE) (lo hi : IE), i < 1000 → c.den (st i) = (seenF H (i + 1)).1 → lo.den (st i) = (seenF H (i + 1)).2.1 → hi.den (st i) = (seenF H (i + 1)).2.2 →
        (seenLeaf 0 k c upI lo hi).Holds (st i) (fun v => ∀ r, extr [1, 2, 3, 6, 7, 10] [1001] r = v → Goal r) := by
      intro c lo hi' hi1 hc hlo hhi r hr
      simp only [extr, AV.tup.injEq, List.cons.injEq, List.cons_append, List.nil_append, lMap_eq, List.map_cons, List.map_nil, List.append_nil, li, AV.int.injEq, IE.lit.injEq, true_and, and_true] at hr
      obtain ⟨r1, r2, r3, r4, r5, r6, r7, r8, r9⟩ := hr
      have r1 : r.1 = .norm := tagE_inj (by simpa [tagE] using Int.ofNat_inj.1 r1)
      refine .inl ⟨r1, _, ⟨hi1, by omega, rfl⟩, dfA_nil r2, fun g hg => ?_, fun g hg => ?_⟩
      · simp only [LSpec.T, seenL, List.mem_cons, List.not_mem_nil, or_false] at hg
        rcases hg with rfl | rfl | rfl | rfl | rfl | rfl
        · exact ⟨_, optA_some r3, same_lit _⟩
        · exact ⟨_, optA_some r4, same_var (by rw [h90, setS_lt ρ _ _ _ _ (by omega), hfeet])⟩
        · exact ⟨_, optA_some r5, SameV.ptr _ _⟩
        · exact ⟨_, optA_some r6, SameV.ptr _ _⟩
        · exact ⟨_, optA_some r7, SameV.bool (by rw [hc]; simp only [BE.den, st, setS_92])⟩
        · refine ⟨_, optA_some r8, SameV.int ?_⟩
          rw [upI, IE.den_add, IE.den_var, IE.den_lit, h91, IE.den_var, setS_91, IntWalk.i64_in _ (by omega)]
          simp
      · simp only [LSpec.T, seenL, List.map_cons, List.map_nil, List.mem_cons, List.not_mem_nil, or_false] at hg
        rcases hg with rfl | rfl | rfl
        · exact film _ _ (hbelow2 i (i + 1))
        · exact ⟨_, blkA_some r9, SameL.cons (SameV.int (by rw [hlo, IE.den_var, setS_93])) (SameL.cons (SameV.int (by rw [hhi, IE.den_var, setS_94])) SameL.nil)⟩
        · exact same_up (hbelow2 i (i + 1)) _ _ (by omega)
    have key : (seenT k).Holds (st i) (fun a => ∀ r, extr [1, 2, 3, 6, 7, 10] [1001] r = a → Goal r) := by
      simp only [seenT, T.Holds]
      have c1 : (BE.cmp .lss (.var 91) (.lit 1000)).den (st i) = decide ((i : Int) < 1000) := by simp only [BE.den, cmpDen, IE.den_var, IE.den_lit, h91]
      rw [c1]
      by_cases hi1 : (i : Int) < 1000
      · rw [if_pos (by simpa using hi1)]
        have hi2 : i < 1000 := by omega
        have f0 := feet_den (ρ := st i) (i := i) (a := .var (hadV k 0)) (b := .var 91) (c := .var (tornV 0)) hl h91 h3 ⟨d1, d2⟩ ⟨d7, d8⟩ (by omega)
        have f1 := feet_den (ρ := st i) (i := i) (a := .var (hadV k 1)) (b := .var 91) (c := .var (tornV 1)) hh h91 h2 ⟨d3, d4⟩ ⟨d5, d6⟩ (by omega)
        have cA : (BE.cmp .lss (.var 90) (servesFeet k 0)).den (st i) = decide (feet < feetAt low th i) := by simp only [BE.den, cmpDen, servesFeet, f0, IE.den_var, h90]
        have cB : (BE.cmp .gtr (.var 90) (servesFeet k 1)).den (st i) = decide (feet > feetAt high tl i) := by simp only [BE.den, cmpDen, servesFeet, f1, IE.den_var, h90]
        have cC : (BE.var 92).den (st i) = (seenF H i).1 := by simp only [BE.den, h92]
        rw [cA, cB, cC]
        by_cases hA : feet < feetAt low th i
        · rw [if_pos (by simpa using hA)]
          have hH : H i = false := by simp only [H, holdsAt]; rw [decide_eq_false (by omega : ¬ feetAt low th i ≤ feet)]; rfl
          exact nx _ _ _ hi2 (by rw [seenF_no hH]; simp only [BE.den, h92]) (by rw [seenF_no hH, IE.den_var, h93]) (by rw [seenF_no hH, IE.den_var, h94])
        · rw [if_neg (by simpa using hA)]
          by_cases hB : feet > feetAt high tl i
          · rw [if_pos (by simpa using hB)]
            have hH : H i = false := by simp only [H, holdsAt]; rw [decide_eq_false (by omega : ¬ feet ≤ feetAt high tl i), Bool.and_false]
            exact nx _ _ _ hi2 (by rw [seenF_no hH]; simp only [BE.den, h92]) (by rw [seenF_no hH, IE.den_var, h93]) (by rw [seenF_no hH, IE.den_var, h94])
          · rw [if_neg (by simpa using hB)]
            have hH : H i = true := by simp only [H, holdsAt]; rw [decide_eq_true (by omega : feetAt low th i ≤ feet), decide_eq_true (by omega : feet ≤ feetAt high tl i)]; rfl
            cases hs : (seenF H i).1 with
            | true =>
              rw [if_pos rfl]
              exact nx _ _ _ hi2 (by rw [seenF_yes hH]; rfl) (by rw [seenF_yes hH, hs, IE.den_var, h93]; rfl) (by rw [seenF_yes hH, IE.den_var, h91])
            | false =>
              rw [if_neg (by simp)]
              exact nx _ _ _ hi2 (by rw [seenF_yes hH]; rfl) (by rw [seenF_yes hH, hs, IE.den_var, h91]; rfl) (by rw [seenF_yes hH, IE.den_var, h91])
      · rw [if_neg (by simpa using hi1)]
        intro r hr
        have hin : i = 1000 := by omega
        simp only [extr, AV.tup.injEq, List.cons.injEq, List.cons_append, List.nil_append, lMap_eq, List.map_cons, List.map_nil, List.append_nil, li, AV.int.injEq, IE.lit.injEq, true_and, and_true] at hr
        obtain ⟨r1, r2, r3, r4, r5, r6, r7, r8, r9⟩ := hr
        have r1 : r.1 = .exit 0 := tagE_inj (by simpa [tagE] using Int.ofNat_inj.1 r1)
        have ePA : (pkA k).den ρ = pack low high := by simp only [pkA, IE.den, FI, hlow, hhigh]; rfl
        have ePB : pkB.den ρ = pack tl th := by simp only [pkB, IE.den, FI, htl, hth]; rfl
        have e2 : (seenI 2 k).den ρ = (seenF H 1000).2.1 := by simp only [seenI, IE.den, ePA, ePB, hfeet]; simp only [FI, hP]; rfl
        have e3 : (seenI 3 k).den ρ = (seenF H 1000).2.2 := by simp only [seenI, IE.den, ePA, ePB, hfeet]; simp only [FI, hP]; rfl
        have eB : (seenB k).den ρ = (seenF H 1000).1 := by simp only [seenB, BE.den, IE.den, ePA, ePB, hfeet]; simp only [FB, hP]; rfl
        refine .inr ⟨by rw [r1]; simp, dfA_nil r2, ⟨_, rfl, r1, fun g hg => ?_⟩, fun g hg q hown => ?_⟩
        · simp only [List.mem_cons, List.not_mem_nil, or_false] at hg
          rcases hg with rfl | rfl
          · exact ⟨rfl, _, optA_some r6, SameV.ptr _ _⟩
          · exact ⟨rfl, _, optA_some r7, SameV.bool (by rw [eB]; have h := h92; rw [hin] at h ⊢; exact h)⟩
        · simp only [seenL, List.mem_cons, List.not_mem_nil, or_false] at hg
          rcases hg with rfl | rfl | rfl
          · cases hown
          · cases hown
            exact ⟨_, blkA_some r9, SameL.cons (SameV.int (by rw [IE.den_var, h93, e2, hin])) (SameL.cons (SameV.int (by rw [IE.den_var, h94, e3, hin])) SameL.nil)⟩
          · cases hown
    rw [← hT] at key
    exact T.holds_weak (extT_holds key) fun r h => h r rfl
end Go.Sx
