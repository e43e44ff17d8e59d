/- WITH HOW MANY SHOWINGS A REEL HAS SO MANY FEET, in the reference: the loop, as it is said. -/
import Derived.Test.YtanhchkdglglhaaDoorSxSeen
/-! WITH HOW MANY SHOWINGS A REEL HAS SO MANY FEET, in the reference: the loop, as it is said. -/
namespace Go.Sx
open Go.RowKit Go.Proofs
set_option maxRecDepth 100000
noncomputable def rseenBody : C := (cSeq (cSeq (cOps [⟨some 25, false, none, iMov (.t 10)⟩,
 ⟨some 26, true, none, iCmp .leq (.t 25) (.c (.int .i64 (.lit 999)))⟩])
 (cCond (.t 26) cSkip (cExit 0)))
 (cSeq (cBlock 1 (cSeq (cOps [⟨some 29, false, none, iLoadN 6 (.t 3)⟩,
 ⟨some 30, false, none, iMov (.t 1)⟩,
 ⟨some 31, false, none, iMov (.t 10)⟩,
 ⟨some 32, false, none, iCall (.c (.func (.func 81) [] [])) [(.t 29), (.t 30), (.t 31)]⟩,
 ⟨some 33, false, none, iMov (.t 2)⟩,
 ⟨some 34, true, none, iCall (.c (.func (.func 56) [] [])) [(.t 32), (.t 33)]⟩])
 (cCond (.t 34) (cSeq (cSeq (cOps [⟨some 35, false, none, iFaddr 0 (.t 9)⟩,
 ⟨some 36, false, none, iLoad (.t 35)⟩,
 ⟨some 37, true, none, iCmp .lss (.t 36) (.c (.int .i64 (.lit 0)))⟩])
 (cCond (.t 37) (cOps [⟨some 38, false, none, iMov (.t 10)⟩,
 ⟨some 39, false, none, iFaddr 0 (.t 9)⟩,
 ⟨none, false, none, iStore 1 (.t 39) (.t 38)⟩]) cSkip))
 (cOps [⟨some 40, false, none, iMov (.t 10)⟩,
 ⟨some 41, false, none, iFaddr 1 (.t 9)⟩,
 ⟨none, false, none, iStore 1 (.t 41) (.t 40)⟩])) cSkip)))
 (cOps [⟨some 27, false, none, iMov (.t 10)⟩,
 ⟨some 28, false, none, iArith .add (.t 27) (.c (.int .i64 (.lit 1)))⟩,
 ⟨some 10, true, none, iMov (.t 28)⟩])))
noncomputable def refFilm2 (L : Nat) : List AV := [.sliceX 1002 6 0 L, vi 0, vi 1, vi 2, vi 3, vi 4]
noncomputable def rseenL (L k : Nat) : LSpec where
  sl0 := [(1, li k), (2, vi 90), (3, .ptr 1000 0), (6, .ptr 1003 0), (9, .ptr 1001 0), (10, li 0)]
  sl := [(1, li k), (2, vi 90), (3, .ptr 1000 0), (6, .ptr 1003 0), (9, .ptr 1001 0), (10, vi 91)]
  vs := [⟨1000, none, refFilm2 L, refFilm2 L, []⟩, ⟨1001, some (24, false), [li (-1), li (-1)], [vi 93, vi 94], [.int .i64 (seenI 4 k), .int .i64 (seenI 5 k)]⟩, ⟨1002, none, cellsUp (6 * L) 10, cellsUp (6 * L) 10, []⟩]
  nv := 2000
  dom := rdom k
  out := .ret (.exit 0, [(6, .ptr 1003 0), (9, .ptr 1001 0)])

noncomputable def rseenLeaf (tag : Int) (k : Nat) (i lo hi : IE) : T AV := .ret (.tup (li tag :: .nilslice :: [.tup [li k], .tup [vi 90], .tup [.ptr 1000 0], .tup [.ptr 1003 0], .tup [.ptr 1001 0], .tup [.int .i64 i],
  .tup [.tup [.int .i64 lo, .int .i64 hi], li (24 : Nat), .bool (.lit true), .bool (.lit false)]]))
noncomputable def rseenT (k : Nat) : T AV :=
  .br (.cmp .leq (.var 91) (.lit 999))
    (.br (.cmp .geq (.var 90) (servesFeet k 0))
      (.br (.cmp .leq (.var 90) (servesFeet k 1))
        (.br (.cmp .lss (.var 93) (.lit 0)) (rseenLeaf 0 k upI (.var 91) (.var 91)) (rseenLeaf 0 k upI (.var 93) (.var 91)))
        (rseenLeaf 0 k upI (.var 93) (.var 94)))
      (rseenLeaf 0 k upI (.var 93) (.var 94)))
    (rseenLeaf 2 k (.var 91) (.var 93) (.var 94))
noncomputable def rseenChk (q : Nat × Nat × Nat) : Bool := eqTV (extT [1, 2, 3, 6, 9, 10] [1001] (rseenBody cx0 ⟨35, none⟩ (rseenL q.1 q.2.1).T.st)) (rseenT q.2.1)
theorem rseen_chk : lAll rseenChk allLk = true := by kernel_rfl
theorem rseen_loop {q : Nat × Nat × Nat} (hq : q ∈ allLk) : (rseenL q.1 q.2.1).Ok cx0 ⟨35, none⟩ rseenBody := by
  obtain ⟨b1, b2, b3, b4⟩ := allLk_bnd q hq
  have hchk : rseenChk q = true := lAll_mem rseen_chk q hq
  obtain ⟨L, k, m⟩ := q
  simp only at b1 b2 b3 b4 ⊢
  intro ρ hdom
  have hv0 : hadV k 0 < 90 := by simp only [hadV]; omega
  have hv1 : hadV k 1 < 90 := by simp only [hadV]; omega
  simp only [rseenL, rdom, List.mem_cons, List.not_mem_nil, or_false, forall_eq_or_imp, forall_eq] at hdom
  obtain ⟨d1, d2, d3, d4, d5, d6, d7, d8⟩ := hdom
  rw [BE.t_leq] at d1 d2 d3 d4 d5 d6 d7 d8
  simp only [IE.den_lit, IE.den_var] at d1 d2 d3 d4 d5 d6 d7 d8
  generalize hlow : ρ.iv (hadV k 0) = low at d1 d2
  generalize hhigh : ρ.iv (hadV k 1) = high at d3 d4
  generalize htl : ρ.iv 2 = tl at d5 d6
  generalize hth : ρ.iv 3 = th at d7 d8
  generalize hfeet : ρ.iv 90 = feet
  let H : Nat → Bool := holdsAt low high tl th feet
  have hP : seenP (pack low high) (pack tl th) feet = seenF H 1000 := by
    simp only [seenP, pk_fst _ _ ⟨d3, d4⟩, pk_snd _ _ ⟨d3, d4⟩, pk_fst tl th ⟨d7, by omega⟩, pk_snd tl th ⟨d7, by omega⟩]; rfl
  let lo : Nat → Int := fun i => if (seenF H i).1 then ((seenF H i).2.1 : Int) else -1
  let hi_ : Nat → Int := fun i => if (seenF H i).1 then ((seenF H i).2.2 : Int) else -1
  let st : Nat → Rho := fun i => setS ρ i (lo i) (hi_ i) (seenF H i).1
  have hbelow : ∀ i q, q < 90 → ρ.iv q = (st i).iv q := fun i q hq => (setS_lt ρ _ _ _ _ (by omega)).symm
  have hbelow2 : ∀ i j q, q < 90 → (st i).iv q = (st j).iv q := fun i j q hq => (hbelow i q hq).symm.trans (hbelow j q hq)
  have film : ∀ ρ1 ρ2 : Rho, (∀ q, q < 90 → ρ1.iv q = ρ2.iv q) → SameL ρ1 (refFilm2 L) ρ2 (refFilm2 L) := fun ρ1 ρ2 h =>
    SameL.cons (SameV.sliceX _ _ _ _) (SameL.cons (same_var (h _ (by omega))) (SameL.cons (same_var (h _ (by omega))) (SameL.cons (same_var (h _ (by omega))) (SameL.cons (same_var (h _ (by omega))) (SameL.cons (same_var (h _ (by omega))) SameL.nil)))))
  refine ⟨1000, fun i ρ' => i ≤ 1000 ∧ ρ' = st i, st 0, ⟨Nat.zero_le _, rfl⟩, ?_, ?_, ?_⟩
  · intro g hg
    simp only [rseenL, List.mem_cons, List.not_mem_nil, or_false] at hg
    rcases hg with rfl | rfl | rfl | rfl | rfl | rfl
    · exact ⟨li k, by simp [rseenL], same_lit _⟩
    · exact ⟨vi 90, by simp [rseenL], same_var (setS_lt ρ _ _ _ _ (by omega)).symm⟩
    · exact ⟨.ptr 1000 0, by simp [rseenL], SameV.ptr _ _⟩
    · exact ⟨.ptr 1003 0, by simp [rseenL], SameV.ptr _ _⟩
    · exact ⟨.ptr 1001 0, by simp [rseenL], SameV.ptr _ _⟩
    · exact ⟨li 0, by simp [rseenL], SameV.int (by rw [IE.den_lit, IE.den_var, setS_91]; simp)⟩
  · intro g hg
    simp only [rseenL, List.mem_cons, List.not_mem_nil, or_false] at hg
    rcases hg with rfl | rfl | rfl
    · exact film _ _ (hbelow 0)
    · exact SameL.cons (SameV.int (by rw [IE.den_lit, IE.den_var, setS_93]; rfl)) (SameL.cons (SameV.int (by rw [IE.den_lit, IE.den_var, setS_94]; rfl)) SameL.nil)
    · exact same_up (hbelow 0) _ _ (by omega)
  · rintro i ρ' hi ⟨_, rfl⟩
    have h91 : (st i).iv 91 = i := setS_91 _ _ _ _ _
    have h93 : (st i).iv 93 = lo i := setS_93 _ _ _ _ _
    have h94 : (st i).iv 94 = hi_ i := setS_94 _ _ _ _ _
    have h92 : (st i).bv 92 = (seenF H i).1 := setS_92 _ _ _ _ _
    have h90 : (st i).iv 90 = feet := by rw [setS_lt ρ _ _ _ _ (by omega), hfeet]
    have hl : (st i).iv (hadV k 0) = low := by rw [setS_lt ρ _ _ _ _ (by omega), hlow]
    have hh : (st i).iv (hadV k 1) = high := by rw [setS_lt ρ _ _ _ _ (by omega), hhigh]
    have h2 : (st i).iv 2 = tl := by rw [setS_lt ρ _ _ _ _ (by omega), htl]
    have h3 : (st i).iv 3 = th := by rw [setS_lt ρ _ _ _ _ (by omega), hth]
    have hT := eqTV_eq _ _ hchk
    simp only at hT
    let Goal : Ex × St → Prop := fun r =>
        (r.1 = .norm ∧ ∃ ρ'', (i < 1000 ∧ i + 1 ≤ 1000 ∧ ρ'' = st (i + 1)) ∧ Next (rseenL L k).T (st i) ρ'' r.2) ∨
        (r.1 ≠ .norm ∧ r.2.df = [] ∧ (∃ o, (rseenL L k).out.end_ ρ = some o ∧ r.1 = o.1 ∧ ∀ g ∈ o.2, idsLt (rseenL L k).nv g.2 = true ∧ ∃ v, r.2.tm.tree.get g.1 = some v ∧ SameV (st i) v ρ g.2) ∧
          ∀ g ∈ (rseenL L k).vs, ∀ q, g.own = some q → ∃ cs, r.2.h.get g.id = some (.cells cs q.1 true q.2) ∧ SameL (st i) cs ρ g.cf)
    have nx : ∀ (elo ehi : IE), i < 1000 → elo.den (st i) = lo (i + 1) → ehi.den (st i) = hi_ (i + 1) →
        (rseenLeaf 0 k upI elo ehi).Holds (st i) (fun v => ∀ r, extr [1, 2, 3, 6, 9, 10] [1001] r = v → Goal r) := by
      intro elo ehi hi1 hlo hhi r hr
      simp only [extr, AV.tup.injEq, List.cons.injEq, List.cons_append, List.nil_append, lMap_eq, List.map_cons, List.map_nil, List.append_nil, li, AV.int.injEq, IE.lit.injEq, true_and, and_true] at hr
      obtain ⟨r1, r2, r3, r4, r5, r6, r7, r8, r9⟩ := hr
      have r1 : r.1 = .norm := tagE_inj (by simpa [tagE] using Int.ofNat_inj.1 r1)
      refine .inl ⟨r1, _, ⟨hi1, by omega, rfl⟩, dfA_nil r2, fun g hg => ?_, fun g hg => ?_⟩
      · simp only [LSpec.T, rseenL, List.mem_cons, List.not_mem_nil, or_false] at hg
        rcases hg with rfl | rfl | rfl | rfl | rfl | rfl
        · exact ⟨_, optA_some r3, same_lit _⟩
        · exact ⟨_, optA_some r4, same_var (by rw [h90, setS_lt ρ _ _ _ _ (by omega), hfeet])⟩
        · exact ⟨_, optA_some r5, SameV.ptr _ _⟩
        · exact ⟨_, optA_some r6, SameV.ptr _ _⟩
        · exact ⟨_, optA_some r7, SameV.ptr _ _⟩
        · refine ⟨_, optA_some r8, SameV.int ?_⟩
          rw [upI, IE.den_add, IE.den_var, IE.den_lit, h91, IE.den_var, setS_91, IntWalk.i64_in _ (by omega)]
          simp
      · simp only [LSpec.T, rseenL, List.map_cons, List.map_nil, List.mem_cons, List.not_mem_nil, or_false] at hg
        rcases hg with rfl | rfl | rfl
        · exact film _ _ (hbelow2 i (i + 1))
        · exact ⟨_, blkA_some r9, SameL.cons (SameV.int (by rw [hlo, IE.den_var, setS_93])) (SameL.cons (SameV.int (by rw [hhi, IE.den_var, setS_94])) SameL.nil)⟩
        · exact same_up (hbelow2 i (i + 1)) _ _ (by omega)
    have key : (rseenT k).Holds (st i) (fun a => ∀ r, extr [1, 2, 3, 6, 9, 10] [1001] r = a → Goal r) := by
      simp only [rseenT, T.Holds]
      have c1 : (BE.cmp .leq (.var 91) (.lit 999)).den (st i) = decide ((i : Int) ≤ 999) := by simp only [BE.den, cmpDen, IE.den_var, IE.den_lit, h91]
      rw [c1]
      by_cases hi1 : (i : Int) ≤ 999
      · rw [if_pos (by simpa using hi1)]
        have hi2 : i < 1000 := by omega
        have f0 := feet_den (ρ := st i) (i := i) (a := .var (hadV k 0)) (b := .var 91) (c := .var (tornV 0)) hl h91 h3 ⟨d1, d2⟩ ⟨d7, d8⟩ (by omega)
        have f1 := feet_den (ρ := st i) (i := i) (a := .var (hadV k 1)) (b := .var 91) (c := .var (tornV 1)) hh h91 h2 ⟨d3, d4⟩ ⟨d5, d6⟩ (by omega)
        have cA : (BE.cmp .geq (.var 90) (servesFeet k 0)).den (st i) = decide (feetAt low th i ≤ feet) := by simp only [BE.den, cmpDen, servesFeet, f0, IE.den_var, h90]
        have cB : (BE.cmp .leq (.var 90) (servesFeet k 1)).den (st i) = decide (feet ≤ feetAt high tl i) := by simp only [BE.den, cmpDen, servesFeet, f1, IE.den_var, h90]
        have cC : (BE.cmp .lss (.var 93) (.lit 0)).den (st i) = !(seenF H i).1 := by
          simp only [BE.den, cmpDen, IE.den_var, IE.den_lit, h93, lo]
          cases (seenF H i).1 with
          | true => simp
          | false => simp
        have no : H i = false → (rseenLeaf 0 k upI (.var 93) (.var 94)).Holds (st i) (fun v => ∀ r, extr [1, 2, 3, 6, 9, 10] [1001] r = v → Goal r) := fun hH =>
          nx _ _ hi2 (by simp only [lo, seenF_no hH]; rw [IE.den_var, h93]) (by simp only [hi_, seenF_no hH]; rw [IE.den_var, h94])
        rw [cA, cB, cC]
        by_cases hA : feetAt low th i ≤ feet
        · rw [if_pos (by simpa using hA)]
          by_cases hB : feet ≤ feetAt high tl i
          · rw [if_pos (by simpa using hB)]
            have hH : H i = true := by simp only [H, holdsAt]; rw [decide_eq_true hA, decide_eq_true hB]; rfl
            cases hs : (seenF H i).1 with
            | true =>
              rw [if_neg (by simp)]
              exact nx _ _ hi2 (by simp only [lo, seenF_yes hH, hs, if_true]; rw [IE.den_var, h93]; simp only [lo, hs, if_true]) (by simp only [hi_, seenF_yes hH, if_true]; rw [IE.den_var, h91])
            | false =>
              rw [if_pos (by simp)]
              exact nx _ _ hi2 (by simp only [lo, seenF_yes hH, hs, if_true, Bool.false_eq_true, if_false]; rw [IE.den_var, h91]) (by simp only [hi_, seenF_yes hH, if_true]; rw [IE.den_var, h91])
          · rw [if_neg (by simpa using hB)]
            exact no (by simp only [H, holdsAt]; rw [decide_eq_false hB, Bool.and_false])
        · rw [if_neg (by simpa using hA)]
          exact no (by simp only [H, holdsAt]; rw [decide_eq_false hA]; rfl)
      · rw [if_neg (by simpa using hi1)]
        intro r hr
        have hin : i = 1000 := by omega
        simp only [extr, AV.tup.injEq, List.cons.injEq, List.cons_append, List.nil_append, lMap_eq, List.map_cons, List.map_nil, List.append_nil, li, AV.int.injEq, IE.lit.injEq, true_and, and_true] at hr
        obtain ⟨r1, r2, r3, r4, r5, r6, r7, r8, r9⟩ := hr
        have r1 : r.1 = .exit 0 := tagE_inj (by simpa [tagE] using Int.ofNat_inj.1 r1)
        have ePA : (pkA k).den ρ = pack low high := by simp only [pkA, IE.den, FI, hlow, hhigh]; rfl
        have ePB : pkB.den ρ = pack tl th := by simp only [pkB, IE.den, FI, htl, hth]; rfl
        have e2 : (seenI 4 k).den ρ = lo 1000 := by simp only [seenI, IE.den, ePA, ePB, hfeet]; simp only [FI, hP]; rfl
        have e3 : (seenI 5 k).den ρ = hi_ 1000 := by simp only [seenI, IE.den, ePA, ePB, hfeet]; simp only [FI, hP]; rfl
        refine .inr ⟨by rw [r1]; simp, dfA_nil r2, ⟨_, rfl, r1, fun g hg => ?_⟩, fun g hg q hown => ?_⟩
        · simp only [List.mem_cons, List.not_mem_nil, or_false] at hg
          rcases hg with rfl | rfl
          · exact ⟨rfl, _, optA_some r6, SameV.ptr _ _⟩
          · exact ⟨rfl, _, optA_some r7, SameV.ptr _ _⟩
        · simp only [rseenL, List.mem_cons, List.not_mem_nil, or_false] at hg
          rcases hg with rfl | rfl | rfl
          · cases hown
          · cases hown
            exact ⟨_, blkA_some r9, SameL.cons (SameV.int (by rw [IE.den_var, h93, e2, hin])) (SameL.cons (SameV.int (by rw [IE.den_var, h94, e3, hin])) SameL.nil)⟩
          · cases hown
    rw [← hT] at key
    exact T.holds_weak (extT_holds key) fun r h => h r rfl
end Go.Sx
