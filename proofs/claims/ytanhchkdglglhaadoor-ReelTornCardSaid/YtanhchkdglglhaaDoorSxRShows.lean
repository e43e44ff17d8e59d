/- HOW OFTEN A REEL STILL SERVES, in the reference: the loop, as it is said. -/
import Derived.Test.YtanhchkdglglhaaDoorSxServesF
/-! HOW OFTEN A REEL STILL SERVES, in the reference: the loop, as it is said. -/
namespace Go.Sx
open Go.RowKit Go.Proofs
set_option maxRecDepth 100000
noncomputable def rshowsBody : C := (cSeq (cSeq (cOps [⟨some 26, false, none, iMov (.t 12)⟩,
 ⟨some 27, true, none, iCmp .leq (.t 26) (.c (.int .i64 (.lit 999)))⟩])
 (cCond (.t 27) cSkip (cExit 0)))
 (cSeq (cBlock 1 (cSeq (cOps [⟨some 30, false, none, iLoadN 6 (.t 3)⟩,
 ⟨some 31, false, none, iMov (.t 1)⟩,
 ⟨some 32, false, none, iMov (.t 12)⟩,
 ⟨some 33, false, none, iCall (.c (.func (.func 81) [] [])) [(.t 30), (.t 31), (.t 32)]⟩,
 ⟨some 13, true, none, iAlloc 24 [(.int .i64 (.lit 0)), (.int .i64 (.lit 0))]⟩,
 ⟨none, false, none, iStore 2 (.t 13) (.t 33)⟩])
 (cSeq (cSeq (cOps [⟨some 34, false, none, iFaddr 0 (.t 13)⟩,
 ⟨some 35, false, none, iLoad (.t 34)⟩,
 ⟨some 36, false, none, iMov (.t 2)⟩,
 ⟨some 37, true, none, iCmp .geq (.t 35) (.t 36)⟩])
 (cCond (.t 37) (cOps [⟨some 38, false, none, iMov (.t 12)⟩,
 ⟨some 10, true, none, iMov (.t 38)⟩]) cSkip))
 (cSeq (cOps [⟨some 39, false, none, iFaddr 1 (.t 13)⟩,
 ⟨some 40, false, none, iLoad (.t 39)⟩,
 ⟨some 41, false, none, iMov (.t 2)⟩,
 ⟨some 42, true, none, iCmp .geq (.t 40) (.t 41)⟩])
 (cCond (.t 42) (cOps [⟨some 43, false, none, iMov (.t 12)⟩,
 ⟨some 11, true, none, iMov (.t 43)⟩]) cSkip)))))
 (cOps [⟨some 28, false, none, iMov (.t 12)⟩,
 ⟨some 29, false, none, iArith .add (.t 28) (.c (.int .i64 (.lit 1)))⟩,
 ⟨some 12, true, none, iMov (.t 29)⟩])))
noncomputable def refFilm (L : Nat) : List AV := [.sliceX 1001 6 0 L, vi 0, vi 1, vi 2, vi 3, vi 4]
noncomputable def rdom (k : Nat) : List BE := [.cmp .leq (.lit 0) (.var (hadV k 0)), .cmp .leq (.var (hadV k 0)) (.lit 1200), .cmp .leq (.lit 0) (.var (hadV k 1)), .cmp .leq (.var (hadV k 1)) (.lit 1200),
  .cmp .leq (.lit 0) (.var 2), .cmp .leq (.var 2) (.lit 50), .cmp .leq (.lit 0) (.var 3), .cmp .leq (.var 3) (.lit 50)]
noncomputable def lessC (k m : Nat) : BE := .cmp .lss (servesV k m) (.lit 999)
noncomputable def refOut (k m : Nat) (b : Bool) : AV := match b with
  | true => .int .i64 (servesV k m)
  | false => li 999
noncomputable def rshowsL (L k : Nat) : LSpec where
  sl0 := [(1, li k), (2, vi 90), (3, .ptr 1000 0), (10, li (-1)), (11, li (-1)), (12, li 0)]
  sl := [(1, li k), (2, vi 90), (3, .ptr 1000 0), (10, vi 93), (11, vi 94), (12, vi 91)]
  vs := [⟨1000, none, refFilm L, refFilm L, []⟩, ⟨1001, none, cellsUp (6 * L) 10, cellsUp (6 * L) 10, []⟩]
  nv := 2000
  dom := rdom k
  out := .br (lessC k 0) (.br (lessC k 1) (.ret (.exit 0, [(10, refOut k 0 true), (11, refOut k 1 true)])) (.ret (.exit 0, [(10, refOut k 0 true), (11, refOut k 1 false)])))
    (.br (lessC k 1) (.ret (.exit 0, [(10, refOut k 0 false), (11, refOut k 1 true)])) (.ret (.exit 0, [(10, refOut k 0 false), (11, refOut k 1 false)])))

noncomputable def rshowsLeaf (tag : Int) (k : Nat) (a b i : IE) : T AV := .ret (.tup (li tag :: .nilslice :: [.tup [li k], .tup [vi 90], .tup [.ptr 1000 0], .tup [.int .i64 a], .tup [.int .i64 b], .tup [.int .i64 i]]))
noncomputable def rshowsT (k : Nat) : T AV :=
  .br (.cmp .leq (.var 91) (.lit 999))
    (.br (.cmp .geq (servesFeet k 0) (.var 90))
      (.br (.cmp .geq (servesFeet k 1) (.var 90)) (rshowsLeaf 0 k (.var 91) (.var 91) (.bin .add .i64 (.var 91) (.lit 1))) (rshowsLeaf 0 k (.var 91) (.var 94) (.bin .add .i64 (.var 91) (.lit 1))))
      (.br (.cmp .geq (servesFeet k 1) (.var 90)) (rshowsLeaf 0 k (.var 93) (.var 91) (.bin .add .i64 (.var 91) (.lit 1))) (rshowsLeaf 0 k (.var 93) (.var 94) (.bin .add .i64 (.var 91) (.lit 1)))))
    (rshowsLeaf 2 k (.var 93) (.var 94) (.var 91))
noncomputable def rshowsChk (q : Nat × Nat × Nat) : Bool := eqTV (extT [1, 2, 3, 10, 11, 12] [] (rshowsBody cx0 ⟨33, none⟩ (rshowsL q.1 q.2.1).T.st)) (rshowsT q.2.1)
theorem rshows_chk : lAll rshowsChk allLk = true := by kernel_rfl

theorem feetAt_anti {had torn : Int} (h : 0 ≤ torn) {n m : Nat} (hnm : n ≤ m) : feetAt had torn m ≤ feetAt had torn n := by
  have : (n : Int) * torn ≤ m * torn := Int.mul_le_mul_of_nonneg_right (by omega) h
  simp only [feetAt]; omega

/-- it is first so little, and from then on -/
theorem serves_iff {had torn need : Int} (h : 0 ≤ torn) {i : Nat} (hi : i < 1000) : (need ≤ feetAt had torn i ↔ i < firstAt (fun n => decide (feetAt had torn n < need)) 1000 0) := by
  constructor
  · intro hn
    rcases Nat.lt_or_ge i (firstAt (fun n => decide (feetAt had torn n < need)) 1000 0) with hlt | hge
    · exact hlt
    · have := firstAt_yes (fun n => decide (feetAt had torn n < need)) 1000 0 (by omega)
      have h2 := of_decide_eq_true this
      have := feetAt_anti (had := had) h hge
      omega
  · intro hlt
    have := firstAt_not (fun n => decide (feetAt had torn n < need)) 1000 0 i (Nat.zero_le _) hlt
    have := of_decide_eq_false this
    omega

def setR (ρ : Rho) (i a b : Int) : Rho := setI (setI (setI ρ 91 i) 93 a) 94 b
theorem setR_91 (ρ : Rho) (i a b : Int) : (setR ρ i a b).iv 91 = i := by simp [setR, setI]
theorem setR_93 (ρ : Rho) (i a b : Int) : (setR ρ i a b).iv 93 = a := by simp [setR, setI]
theorem setR_94 (ρ : Rho) (i a b : Int) : (setR ρ i a b).iv 94 = b := by simp [setR, setI]
theorem setR_lt (ρ : Rho) (i a b : Int) {q : Nat} (h : q < 91) : (setR ρ i a b).iv q = ρ.iv q := by
  simp only [setR, setI]; rw [if_neg (by omega), if_neg (by omega), if_neg (by omega)]

theorem rshows_loop {q : Nat × Nat × Nat} (hq : q ∈ allLk) : (rshowsL q.1 q.2.1).Ok cx0 ⟨33, none⟩ rshowsBody := by
  obtain ⟨b1, b2, b3, b4⟩ := allLk_bnd q hq
  have hchk : rshowsChk q = true := lAll_mem rshows_chk q hq
  obtain ⟨L, k, m⟩ := q
  simp only at b1 b2 b3 b4 ⊢
  intro ρ hdom
  have hv0 : hadV k 0 < 90 := by simp only [hadV]; omega
  have hv1 : hadV k 1 < 90 := by simp only [hadV]; omega
  simp only [rshowsL, rdom, List.mem_cons, List.not_mem_nil, or_false, forall_eq_or_imp, forall_eq] at hdom
  obtain ⟨d1, d2, d3, d4, d5, d6, d7, d8⟩ := hdom
  rw [BE.t_leq] at d1 d2 d3 d4 d5 d6 d7 d8
  simp only [IE.den_lit, IE.den_var] at d1 d2 d3 d4 d5 d6 d7 d8
  generalize hlow : ρ.iv (hadV k 0) = low at d1 d2
  generalize hhigh : ρ.iv (hadV k 1) = high at d3 d4
  generalize htl : ρ.iv 2 = tl at d5 d6
  generalize hth : ρ.iv 3 = th at d7 d8
  generalize hneed : ρ.iv 90 = need
  have hA : FI ρ.fi 0 low th need = (firstAt (fun n => decide (feetAt low th n < need)) 1000 0 : Nat) - 1 := rfl
  have hB : FI ρ.fi 0 high tl need = (firstAt (fun n => decide (feetAt high tl n < need)) 1000 0 : Nat) - 1 := rfl
  have iA := fun {i : Nat} (hi : i < 1000) => serves_iff (had := low) (torn := th) (need := need) d7 hi
  have iB := fun {i : Nat} (hi : i < 1000) => serves_iff (had := high) (torn := tl) (need := need) d5 hi
  have lA := firstAt_le (fun n => decide (feetAt low th n < need)) 1000 0
  have lB := firstAt_le (fun n => decide (feetAt high tl n < need)) 1000 0
  generalize firstAt (fun n => decide (feetAt low th n < need)) 1000 0 = nA at hA iA lA
  generalize firstAt (fun n => decide (feetAt high tl n < need)) 1000 0 = nB at hB iB lB
  let st : Nat → Rho := fun i => setR ρ i ((min nA i : Nat) - 1) ((min nB i : Nat) - 1)
  have hbelow : ∀ i q, q < 90 → ρ.iv q = (st i).iv q := fun i q hq => (setR_lt ρ _ _ _ (by omega)).symm
  have hbelow2 : ∀ i j q, q < 90 → (st i).iv q = (st j).iv q := fun i j q hq => (hbelow i q hq).symm.trans (hbelow j q hq)
  have film : ∀ ρ1 ρ2 : Rho, (∀ q, q < 90 → ρ1.iv q = ρ2.iv q) → SameL ρ1 (refFilm L) ρ2 (refFilm L) := fun ρ1 ρ2 h =>
    SameL.cons (SameV.sliceX _ _ _ _) (SameL.cons (same_var (h _ (by omega))) (SameL.cons (same_var (h _ (by omega))) (SameL.cons (same_var (h _ (by omega))) (SameL.cons (same_var (h _ (by omega))) (SameL.cons (same_var (h _ (by omega))) SameL.nil)))))
  refine ⟨1000, fun i ρ' => i ≤ 1000 ∧ ρ' = st i, st 0, ⟨Nat.zero_le _, rfl⟩, ?_, ?_, ?_⟩
  · intro g hg
    simp only [rshowsL, List.mem_cons, List.not_mem_nil, or_false] at hg
    rcases hg with rfl | rfl | rfl | rfl | rfl | rfl
    · exact ⟨li k, by simp [rshowsL], same_lit _⟩
    · exact ⟨vi 90, by simp [rshowsL], same_var (setR_lt ρ _ _ _ (by omega)).symm⟩
    · exact ⟨.ptr 1000 0, by simp [rshowsL], SameV.ptr _ _⟩
    · exact ⟨li (-1), by simp [rshowsL], SameV.int (by rw [IE.den_lit, IE.den_var, setR_93]; simp)⟩
    · exact ⟨li (-1), by simp [rshowsL], SameV.int (by rw [IE.den_lit, IE.den_var, setR_94]; simp)⟩
    · exact ⟨li 0, by simp [rshowsL], SameV.int (by rw [IE.den_lit, IE.den_var, setR_91]; simp)⟩
  · intro g hg
    simp only [rshowsL, List.mem_cons, List.not_mem_nil, or_false] at hg
    rcases hg with rfl | rfl
    · exact film _ _ (hbelow 0)
    · exact same_up (hbelow 0) _ _ (by omega)
  · rintro i ρ' hi ⟨_, rfl⟩
    have h91 : (st i).iv 91 = i := setR_91 _ _ _ _
    have h93 : (st i).iv 93 = (min nA i : Nat) - 1 := setR_93 _ _ _ _
    have h94 : (st i).iv 94 = (min nB i : Nat) - 1 := setR_94 _ _ _ _
    have h90 : (st i).iv 90 = need := by rw [setR_lt ρ _ _ _ (by omega), hneed]
    have hl : (st i).iv (hadV k 0) = low := by rw [setR_lt ρ _ _ _ (by omega), hlow]
    have hh : (st i).iv (hadV k 1) = high := by rw [setR_lt ρ _ _ _ (by omega), hhigh]
    have h2 : (st i).iv 2 = tl := by rw [setR_lt ρ _ _ _ (by omega), htl]
    have h3 : (st i).iv 3 = th := by rw [setR_lt ρ _ _ _ (by omega), hth]
    have hT := eqTV_eq _ _ hchk
    simp only at hT
    have novs : ∀ r : Ex × St, ∀ g ∈ (rshowsL L k).vs, ∀ q, g.own = some q → ∃ cs, r.2.h.get g.id = some (.cells cs q.1 true q.2) ∧ SameL (st i) cs ρ g.cf := by
      intro r g hg q hown
      simp only [rshowsL, List.mem_cons, List.not_mem_nil, or_false] at hg
      rcases hg with rfl | rfl <;> cases hown
    -- a round that goes on
    have nx : ∀ (a b : IE), i < 1000 → a.den (st i) = (min nA (i + 1) : Nat) - 1 → b.den (st i) = (min nB (i + 1) : Nat) - 1 → (rshowsLeaf 0 k a b (.bin .add .i64 (.var 91) (.lit 1))).Holds (st i) (fun v => ∀ r, extr [1, 2, 3, 10, 11, 12] [] r = v →
        (r.1 = .norm ∧ ∃ ρ'', (i < 1000 ∧ i + 1 ≤ 1000 ∧ ρ'' = st (i + 1)) ∧ Next (rshowsL L k).T (st i) ρ'' r.2) ∨
        (r.1 ≠ .norm ∧ r.2.df = [] ∧ (∃ o, (rshowsL L k).out.end_ ρ = some o ∧ r.1 = o.1 ∧ ∀ g ∈ o.2, idsLt (rshowsL L k).nv g.2 = true ∧ ∃ v, r.2.tm.tree.get g.1 = some v ∧ SameV (st i) v ρ g.2) ∧
          ∀ g ∈ (rshowsL L k).vs, ∀ q, g.own = some q → ∃ cs, r.2.h.get g.id = some (.cells cs q.1 true q.2) ∧ SameL (st i) cs ρ g.cf)) := by
      intro a b hi1 ha hb r hr
      simp only [extr, AV.tup.injEq, List.cons.injEq, List.cons_append, List.nil_append, lMap_eq, List.map_cons, List.map_nil, List.append_nil, li, AV.int.injEq, IE.lit.injEq, true_and, and_true] at hr
      obtain ⟨r1, r2, r3, r4, r5, r6, r7, r8⟩ := hr
      have r1 : r.1 = .norm := tagE_inj (by simpa [tagE] using Int.ofNat_inj.1 r1)
      refine .inl ⟨r1, _, ⟨hi1, by omega, rfl⟩, dfA_nil r2, fun g hg => ?_, fun g hg => ?_⟩
      · simp only [LSpec.T, rshowsL, List.mem_cons, List.not_mem_nil, or_false] at hg
        rcases hg with rfl | rfl | rfl | rfl | rfl | rfl
        · exact ⟨_, optA_some r3, same_lit _⟩
        · exact ⟨_, optA_some r4, same_var (by rw [h90, setR_lt ρ _ _ _ (by omega), hneed])⟩
        · exact ⟨_, optA_some r5, SameV.ptr _ _⟩
        · exact ⟨_, optA_some r6, SameV.int (by rw [ha, IE.den_var, setR_93])⟩
        · exact ⟨_, optA_some r7, SameV.int (by rw [hb, IE.den_var, setR_94])⟩
        · refine ⟨_, optA_some r8, SameV.int ?_⟩
          rw [IE.den_add, IE.den_var, IE.den_lit, h91, IE.den_var, setR_91, IntWalk.i64_in _ (by omega)]
          simp
      · simp only [LSpec.T, rshowsL, List.map_cons, List.map_nil, List.mem_cons, List.not_mem_nil, or_false] at hg
        rcases hg with rfl | rfl
        · exact film _ _ (hbelow2 i (i + 1))
        · exact same_up (hbelow2 i (i + 1)) _ _ (by omega)
    have key : (rshowsT k).Holds (st i) (fun a => ∀ r, extr [1, 2, 3, 10, 11, 12] [] r = a →
        (r.1 = .norm ∧ ∃ ρ'', (i < 1000 ∧ i + 1 ≤ 1000 ∧ ρ'' = st (i + 1)) ∧ Next (rshowsL L k).T (st i) ρ'' r.2) ∨
        (r.1 ≠ .norm ∧ r.2.df = [] ∧ (∃ o, (rshowsL L k).out.end_ ρ = some o ∧ r.1 = o.1 ∧ ∀ g ∈ o.2, idsLt (rshowsL L k).nv g.2 = true ∧ ∃ v, r.2.tm.tree.get g.1 = some v ∧ SameV (st i) v ρ g.2) ∧
          ∀ g ∈ (rshowsL L k).vs, ∀ q, g.own = some q → ∃ cs, r.2.h.get g.id = some (.cells cs q.1 true q.2) ∧ SameL (st i) cs ρ g.cf)) := by
      simp only [rshowsT, T.Holds]
      have c1 : (BE.cmp .leq (.var 91) (.lit 999)).den (st i) = decide ((i : Int) ≤ 999) := by simp only [BE.den, cmpDen, IE.den_var, IE.den_lit, h91]
      rw [c1]
      by_cases hi1 : (i : Int) ≤ 999
      · rw [if_pos (by simpa using hi1)]
        have hi2 : i < 1000 := by omega
        have f0 := feet_den (ρ := st i) (i := i) (a := .var (hadV k 0)) (b := .var 91) (c := .var (tornV 0)) hl h91 h3 ⟨d1, d2⟩ ⟨d7, d8⟩ (by omega)
        have f1 := feet_den (ρ := st i) (i := i) (a := .var (hadV k 1)) (b := .var 91) (c := .var (tornV 1)) hh h91 h2 ⟨d3, d4⟩ ⟨d5, d6⟩ (by omega)
        have cA : (BE.cmp .geq (servesFeet k 0) (.var 90)).den (st i) = decide (i < nA) := by
          simp only [BE.den, cmpDen, servesFeet, f0, IE.den_var, h90]
          exact decide_eq_decide.2 (iA hi2)
        have cB : (BE.cmp .geq (servesFeet k 1) (.var 90)).den (st i) = decide (i < nB) := by
          simp only [BE.den, cmpDen, servesFeet, f1, IE.den_var, h90]
          exact decide_eq_decide.2 (iB hi2)
        rw [cA, cB]
        by_cases hA' : i < nA <;> by_cases hB' : i < nB
        · rw [if_pos (by simpa using hA'), if_pos (by simpa using hB')]
          exact nx _ _ hi2 (by rw [IE.den_var, h91]; omega) (by rw [IE.den_var, h91]; omega)
        · rw [if_pos (by simpa using hA'), if_neg (by simpa using hB')]
          exact nx _ _ hi2 (by rw [IE.den_var, h91]; omega) (by rw [IE.den_var, h94]; omega)
        · rw [if_neg (by simpa using hA'), if_pos (by simpa using hB')]
          exact nx _ _ hi2 (by rw [IE.den_var, h93]; omega) (by rw [IE.den_var, h91]; omega)
        · rw [if_neg (by simpa using hA'), if_neg (by simpa using hB')]
          exact nx _ _ hi2 (by rw [IE.den_var, h93]; omega) (by rw [IE.den_var, h94]; omega)
      · rw [if_neg (by simpa using hi1)]
        intro r hr
        have hin : i = 1000 := by omega
        simp only [extr, AV.tup.injEq, List.cons.injEq, List.cons_append, List.nil_append, lMap_eq, List.map_cons, List.map_nil, List.append_nil, li, AV.int.injEq, IE.lit.injEq, true_and, and_true] at hr
        obtain ⟨r1, r2, r3, r4, r5, r6, r7, r8⟩ := hr
        have r1 : r.1 = .exit 0 := tagE_inj (by simpa [tagE] using Int.ofNat_inj.1 r1)
        have sA : (servesV k 0).den ρ = nA - 1 := by simp only [servesV, IE.den, tornV, hlow, hth, hneed]; exact hA
        have sB' : (servesV k 1).den ρ = nB - 1 := by simp only [servesV, IE.den, tornV, hhigh, htl, hneed]; exact hB
        have e93 : (IE.var 93).den (st i) = nA - 1 := by rw [IE.den_var, h93]; omega
        have e94 : (IE.var 94).den (st i) = nB - 1 := by rw [IE.den_var, h94]; omega
        have oA : ∀ b, decide ((nA : Int) - 1 < 999) = b → SameV (st i) (.int .i64 (.var 93)) ρ (refOut k 0 b) := fun b hb => by
          cases b with
          | true => exact SameV.int (by rw [e93, sA])
          | false => exact SameV.int (by rw [e93, IE.den_lit]; have := of_decide_eq_false hb; omega)
        have oB : ∀ b, decide ((nB : Int) - 1 < 999) = b → SameV (st i) (.int .i64 (.var 94)) ρ (refOut k 1 b) := fun b hb => by
          cases b with
          | true => exact SameV.int (by rw [e94, sB'])
          | false => exact SameV.int (by rw [e94, IE.den_lit]; have := of_decide_eq_false hb; omega)
        have cA : (lessC k 0).den ρ = decide ((nA : Int) - 1 < 999) := by simp only [lessC, BE.den, cmpDen, sA, IE.den_lit]
        have cB : (lessC k 1).den ρ = decide ((nB : Int) - 1 < 999) := by simp only [lessC, BE.den, cmpDen, sB', IE.den_lit]
        have ids : ∀ m b, idsLt 2000 (refOut k m b) = true := fun m b => by cases b <;> rfl
        refine .inr ⟨by rw [r1]; simp, dfA_nil r2, ?_, novs r⟩
        cases hbA : decide ((nA : Int) - 1 < 999) <;> cases hbB : decide ((nB : Int) - 1 < 999)
        all_goals
          refine ⟨_, by simp only [rshowsL, T.end_, cA, cB, hbA, hbB, if_true, Bool.false_eq_true, if_false]; rfl, r1, fun g hg => ?_⟩
          simp only [List.mem_cons, List.not_mem_nil, or_false] at hg
          rcases hg with rfl | rfl
          · exact ⟨by first | exact ids 0 true | exact ids 0 false, _, optA_some r6, oA _ hbA⟩
          · exact ⟨by first | exact ids 1 true | exact ids 1 false, _, optA_some r7, oB _ hbB⟩
    rw [← hT] at key
    exact T.holds_weak (extT_holds key) fun r h => h r rfl
end Go.Sx
