/- HOW OFTEN A REEL STILL SERVES: the call, as it is said. -/
import Derived.Test.YtanhchkdglglhaaDoorTabFn
import Derived.Test.YtanhchkdglglhaaDoorSxRound
import Derived.Test.YtanhchkdglglhaaDoorSxStart
import Derived.Test.YtanhchkdglglhaaDoorSxLoop
/-! HOW OFTEN A REEL STILL SERVES: the loop, as it is said. -/
namespace Go.Sx
open Go.RowKit Go.Proofs
set_option maxRecDepth 100000
noncomputable def pT : Par := ⟨Tryd.prog, rcOf Tryd.rows, fun _ _ => True⟩
noncomputable def tb0 : Tabs := ⟨Sx.Tryd.ft.get, lFind Sx.Tryd.rt, 2000, fun _ _ _ => none⟩
theorem tabs0 : TabOk pT Sx.Tryd.tt.get tb0 := Tryd.tab (fun _ _ _ => none) (fun _ _ _ _ h => by cases h) 2000
noncomputable def cx0 : Cx := ⟨evalN tb0 40 false, evalN tb0 40 true, 2000⟩
theorem cx0_ok : CxOk pT cx0 := evalN_ok tabs0 40

noncomputable def vi (n : Nat) : AV := .int .i64 (.var n)
noncomputable def cellsUp : Nat → Nat → List AV
  | 0, _ => []
  | n + 1, i => vi i :: cellsUp n (i + 1)
noncomputable def fnA (f : Nat) : AV := .func (.func f) [] []
/-- the functions of an end: 0 the least, 1 the most -/
noncomputable def endA (m : Nat) : List AV := match m with
  | 0 => [fnA 105, fnA 106]
  | _ => [fnA 106, fnA 105]
def hadV (k m : Nat) : Nat := 6 * k + 14 + m
def tornV (m : Nat) : Nat := match m with
  | 0 => 3
  | _ => 2

noncomputable def servesBody : C := (cSeq (cOps [⟨some 11, true, none, iCmp .lss (.t 10) (.c (.int .i64 (.lit 1000)))⟩])
 (cSeq (cCond (.t 11) cSkip (cExit 0))
 (cSeq (cBlock 1 (cSeq (cOps [⟨some 12, false, none, iMov (.t 10)⟩,
 ⟨some 9, true, none, iMov (.t 12)⟩])
 (cSeq (cOps [⟨some 13, false, none, iLoadN 7 (.t 4)⟩,
 ⟨some 14, false, none, iMov (.t 1)⟩,
 ⟨some 15, false, none, iMov (.t 9)⟩,
 ⟨some 16, false, none, iLoadN 2 (.t 7)⟩,
 ⟨some 17, false, none, iCall (.c (.func (.func 104) [] [])) [(.t 13), (.t 14), (.t 15), (.t 16)]⟩,
 ⟨some 18, false, none, iMov (.t 2)⟩,
 ⟨some 19, true, none, iCmp .lss (.t 17) (.t 18)⟩])
 (cCond (.t 19) (cSeq (cOps [⟨some 20, false, none, iMov (.t 9)⟩,
 ⟨some 21, false, none, iArith .sub (.t 20) (.c (.int .i64 (.lit 1)))⟩,
 ⟨some 8, true, none, iMov (.t 21)⟩])
 cRet) cSkip))))
 (cOps [⟨some 22, false, none, iArith .add (.t 10) (.c (.int .i64 (.lit 1)))⟩,
 ⟨some 10, true, none, iMov (.t 22)⟩]))))
noncomputable def servesL (L k m : Nat) : LSpec where
  sl0 := [(1, li k), (2, vi 90), (4, .ptr 1000 0), (7, .ptr 1001 0), (10, li 0)]
  sl := [(1, li k), (2, vi 90), (4, .ptr 1000 0), (7, .ptr 1001 0), (10, vi 91)]
  vs := [⟨1000, none, [.sliceX 1002 6 0 L, vi 0, vi 1, vi 2, vi 3, vi 4, .map 1003], [.sliceX 1002 6 0 L, vi 0, vi 1, vi 2, vi 3, vi 4, .map 1003], []⟩,
    ⟨1001, none, endA m, endA m, []⟩, ⟨1002, none, cellsUp (6 * L) 10, cellsUp (6 * L) 10, []⟩]
  nv := 2000
  dom := [.cmp .leq (.lit 0) (.var (hadV k m)), .cmp .leq (.var (hadV k m)) (.lit 1200), .cmp .leq (.lit 0) (.var (tornV m)), .cmp .leq (.var (tornV m)) (.lit 50)]
  out := .br (.cmp .lss (.app 0 (.var (hadV k m)) (.var (tornV m)) (.var 90)) (.lit 999)) (.ret (.ret, [(8, .int .i64 (.app 0 (.var (hadV k m)) (.var (tornV m)) (.var 90)))])) (.ret (.exit 0, []))

noncomputable def servesFeet (k m : Nat) : IE := .mx (.lit 0) (.bin .sub .i64 (.var (hadV k m)) (.bin .mul .i64 (.var 91) (.var (tornV m))))
noncomputable def servesSl (k : Nat) (i : IE) : List AV := [.tup [li k], .tup [vi 90], .tup [.ptr 1000 0], .tup [.ptr 1001 0], .tup [.int .i64 i]]
noncomputable def servesT (k m : Nat) : T AV :=
  .br (.cmp .lss (.var 91) (.lit 1000))
    (.br (.cmp .lss (servesFeet k m) (.var 90))
      (.ret (.tup (li 1 :: .nilslice :: (servesSl k (.var 91) ++ [.tup [.int .i64 (.bin .sub .i64 (.var 91) (.lit 1))]]))))
      (.ret (.tup (li 0 :: .nilslice :: (servesSl k (.bin .add .i64 (.var 91) (.lit 1)) ++ [.tup []])))))
    (.ret (.tup (li 2 :: .nilslice :: (servesSl k (.var 91) ++ [.tup []]))))
noncomputable def servesChk (q : Nat × Nat × Nat) : Bool := eqTV (extT [1, 2, 4, 7, 10, 8] [] (servesBody cx0 ⟨83, none⟩ (servesL q.1 q.2.1 q.2.2).T.st)) (servesT q.2.1 q.2.2)
/-- reels of films, and the ends -/
noncomputable def allLk : List (Nat × Nat × Nat) := [(1, 0, 0), (1, 0, 1), (2, 0, 0), (2, 0, 1), (2, 1, 0), (2, 1, 1), (3, 0, 0), (3, 0, 1), (3, 1, 0), (3, 1, 1), (3, 2, 0), (3, 2, 1), (4, 0, 0), (4, 0, 1), (4, 1, 0), (4, 1, 1), (4, 2, 0), (4, 2, 1), (4, 3, 0), (4, 3, 1), (5, 0, 0), (5, 0, 1), (5, 1, 0), (5, 1, 1), (5, 2, 0), (5, 2, 1), (5, 3, 0), (5, 3, 1), (5, 4, 0), (5, 4, 1), (6, 0, 0), (6, 0, 1), (6, 1, 0), (6, 1, 1), (6, 2, 0), (6, 2, 1), (6, 3, 0), (6, 3, 1), (6, 4, 0), (6, 4, 1), (6, 5, 0), (6, 5, 1)]
theorem serves_chk : lAll servesChk allLk = true := by kernel_rfl

/-! ## The variables of a round -/
def setI (ρ : Rho) (j : Nat) (z : Int) : Rho := ⟨fun q => if q = j then z else ρ.iv q, ρ.bv, ρ.fi, ρ.fb, ρ.ov⟩
theorem setI_at (ρ : Rho) (j : Nat) (z : Int) : (setI ρ j z).iv j = z := by simp [setI]
theorem setI_ne (ρ : Rho) {j q : Nat} (z : Int) (h : q ≠ j) : (setI ρ j z).iv q = ρ.iv q := by simp [setI, h]
theorem same_lit {ρ ρ' : Rho} (n : Int) : SameV ρ (li n) ρ' (li n) := SameV.int rfl
theorem same_var {ρ ρ' : Rho} {q : Nat} (h : ρ.iv q = ρ'.iv q) : SameV ρ (vi q) ρ' (vi q) := SameV.int h
theorem same_up {ρ ρ' : Rho} (h : ∀ q, q < 90 → ρ.iv q = ρ'.iv q) : ∀ n i, i + n ≤ 90 → SameL ρ (cellsUp n i) ρ' (cellsUp n i)
  | 0, _, _ => SameL.nil
  | n + 1, i, hi => SameL.cons (same_var (h i (by omega))) (same_up h n (i + 1) (by omega))

theorem firstAt_le (P : Nat → Bool) : ∀ k i, i ≤ firstAt P k i ∧ firstAt P k i ≤ i + k
  | 0, i => ⟨Nat.le_refl _, Nat.le_refl _⟩
  | k + 1, i => by
    simp only [firstAt]
    split
    · omega
    · have := firstAt_le P k (i + 1); omega
theorem firstAt_not (P : Nat → Bool) : ∀ k i n, i ≤ n → n < firstAt P k i → P n = false
  | 0, i, n, h1, h2 => by simp only [firstAt] at h2; omega
  | k + 1, i, n, h1, h2 => by
    simp only [firstAt] at h2
    split at h2
    · omega
    · rename_i hp
      by_cases hn : n = i
      · subst hn; simpa using hp
      · exact firstAt_not P k (i + 1) n (by omega) h2
theorem firstAt_yes (P : Nat → Bool) : ∀ k i, firstAt P k i < i + k → P (firstAt P k i) = true
  | 0, i, h => by simp only [firstAt] at h; omega
  | k + 1, i, h => by
    simp only [firstAt] at h ⊢
    split
    · rename_i hp; exact hp
    · rename_i hp
      rw [if_neg hp] at h
      exact firstAt_yes P k (i + 1) (by omega)

theorem feet_den {ρ : Rho} {i : Nat} {had torn : Int} {a b c : IE} (ha : a.den ρ = had) (hb : b.den ρ = i) (hc : c.den ρ = torn) (h1 : 0 ≤ had ∧ had ≤ 1200) (h2 : 0 ≤ torn ∧ torn ≤ 50) (hi : i ≤ 1000) :
    (IE.mx (.lit 0) (.bin .sub .i64 a (.bin .mul .i64 b c))).den ρ = feetAt had torn i := by
  have e1 : (0 : Int) ≤ i * torn := Int.mul_nonneg (by omega) h2.1
  have e2 : (i : Int) * torn ≤ 1000 * 50 := Int.mul_le_mul (by omega) h2.2 h2.1 (by omega)
  rw [IE.den_mx, IE.den_lit, IE.den_sub, IE.den_mul, ha, hb, hc, IntWalk.i64_in ((i : Int) * torn) (by omega), IntWalk.i64_in _ (by omega)]
  rfl

theorem allLk_bnd : ∀ q ∈ allLk, 1 ≤ q.1 ∧ q.1 ≤ 6 ∧ q.2.1 < q.1 ∧ q.2.2 < 2 := by
  intro q hq
  have : allLk.all (fun q => decide (1 ≤ q.1 ∧ q.1 ≤ 6 ∧ q.2.1 < q.1 ∧ q.2.2 < 2)) = true := by decide +kernel
  exact of_decide_eq_true (List.all_eq_true.1 this q hq)

/-- THE LOOP IS AS IT IS SAID. -/
theorem serves_loop {q : Nat × Nat × Nat} (hq : q ∈ allLk) : (servesL q.1 q.2.1 q.2.2).Ok cx0 ⟨83, none⟩ servesBody := by
  obtain ⟨b1, b2, b3, b4⟩ := allLk_bnd q hq
  have hchk : servesChk q = true := lAll_mem serves_chk q hq
  obtain ⟨L, k, m⟩ := q
  simp only at b1 b2 b3 b4 ⊢
  intro ρ hdom
  have hv1 : hadV k m < 90 := by simp only [hadV]; omega
  have hv2 : tornV m < 90 := by unfold tornV; split <;> omega
  simp only [servesL, List.mem_cons, List.not_mem_nil, or_false, forall_eq_or_imp, forall_eq] at hdom
  obtain ⟨d1, d2, d3, d4⟩ := hdom
  rw [BE.t_leq] at d1 d2 d3 d4
  simp only [IE.den_lit, IE.den_var] at d1 d2 d3 d4
  generalize hhad : ρ.iv (hadV k m) = had at d1 d2
  generalize htorn : ρ.iv (tornV m) = torn at d3 d4
  generalize hneed : ρ.iv 90 = need
  let P : Nat → Bool := fun n => decide (feetAt had torn n < need)
  have hF : FI ρ.fi 0 had torn need = (firstAt P 1000 0 : Nat) - 1 := rfl
  have hn0 := firstAt_le P 1000 0
  have hnot := firstAt_not P 1000 0
  have hyes := firstAt_yes P 1000 0
  generalize firstAt P 1000 0 = n0 at hF hn0 hnot hyes
  refine ⟨n0, fun i ρ' => i ≤ n0 ∧ ρ' = setI ρ 91 i, setI ρ 91 0, ⟨Nat.zero_le _, rfl⟩, ?_, ?_, ?_⟩
  · intro g hg
    simp only [servesL, List.mem_cons, List.not_mem_nil, or_false] at hg
    rcases hg with rfl | rfl | rfl | rfl | rfl
    · exact ⟨li k, by simp [servesL], same_lit _⟩
    · exact ⟨vi 90, by simp [servesL], same_var (setI_ne ρ 0 (by omega)).symm⟩
    · exact ⟨.ptr 1000 0, by simp [servesL], SameV.ptr _ _⟩
    · exact ⟨.ptr 1001 0, by simp [servesL], SameV.ptr _ _⟩
    · exact ⟨li 0, by simp [servesL], SameV.int (setI_at ρ 91 0).symm⟩
  · have hbelow : ∀ q, q < 90 → ρ.iv q = (setI ρ 91 0).iv q := fun q hq => (setI_ne ρ 0 (by omega)).symm
    intro g hg
    simp only [servesL, List.mem_cons, List.not_mem_nil, or_false] at hg
    rcases hg with rfl | rfl | rfl
    · exact SameL.cons (SameV.sliceX _ _ _ _) (SameL.cons (same_var (hbelow _ (by omega))) (SameL.cons (same_var (hbelow _ (by omega))) (SameL.cons (same_var (hbelow _ (by omega))) (SameL.cons (same_var (hbelow _ (by omega))) (SameL.cons (same_var (hbelow _ (by omega))) (SameL.cons (SameV.map _) SameL.nil))))))
    · have hf : ∀ f, SameV ρ (fnA f) (setI ρ 91 0) (fnA f) := fun f => SameV.func SameL.nil SameL.nil
      simp only [endA]
      split <;> exact SameL.cons (hf _) (SameL.cons (hf _) SameL.nil)
    · exact same_up hbelow _ _ (by omega)
  · rintro i ρ' hi ⟨_, rfl⟩
    have h91 : (setI ρ 91 i).iv 91 = i := setI_at ρ 91 i
    have h90 : (setI ρ 91 i).iv 90 = need := by rw [setI_ne ρ _ (by omega), hneed]
    have hh : (setI ρ 91 i).iv (hadV k m) = had := by rw [setI_ne ρ _ (by omega), hhad]
    have ht : (setI ρ 91 i).iv (tornV m) = torn := by rw [setI_ne ρ _ (by omega), htorn]
    have hT := eqTV_eq _ _ hchk
    simp only at hT
    -- how the said tree ends
    have key : (servesT k m).Holds (setI ρ 91 i) (fun a => ∀ r, extr [1, 2, 4, 7, 10, 8] [] r = a →
        (r.1 = .norm ∧ ∃ ρ'', (i < n0 ∧ i + 1 ≤ n0 ∧ ρ'' = setI ρ 91 ((i + 1 : Nat) : Int)) ∧ Next (servesL L k m).T (setI ρ 91 i) ρ'' r.2) ∨
        (r.1 ≠ .norm ∧ r.2.df = [] ∧ (∃ o, (servesL L k m).out.end_ ρ = some o ∧ r.1 = o.1 ∧ ∀ g ∈ o.2, idsLt (servesL L k m).nv g.2 = true ∧ ∃ v, r.2.tm.tree.get g.1 = some v ∧ SameV (setI ρ 91 i) v ρ g.2) ∧
          ∀ g ∈ (servesL L k m).vs, ∀ q, g.own = some q → ∃ cs, r.2.h.get g.id = some (.cells cs q.1 true q.2) ∧ SameL (setI ρ 91 i) cs ρ g.cf)) := by
      have novs : ∀ r : Ex × St, ∀ g ∈ (servesL L k m).vs, ∀ q, g.own = some q → ∃ cs, r.2.h.get g.id = some (.cells cs q.1 true q.2) ∧ SameL (setI ρ 91 i) cs ρ g.cf := by
        intro r g hg q hown
        simp only [servesL, List.mem_cons, List.not_mem_nil, or_false] at hg
        rcases hg with rfl | rfl | rfl <;> cases hown
      have hFI : (IE.app 0 (.var (hadV k m)) (.var (tornV m)) (.var 90)).den ρ = n0 - 1 := by
        simp only [IE.den, hhad, htorn, hneed]; exact hF
      have hend : ∀ b : Bool, decide ((n0 : Int) - 1 < 999) = b → (servesL L k m).out.end_ ρ = (if b = true then some (Ex.ret, [(8, AV.int .i64 (.app 0 (.var (hadV k m)) (.var (tornV m)) (.var 90)))]) else some (Ex.exit 0, [])) := by
        intro b hb
        simp only [servesL, T.end_]
        have : (BE.cmp .lss (.app 0 (.var (hadV k m)) (.var (tornV m)) (.var 90)) (.lit 999)).den ρ = b := by
          simp only [BE.den, cmpDen, hFI, IE.den_lit]; exact hb
        rw [this]
      simp only [servesT, T.Holds]
      have c1 : (BE.cmp .lss (.var 91) (.lit 1000)).den (setI ρ 91 i) = decide ((i : Int) < 1000) := by simp only [BE.den, cmpDen, IE.den_var, IE.den_lit, h91]
      rw [c1]
      by_cases hi1 : (i : Int) < 1000
      · rw [if_pos (by simpa using hi1)]
        have hfeet := feet_den (ρ := setI ρ 91 i) (i := i) (a := .var (hadV k m)) (b := .var 91) (c := .var (tornV m)) hh h91 ht ⟨d1, d2⟩ ⟨d3, d4⟩ (by omega)
        have c2 : (BE.cmp .lss (servesFeet k m) (.var 90)).den (setI ρ 91 i) = P i := by
          simp only [BE.den, cmpDen, servesFeet, hfeet, IE.den_var, h90, P]
        rw [c2]
        cases hP : P i with
        | true =>
          rw [if_pos rfl]
          intro r hr
          have hin : i = n0 := by
            rcases Nat.lt_or_ge i n0 with h | h
            · have := hnot i (Nat.zero_le _) h; rw [hP] at this; cases this
            · omega
          simp only [extr, servesSl, AV.tup.injEq, List.cons.injEq, List.cons_append, List.nil_append, lMap_eq, List.map_cons, List.map_nil, List.append_nil, li, AV.int.injEq, IE.lit.injEq, true_and, and_true] at hr
          obtain ⟨r1, r2, r3, r4, r5, r6, r7, r8⟩ := hr
          have r1 : r.1 = .ret := tagE_inj (by simpa [tagE] using Int.ofNat_inj.1 r1)
          refine .inr ⟨by rw [r1]; simp, dfA_nil r2, ⟨_, (hend true (by simp; omega)).trans (if_pos rfl), r1, fun g hg => ?_⟩, novs r⟩
          rcases List.mem_singleton.1 hg with rfl
          refine ⟨rfl, _, optA_some r8, SameV.int ?_⟩
          rw [hFI, IE.den_sub, IE.den_var, IE.den_lit, h91, IntWalk.i64_in _ (by omega), hin]
        | false =>
          rw [if_neg (by simp)]
          intro r hr
          have hin : i < n0 := by
            rcases Nat.lt_or_ge i n0 with h | h
            · exact h
            · have : i = n0 := by omega
              subst this
              have := hyes (by omega)
              rw [hP] at this; cases this
          simp only [extr, servesSl, AV.tup.injEq, List.cons.injEq, List.cons_append, List.nil_append, lMap_eq, List.map_cons, List.map_nil, List.append_nil, li, AV.int.injEq, IE.lit.injEq, true_and, and_true] at hr
          obtain ⟨r1, r2, r3, r4, r5, r6, r7, r8⟩ := hr
          have r1 : r.1 = .norm := tagE_inj (by simpa [tagE] using Int.ofNat_inj.1 r1)
          refine .inl ⟨r1, _, ⟨hin, by omega, rfl⟩, dfA_nil r2, fun g hg => ?_, fun g hg => ?_⟩
          · simp only [LSpec.T, servesL, List.mem_cons, List.not_mem_nil, or_false] at hg
            rcases hg with rfl | rfl | rfl | rfl | rfl
            · exact ⟨_, optA_some r3, same_lit _⟩
            · exact ⟨_, optA_some r4, same_var (by rw [setI_ne ρ _ (by omega), setI_ne ρ _ (by omega)])⟩
            · exact ⟨_, optA_some r5, SameV.ptr _ _⟩
            · exact ⟨_, optA_some r6, SameV.ptr _ _⟩
            · refine ⟨_, optA_some r7, SameV.int ?_⟩
              rw [IE.den_add, IE.den_var, IE.den_lit, h91, IE.den_var, setI_at, IntWalk.i64_in _ (by omega)]
              simp
          · have hbelow : ∀ q, q < 90 → (setI ρ 91 i).iv q = (setI ρ 91 ((i + 1 : Nat) : Int)).iv q := fun q hq => by rw [setI_ne ρ _ (by omega), setI_ne ρ _ (by omega)]
            simp only [LSpec.T, servesL, List.map_cons, List.map_nil, List.mem_cons, List.not_mem_nil, or_false] at hg
            rcases hg with rfl | rfl | rfl
            · exact SameL.cons (SameV.sliceX _ _ _ _) (SameL.cons (same_var (hbelow _ (by omega))) (SameL.cons (same_var (hbelow _ (by omega))) (SameL.cons (same_var (hbelow _ (by omega))) (SameL.cons (same_var (hbelow _ (by omega))) (SameL.cons (same_var (hbelow _ (by omega))) (SameL.cons (SameV.map _) SameL.nil))))))
            · have hf : ∀ f, SameV (setI ρ 91 i) (fnA f) (setI ρ 91 ((i + 1 : Nat) : Int)) (fnA f) := fun f => SameV.func SameL.nil SameL.nil
              simp only [endA]
              split <;> exact SameL.cons (hf _) (SameL.cons (hf _) SameL.nil)
            · exact same_up hbelow _ _ (by omega)
      · rw [if_neg (by simpa using hi1)]
        intro r hr
        have hin : n0 = 1000 ∧ i = 1000 := by omega
        simp only [extr, servesSl, AV.tup.injEq, List.cons.injEq, List.cons_append, List.nil_append, lMap_eq, List.map_cons, List.map_nil, List.append_nil, li, AV.int.injEq, IE.lit.injEq, true_and, and_true] at hr
        obtain ⟨r1, r2, r3, r4, r5, r6, r7, r8⟩ := hr
        have r1 : r.1 = .exit 0 := tagE_inj (by simpa [tagE] using Int.ofNat_inj.1 r1)
        exact .inr ⟨by rw [r1]; simp, dfA_nil r2, ⟨_, (hend false (by simp; omega)).trans (if_neg (by simp)), r1, fun g hg => by cases hg⟩, novs r⟩
    rw [← hT] at key
    exact T.holds_weak (extT_holds key) fun r h => h r rfl

end Go.Sx
/-! HOW OFTEN A REEL STILL SERVES: the call, as it is said. -/
namespace Go.Sx
open Go.RowKit Go.Proofs
set_option maxRecDepth 100000
noncomputable def servesCode (lc : C) : C := (cSeq (cOps [⟨some 4, true, none, iBox 82 (.t 0)⟩,
 ⟨some 7, true, none, iBox 102 (.t 3)⟩,
 ⟨some 8, true, none, iMov (.c (.int .i64 (.lit 0)))⟩])
 (cSeq (cSeq (cOps [⟨some 10, true, none, iMov (.c (.int .i64 (.lit 0)))⟩])
 (cBlock 0 lc))
 (cSeq (cOps [⟨some 8, true, none, iMov (.c (.int .i64 (.lit 999)))⟩])
 cRet)))
theorem serves_compiles (lc : C) : cCodeX lc Sx.Tryd.tt.get Tryd.f83.ntmps Sx.Tryd.kp83 83 (bodyOf Tryd.f83) = some (servesCode lc) := by kernel_rfl
theorem serves_loops : (loopsOf (bodyOf Tryd.f83)).map (cCode Sx.Tryd.tt.get Tryd.f83.ntmps Sx.Tryd.kp83 83) = [some servesBody] := by kernel_rfl
theorem serves_ranges : (loopsOf (bodyOf Tryd.f83)).map ranges = [[]] := by kernel_rfl

noncomputable def servesK (q : Nat × Nat × Nat) : Bool :=
  and ((servesL q.1 q.2.1 q.2.2).sl.all (fun g => and (memN Sx.Tryd.kp83 (some g.1)) (idsLt (servesL q.1 q.2.1 q.2.2).nv g.2)))
    (and ((servesL q.1 q.2.1 q.2.2).vs.all (fun g => and (idsLts (servesL q.1 q.2.1 q.2.2).nv g.c) (and (idsLts (servesL q.1 q.2.1 q.2.2).nv g.cf) (and (Nat.ble (g.id + 1) (servesL q.1 q.2.1 q.2.2).nv) (or g.own.isNone (Nat.ble 1000 g.id))))))
      (vsUp 0 (servesL q.1 q.2.1 q.2.2).vs))
theorem serves_k : lAll servesK allLk = true := by kernel_rfl

theorem serves_code_ok {q : Nat × Nat × Nat} (hq : q ∈ allLk) : COk pT Tryd.f83.ntmps Sx.Tryd.kp83 (servesCode (servesL q.1 q.2.1 q.2.2).run) (bodyOf Tryd.f83) := by
  refine cCodeX_ok tabs0.types tabs0.mixed _ _ (serves_compiles _) (loopsOk_of _ fun a ha => ?_)
  have h1 : cCode Sx.Tryd.tt.get Tryd.f83.ntmps Sx.Tryd.kp83 83 a = some servesBody := by
    have := List.mem_map_of_mem (f := cCode Sx.Tryd.tt.get Tryd.f83.ntmps Sx.Tryd.kp83 83) ha
    rw [serves_loops] at this
    exact List.mem_singleton.1 this
  have h2 : ranges a = [] := by
    have := List.mem_map_of_mem (f := ranges) ha
    rw [serves_ranges] at this
    exact List.mem_singleton.1 this
  have hk : servesK q = true := lAll_mem serves_k q hq
  simp only [servesK, Bool.and_eq_true] at hk
  exact LSpec.cok (cCode_ok tabs0.types tabs0.mixed a servesBody h1 (rcOf_rng [] h2 (by simp))) _ hk.1 hk.2.1 hk.2.2 (Nat.le_of_ble_eq_true rfl) cx0_ok rfl (serves_loop hq) (fun _ _ => trivial)

noncomputable def servesV (k m : Nat) : IE := .app 0 (.var (hadV k m)) (.var (tornV m)) (.var 90)
noncomputable def servesC (L k m : Nat) : CSpec where
  f := 83
  args := [.agg [.sliceX 1002 6 0 L, vi 0, vi 1, vi 2, vi 3, vi 4, .map 1003], li k, vi 90, .agg (endA m)]
  view := [(1002, cellsUp (6 * L) 10)]
  nv := 2000
  cs := (servesL L k m).dom
  u := .br (.cmp .lss (servesV k m) (.lit 999)) (.ret (.int .i64 (servesV k m))) (.ret (li 999))
noncomputable def servesTree (L k m : Nat) : T (AV × Heap) :=
  (servesCode (servesL L k m).run cx0 ⟨83, none⟩ ⟨⟨[], tmOf (servesC L k m).args 0 .nil⟩, [], viewHeap 2000 (servesC L k m).view⟩).bind (finish ⟨Tryd.f83.params.size + Tryd.f83.nfree, servesCode (servesL L k m).run, [.t 8]⟩)
theorem serves_call {q : Nat × Nat × Nat} (hq : q ∈ allLk) : CallOk pT 83 (servesC q.1 q.2.1 q.2.2).args (viewHeap 2000 (servesC q.1 q.2.1 q.2.2).view) (servesTree q.1 q.2.1 q.2.2) :=
  bodyOf_ok tabs0.types cx0_ok Tryd.func83 (by kernel_rfl) (by kernel_rfl) (serves_code_ok hq) (by kernel_rfl) (by kernel_rfl) (by show 4 ≤ _; exact of_decide_eq_true (by kernel_rfl))
noncomputable def servesCk (q : Nat × Nat × Nat) : Bool := (servesC q.1 q.2.1 q.2.2).chk (servesTree q.1 q.2.1 q.2.2)
theorem serves_cks : lAll servesCk allLk = true := by kernel_rfl
theorem serves_orc {q : Nat × Nat × Nat} (hq : q ∈ allLk) {args : List AV} {h : Heap} {t : T (AV × Heap)} (ho : (servesC q.1 q.2.1 q.2.2).orc args h = some t) : CallOk pT 83 args h t :=
  CSpec.ok (serves_call hq) (lAll_mem serves_cks q hq) (Nat.le_of_ble_eq_true rfl) ho
end Go.Sx
