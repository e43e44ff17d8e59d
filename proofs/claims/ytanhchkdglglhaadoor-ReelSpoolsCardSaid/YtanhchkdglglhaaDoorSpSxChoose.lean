/- A NUMBER OF A SPAN: Choose, as it is said; and calls whose results have names. -/
import Derived.Test.YtanhchkdglglhaaDoorSpTabFn
import Derived.Test.YtanhchkdglglhaaDoorSpSxRound
import Derived.Test.YtanhchkdglglhaaDoorSpSxStart
import Derived.Test.YtanhchkdglglhaaDoorSpSxName
/-! HOW OFTEN A REEL STILL SERVES: the loop, as it is said. -/
namespace Go.Sx
open Go.RowKit Go.Proofs
set_option maxRecDepth 100000
noncomputable def pT : Par := ⟨Tryd.prog, rcOf Tryd.rows, fun _ _ => True⟩
noncomputable def tb0 : Tabs := ⟨Sx.Tryd.ft.get, lFind Sx.Tryd.rt, 2000, fun _ _ _ => none⟩
theorem tabs0 : TabOk pT Sx.Tryd.tt.get tb0 := Tryd.tab (fun _ _ _ => none) (fun _ _ _ _ h => by cases h) 2000
noncomputable def cx0 : Cx := ⟨evalN tb0 40 false, evalN tb0 40 true, 2000⟩
theorem cx0_ok : CxOk pT cx0 := evalN_ok tabs0 40

noncomputable def vi (n : Nat) : AV := .int .i64 (.var n)
noncomputable def cellsUp : Nat → Nat → List AV
  | 0, _ => []
  | n + 1, i => vi i :: cellsUp n (i + 1)
noncomputable def fnA (f : Nat) : AV := .func (.func f) [] []
/-- the functions of an end: 0 the least, 1 the most -/
noncomputable def endA (m : Nat) : List AV := match m with
  | 0 => [fnA 105, fnA 106]
  | _ => [fnA 106, fnA 105]
def hadV (k m : Nat) : Nat := 6 * k + 14 + m
def tornV (m : Nat) : Nat := match m with
  | 0 => 3
  | _ => 2

noncomputable def servesBody : C := (cSeq (cOps [⟨some 11, true, none, iCmp .lss (.t 10) (.c (.int .i64 (.lit 1000)))⟩])
 (cSeq (cCond (.t 11) cSkip (cExit 0))
 (cSeq (cBlock 1 (cSeq (cOps [⟨some 12, false, none, iMov (.t 10)⟩,
 ⟨some 9, true, none, iMov (.t 12)⟩])
 (cSeq (cOps [⟨some 13, false, none, iLoadN 7 (.t 4)⟩,
 ⟨some 14, false, none, iMov (.t 1)⟩,
 ⟨some 15, false, none, iMov (.t 9)⟩,
 ⟨some 16, false, none, iLoadN 2 (.t 7)⟩,
 ⟨some 17, false, none, iCall (.c (.func (.func 104) [] [])) [(.t 13), (.t 14), (.t 15), (.t 16)]⟩,
 ⟨some 18, false, none, iMov (.t 2)⟩,
 ⟨some 19, true, none, iCmp .lss (.t 17) (.t 18)⟩])
 (cCond (.t 19) (cSeq (cOps [⟨some 20, false, none, iMov (.t 9)⟩,
 ⟨some 21, false, none, iArith .sub (.t 20) (.c (.int .i64 (.lit 1)))⟩,
 ⟨some 8, true, none, iMov (.t 21)⟩])
 cRet) cSkip))))
 (cOps [⟨some 22, false, none, iArith .add (.t 10) (.c (.int .i64 (.lit 1)))⟩,
 ⟨some 10, true, none, iMov (.t 22)⟩]))))
noncomputable def servesL (L k m : Nat) : LSpec where
  sl0 := [(1, li k), (2, vi 90), (4, .ptr 1000 0), (7, .ptr 1001 0), (10, li 0)]
  sl := [(1, li k), (2, vi 90), (4, .ptr 1000 0), (7, .ptr 1001 0), (10, vi 91)]
  vs := [⟨1000, none, [.sliceX 1002 6 0 L, vi 0, vi 1, vi 2, vi 3, vi 4, .map 1003], [.sliceX 1002 6 0 L, vi 0, vi 1, vi 2, vi 3, vi 4, .map 1003], []⟩,
    ⟨1001, none, endA m, endA m, []⟩, ⟨1002, none, cellsUp (6 * L) 10, cellsUp (6 * L) 10, []⟩]
  nv := 2000
  dom := [.cmp .leq (.lit 0) (.var (hadV k m)), .cmp .leq (.var (hadV k m)) (.lit 1200), .cmp .leq (.lit 0) (.var (tornV m)), .cmp .leq (.var (tornV m)) (.lit 50)]
  out := .br (.cmp .lss (.app 0 (.var (hadV k m)) (.var (tornV m)) (.var 90)) (.lit 999)) (.ret (.ret, [(8, .int .i64 (.app 0 (.var (hadV k m)) (.var (tornV m)) (.var 90)))])) (.ret (.exit 0, []))

noncomputable def servesFeet (k m : Nat) : IE := .mx (.lit 0) (.bin .sub .i64 (.var (hadV k m)) (.bin .mul .i64 (.var 91) (.var (tornV m))))
noncomputable def servesSl (k : Nat) (i : IE) : List AV := [.tup [li k], .tup [vi 90], .tup [.ptr 1000 0], .tup [.ptr 1001 0], .tup [.int .i64 i]]
noncomputable def servesT (k m : Nat) : T AV :=
  .br (.cmp .lss (.var 91) (.lit 1000))
    (.br (.cmp .lss (servesFeet k m) (.var 90))
      (.ret (.tup (li 1 :: .nilslice :: (servesSl k (.var 91) ++ [.tup [.int .i64 (.bin .sub .i64 (.var 91) (.lit 1))]]))))
      (.ret (.tup (li 0 :: .nilslice :: (servesSl k (.bin .add .i64 (.var 91) (.lit 1)) ++ [.tup []])))))
    (.ret (.tup (li 2 :: .nilslice :: (servesSl k (.var 91) ++ [.tup []]))))
noncomputable def servesChk (q : Nat × Nat × Nat) : Bool := eqTV (extT [1, 2, 4, 7, 10, 8] [] (servesBody cx0 ⟨83, none⟩ (servesL q.1 q.2.1 q.2.2).T.st)) (servesT q.2.1 q.2.2)
/-- reels of films, and the ends -/
noncomputable def allLk : List (Nat × Nat × Nat) := [(1, 0, 0), (1, 0, 1), (2, 0, 0), (2, 0, 1), (2, 1, 0), (2, 1, 1), (3, 0, 0), (3, 0, 1), (3, 1, 0), (3, 1, 1), (3, 2, 0), (3, 2, 1), (4, 0, 0), (4, 0, 1), (4, 1, 0), (4, 1, 1), (4, 2, 0), (4, 2, 1), (4, 3, 0), (4, 3, 1), (5, 0, 0), (5, 0, 1), (5, 1, 0), (5, 1, 1), (5, 2, 0), (5, 2, 1), (5, 3, 0), (5, 3, 1), (5, 4, 0), (5, 4, 1), (6, 0, 0), (6, 0, 1), (6, 1, 0), (6, 1, 1), (6, 2, 0), (6, 2, 1), (6, 3, 0), (6, 3, 1), (6, 4, 0), (6, 4, 1), (6, 5, 0), (6, 5, 1)]
theorem serves_chk : lAll servesChk allLk = true := by kernel_rfl

/-! ## The variables of a round -/
def setI (ρ : Rho) (j : Nat) (z : Int) : Rho := ⟨fun q => if q = j then z else ρ.iv q, ρ.bv, ρ.fi, ρ.fb, ρ.ov⟩
theorem setI_at (ρ : Rho) (j : Nat) (z : Int) : (setI ρ j z).iv j = z := by simp [setI]
theorem setI_ne (ρ : Rho) {j q : Nat} (z : Int) (h : q ≠ j) : (setI ρ j z).iv q = ρ.iv q := by simp [setI, h]
theorem same_lit {ρ ρ' : Rho} (n : Int) : SameV ρ (li n) ρ' (li n) := SameV.int rfl
theorem same_var {ρ ρ' : Rho} {q : Nat} (h : ρ.iv q = ρ'.iv q) : SameV ρ (vi q) ρ' (vi q) := SameV.int h
theorem same_up {ρ ρ' : Rho} (h : ∀ q, q < 90 → ρ.iv q = ρ'.iv q) : ∀ n i, i + n ≤ 90 → SameL ρ (cellsUp n i) ρ' (cellsUp n i)
  | 0, _, _ => SameL.nil
  | n + 1, i, hi => SameL.cons (same_var (h i (by omega))) (same_up h n (i + 1) (by omega))

theorem firstAt_le (P : Nat → Bool) : ∀ k i, i ≤ firstAt P k i ∧ firstAt P k i ≤ i + k
  | 0, i => ⟨Nat.le_refl _, Nat.le_refl _⟩
  | k + 1, i => by
    simp only [firstAt]
    split
    · omega
    · have := firstAt_le P k (i + 1); omega
theorem firstAt_not (P : Nat → Bool) : ∀ k i n, i ≤ n → n < firstAt P k i → P n = false
  | 0, i, n, h1, h2 => by simp only [firstAt] at h2; omega
  | k + 1, i, n, h1, h2 => by
    simp only [firstAt] at h2
    split at h2
    · omega
    · rename_i hp
      by_cases hn : n = i
      · subst hn; simpa using hp
      · exact firstAt_not P k (i + 1) n (by omega) h2
theorem firstAt_yes (P : Nat → Bool) : ∀ k i, firstAt P k i < i + k → P (firstAt P k i) = true
  | 0, i, h => by simp only [firstAt] at h; omega
  | k + 1, i, h => by
    simp only [firstAt] at h ⊢
    split
    · rename_i hp; exact hp
    · rename_i hp
      rw [if_neg hp] at h
      exact firstAt_yes P k (i + 1) (by omega)

theorem feet_den {ρ : Rho} {i : Nat} {had torn : Int} {a b c : IE} (ha : a.den ρ = had) (hb : b.den ρ = i) (hc : c.den ρ = torn) (h1 : 0 ≤ had ∧ had ≤ 1200) (h2 : 0 ≤ torn ∧ torn ≤ 50) (hi : i ≤ 1000) :
    (IE.mx (.lit 0) (.bin .sub .i64 a (.bin .mul .i64 b c))).den ρ = feetAt had torn i := by
  have e1 : (0 : Int) ≤ i * torn := Int.mul_nonneg (by omega) h2.1
  have e2 : (i : Int) * torn ≤ 1000 * 50 := Int.mul_le_mul (by omega) h2.2 h2.1 (by omega)
  rw [IE.den_mx, IE.den_lit, IE.den_sub, IE.den_mul, ha, hb, hc, IntWalk.i64_in ((i : Int) * torn) (by omega), IntWalk.i64_in _ (by omega)]
  rfl

theorem allLk_bnd : ∀ q ∈ allLk, 1 ≤ q.1 ∧ q.1 ≤ 6 ∧ q.2.1 < q.1 ∧ q.2.2 < 2 := by
  intro q hq
  have : allLk.all (fun q => decide (1 ≤ q.1 ∧ q.1 ≤ 6 ∧ q.2.1 < q.1 ∧ q.2.2 < 2)) = true := by decide +kernel
  exact of_decide_eq_true (List.all_eq_true.1 this q hq)

/-- THE LOOP IS AS IT IS SAID. -/
theorem serves_loop {q : Nat × Nat × Nat} (hq : q ∈ allLk) : (servesL q.1 q.2.1 q.2.2).Ok cx0 ⟨83, none⟩ servesBody := by
  obtain ⟨b1, b2, b3, b4⟩ := allLk_bnd q hq
  have hchk : servesChk q = true := lAll_mem serves_chk q hq
  obtain ⟨L, k, m⟩ := q
  simp only at b1 b2 b3 b4 ⊢
  intro ρ hdom
  have hv1 : hadV k m < 90 := by simp only [hadV]; omega
  have hv2 : tornV m < 90 := by unfold tornV; split <;> omega
  simp only [servesL, List.mem_cons, List.not_mem_nil, or_false, forall_eq_or_imp, forall_eq] at hdom
  obtain ⟨d1, d2, d3, d4⟩ := hdom
  rw [BE.t_leq] at d1 d2 d3 d4
  simp only [IE.den_lit, IE.den_var] at d1 d2 d3 d4
  generalize hhad : ρ.iv (hadV k m) = had at d1 d2
  generalize htorn : ρ.iv (tornV m) = torn at d3 d4
  generalize hneed : ρ.iv 90 = need
  let P : Nat → Bool := fun n => decide (feetAt had torn n < need)
  have hF : FI ρ.fi 0 had torn need = (firstAt P 1000 0 : Nat) - 1 := rfl
  have hn0 := firstAt_le P 1000 0
  have hnot := firstAt_not P 1000 0
  have hyes := firstAt_yes P 1000 0
  generalize firstAt P 1000 0 = n0 at hF hn0 hnot hyes
  refine ⟨n0, fun i ρ' => i ≤ n0 ∧ ρ' = setI ρ 91 i, setI ρ 91 0, ⟨Nat.zero_le _, rfl⟩, ?_, ?_, ?_⟩
  · intro g hg
    simp only [servesL, List.mem_cons, List.not_mem_nil, or_false] at hg
    rcases hg with rfl | rfl | rfl | rfl | rfl
    · exact ⟨li k, by simp [servesL], same_lit _⟩
    · exact ⟨vi 90, by simp [servesL], same_var (setI_ne ρ 0 (by omega)).symm⟩
    · exact ⟨.ptr 1000 0, by simp [servesL], SameV.ptr _ _⟩
    · exact ⟨.ptr 1001 0, by simp [servesL], SameV.ptr _ _⟩
    · exact ⟨li 0, by simp [servesL], SameV.int (setI_at ρ 91 0).symm⟩
  · have hbelow : ∀ q, q < 90 → ρ.iv q = (setI ρ 91 0).iv q := fun q hq => (setI_ne ρ 0 (by omega)).symm
    intro g hg
    simp only [servesL, List.mem_cons, List.not_mem_nil, or_false] at hg
    rcases hg with rfl | rfl | rfl
    · exact SameL.cons (SameV.sliceX _ _ _ _) (SameL.cons (same_var (hbelow _ (by omega))) (SameL.cons (same_var (hbelow _ (by omega))) (SameL.cons (same_var (hbelow _ (by omega))) (SameL.cons (same_var (hbelow _ (by omega))) (SameL.cons (same_var (hbelow _ (by omega))) (SameL.cons (SameV.map _) SameL.nil))))))
    · have hf : ∀ f, SameV ρ (fnA f) (setI ρ 91 0) (fnA f) := fun f => SameV.func SameL.nil SameL.nil
      simp only [endA]
      split <;> exact SameL.cons (hf _) (SameL.cons (hf _) SameL.nil)
    · exact same_up hbelow _ _ (by omega)
  · rintro i ρ' hi ⟨_, rfl⟩
    have h91 : (setI ρ 91 i).iv 91 = i := setI_at ρ 91 i
    have h90 : (setI ρ 91 i).iv 90 = need := by rw [setI_ne ρ _ (by omega), hneed]
    have hh : (setI ρ 91 i).iv (hadV k m) = had := by rw [setI_ne ρ _ (by omega), hhad]
    have ht : (setI ρ 91 i).iv (tornV m) = torn := by rw [setI_ne ρ _ (by omega), htorn]
    have hT := eqTV_eq _ _ hchk
    simp only at hT
    -- how the said tree ends
    have key : (servesT k m).Holds (setI ρ 91 i) (fun a => ∀ r, extr [1, 2, 4, 7, 10, 8] [] r = a →
        (r.1 = .norm ∧ ∃ ρ'', (i < n0 ∧ i + 1 ≤ n0 ∧ ρ'' = setI ρ 91 ((i + 1 : Nat) : Int)) ∧ Next (servesL L k m).T (setI ρ 91 i) ρ'' r.2) ∨
        (r.1 ≠ .norm ∧ r.2.df = [] ∧ (∃ o, (servesL L k m).out.end_ ρ = some o ∧ r.1 = o.1 ∧ ∀ g ∈ o.2, idsLt (servesL L k m).nv g.2 = true ∧ ∃ v, r.2.tm.tree.get g.1 = some v ∧ SameV (setI ρ 91 i) v ρ g.2) ∧
          ∀ g ∈ (servesL L k m).vs, ∀ q, g.own = some q → ∃ cs, r.2.h.get g.id = some (.cells cs q.1 true q.2) ∧ SameL (setI ρ 91 i) cs ρ g.cf)) := by
      have novs : ∀ r : Ex × St, ∀ g ∈ (servesL L k m).vs, ∀ q, g.own = some q → ∃ cs, r.2.h.get g.id = some (.cells cs q.1 true q.2) ∧ SameL (setI ρ 91 i) cs ρ g.cf := by
        intro r g hg q hown
        simp only [servesL, List.mem_cons, List.not_mem_nil, or_false] at hg
        rcases hg with rfl | rfl | rfl <;> cases hown
      have hFI : (IE.app 0 (.var (hadV k m)) (.var (tornV m)) (.var 90)).den ρ = n0 - 1 := by
        simp only [IE.den, hhad, htorn, hneed]; exact hF
      have hend : ∀ b : Bool, decide ((n0 : Int) - 1 < 999) = b → (servesL L k m).out.end_ ρ = (if b = true then some (Ex.ret, [(8, AV.int .i64 (.app 0 (.var (hadV k m)) (.var (tornV m)) (.var 90)))]) else some (Ex.exit 0, [])) := by
        intro b hb
        simp only [servesL, T.end_]
        have : (BE.cmp .lss (.app 0 (.var (hadV k m)) (.var (tornV m)) (.var 90)) (.lit 999)).den ρ = b := by
          simp only [BE.den, cmpDen, hFI, IE.den_lit]; exact hb
        rw [this]
      simp only [servesT, T.Holds]
      have c1 : (BE.cmp .lss (.var 91) (.lit 1000)).den (setI ρ 91 i) = decide ((i : Int) < 1000) := by simp only [BE.den, cmpDen, IE.den_var, IE.den_lit, h91]
      rw [c1]
      by_cases hi1 : (i : Int) < 1000
      · rw [if_pos (by simpa using hi1)]
        have hfeet := feet_den (ρ := setI ρ 91 i) (i := i) (a := .var (hadV k m)) (b := .var 91) (c := .var (tornV m)) hh h91 ht ⟨d1, d2⟩ ⟨d3, d4⟩ (by omega)
        have c2 : (BE.cmp .lss (servesFeet k m) (.var 90)).den (setI ρ 91 i) = P i := by
          simp only [BE.den, cmpDen, servesFeet, hfeet, IE.den_var, h90, P]
        rw [c2]
        cases hP : P i with
        | true =>
          rw [if_pos rfl]
          intro r hr
          have hin : i = n0 := by
            rcases Nat.lt_or_ge i n0 with h | h
            · have := hnot i (Nat.zero_le _) h; rw [hP] at this; cases this
            · omega
          simp only [extr, servesSl, AV.tup.injEq, List.cons.injEq, List.cons_append, List.nil_append, lMap_eq, List.map_cons, List.map_nil, List.append_nil, li, AV.int.injEq, IE.lit.injEq, true_and, and_true] at hr
          obtain ⟨r1, r2, r3, r4, r5, r6, r7, r8⟩ := hr
          have r1 : r.1 = .ret := tagE_inj (by simpa [tagE] using Int.ofNat_inj.1 r1)
          refine .inr ⟨by rw [r1]; simp, dfA_nil r2, ⟨_, (hend true (by simp; omega)).trans (if_pos rfl), r1, fun g hg => ?_⟩, novs r⟩
          rcases List.mem_singleton.1 hg with rfl
          refine ⟨rfl, _, optA_some r8, SameV.int ?_⟩
          rw [hFI, IE.den_sub, IE.den_var, IE.den_lit, h91, IntWalk.i64_in _ (by omega), hin]
        | false =>
          rw [if_neg (by simp)]
          intro r hr
          have hin : i < n0 := by
            rcases Nat.lt_or_ge i n0 with h | h
            · exact h
            · have : i = n0 := by omega
              subst this
              have := hyes (by omega)
              rw [hP] at this; cases this
          simp only [extr, servesSl, AV.tup.injEq, List.cons.injEq, List.cons_append, List.nil_append, lMap_eq, List.map_cons, List.map_nil, List.append_nil, li, AV.int.injEq, IE.lit.injEq, true_and, and_true] at hr
          obtain ⟨r1, r2, r3, r4, r5, r6, r7, r8⟩ := hr
          have r1 : r.1 = .norm := tagE_inj (by simpa [tagE] using Int.ofNat_inj.1 r1)
          refine .inl ⟨r1, _, ⟨hin, by omega, rfl⟩, dfA_nil r2, fun g hg => ?_, fun g hg => ?_⟩
          · simp only [LSpec.T, servesL, List.mem_cons, List.not_mem_nil, or_false] at hg
            rcases hg with rfl | rfl | rfl | rfl | rfl
            · exact ⟨_, optA_some r3, same_lit _⟩
            · exact ⟨_, optA_some r4, same_var (by rw [setI_ne ρ _ (by omega), setI_ne ρ _ (by omega)])⟩
            · exact ⟨_, optA_some r5, SameV.ptr _ _⟩
            · exact ⟨_, optA_some r6, SameV.ptr _ _⟩
            · refine ⟨_, optA_some r7, SameV.int ?_⟩
              rw [IE.den_add, IE.den_var, IE.den_lit, h91, IE.den_var, setI_at, IntWalk.i64_in _ (by omega)]
              simp
          · have hbelow : ∀ q, q < 90 → (setI ρ 91 i).iv q = (setI ρ 91 ((i + 1 : Nat) : Int)).iv q := fun q hq => by rw [setI_ne ρ _ (by omega), setI_ne ρ _ (by omega)]
            simp only [LSpec.T, servesL, List.map_cons, List.map_nil, List.mem_cons, List.not_mem_nil, or_false] at hg
            rcases hg with rfl | rfl | rfl
            · exact SameL.cons (SameV.sliceX _ _ _ _) (SameL.cons (same_var (hbelow _ (by omega))) (SameL.cons (same_var (hbelow _ (by omega))) (SameL.cons (same_var (hbelow _ (by omega))) (SameL.cons (same_var (hbelow _ (by omega))) (SameL.cons (same_var (hbelow _ (by omega))) (SameL.cons (SameV.map _) SameL.nil))))))
            · have hf : ∀ f, SameV (setI ρ 91 i) (fnA f) (setI ρ 91 ((i + 1 : Nat) : Int)) (fnA f) := fun f => SameV.func SameL.nil SameL.nil
              simp only [endA]
              split <;> exact SameL.cons (hf _) (SameL.cons (hf _) SameL.nil)
            · exact same_up hbelow _ _ (by omega)
      · rw [if_neg (by simpa using hi1)]
        intro r hr
        have hin : n0 = 1000 ∧ i = 1000 := by omega
        simp only [extr, servesSl, AV.tup.injEq, List.cons.injEq, List.cons_append, List.nil_append, lMap_eq, List.map_cons, List.map_nil, List.append_nil, li, AV.int.injEq, IE.lit.injEq, true_and, and_true] at hr
        obtain ⟨r1, r2, r3, r4, r5, r6, r7, r8⟩ := hr
        have r1 : r.1 = .exit 0 := tagE_inj (by simpa [tagE] using Int.ofNat_inj.1 r1)
        exact .inr ⟨by rw [r1]; simp, dfA_nil r2, ⟨_, (hend false (by simp; omega)).trans (if_neg (by simp)), r1, fun g hg => by cases hg⟩, novs r⟩
    rw [← hT] at key
    exact T.holds_weak (extT_holds key) fun r h => h r rfl

end Go.Sx
/-! A NUMBER THAT CHOOSES: Turn and Pick, as they are said; and one list that is not known. -/
namespace Go.Sx
open Go.RowKit Go.Proofs
set_option maxRecDepth 100000

/-- a heap with one list that is not known -/
noncomputable def heapU (n b i : Nat) (ks : List Bool) : Heap := (⟨.nil, n⟩ : Heap).put b (.ucells i ks)
theorem heapU_get {n b i : Nat} {ks : List Bool} {j : Nat} {o : AObj} (h : (heapU n b i ks).get j = some o) : j = b ∧ o = .ucells i ks := by
  unfold heapU at h
  rw [Heap.get_put] at h
  split at h
  · rename_i e; cases h; exact ⟨e, rfl⟩
  · have : (PT.get PT.nil j : Option AObj) = some o := h
    rw [PT.get_nil] at this; cases this
theorem heapU_ok {p : Par} {E : Env} {w : World} {n b i c x : Nat} {ks : List Bool} {cells : Array Value} {el : Nat} {fz : Nat × Nat} (hs : E.σ b = some (c, x)) (hcell : w.heap[c]? = some (.cells cells el fz))
    (hc : ∀ (m off : Nat) (k : Bool), (m : Int) < E.ρ.iv i → ks[off]? = some k → cells[x + m * ks.length + off]? = some (cellOf E.ρ i m off k))
    (hf : ∀ j, n ≤ j → E.σ j = none) (hg : ∀ j, j < 1000 → E.σ j = some (j, 0)) (hn : E.n ≤ n) (hok : p.okB E.ρ (Base.of w)) : HeapOk p E (heapU n b i ks) (Base.of w) w := by
  have hlt : c < w.heap.size := (Array.getElem?_eq_some_iff.1 hcell).1
  refine ⟨fun j o e => ?_, fun j j' o o' c x y h1 h2 w1 => ?_, fun j o c x e ow => ?_, fun j o c y e _ s => ?_, hf, fun j o c x e s => ?_, hg, Kept.refl _ _, hn, hok⟩
  · obtain ⟨rfl, rfl⟩ := heapU_get e
    exact ⟨c, x, cells, el, fz, hs, hcell, hc⟩
  · obtain ⟨rfl, rfl⟩ := heapU_get h1; cases w1
  · obtain ⟨rfl, rfl⟩ := heapU_get e; cases ow
  · obtain ⟨rfl, rfl⟩ := heapU_get e; rw [hs] at s; cases s; exact hlt
  · obtain ⟨rfl, rfl⟩ := heapU_get e; rw [hs] at s; cases s; exact hlt

/-! ## Turn -/
noncomputable def big : IE := .lit 9223372036854775807
noncomputable def turnC : CSpec := ⟨48, [vi 80, vi 81], [], 2000, [.cmp .leq (.var 81) big], .ret (.int .i64 (.app 6 (.var 80) (.var 81) (.lit 0)))⟩
noncomputable def turnRun : T (AV × Heap) := evalN tb0 10 false 48 [vi 80, vi 81] (viewHeap 2000 [])
noncomputable def remE : IE := .bin .rem .i64 (.var 80) (.var 81)
noncomputable def turnT : T AV := .br (.cmp .lss (.var 81) (.lit 1)) (.ret (.int .i64 (.lit 0))) (.br (.cmp .neq (.var 81) (.lit 0)) (.br (.cmp .lss remE (.lit 0)) (.ret (.int .i64 (.bin .add .i64 remE (.var 81)))) (.ret (.int .i64 remE))) (.fail 10))
theorem turn_run : (turnRun.bind fun r => .ret r.1) = turnT := by kernel_rfl
theorem turn_den {n m : Int} (h1 : ¬ m < 1) (hm : m ≤ 9223372036854775807) : (n.tmod m < 0 → IntKind.i64.wrap (n.tmod m + m) = turnF n m) ∧ (¬ n.tmod m < 0 → n.tmod m = turnF n m) := by
  have e1 := Int.emod_nonneg n (show m ≠ 0 by omega)
  have e2 := Int.emod_lt_of_pos n (show 0 < m by omega)
  have e3 : n.tmod m = n % m ∨ n.tmod m = n % m - m ∧ n % m ≠ 0 := by
    rw [Int.tmod_eq_emod]
    split
    · left; omega
    · rename_i hh
      right
      refine ⟨by omega, fun h0 => hh (.inr (Int.dvd_of_emod_eq_zero h0))⟩
  unfold turnF
  rw [if_neg h1]
  generalize n % m = r at *
  generalize n.tmod m = t at *
  constructor
  · intro h
    rw [IntWalk.i64_in _ (by omega)]; omega
  · intro h; omega
theorem turn_orc {p : Par} (hP : pT.P = p.P) {args : List AV} {h : Heap} {t : T (AV × Heap)} (ho : turnC.orc args h = some t) : CallOk p 48 args h t := by
  refine CSpec.okS (c := turnC) (p0 := pT) (eval_ok tabs0 10 48 [vi 80, vi 81] _) (fun ρ hd P hP => ?_) (Nat.le_of_ble_eq_true rfl) ho hP
  have hd := hd _ List.mem_cons_self
  rw [BE.t_leq] at hd
  have hd : ρ.iv 81 ≤ 9223372036854775807 := hd
  have hP : P (.int .i64 (.app 6 (.var 80) (.var 81) (.lit 0))) := hP
  show ((turnRun.bind fun r => .ret r.1) : T AV).Holds ρ _
  rw [turn_run]
  have hden : (IE.app 6 (.var 80) (.var 81) (.lit 0)).den ρ = turnF (ρ.iv 80) (ρ.iv 81) := rfl
  have fin : ∀ e : IE, e.den ρ = turnF (ρ.iv 80) (ρ.iv 81) → ∃ b, P b ∧ pureAV b = true ∧ SameE ρ (.int .i64 e) b := fun e he =>
    ⟨_, hP, rfl, by intro E hE; simp only [conc, hE]; rw [he, hden]⟩
  unfold turnT
  simp only [T.Holds]
  split
  · rename_i h1
    rw [BE.t_lss] at h1
    refine fin _ ?_
    have h1 : ρ.iv 81 < 1 := h1
    unfold turnF; rw [if_pos h1]; rfl
  · rename_i h1
    rw [BE.t_lss] at h1
    have h1 : ¬ ρ.iv 81 < 1 := h1
    obtain ⟨d1, d2⟩ := turn_den (n := ρ.iv 80) h1 hd
    split
    · split
      · rename_i h2
        rw [BE.t_lss] at h2
        exact fin _ (d1 h2)
      · rename_i h2
        rw [BE.t_lss] at h2
        exact fin _ (d2 h2)
    · rename_i h3
      refine absurd ?_ h3
      show (ρ.iv 81 != 0) = true
      simp only [bne_iff_ne, ne_eq]; omega

/-! ## Pick -/
/-- what is known of a list that is only read: it is the opaque value 96, it has iv 96 numbers; what lies in it is 'fi 1001', and what a number picks is 'fi 1000' -/
def okPick (ρ : Rho) (m : Nat → Obj → Prop) : Prop := ∃ (b : Option Addr) (len cap : Nat), ρ.ov 96 = .slice b len cap ∧ ρ.iv 96 = (len : Int) ∧ (len : Int) ≤ 9223372036854775807 ∧ len ≤ cap ∧
  (∀ n, ρ.fi 1000 n 0 0 = if len = 0 then 0 else ρ.fi 1001 (turnF n len) 0 0) ∧
  (0 < len → ∃ c x cells el fz, b = some ⟨c, x, none⟩ ∧ m c (.cells cells el fz) ∧ ∀ j : Nat, j < len → cells[x + j]? = some (.int .i64 (ρ.fi 1001 j 0 0)))
noncomputable def orcT (f : FuncId) (args : List AV) (h : Heap) : Option (T (AV × Heap)) := cond (Nat.beq f 48) (turnC.orc args h) none
noncomputable def tbT : Tabs := ⟨Sx.Tryd.ft.get, lFind Sx.Tryd.rt, 2000, orcT⟩
theorem tabsT : TabOk pT Sx.Tryd.tt.get tbT := Tryd.tab orcT (fun f args h t e => by
  unfold orcT at e
  obtain ⟨h1, h2⟩ := cond_some e
  have := beq_t.1 h1; subst this
  exact turn_orc rfl h2) 2000
/-- a list of some numbers -/
noncomputable def pickRun : T (AV × Heap) := evalN tbT 10 false 54 [.sliceV 1001 1, vi 80] (heapU 2000 1001 1 [false])
noncomputable def turnE : IE := .app 6 (.var 80) (.var 1) (.lit 0)
noncomputable def pickT : T AV := .br (.cmp .eql (.var 1) (.lit 0)) (.ret (.int .i64 (.lit 0))) (.br (.cmp .leq (.var 1) big)
  (.br (.and (.cmp .leq (.lit 0) turnE) (.cmp .lss turnE (.var 1))) (.ret (.int .i64 (.app 1001 turnE (.lit 0) (.lit 0)))) (.fail 18)) (.fail 99))
theorem pick_run : (pickRun.bind fun r => .ret r.1) = pickT := by kernel_rfl
/-- a list of no number, whatever it is -/
noncomputable def pick0Run : T (AV × Heap) := evalN tbT 10 false 54 [.sliceU 96, vi 80] (viewHeap 2000 [])
noncomputable def turn0E : IE := .app 6 (.var 80) (.var 96) (.lit 0)
noncomputable def pick0T : T AV := .br (.cmp .eql (.var 96) (.lit 0)) (.ret (.int .i64 (.lit 0))) (.br (.cmp .leq (.var 96) big) (.br (.and (.cmp .leq (.lit 0) turn0E) (.cmp .lss turn0E (.lit (Int.ofNat 0)))) (.fail 18) (.fail 18)) (.fail 99))
theorem pick0_run : (pick0Run.bind fun r => .ret r.1) = pick0T := by kernel_rfl

theorem made {f : FuncId} {args : List AV} {h : Heap} {run : T (AV × Heap)} (hc : CallOk pT f args h run) {E : Env} {w : World} {vs : List Value} (HS : HeapOk pT E h (Base.of w) w) (ha : concL E args = some vs) {V : AV → Prop}
    (hrun : (run.bind fun r => T.ret r.1).Holds E.ρ V) : (callFunc f vs.toArray).run pT.P w = .ok (.enter f vs.toArray) w ∧ Calls pT.P f vs.toArray w fun e w' => ∃ v cv E2, e = .returned cv ∧ V v ∧ E2.ρ = E.ρ ∧ conc E2 v = some cv ∧ Below w.heap.size w w' := by
  rw [T.holds_bind] at hrun
  obtain ⟨r1, r2⟩ := hc vs E (Base.of w) w (fun r => V r.1) (fun cv w' => ∃ v E2, V v ∧ E2.ρ = E.ρ ∧ conc E2 v = some cv ∧ Below w.heap.size w w') hrun HS ha
    (fun v h' E2 w' cv q hle HH' hv => ⟨v, E2, q, hle.ρ, hv, Base.keeps_below HH'.below⟩)
  refine ⟨r1, r2.mono ?_⟩
  rintro e w' ⟨cv, rfl, v, E2, q, hρ, hv, hb⟩
  exact ⟨v, cv, E2, rfl, q, hρ, hv, hb⟩

/-- PICK, AS IT IS SAID: of a list of which 'okPick' is known. -/
noncomputable def pickOrc (args : List AV) (h : Heap) : Option (T (AV × Heap)) :=
  match args with
  | [.sliceU i, .int .i64 e] => cond (Nat.beq i 96) (some (.ret (.int .i64 (.app 1000 e (.lit 0) (.lit 0)), h))) none
  | _ => none
theorem pick_orc {p : Par} (hP : pT.P = p.P) (hok : ∀ ρ m, p.ok ρ m → okPick ρ m) {args : List AV} {h : Heap} {t : T (AV × Heap)} (ho : pickOrc args h = some t) : CallOk p 54 args h t := by
  unfold pickOrc at ho
  split at ho
  · rename_i i e
    obtain ⟨hi, ho⟩ := cond_some ho
    have := beq_t.1 hi; subst this
    cases ho
    refine callOk_of fun vs E w0 w Q HH ha k => ?_
    obtain ⟨m, hm, hmh⟩ := HH.ok
    obtain ⟨b, len, cap, h1, h2, h3, h4, h5, h6⟩ := hok _ _ hm
    have hvs : vs = [.slice b len cap, .int .i64 (e.den E.ρ)] := by
      simp only [concL, conc, h1, h2, if_true, Option.some.injEq] at ha
      exact ha.symm
    subst hvs
    let ρ' : Rho := ⟨fun j => if j = 1 then (len : Int) else if j = 80 then e.den E.ρ else E.ρ.iv j, E.ρ.bv, E.ρ.fi, E.ρ.fb, E.ρ.ov⟩
    have hfin : ∀ {f' : FuncId} {z : Int} {u : Value}, u = .int .i64 z → z = E.ρ.fi 1000 (e.den E.ρ) 0 0 → conc E (.int .i64 (.app 1000 e (.lit 0) (.lit 0))) = some u := by
      intro _ z u hu hz
      rw [hu, hz]
      simp only [conc, IE.den, FI]
      rw [if_pos (show 1000 ≤ 1000 from Nat.le_refl _)]
    rw [← hP]
    rcases Nat.eq_zero_or_pos len with hz | hpos
    · let E' : Env := ⟨ρ', fun x => if x < 1000 then some (x, 0) else none, E.κ, 2000, fun _ => #[]⟩
      have HS : HeapOk pT E' (viewHeap 2000 []) (Base.of w) w := view_ok (fun g hg => (List.not_mem_nil hg).elim)
        (fun x hx => by simp only [E']; rw [if_neg (by omega)]) (fun x hx => by simp only [E', if_pos hx]) (Nat.le_refl _) (Par.okB_all (fun _ _ => trivial) _ _)
      have ha' : concL E' [.sliceU 96, vi 80] = some [.slice b len cap, .int .i64 (e.den E.ρ)] := by
        have e1 : E'.ρ.ov 96 = .slice b len cap := h1
        have e2 : E'.ρ.iv 96 = (len : Int) := h2
        simp only [concL, conc, vi, e1, e2, if_true]
        rfl
      obtain ⟨r1, r2⟩ := made (eval_ok tabsT 10 54 _ _) HS ha' (V := fun v => v = .int .i64 (.lit 0)) (by
        show ((pick0Run.bind fun r => T.ret r.1) : T AV).Holds E'.ρ _
        rw [pick0_run]
        have : (BE.cmp .eql (.var 96) (.lit 0)).den E'.ρ = true := by
          show (E'.ρ.iv 96 == 0) = true
          have e2 : E'.ρ.iv 96 = (len : Int) := h2
          rw [e2, hz]; rfl
        unfold pick0T
        simp only [T.Holds]
        rw [if_pos this]; trivial)
      refine ⟨r1, r2.mono ?_⟩
      rintro ex w' ⟨v, cv, E2, rfl, rfl, _, hv, hb⟩
      refine ⟨_, cv, rfl, k, ?_, hb⟩
      simp only [conc, IE.den, Option.some.injEq] at hv
      exact hfin (f' := 0) hv.symm (by rw [h5, if_pos hz])
    · obtain ⟨c, x, cells, el, fz, rfl, hc, hcells⟩ := h6 hpos
      have hw : w.heap[c]? = some (.cells cells el fz) := Base.Keeps.has HH.below (hmh _ _ hc)
      let E' : Env := ⟨ρ', fun y => if y < 1000 then some (y, 0) else if y = 1001 then some (c, x) else none, fun _ => cap, 2000, fun _ => #[]⟩
      have i1 : E'.ρ.iv 1 = (len : Int) := rfl
      have i80 : E'.ρ.iv 80 = e.den E.ρ := rfl
      have HS : HeapOk pT E' (heapU 2000 1001 1 [false]) (Base.of w) w := heapU_ok (c := c) (x := x) rfl hw
        (fun n off kk hn hk => by
          rw [i1] at hn
          have h0 : off = 0 ∧ kk = false := by
            cases off with
            | zero => cases hk; exact ⟨rfl, rfl⟩
            | succ o => cases hk
          obtain ⟨rfl, rfl⟩ := h0
          have := hcells n (by omega)
          simp only [List.length_singleton, Nat.mul_one, Nat.add_zero]
          rw [this]; rfl)
        (fun y hy => by simp only [E']; rw [if_neg (by omega), if_neg (by omega)]) (fun y hy => by simp only [E', if_pos hy]) (Nat.le_refl _) (Par.okB_all (fun _ _ => trivial) _ _)
      have ha' : concL E' [.sliceV 1001 1, vi 80] = some [.slice (some ⟨c, x, none⟩) len cap, .int .i64 (e.den E.ρ)] := by
        have hle : (0 : Int) ≤ E'.ρ.iv 1 ∧ E'.ρ.iv 1 ≤ (E'.κ 1001 : Int) := by
          rw [i1]; exact ⟨by omega, by show (len : Int) ≤ (cap : Int); omega⟩
        simp only [concL, conc, vi, if_pos hle]
        rfl
      have ht : turnE.den E'.ρ = turnF (e.den E.ρ) len := rfl
      have tb : 0 ≤ turnF (e.den E.ρ) len ∧ turnF (e.den E.ρ) len < len := by
        unfold turnF
        rw [if_neg (by omega)]
        exact ⟨Int.emod_nonneg _ (by omega), Int.emod_lt_of_pos _ (by omega)⟩
      obtain ⟨r1, r2⟩ := made (eval_ok tabsT 10 54 _ _) HS ha' (V := fun v => v = .int .i64 (.app 1001 turnE (.lit 0) (.lit 0))) (by
        show ((pickRun.bind fun r => T.ret r.1) : T AV).Holds E'.ρ _
        rw [pick_run]
        unfold pickT
        simp only [T.Holds]
        rw [if_neg (by show ¬ (E'.ρ.iv 1 == 0) = true; rw [i1]; simp only [beq_iff_eq]; omega)]
        rw [if_pos (by show decide (E'.ρ.iv 1 ≤ 9223372036854775807) = true; rw [i1]; exact decide_eq_true h3)]
        rw [if_pos (by
          show (decide (0 ≤ turnE.den E'.ρ) && decide (turnE.den E'.ρ < E'.ρ.iv 1)) = true
          rw [ht, i1, decide_eq_true tb.1, decide_eq_true tb.2]; rfl)]; trivial)
      refine ⟨r1, r2.mono ?_⟩
      rintro ex w' ⟨v, cv, E2, rfl, rfl, hρ, hv, hb⟩
      refine ⟨_, cv, rfl, k, ?_, hb⟩
      have hv2 : Value.int .i64 ((IE.app 1001 turnE (.lit 0) (.lit 0)).den E2.ρ) = cv := by simpa only [conc, Option.some.injEq] using hv
      refine hfin (f' := 0) hv2.symm ?_
      rw [hρ, h5, if_neg (by omega)]
      show FI E'.ρ.fi 1001 (turnE.den E'.ρ) 0 0 = _
      unfold FI
      rw [if_pos (by omega), ht]
  · cases ho
end Go.Sx
/-! A NUMBER OF A SPAN: Choose, as it is said; and calls whose results have names. -/
namespace Go.Sx
open Go.RowKit Go.Proofs
set_option maxRecDepth 100000
theorem turnF_in {n m : Int} (h : 1 ≤ m) : 0 ≤ turnF n m ∧ turnF n m < m := by
  unfold turnF
  rw [if_neg (by omega)]
  exact ⟨Int.emod_nonneg _ (by omega), Int.emod_lt_of_pos _ (by omega)⟩
theorem chooseF_in {l h n : Int} (k : l ≤ h) : l ≤ chooseF l h n ∧ chooseF l h n ≤ h := by
  unfold chooseF
  rw [if_neg (by omega)]
  have := turnF_in (n := n) (m := h - l + 1) (by omega)
  omega
noncomputable def chooseC : CSpec := ⟨52, [.agg [vi 80, vi 81], vi 82], [], 2000, [.cmp .leq (.lit 0) (.var 80), .cmp .leq (.var 81) (.lit 1000000)], .ret (.int .i64 (.app 7 (.var 80) (.var 81) (.var 82)))⟩
noncomputable def chooseRun : T (AV × Heap) := evalN tbT 20 false 52 [.agg [vi 80, vi 81], vi 82] (viewHeap 2000 [])
noncomputable def manyE : IE := .bin .add .i64 (.bin .sub .i64 (.var 81) (.var 80)) (.lit 1)
noncomputable def chooseT : T AV := .br (.cmp .gtr (.var 80) (.var 81)) (.ret (vi 80)) (.br (.cmp .leq manyE big) (.ret (.int .i64 (.bin .add .i64 (.var 80) (.app 6 (.var 82) manyE (.lit 0))))) (.fail 99))
theorem choose_run : (chooseRun.bind fun r => .ret r.1) = chooseT := by kernel_rfl
theorem choose_orc {p : Par} (hP : pT.P = p.P) {args : List AV} {h : Heap} {t : T (AV × Heap)} (ho : chooseC.orc args h = some t) : CallOk p 52 args h t := by
  refine CSpec.okS (c := chooseC) (p0 := pT) (eval_ok tabsT 20 52 [.agg [vi 80, vi 81], vi 82] _) (fun ρ hd P hP => ?_) (Nat.le_of_ble_eq_true rfl) ho hP
  have hd1 := hd _ List.mem_cons_self
  have hd2 := hd _ (List.mem_cons_of_mem _ List.mem_cons_self)
  rw [BE.t_leq] at hd1 hd2
  have hd1 : 0 ≤ ρ.iv 80 := hd1
  have hd2 : ρ.iv 81 ≤ 1000000 := hd2
  have hP : P (.int .i64 (.app 7 (.var 80) (.var 81) (.var 82))) := hP
  show ((chooseRun.bind fun r => .ret r.1) : T AV).Holds ρ _
  rw [choose_run]
  have hden : (IE.app 7 (.var 80) (.var 81) (.var 82)).den ρ = chooseF (ρ.iv 80) (ρ.iv 81) (ρ.iv 82) := rfl
  have fin : ∀ e : IE, e.den ρ = chooseF (ρ.iv 80) (ρ.iv 81) (ρ.iv 82) → ∃ b, P b ∧ pureAV b = true ∧ SameE ρ (.int .i64 e) b := fun e he =>
    ⟨_, hP, rfl, by intro E hE; simp only [conc, hE]; rw [he, hden]⟩
  unfold chooseT
  simp only [T.Holds]
  split
  · rename_i h1
    have h1 : decide (ρ.iv 80 > ρ.iv 81) = true := h1
    have h1 := of_decide_eq_true h1
    refine fin _ ?_
    show ρ.iv 80 = _
    unfold chooseF; rw [if_pos h1]
  · rename_i h1
    have h1 : ¬ decide (ρ.iv 80 > ρ.iv 81) = true := h1
    have h1 : ¬ ρ.iv 80 > ρ.iv 81 := fun h => h1 (decide_eq_true h)
    have hm : manyE.den ρ = ρ.iv 81 - ρ.iv 80 + 1 := by
      show IntKind.i64.wrap (IntKind.i64.wrap (ρ.iv 81 - ρ.iv 80) + 1) = _
      rw [IntWalk.i64_in (ρ.iv 81 - ρ.iv 80) (by omega), IntWalk.i64_in _ (by omega)]
    have ht := turnF_in (n := ρ.iv 82) (m := ρ.iv 81 - ρ.iv 80 + 1) (by omega)
    rw [if_pos (by show decide (manyE.den ρ ≤ 9223372036854775807) = true; rw [hm]; exact decide_eq_true (by omega))]
    refine fin _ ?_
    show IntKind.i64.wrap (ρ.iv 80 + turnF (ρ.iv 82) (manyE.den ρ)) = _
    rw [hm, IntWalk.i64_in _ (by omega)]
    unfold chooseF; rw [if_neg (by omega)]

/-- A CALL WHOSE RESULT HAS A NAME: whatever it hands back is what 'v' means. -/
theorem CallOk.named {p : Par} {f : FuncId} {args : List AV} {h : Heap} {t : T (AV × Heap)} (H : CallOk p f args h t) {v : AV} (ht : ∀ ρ b, p.okB ρ b → t.Holds ρ fun r => r.2 = h ∧ SameE ρ r.1 v) : CallOk p f args h (.ret (v, h)) := by
  intro vs E w0 w Q K k HH ha P
  refine H vs E w0 w (fun r => r.2 = h ∧ SameE E.ρ r.1 v) K (ht _ _ HH.ok) HH ha fun x h' E' w' cv q hle HH' hv => ?_
  obtain ⟨rfl, hs⟩ := q
  exact P v _ E' w' cv k hle HH' (by rw [← hs E' hle.ρ]; exact hv)
end Go.Sx
