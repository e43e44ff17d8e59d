/- REELS OF A FILM, EACH ONCE, as the program asks it: of a list that is not known. -/
import Derived.Test.YtgohpnfoogdlaaaDoorTabFn
import Derived.Test.YtgohpnfoogdlaaaDoorSxTree2
import Derived.Test.YtgohpnfoogdlaaaDoorSxOpen
import Derived.Test.YtgohpnfoogdlaaaDoorSxFold
/-! LISTS THAT ARE NOT KNOWN: the first place of a number; whether all are numbers of reels, each once. -/
namespace Go.Sx
open Go.RowKit Go.Proofs
set_option maxRecDepth 100000
noncomputable def tb0 : Tabs := ⟨Sx.Tryd.ft.get, lFind Sx.Tryd.rt, 2000, fun _ _ _ => none⟩
noncomputable def vi (n : Nat) : AV := .int .i64 (.var n)
noncomputable def cellsUp : Nat → Nat → List AV
  | 0, _ => []
  | n + 1, i => vi i :: cellsUp n (i + 1)
noncomputable def big : IE := .lit 9223372036854775807
def setI (ρ : Rho) (j : Nat) (z : Int) : Rho := ⟨fun q => if q = j then z else ρ.iv q, ρ.bv, ρ.fi, ρ.fb, ρ.ov⟩
theorem setI_at (ρ : Rho) (j : Nat) (z : Int) : (setI ρ j z).iv j = z := by simp [setI]
theorem setI_ne (ρ : Rho) {j q : Nat} (z : Int) (h : q ≠ j) : (setI ρ j z).iv q = ρ.iv q := by simp [setI, h]
/-- the first place of a number, of so many, from one on; -1: it is not there -/
def findAt (y : Nat → Int) (n : Int) : Nat → Nat → Int
  | 0, _ => -1
  | k + 1, i => if y i = n then i else findAt y n k (i + 1)
theorem findAt_not (y : Nat → Int) (n : Int) : ∀ k i j, i ≤ j → j < i + k → y j = n → findAt y n k i ≤ j ∧ (i : Int) ≤ findAt y n k i
  | 0, i, j, h1, h2, _ => by omega
  | k + 1, i, j, h1, h2, h => by
    unfold findAt
    split
    · omega
    · rename_i hne
      have hij : i ≠ j := fun e => hne (e ▸ h)
      have := findAt_not y n k (i + 1) j (by omega) (by omega) h
      omega
theorem findAt_some (y : Nat → Int) (n : Int) : ∀ k i, findAt y n k i = -1 ∨ ∃ j : Nat, i ≤ j ∧ j < i + k ∧ findAt y n k i = j ∧ y j = n
  | 0, i => .inl rfl
  | k + 1, i => by
    unfold findAt
    split
    · rename_i h; exact .inr ⟨i, by omega, by omega, rfl, h⟩
    · rcases findAt_some y n k (i + 1) with h | ⟨j, h1, h2, h3, h4⟩
      · exact .inl h
      · exact .inr ⟨j, by omega, by omega, h3, h4⟩
/-- so many of a list are numbers up to one, each once -/
def okUp (y : Nat → Int) (N : Int) : Nat → Bool
  | 0 => true
  | i + 1 => okUp y N i && (decide (0 ≤ y i) && (decide (y i ≤ N) && decide (findAt y (y i) i 0 = -1)))
theorem okUp_le (y : Nat → Int) (N : Int) : ∀ n i, i ≤ n → okUp y N n = true → okUp y N i = true
  | 0, i, h, k => by have : i = 0 := by omega
                     subst this; exact k
  | n + 1, i, h, k => by
    rcases Nat.lt_or_ge i (n + 1) with h1 | h1
    · have k : (okUp y N n && _) = true := k
      exact okUp_le y N n i (by omega) (Bool.and_eq_true_iff.1 k).1
    · have : i = n + 1 := by omega
      subst this; exact k
/-- where it is first, of all: here, just if it is not before -/
theorem findAt_here (y : Nat → Int) {len i : Nat} (h : i < len) : findAt y (y i) len 0 = i ↔ findAt y (y i) i 0 = -1 := by
  constructor
  · intro e
    rcases findAt_some y (y i) i 0 with h1 | ⟨j, h1, h2, h3, h4⟩
    · exact h1
    · have := findAt_not y (y i) len 0 j (by omega) (by omega) h4
      omega
  · intro e
    have h0 := findAt_not y (y i) len 0 i (by omega) (by omega) rfl
    rcases findAt_some y (y i) len 0 with h1 | ⟨j, h1, h2, h3, h4⟩
    · omega
    · rcases Nat.lt_or_ge j i with h5 | h5
      · have := findAt_not y (y i) i 0 j (by omega) (by omega) h4
        omega
      · omega
/-- whether a number is among so many -/
def metF (y : Nat → Int) (m : Int) : Nat → Bool
  | 0 => false
  | i + 1 => metF y m i || decide (y i = m)
theorem metF_iff (y : Nat → Int) (m : Int) : ∀ i, metF y m i = true ↔ ∃ j, j < i ∧ y j = m
  | 0 => by simp [metF]
  | i + 1 => by
    simp only [metF, Bool.or_eq_true, decide_eq_true_eq, metF_iff y m i]
    constructor
    · rintro (⟨j, h1, h2⟩ | h)
      · exact ⟨j, by omega, h2⟩
      · exact ⟨i, by omega, h⟩
    · rintro ⟨j, h1, h2⟩
      rcases Nat.lt_or_ge j i with h | h
      · exact .inl ⟨j, h, h2⟩
      · have : j = i := by omega
        subst this; exact .inr h2
theorem metF_find (y : Nat → Int) (m : Int) (i : Nat) : findAt y m i 0 = -1 ↔ metF y m i = false := by
  rw [← Bool.not_eq_true, metF_iff]
  constructor
  · rintro h ⟨j, h1, h2⟩
    have := findAt_not y m i 0 j (by omega) (by omega) h2
    omega
  · intro h
    rcases findAt_some y m i 0 with h1 | ⟨j, h1, h2, h3, h4⟩
    · exact h1
    · exact absurd ⟨j, by omega, h4⟩ h
/-- how many of a list are good, from the first one on -/
def goodN (y : Nat → Int) (N : Int) : Nat → Nat
  | 0 => 0
  | n + 1 => if okUp y N (n + 1) = true then n + 1 else goodN y N n
theorem goodN_at (y : Nat → Int) (N : Int) : ∀ n i, i ≤ n → okUp y N i = true → (i = n ∨ okUp y N (i + 1) = false) → goodN y N n = i
  | 0, i, h, _, _ => by unfold goodN; omega
  | n + 1, i, h, h1, h2 => by
    unfold goodN
    split
    · rename_i h3
      rcases h2 with h2 | h2
      · exact h2.symm
      · rcases Nat.lt_or_ge i (n + 1) with h4 | h4
        · rw [okUp_le y N (n + 1) (i + 1) (by omega) h3] at h2; cases h2
        · omega
    · rename_i h3
      rcases Nat.lt_or_ge i (n + 1) with h4 | h4
      · refine goodN_at y N n i (by omega) h1 ?_
        rcases Nat.lt_or_ge i n with h5 | h5
        · rcases h2 with h2 | h2
          · omega
          · exact .inr h2
        · exact .inl (by omega)
      · have : i = n + 1 := by omega
        subst this; exact absurd h1 h3
/-- the list's numbers, and how many there are -/
def yR (ρ : Rho) (j : Nat) : Int := ρ.fi 1096 j 0 0
def nR (ρ : Rho) : Nat := (ρ.fi 1202 0 0 0).toNat
/-- what the names of a list say -/
structure ListOk (ρ : Rho) : Prop where
  len : 0 ≤ ρ.fi 1202 0 0 0
  find : ∀ n, ρ.fi 1200 n 0 0 = findAt (yR ρ) n (nR ρ) 0
  all : ∀ N, ρ.fb 1201 N 0 0 = okUp (yR ρ) N (nR ρ)
  seen : ∀ m N, ρ.fb 1203 m N 0 = metF (yR ρ) m (goodN (yR ρ) N (nR ρ))
theorem ListOk.of {ρ ρ' : Rho} (h : ListOk ρ) (hi : ρ'.fi = ρ.fi) (hb : ρ'.fb = ρ.fb) : ListOk ρ' := by
  have e1 : yR ρ' = yR ρ := by unfold yR; rw [hi]
  have e2 : nR ρ' = nR ρ := by unfold nR; rw [hi]
  exact ⟨by rw [hi]; exact h.len, fun n => by rw [hi, e1, e2]; exact h.find n, fun N => by rw [hb, e1, e2]; exact h.all N, fun m N => by rw [hb, e1, e2]; exact h.seen m N⟩
/-- and that one list has this length -/
structure ListIs (ρ : Rho) : Prop where
  ok : ListOk ρ
  is : ρ.iv 96 = ρ.fi 1202 0 0 0
  max : ρ.iv 96 ≤ 9223372036854775807
noncomputable def pU : Par := ⟨Tryd.prog, rcOf Tryd.rows, fun ρ _ => ListIs ρ⟩
theorem tabsU : TabOk pU Sx.Tryd.tt.get tb0 := Tryd.tab (fun _ _ _ => none) (fun _ _ _ _ h => by cases h) 2000
noncomputable def cxU : Cx := ⟨evalN tb0 40 false, evalN tb0 40 true, 2000⟩
theorem cxU_ok : CxOk pU cxU := evalN_ok tabsU 40
/-- a heap with one list that is not known -/
noncomputable def heapU (n b i : Nat) (ks : List Bool) : Heap := (⟨.nil, n⟩ : Heap).put b (.ucells i ks)
noncomputable def listA : AV := .sliceV 1004 96
noncomputable def lenE : IE := .app 1202 (.lit 0) (.lit 0) (.lit 0)
noncomputable def listD : List BE := [.cmp .eql (.var 96) lenE, .cmp .leq (.var 96) big]
noncomputable def elemE (i : IE) : IE := .app 1096 i (.lit 0) (.lit 0)
noncomputable def findE (n : IE) : IE := .app 1200 n (.lit 0) (.lit 0)
/-- two trees -/
noncomputable def eqTW (t u : T AV) : Bool :=
  match t, u with
  | .ret a, .ret b => eqAV a b
  | .br c x y, .br c' x' y' => and (eqBE c c') (and (eqTW x x') (eqTW y y'))
  | .fail v, .fail w => Nat.beq v w
  | _, _ => false
theorem eqTW_eq : ∀ (t u : T AV), eqTW t u = true → t = u
  | .ret a, u, h => by
    cases u <;> simp [eqTW] at h
    rw [eqAV_eq _ _ h]
  | .br c x y, u, h => by
    cases u <;> simp [eqTW] at h
    rw [eqBE_eq _ _ h.1, eqTW_eq _ _ h.2.1, eqTW_eq _ _ h.2.2]
  | .fail v, u, h => by
    cases u <;> simp [eqTW] at h
    rw [h]
/-! ## Find -/
noncomputable def findBody : C := (cSeq (cSeq (cOps [⟨some 6, false, none, iMov (.t 5)⟩,
 ⟨some 7, false, none, iMov (.t 0)⟩,
 ⟨some 8, false, none, iLenS (.t 7)⟩,
 ⟨some 9, true, none, iCmp .lss (.t 6) (.t 8)⟩])
 (cCond (.t 9) cSkip (cExit 0)))
 (cSeq (cBlock 1 (cSeq (cOps [⟨some 12, false, none, iMov (.t 0)⟩,
 ⟨some 13, false, none, iMov (.t 5)⟩,
 ⟨some 14, false, none, iIaddr 1 (.t 12) (.t 13)⟩,
 ⟨some 15, false, none, iLoad (.t 14)⟩,
 ⟨some 16, false, none, iMov (.t 1)⟩,
 ⟨some 17, true, none, iCmp .eql (.t 15) (.t 16)⟩])
 (cCond (.t 17) (cSeq (cOps [⟨some 18, false, none, iMov (.t 5)⟩,
 ⟨some 4, true, none, iMov (.t 18)⟩])
 cRet) cSkip)))
 (cOps [⟨some 10, false, none, iMov (.t 5)⟩,
 ⟨some 11, false, none, iArith .add (.t 10) (.c (.int .i64 (.lit 1)))⟩,
 ⟨some 5, true, none, iMov (.t 11)⟩])))
noncomputable def findL : LSpec where
  sl0 := [(0, listA), (1, vi 90), (5, li 0)]
  sl := [(0, listA), (1, vi 90), (5, vi 92)]
  vs := [⟨1004, none, [], [], [], some (96, [false])⟩]
  nv := 2000
  dom := listD
  out := .br (.cmp .lss (findE (.var 90)) (.lit 0)) (.ret (.exit 0, [])) (.ret (.ret, [(4, .int .i64 (findE (.var 90)))]))
noncomputable def findSl (i : IE) : List AV := [.tup [listA], .tup [vi 90], .tup [.int .i64 i]]
noncomputable def findT : T AV :=
  .br (.cmp .lss (.var 92) (.var 96))
    (.br (.and (.cmp .leq (.lit 0) (.var 92)) (.cmp .lss (.var 92) (.var 96)))
      (.br (.cmp .eql (elemE (.var 92)) (.var 90))
        (.ret (.tup (li 1 :: .nilslice :: (findSl (.var 92) ++ [.tup [vi 92]]))))
        (.ret (.tup (li 0 :: .nilslice :: (findSl (.bin .add .i64 (.var 92) (.lit 1)) ++ [.tup []])))))
      (.fail 18))
    (.ret (.tup (li 2 :: .nilslice :: (findSl (.var 92) ++ [.tup []]))))
theorem find_chk : eqTW (extT [0, 1, 5, 4] [] (findBody cxU ⟨43, none⟩ findL.T.st)) findT = true := by kernel_rfl
theorem same_list {ρ ρ' : Rho} (h : ρ.iv 96 = ρ'.iv 96) : SameV ρ listA ρ' listA := SameV.sliceV 1004 h
theorem list_dom {ρ : Rho} (h : ∀ c ∈ listD, c.den ρ = true) : ρ.iv 96 = ρ.fi 1202 0 0 0 ∧ ρ.iv 96 ≤ 9223372036854775807 := by
  have h1 := h _ List.mem_cons_self
  have h2 := h _ (List.mem_cons_of_mem _ List.mem_cons_self)
  have h1 : (ρ.iv 96 == ρ.fi 1202 0 0 0) = true := h1
  rw [BE.t_leq] at h2
  exact ⟨by simpa using h1, h2⟩
/-- THE LOOP OF FIND IS AS IT IS SAID. -/
theorem find_loop : findL.OkP pU.ok (fun ρ _ => ListOk ρ) cxU ⟨43, none⟩ findBody := by
  intro ρ m hL hdom
  obtain ⟨hlen, hmax⟩ := list_dom hdom
  have hl0 := hL.len
  have hn : (nR ρ : Int) = ρ.iv 96 := by unfold nR; rw [hlen]; exact Int.toNat_of_nonneg hl0
  have hF := hL.find (ρ.iv 90)
  generalize hneed : ρ.iv 90 = need at hF
  generalize hnn : nR ρ = len at hn hF
  have hFE : (findE (.var 90)).den ρ = findAt (yR ρ) need len 0 := by
    show FI ρ.fi 1200 (ρ.iv 90) 0 0 = _
    rw [hneed, ← hF]; rfl
  refine ⟨len, fun i ρ' => i ≤ len ∧ (∀ j, j < i → yR ρ j ≠ need) ∧ ρ' = setI ρ 92 i, setI ρ 92 0, fun i ρ' h => by obtain ⟨_, _, rfl⟩ := h; exact ⟨hL.of rfl rfl, by rw [setI_ne ρ _ (by omega)]; exact hlen, by rw [setI_ne ρ _ (by omega)]; exact hmax⟩, ⟨Nat.zero_le _, fun j hj => by omega, rfl⟩, ?_, ?_, ?_⟩
  · intro g hg
    simp only [findL, List.mem_cons, List.not_mem_nil, or_false] at hg
    rcases hg with rfl | rfl | rfl
    · exact ⟨listA, by simp [findL], same_list (setI_ne ρ 0 (by omega)).symm⟩
    · exact ⟨vi 90, by simp [findL], SameV.int (setI_ne ρ 0 (by omega)).symm⟩
    · exact ⟨li 0, by simp [findL], SameV.int (setI_at ρ 92 0).symm⟩
  · intro g hg
    rcases List.mem_singleton.1 hg with rfl
    exact ⟨SameL.nil, SameU.some (setI_ne ρ 0 (by omega)).symm rfl rfl⟩
  · rintro i ρ' hi ⟨hi', hno, rfl⟩
    have h92 : (setI ρ 92 i).iv 92 = i := setI_at ρ 92 i
    have h90 : (setI ρ 92 i).iv 90 = need := by rw [setI_ne ρ _ (by omega), hneed]
    have h96 : (setI ρ 92 i).iv 96 = len := by rw [setI_ne ρ _ (by omega), hn]
    have key : findT.Holds (setI ρ 92 i) (fun a => ∀ r, extr [0, 1, 5, 4] [] r = a →
        (r.1 = .norm ∧ ∃ ρ'', (i < len ∧ i + 1 ≤ len ∧ (∀ j, j < i + 1 → yR ρ j ≠ need) ∧ ρ'' = setI ρ 92 ((i + 1 : Nat) : Int)) ∧ Next findL.T (setI ρ 92 i) ρ'' r.2) ∨
        (r.1 ≠ .norm ∧ r.2.df = [] ∧ (∃ o, findL.out.end_ ρ = some o ∧ r.1 = o.1 ∧ ∀ g ∈ o.2, idsLt findL.nv g.2 = true ∧ ∃ v, r.2.tm.tree.get g.1 = some v ∧ SameV (setI ρ 92 i) v ρ g.2) ∧
          ∀ g ∈ findL.vs, ∀ q, g.own = some q → ∃ cs, r.2.h.get g.id = some (.cells cs q.1 true q.2) ∧ SameL (setI ρ 92 i) cs ρ g.cf)) := by
      have novs : ∀ r : Ex × St, ∀ g ∈ findL.vs, ∀ q, g.own = some q → ∃ cs, r.2.h.get g.id = some (.cells cs q.1 true q.2) ∧ SameL (setI ρ 92 i) cs ρ g.cf := by
        intro r g hg q hown
        rcases List.mem_singleton.1 hg with rfl; cases hown
      have hend : ∀ b : Bool, decide (findAt (yR ρ) need len 0 < 0) = b → findL.out.end_ ρ = (if b = true then some (Ex.exit 0, []) else some (Ex.ret, [(4, AV.int .i64 (findE (.var 90)))])) := by
        intro b hb
        simp only [findL, T.end_]
        have : (BE.cmp .lss (findE (.var 90)) (.lit 0)).den ρ = b := by
          rw [← hb, ← hFE]; rfl
        rw [this]
      simp only [findT, T.Holds]
      have c1 : (BE.cmp .lss (.var 92) (.var 96)).den (setI ρ 92 i) = decide ((i : Int) < len) := by simp only [BE.den, cmpDen, IE.den_var, h92, h96]
      rw [c1]
      by_cases hi1 : (i : Int) < len
      · rw [if_pos (by simpa using hi1)]
        have c2 : (BE.and (.cmp .leq (.lit 0) (.var 92)) (.cmp .lss (.var 92) (.var 96))).den (setI ρ 92 i) = true := by
          simp only [BE.den, cmpDen, IE.den_var, IE.den_lit, h92, h96, decide_eq_true hi1, Bool.and_true]
          exact decide_eq_true (by omega)
        rw [c2, if_pos rfl]
        have ey : (elemE (.var 92)).den (setI ρ 92 i) = yR ρ i := by
          show FI ρ.fi 1096 ((setI ρ 92 i).iv 92) 0 0 = _
          rw [h92]; rfl
        have c3 : (BE.cmp .eql (elemE (.var 92)) (.var 90)).den (setI ρ 92 i) = decide (yR ρ i = need) := by
          simp only [BE.den, cmpDen, ey, IE.den_var, h90]
          by_cases h : yR ρ i = need
          · simp [h]
          · simp [h]
        rw [c3]
        have hmax : (len : Int) ≤ 9223372036854775807 := by omega
        by_cases hy : yR ρ i = need
        · rw [if_pos (by simpa using hy)]
          intro r hr
          have hat : findAt (yR ρ) need len 0 = i := by
            have h1 := findAt_not (yR ρ) need len 0 i (by omega) (by omega) hy
            rcases findAt_some (yR ρ) need len 0 with h2 | ⟨j, h2, h3, h4, h5⟩
            · omega
            · rcases Nat.lt_or_ge j i with h6 | h6
              · exact absurd h5 (hno j h6)
              · omega
          simp only [extr, findSl, AV.tup.injEq, List.cons.injEq, List.cons_append, List.nil_append, lMap_eq, List.map_cons, List.map_nil, List.append_nil, li, AV.int.injEq, IE.lit.injEq, true_and, and_true] at hr
          obtain ⟨r1, r2, r3, r4, r5, r6⟩ := hr
          have r1 : r.1 = .ret := tagE_inj (by simpa [tagE] using Int.ofNat_inj.1 r1)
          refine .inr ⟨by rw [r1]; simp, dfA_nil r2, ⟨_, (hend false (by rw [hat]; exact decide_eq_false (by omega))).trans (if_neg (by simp)), r1, fun g hg => ?_⟩, novs r⟩
          rcases List.mem_singleton.1 hg with rfl
          refine ⟨rfl, _, optA_some r6, SameV.int ?_⟩
          rw [hFE, hat]; exact h92
        · rw [if_neg (by simpa using hy)]
          intro r hr
          simp only [extr, findSl, AV.tup.injEq, List.cons.injEq, List.cons_append, List.nil_append, lMap_eq, List.map_cons, List.map_nil, List.append_nil, li, AV.int.injEq, IE.lit.injEq, true_and, and_true] at hr
          obtain ⟨r1, r2, r3, r4, r5, r6⟩ := hr
          have r1 : r.1 = .norm := tagE_inj (by simpa [tagE] using Int.ofNat_inj.1 r1)
          refine .inl ⟨r1, _, ⟨by omega, by omega, fun j hj => ?_, rfl⟩, dfA_nil r2, fun g hg => ?_, fun g hg => ?_⟩
          · rcases Nat.lt_or_ge j i with h | h
            · exact hno j h
            · have : j = i := by omega
              subst this; exact hy
          · simp only [LSpec.T, findL, List.mem_cons, List.not_mem_nil, or_false] at hg
            rcases hg with rfl | rfl | rfl
            · exact ⟨_, optA_some r3, same_list (by rw [setI_ne ρ _ (by omega), setI_ne ρ _ (by omega)])⟩
            · exact ⟨_, optA_some r4, SameV.int (by rw [IE.den_var, IE.den_var, setI_ne ρ _ (by omega), setI_ne ρ _ (by omega)])⟩
            · refine ⟨_, optA_some r5, SameV.int ?_⟩
              rw [IE.den_add, IE.den_var, IE.den_lit, h92, IE.den_var, setI_at, IntWalk.i64_in _ (by omega)]
              simp
          · simp only [LSpec.T, findL, List.map_cons, List.map_nil, List.mem_cons, List.not_mem_nil, or_false] at hg
            rcases hg with rfl
            exact ⟨SameL.nil, SameU.some (by rw [setI_ne ρ _ (by omega), setI_ne ρ _ (by omega)]) rfl rfl⟩
      · rw [if_neg (by simpa using hi1)]
        intro r hr
        have hin : i = len := by omega
        have hat : findAt (yR ρ) need len 0 = -1 := by
          rcases findAt_some (yR ρ) need len 0 with h2 | ⟨j, h2, h3, h4, h5⟩
          · exact h2
          · exact absurd h5 (hno j (by omega))
        simp only [extr, findSl, AV.tup.injEq, List.cons.injEq, List.cons_append, List.nil_append, lMap_eq, List.map_cons, List.map_nil, List.append_nil, li, AV.int.injEq, IE.lit.injEq, true_and, and_true] at hr
        obtain ⟨r1, r2, r3, r4, r5, r6⟩ := hr
        have r1 : r.1 = .exit 0 := tagE_inj (by simpa [tagE] using Int.ofNat_inj.1 r1)
        exact .inr ⟨by rw [r1]; simp, dfA_nil r2, ⟨_, (hend true (by rw [hat]; rfl)).trans (if_pos rfl), r1, fun g hg => by cases hg⟩, novs r⟩
    rw [← eqTW_eq _ _ find_chk] at key
    exact T.holds_weak (extT_holds key) fun r h => h r rfl
end Go.Sx
/-! FIND, as it is said: of a list that is not known. -/
namespace Go.Sx
open Go.RowKit Go.Proofs
set_option maxRecDepth 100000
theorem heapU_get {n b i : Nat} {ks : List Bool} {j : Nat} {o : AObj} (h : (heapU n b i ks).get j = some o) : j = b ∧ o = .ucells i ks := by
  unfold heapU at h
  rw [Heap.get_put] at h
  split at h
  · rename_i e; cases h; exact ⟨e, rfl⟩
  · have : (PT.get PT.nil j : Option AObj) = some o := h
    rw [PT.get_nil] at this; cases this
theorem heapU_ok {p : Par} {E : Env} {w : World} {n b i c x : Nat} {ks : List Bool} {cells : Array Value} {el : Nat} {fz : Nat × Nat} (hs : E.σ b = some (c, x)) (hcell : w.heap[c]? = some (.cells cells el fz))
    (hc : ∀ (m off : Nat) (k : Bool), (m : Int) < E.ρ.iv i → ks[off]? = some k → cells[x + m * ks.length + off]? = some (cellOf E.ρ i m off k))
    (hf : ∀ j, n ≤ j → E.σ j = none) (hg : ∀ j, j < 1000 → E.σ j = some (j, 0)) (hn : E.n ≤ n) (hok : p.okB E.ρ (Base.of w)) : HeapOk p E (heapU n b i ks) (Base.of w) w := by
  have hlt : c < w.heap.size := (Array.getElem?_eq_some_iff.1 hcell).1
  refine ⟨fun j o e => ?_, fun j j' o o' c x y h1 h2 w1 => ?_, fun j o c x e ow => ?_, fun j o c y e _ s => ?_, hf, fun j o c x e s => ?_, hg, Kept.refl _ _, hn, hok⟩
  · obtain ⟨rfl, rfl⟩ := heapU_get e
    exact ⟨c, x, cells, el, fz, hs, hcell, hc⟩
  · obtain ⟨rfl, rfl⟩ := heapU_get h1; cases w1
  · obtain ⟨rfl, rfl⟩ := heapU_get e; cases ow
  · obtain ⟨rfl, rfl⟩ := heapU_get e; rw [hs] at s; cases s; exact hlt
  · obtain ⟨rfl, rfl⟩ := heapU_get e; rw [hs] at s; cases s; exact hlt
theorem made {p : Par} {f : FuncId} {args : List AV} {h : Heap} {run : T (AV × Heap)} (hc : CallOk p f args h run) {E : Env} {w : World} {vs : List Value} (HS : HeapOk p E h (Base.of w) w) (ha : concL E args = some vs) {V : AV → Prop}
    (hrun : (run.bind fun r => T.ret r.1).Holds E.ρ V) : (callFunc f vs.toArray).run p.P w = .ok (.enter f vs.toArray) w ∧ Calls p.P f vs.toArray w fun e w' => ∃ v cv E2, e = .returned cv ∧ V v ∧ E2.ρ = E.ρ ∧ conc E2 v = some cv ∧ Below w.heap.size w w' := by
  rw [T.holds_bind] at hrun
  obtain ⟨r1, r2⟩ := hc vs E (Base.of w) w (fun r => V r.1) (fun cv w' => ∃ v E2, V v ∧ E2.ρ = E.ρ ∧ conc E2 v = some cv ∧ Below w.heap.size w w') hrun HS ha
    (fun v h' E2 w' cv q hle HH' hv => ⟨v, E2, q, hle.ρ, hv, Base.keeps_below HH'.below⟩)
  refine ⟨r1, r2.mono ?_⟩
  rintro e w' ⟨cv, rfl, v, E2, q, hρ, hv, hb⟩
  exact ⟨v, cv, E2, rfl, q, hρ, hv, hb⟩
/-- numbers for one list -/
def rhoY (y : Nat → Int) (len : Nat) (b : Nat → Int) (ov : Nat → Value) : Rho :=
  ⟨fun j => if j = 96 then (len : Int) else b j, fun _ => false, fun f a _ _ => if f = 1096 then y a.toNat else if f = 1200 then findAt y a len 0 else if f = 1202 then len else 0, fun f a b _ => if f = 1201 then okUp y a len else if f = 1203 then metF y a (goodN y b len) else false, ov⟩
theorem rhoY_ok (y : Nat → Int) {len : Nat} (hm : (len : Int) ≤ 9223372036854775807) (b : Nat → Int) (ov : Nat → Value) : ListIs (rhoY y len b ov) := by
  have e1 : yR (rhoY y len b ov) = y := by funext j; simp [yR, rhoY]
  have e2 : nR (rhoY y len b ov) = len := by simp [nR, rhoY]
  refine ⟨⟨by simp [rhoY], fun n => ?_, fun N => ?_, fun m N => ?_⟩, by simp [rhoY], by simpa [rhoY] using hm⟩
  · rw [e1, e2]; simp [rhoY]
  · rw [e1, e2]; simp [rhoY]
  · rw [e1, e2]; simp [rhoY]
def envY (ρ : Rho) (c x cap : Nat) (k : Nat := 0) : Env := ⟨ρ, fun q => if q < 1000 then some (q, 0) else if q = 1004 then some (c, x) else if q = 1005 then some (k, 0) else none, fun _ => cap, 2000, fun _ => #[]⟩
/-- a list of numbers lies there -/
def ListIn (w : World) (c x len : Nat) (y : Nat → Int) : Prop := ∃ cells el fz, w.heap[c]? = some (.cells cells el fz) ∧ ∀ q : Nat, q < len → cells[x + q]? = some (.int .i64 (y q))
theorem listHeap {w : World} {c x len cap k : Nat} {y : Nat → Int} (h : ListIn w c x len y) (hm : (len : Int) ≤ 9223372036854775807) (b : Nat → Int) (ov : Nat → Value) : HeapOk pU (envY (rhoY y len b ov) c x cap k) (heapU 2000 1004 96 [false]) (Base.of w) w := by
  obtain ⟨cells, el, fz, h1, h2⟩ := h
  refine heapU_ok (c := c) (x := x) rfl h1 (fun m off k hm hk => ?_) (fun j hj => ?_) (fun j hj => ?_) (Nat.le_refl _) ⟨_, rhoY_ok y hm b ov, fun _ _ h => h⟩
  · have hm : (m : Int) < len := hm
    have h0 : off = 0 ∧ k = false := by
      cases off with
      | zero => cases hk; exact ⟨rfl, rfl⟩
      | succ o => cases hk
    obtain ⟨rfl, rfl⟩ := h0
    have := h2 m (by omega)
    simp only [List.length_singleton, Nat.mul_one, Nat.add_zero]
    rw [this]
    simp [cellOf, envY, rhoY]
  · simp only [envY]; rw [if_neg (by omega), if_neg (by omega), if_neg (by omega)]
  · simp only [envY]; rw [if_pos hj]
theorem listArg {c x len cap k : Nat} {y : Nat → Int} {b : Nat → Int} {ov : Nat → Value} (hc : len ≤ cap) : conc (envY (rhoY y len b ov) c x cap k) listA = some (.slice (some ⟨c, x, none⟩) len cap) := by
  have hle : (0 : Int) ≤ (envY (rhoY y len b ov) c x cap k).ρ.iv 96 ∧ (envY (rhoY y len b ov) c x cap k).ρ.iv 96 ≤ ((envY (rhoY y len b ov) c x cap k).κ 1004 : Int) := by
    simp [envY, rhoY]; omega
  simp only [listA, conc, if_pos hle]
  simp [envY, rhoY]
theorem listD_ok {y : Nat → Int} {len : Nat} {b : Nat → Int} {ov : Nat → Value} (h : (len : Int) ≤ 9223372036854775807) : (BE.cmp .eql (.var 96) lenE).den (rhoY y len b ov) = true ∧ (BE.cmp .leq (.var 96) big).den (rhoY y len b ov) = true := by
  constructor
  · simp [BE.den, cmpDen, IE.den, lenE, FI, rhoY]
  · rw [BE.t_leq]; simpa [IE.den, rhoY, big] using h
/-! ## Find -/
noncomputable def findCode (lc : C) : C := (cSeq (cOps [⟨some 4, true, none, iMov (.c (.int .i64 (.lit 0)))⟩])
 (cSeq (cSeq (cOps [⟨some 5, true, none, iMov (.c (.int .i64 (.lit 0)))⟩])
 (cBlock 0 lc))
 (cSeq (cOps [⟨some 4, true, none, iMov (.c (.int .i64 (.lit (-1))))⟩])
 cRet)))
theorem find_compiles (lc : C) : cCodeX lc Sx.Tryd.tt.get Tryd.f43.ntmps Sx.Tryd.kp43 43 (bodyOf Tryd.f43) = some (findCode lc) := by kernel_rfl
theorem find_loops : (loopsOf (bodyOf Tryd.f43)).map (cCode Sx.Tryd.tt.get Tryd.f43.ntmps Sx.Tryd.kp43 43) = [some findBody] := by kernel_rfl
theorem find_ranges : (loopsOf (bodyOf Tryd.f43)).map ranges = [[]] := by kernel_rfl
theorem find_k1 : findL.sl.all (fun g => and (memN Sx.Tryd.kp43 (some g.1)) (idsLt findL.nv g.2)) = true := by kernel_rfl
theorem find_k2 : findL.vs.all (fun g => and (idsLts findL.nv g.c) (and (idsLts findL.nv g.cf) (and (Nat.ble (g.id + 1) findL.nv) (or g.own.isNone (Nat.ble 1000 g.id))))) = true := by kernel_rfl
theorem find_k3 : vsUp 0 findL.vs = true := by kernel_rfl
theorem find_code_ok : COk pU Tryd.f43.ntmps Sx.Tryd.kp43 (findCode (findL.runF [])) (bodyOf Tryd.f43) := by
  refine cCodeX_ok tabsU.types tabsU.mixed _ _ (find_compiles _) (loopsOk_of _ fun a ha => ?_)
  have h1 : cCode Sx.Tryd.tt.get Tryd.f43.ntmps Sx.Tryd.kp43 43 a = some findBody := by
    have := List.mem_map_of_mem (f := cCode Sx.Tryd.tt.get Tryd.f43.ntmps Sx.Tryd.kp43 43) ha
    rw [find_loops] at this
    exact List.mem_singleton.1 this
  have h2 : ranges a = [] := by
    have := List.mem_map_of_mem (f := ranges) ha
    rw [find_ranges] at this
    exact List.mem_singleton.1 this
  exact LSpec.cokF (cCode_ok tabsU.types tabsU.mixed a findBody h1 (rcOf_rng [] h2 (by simp))) _ find_k1 find_k2 find_k3 (Nat.le_of_ble_eq_true rfl) cxU_ok rfl find_loop [] (fun ρ ρ' m h hi hb _ => ListOk.of h.ok hi hb)
noncomputable def findTree : T (AV × Heap) := (findCode (findL.runF []) cxU ⟨43, none⟩ ⟨⟨[], tmOf [listA, vi 90] 0 .nil⟩, [], heapU 2000 1004 96 [false]⟩).bind (finish ⟨Tryd.f43.params.size + Tryd.f43.nfree, findCode (findL.runF []), [.t 4]⟩)
theorem find_call : CallOk pU 43 [listA, vi 90] (heapU 2000 1004 96 [false]) findTree :=
  bodyOf_ok tabsU.types cxU_ok Tryd.func43 (by kernel_rfl) (by kernel_rfl) find_code_ok (by kernel_rfl) (by kernel_rfl) (by show 2 ≤ _; exact of_decide_eq_true (by kernel_rfl))
noncomputable def findRT : T AV := .br (.cmp .eql (.var 96) lenE) (.br (.cmp .leq (.var 96) big) (.br (.cmp .lss (findE (.var 90)) (.lit 0)) (.ret (li (-1))) (.ret (.int .i64 (findE (.var 90))))) (.fail 99)) (.fail 99)
theorem find_tree : eqTW (findTree.bind fun r => .ret r.1) findRT = true := by kernel_rfl
/-- FIND, OF WHATEVER LIST. -/
theorem find_calls {w : World} {c x len cap : Nat} {y : Nat → Int} (h : ListIn w c x len y) (hc : len ≤ cap) (hm : (len : Int) ≤ 9223372036854775807) (n : Int) :
    (callFunc 43 #[.slice (some ⟨c, x, none⟩) len cap, .int .i64 n]).run Tryd.prog w = .ok (.enter 43 #[.slice (some ⟨c, x, none⟩) len cap, .int .i64 n]) w ∧
    Calls Tryd.prog 43 #[.slice (some ⟨c, x, none⟩) len cap, .int .i64 n] w fun e w' => e = .returned (.int .i64 (findAt y n len 0)) ∧ Below w.heap.size w w' := by
  let b : Nat → Int := fun _ => n
  have HS := listHeap (cap := cap) (k := 0) h hm b (fun _ => .tuple #[])
  have ha : concL (envY (rhoY y len b (fun _ => .tuple #[])) c x cap) [listA, vi 90] = some [.slice (some ⟨c, x, none⟩) len cap, .int .i64 n] := by
    simp only [concL, listArg hc]
    simp [vi, conc, IE.den, envY, rhoY, b]
  obtain ⟨d1, d2⟩ := listD_ok (y := y) (b := b) (ov := fun _ => Value.tuple #[]) hm
  have hF : (findE (.var 90)).den (rhoY y len b (fun _ => .tuple #[])) = findAt y n len 0 := by simp [IE.den, findE, FI, rhoY, b]
  obtain ⟨r1, r2⟩ := made find_call HS ha (V := fun v => ∃ e : IE, v = .int .i64 e ∧ e.den (rhoY y len b (fun _ => .tuple #[])) = findAt y n len 0) (by
    rw [eqTW_eq _ _ find_tree]
    show findRT.Holds (rhoY y len b (fun _ => .tuple #[])) _
    unfold findRT
    simp only [T.Holds]
    rw [if_pos d1, if_pos d2]
    split
    · rename_i h1
      rw [BE.t_lss, hF] at h1
      refine ⟨.lit (-1), rfl, ?_⟩
      rcases findAt_some y n len 0 with h2 | ⟨j, _, _, h3, _⟩
      · rw [h2]; rfl
      · rw [h3] at h1; have h1 : (j : Int) < 0 := h1; omega
    · exact ⟨_, rfl, hF⟩)
  refine ⟨r1, r2.mono ?_⟩
  rintro e w' ⟨v, cv, E2, rfl, ⟨ie, rfl, hie⟩, hρ, hv, hb⟩
  have hρ : E2.ρ = rhoY y len b (fun _ => .tuple #[]) := hρ
  simp only [conc, hρ, hie, Option.some.injEq] at hv
  exact ⟨by rw [hv], hb⟩
end Go.Sx
/-! REELS OF A FILM, EACH ONCE, as the specification asks it: of a list that is not known. -/
namespace Go.Sx
open Go.RowKit Go.Proofs
set_option maxRecDepth 100000
noncomputable def findOrc (args : List AV) (h : Heap) : Option (T (AV × Heap)) :=
  match args with
  | [.sliceV b i, .int .i64 e] => (match h.get b with
    | some (.ucells j ks) => cond (and (Nat.beq i 96) (and (Nat.beq j 96) (eqKs ks [false]))) (some (.ret (.int .i64 (findE e), h))) none
    | _ => none)
  | _ => none
theorem find_orc {args : List AV} {h : Heap} {t : T (AV × Heap)} (ho : findOrc args h = some t) : CallOk pU 43 args h t := by
  unfold findOrc at ho
  split at ho
  · rename_i b i e
    split at ho
    · rename_i j ks hg
      obtain ⟨hc, ho⟩ := cond_some ho
      simp only [Bool.and_eq_true] at hc
      have h1 := beq_t.1 hc.1; have h2 := beq_t.1 hc.2.1; have h3 := eqKs_eq hc.2.2
      subst h1 h2 h3
      cases ho
      refine callOk_of fun vs E w0 w Q HH ha k => ?_
      obtain ⟨m, hm, _⟩ := HH.ok
      have hm : ListIs E.ρ := hm
      obtain ⟨c, x, cells, el, fz, k1, k2, k3⟩ := HH.obj _ _ hg
      have hl0 := hm.ok.len
      have hn : (nR E.ρ : Int) = E.ρ.iv 96 := by unfold nR; rw [hm.is]; exact Int.toNat_of_nonneg hl0
      obtain ⟨v, r, hv, hr, rfl⟩ := concL_cons.1 ha
      obtain ⟨v2, r2, hv2, hr2, rfl⟩ := concL_cons.1 hr
      simp only [concL, Option.some.injEq] at hr2
      subst hr2
      simp only [conc, Option.some.injEq] at hv2
      subst hv2
      simp only [conc] at hv
      split at hv
      · rename_i hle
        rw [k1] at hv
        simp only [Option.map_some, Option.some.injEq] at hv
        subst hv
        have hlen : (E.ρ.iv 96).toNat = nR E.ρ := by omega
        rw [hlen]
        have hL : ListIn w c x (nR E.ρ) (yR E.ρ) := ⟨cells, el, fz, k2, fun q hq => by
          have := k3 q 0 false (by omega) rfl
          simp only [List.length_singleton, Nat.mul_one, Nat.add_zero] at this
          rw [this]; rfl⟩
        obtain ⟨r1, r2⟩ := find_calls (cap := E.κ b) hL (by omega) (by have := hm.max; omega) (e.den E.ρ)
        refine ⟨r1, r2.mono ?_⟩
        rintro ex w' ⟨rfl, hb⟩
        refine ⟨_, _, rfl, k, ?_, hb⟩
        simp only [conc, Option.some.injEq, Value.int.injEq, true_and]
        show FI E.ρ.fi 1200 (e.den E.ρ) 0 0 = _
        exact hm.ok.find _
      · cases hv
    · cases ho
  · cases ho
noncomputable def orcR (f : FuncId) (args : List AV) (h : Heap) : Option (T (AV × Heap)) := cond (Nat.beq f 43) (findOrc args h) none
noncomputable def tbR : Tabs := ⟨Sx.Tryd.ft.get, lFind Sx.Tryd.rt, 2000, orcR⟩
theorem tabsR : TabOk pU Sx.Tryd.tt.get tbR := Tryd.tab orcR (fun f args h t e => by
  unfold orcR at e
  obtain ⟨h1, h2⟩ := cond_some e
  have := beq_t.1 h1; subst this
  exact find_orc h2) 2000
noncomputable def cxR : Cx := ⟨evalN tbR 40 false, evalN tbR 40 true, 2000⟩
theorem cxR_ok : CxOk pU cxR := evalN_ok tabsR 40
noncomputable def filmU : List AV := [.sliceU 95, vi 0, vi 1, vi 2, vi 3, vi 4]
noncomputable def topE : IE := .bin .sub .i64 (.var 95) (.lit 1)
noncomputable def allE : BE := .app 1201 topE (.lit 0) (.lit 0)
noncomputable def rareBody : C := (cSeq (cSeq (cOps [⟨some 6, false, none, iMov (.t 5)⟩,
 ⟨some 7, false, none, iMov (.t 1)⟩,
 ⟨some 8, false, none, iLenS (.t 7)⟩,
 ⟨some 9, true, none, iCmp .lss (.t 6) (.t 8)⟩])
 (cCond (.t 9) cSkip (cExit 0)))
 (cSeq (cBlock 1 (cSeq (dOps 0 [⟨⟨some 12, false, none, iMov (.t 1)⟩, [1], false, 0, 0, none, []⟩,
 ⟨⟨some 13, false, none, iMov (.t 5)⟩, [5], false, 0, 0, none, []⟩,
 ⟨⟨some 14, false, none, iIaddr 1 (.t 12) (.t 13)⟩, [12, 13], false, 0, 0, none, []⟩,
 ⟨⟨some 15, false, none, iLoad (.t 14)⟩, [14], false, 0, 0, none, []⟩,
 ⟨⟨some 16, false, none, iFaddr 0 (.t 2)⟩, [2], false, 0, 0, none, []⟩,
 ⟨⟨some 17, false, none, iLoad (.t 16)⟩, [16], false, 0, 0, none, []⟩,
 ⟨⟨some 18, false, none, iLenS (.t 17)⟩, [17], false, 0, 0, none, []⟩,
 ⟨⟨some 19, false, none, iArith .sub (.t 18) (.c (.int .i64 (.lit 1)))⟩, [18], false, 0, 0, none, []⟩,
 ⟨⟨some 20, false, none, iCall (.c (.func (.func 19) [] [])) [(.t 15), (.c (.int .i64 (.lit 0))), (.t 19)]⟩, [15, 19], true, 0, 0, none, []⟩,
 ⟨⟨some 21, false, none, iNot (.t 20)⟩, [20], false, 1, 1, none, []⟩,
 ⟨⟨some 22, false, none, iMov (.t 21)⟩, [21], false, 1, 1, none, []⟩,
 ⟨⟨some 23, false, some (22, false), iMov (.t 1)⟩, [22, 1], false, 1, 1, none, []⟩,
 ⟨⟨some 24, false, some (22, false), iMov (.t 1)⟩, [22, 1], false, 1, 1, none, []⟩,
 ⟨⟨some 25, false, some (22, false), iMov (.t 5)⟩, [22, 5], false, 1, 1, none, []⟩,
 ⟨⟨some 26, false, some (22, false), iIaddr 1 (.t 24) (.t 25)⟩, [22, 24, 25], false, 1, 1, none, []⟩,
 ⟨⟨some 27, false, some (22, false), iLoad (.t 26)⟩, [22, 26], false, 1, 1, none, []⟩,
 ⟨⟨some 28, false, some (22, false), iCall (.c (.func (.func 43) [] [])) [(.t 23), (.t 27)]⟩, [22, 23, 27], true, 1, 0, none, []⟩,
 ⟨⟨some 29, false, some (22, false), iMov (.t 5)⟩, [22, 5], false, 1, 2, none, []⟩,
 ⟨⟨some 30, false, some (22, false), iCmp .neq (.t 28) (.t 29)⟩, [22, 28, 29], false, 2, 2, none, []⟩,
 ⟨⟨some 31, true, none, iPick (.t 22) (.c (.bool (.lit true))) (.t 30)⟩, [22, 30], false, 2, 2, none, []⟩])
 (cCond (.t 31) (cSeq (cOps [⟨some 4, true, none, iMov (.c (.bool (.lit false)))⟩])
 cRet) cSkip)))
 (cOps [⟨some 10, false, none, iMov (.t 5)⟩,
 ⟨some 11, false, none, iArith .add (.t 10) (.c (.int .i64 (.lit 1)))⟩,
 ⟨some 5, true, none, iMov (.t 11)⟩])))
noncomputable def rareL : LSpec where
  sl0 := [(1, listA), (2, .ptr 1006 0), (5, li 0)]
  sl := [(1, listA), (2, .ptr 1006 0), (5, vi 92)]
  vs := [⟨1004, none, [], [], [], some (96, [false])⟩, ⟨1006, none, filmU, filmU, [], none⟩]
  nv := 2000
  dom := listD
  out := .br allE (.ret (.exit 0, [])) (.ret (.ret, [(4, .bool (.lit false))]))
noncomputable def v92 : IE := .var 92
noncomputable def inE : BE := .and (.cmp .leq (.lit 0) v92) (.cmp .lss v92 (.var 96))
noncomputable def bndT (t : T AV) : T AV := .br inE t (.fail 18)
noncomputable def rareLf (tag : Int) (i : IE) (l : List AV) : T AV := .ret (.tup (li tag :: .nilslice :: ([.tup [listA], .tup [.ptr 1006 0], .tup [.int .i64 i], .tup l] : List AV)))
noncomputable def rareBad : T AV := rareLf 1 v92 [.bool (.lit false)]
noncomputable def rareT : T AV :=
  .br (.cmp .lss v92 (.var 96))
    (bndT (.br (.cmp .geq (elemE v92) (.lit 0))
      (.br (.cmp .leq (elemE v92) topE)
        (bndT (.br (.cmp .neq (findE (elemE v92)) v92) (bndT (bndT rareBad)) (bndT (bndT (rareLf 0 (.bin .add .i64 v92 (.lit 1)) [])))))
        (bndT rareBad))
      (bndT rareBad)))
    (rareLf 2 v92 [])
theorem rare_chk : eqTW (extT [1, 2, 5, 4] [] (rareBody cxR ⟨18, none⟩ rareL.T.st)) rareT = true := by kernel_rfl
theorem bnd_holds {ρ : Rho} {Q : AV → Prop} {t : T AV} (h : inE.den ρ = true) (k : t.Holds ρ Q) : (bndT t).Holds ρ Q := by
  unfold bndT
  simp only [T.Holds]
  rw [if_pos h]; exact k
/-- THE LOOP IS AS IT IS SAID. -/
theorem rare_loop : rareL.OkP pU.ok (fun ρ _ => ListOk ρ) cxR ⟨18, none⟩ rareBody := by
  intro ρ m hL hdom
  obtain ⟨hlen, hmax⟩ := list_dom hdom
  have hl0 := hL.len
  have hn : (nR ρ : Int) = ρ.iv 96 := by unfold nR; rw [hlen]; exact Int.toNat_of_nonneg hl0
  have hA : allE.den ρ = okUp (yR ρ) (topE.den ρ) (nR ρ) := by
    show FB ρ.fb 1201 (topE.den ρ) 0 0 = _
    rw [← hL.all]; rfl
  generalize htop : topE.den ρ = top at hA
  have hfind := hL.find
  generalize hnn : nR ρ = len at hn hA hfind
  have at_ : ∀ i : Nat, ListIs (setI ρ 92 i) := fun i => ⟨hL.of rfl rfl, by rw [setI_ne ρ _ (by omega)]; exact hlen, by rw [setI_ne ρ _ (by omega)]; exact hmax⟩
  have cellsSame : ∀ z z' : Int, SameL (setI ρ 92 z) filmU (setI ρ 92 z') filmU := fun z z' => by
    have hv : ∀ q, q ≠ 92 → SameV (setI ρ 92 z) (vi q) (setI ρ 92 z') (vi q) := fun q hq => SameV.int (by rw [IE.den_var, IE.den_var, setI_ne ρ _ hq, setI_ne ρ _ hq])
    have hs : SameV (setI ρ 92 z) (.sliceU 95) (setI ρ 92 z') (.sliceU 95) := fun _ _ _ _ _ _ => by simp only [conc, setI]; rfl
    exact SameL.cons hs (SameL.cons (hv 0 (by omega)) (SameL.cons (hv 1 (by omega)) (SameL.cons (hv 2 (by omega)) (SameL.cons (hv 3 (by omega)) (SameL.cons (hv 4 (by omega)) SameL.nil)))))
  have cells0 : SameL ρ filmU (setI ρ 92 0) filmU := by
    have hv : ∀ q, q ≠ 92 → SameV ρ (vi q) (setI ρ 92 0) (vi q) := fun q hq => SameV.int (by rw [IE.den_var, IE.den_var, setI_ne ρ _ hq])
    have hs : SameV ρ (.sliceU 95) (setI ρ 92 0) (.sliceU 95) := fun _ _ _ _ _ _ => by simp only [conc, setI]; rfl
    exact SameL.cons hs (SameL.cons (hv 0 (by omega)) (SameL.cons (hv 1 (by omega)) (SameL.cons (hv 2 (by omega)) (SameL.cons (hv 3 (by omega)) (SameL.cons (hv 4 (by omega)) SameL.nil)))))
  refine ⟨len, fun i ρ' => i ≤ len ∧ okUp (yR ρ) top i = true ∧ ρ' = setI ρ 92 i, setI ρ 92 0, fun i ρ' h => by obtain ⟨_, _, rfl⟩ := h; exact at_ i, ⟨Nat.zero_le _, rfl, rfl⟩, ?_, ?_, ?_⟩
  · intro g hg
    simp only [rareL, List.mem_cons, List.not_mem_nil, or_false] at hg
    rcases hg with rfl | rfl | rfl
    · exact ⟨listA, by simp [rareL], same_list (setI_ne ρ 0 (by omega)).symm⟩
    · exact ⟨.ptr 1006 0, by simp [rareL], SameV.ptr _ _⟩
    · exact ⟨li 0, by simp [rareL], SameV.int (setI_at ρ 92 0).symm⟩
  · intro g hg
    simp only [rareL, List.mem_cons, List.not_mem_nil, or_false] at hg
    rcases hg with rfl | rfl
    · exact ⟨SameL.nil, SameU.some (setI_ne ρ 0 (by omega)).symm rfl rfl⟩
    · exact ⟨cells0, SameU.none _ _⟩
  · rintro i ρ' hi ⟨hi', hok, rfl⟩
    have h92 : (setI ρ 92 i).iv 92 = i := setI_at ρ 92 i
    have h96 : (setI ρ 92 i).iv 96 = len := by rw [setI_ne ρ _ (by omega), hn]
    have ht : topE.den (setI ρ 92 i) = top := by
      rw [← htop]
      show IntKind.i64.wrap ((setI ρ 92 i).iv 95 - 1) = IntKind.i64.wrap (ρ.iv 95 - 1)
      rw [setI_ne ρ _ (by omega)]
    have key : rareT.Holds (setI ρ 92 i) (fun a => ∀ r, extr [1, 2, 5, 4] [] r = a →
        (r.1 = .norm ∧ ∃ ρ'', (i < len ∧ i + 1 ≤ len ∧ okUp (yR ρ) top (i + 1) = true ∧ ρ'' = setI ρ 92 ((i + 1 : Nat) : Int)) ∧ Next rareL.T (setI ρ 92 i) ρ'' r.2) ∨
        (r.1 ≠ .norm ∧ r.2.df = [] ∧ (∃ o, rareL.out.end_ ρ = some o ∧ r.1 = o.1 ∧ ∀ g ∈ o.2, idsLt rareL.nv g.2 = true ∧ ∃ v, r.2.tm.tree.get g.1 = some v ∧ SameV (setI ρ 92 i) v ρ g.2) ∧
          ∀ g ∈ rareL.vs, ∀ q, g.own = some q → ∃ cs, r.2.h.get g.id = some (.cells cs q.1 true q.2) ∧ SameL (setI ρ 92 i) cs ρ g.cf)) := by
      have novs : ∀ r : Ex × St, ∀ g ∈ rareL.vs, ∀ q, g.own = some q → ∃ cs, r.2.h.get g.id = some (.cells cs q.1 true q.2) ∧ SameL (setI ρ 92 i) cs ρ g.cf := by
        intro r g hg q hown
        simp only [rareL, List.mem_cons, List.not_mem_nil, or_false] at hg
        rcases hg with rfl | rfl <;> cases hown
      have hend : ∀ b : Bool, okUp (yR ρ) top len = b → rareL.out.end_ ρ = (if b = true then some (Ex.exit 0, []) else some (Ex.ret, [(4, AV.bool (.lit false))])) := by
        intro b hb
        simp only [rareL, T.end_]
        rw [hA, hb]
      have bad : okUp (yR ρ) top len = false → rareBad.Holds (setI ρ 92 i) (fun a => ∀ r, extr [1, 2, 5, 4] [] r = a →
        (r.1 = .norm ∧ ∃ ρ'', (i < len ∧ i + 1 ≤ len ∧ okUp (yR ρ) top (i + 1) = true ∧ ρ'' = setI ρ 92 ((i + 1 : Nat) : Int)) ∧ Next rareL.T (setI ρ 92 i) ρ'' r.2) ∨
        (r.1 ≠ .norm ∧ r.2.df = [] ∧ (∃ o, rareL.out.end_ ρ = some o ∧ r.1 = o.1 ∧ ∀ g ∈ o.2, idsLt rareL.nv g.2 = true ∧ ∃ v, r.2.tm.tree.get g.1 = some v ∧ SameV (setI ρ 92 i) v ρ g.2) ∧
          ∀ g ∈ rareL.vs, ∀ q, g.own = some q → ∃ cs, r.2.h.get g.id = some (.cells cs q.1 true q.2) ∧ SameL (setI ρ 92 i) cs ρ g.cf)) := fun hb r hr => by
        simp only [extr, AV.tup.injEq, List.cons.injEq, lMap_eq, List.map_cons, List.map_nil, List.append_nil, li, AV.int.injEq, IE.lit.injEq, true_and, and_true] at hr
        obtain ⟨r1, r2, r3, r4, r5, r6⟩ := hr
        have r1 : r.1 = .ret := tagE_inj (by simpa [tagE] using Int.ofNat_inj.1 r1)
        refine .inr ⟨by rw [r1]; simp, dfA_nil r2, ⟨_, (hend false hb).trans (if_neg (by simp)), r1, fun g hg => ?_⟩, novs r⟩
        rcases List.mem_singleton.1 hg with rfl
        exact ⟨rfl, _, optA_some r6, fun _ _ _ _ _ _ => rfl⟩
      have c1 : (BE.cmp .lss v92 (.var 96)).den (setI ρ 92 i) = decide ((i : Int) < len) := by simp only [v92, BE.den, cmpDen, IE.den_var, h92, h96]
      unfold rareT
      simp only [T.Holds]
      rw [c1]
      by_cases hi1 : (i : Int) < len
      · rw [if_pos (by simpa using hi1)]
        have c2 : inE.den (setI ρ 92 i) = true := by
          simp only [inE, v92, BE.den, cmpDen, IE.den_var, IE.den_lit, h92, h96, decide_eq_true hi1, Bool.and_true]
          exact decide_eq_true (by omega)
        have ey : (elemE v92).den (setI ρ 92 i) = yR ρ i := by
          show FI ρ.fi 1096 ((setI ρ 92 i).iv 92) 0 0 = _
          rw [h92]; rfl
        have ef : (findE (elemE v92)).den (setI ρ 92 i) = findAt (yR ρ) (yR ρ i) len 0 := by
          show FI ρ.fi 1200 ((elemE v92).den (setI ρ 92 i)) 0 0 = _
          rw [ey, ← hfind]; rfl
        have hlt : i < len := by omega
        have hnot : okUp (yR ρ) top (i + 1) = false → okUp (yR ρ) top len = false := fun h => by
          cases h2 : okUp (yR ρ) top len with
          | false => rfl
          | true => rw [okUp_le _ _ len (i + 1) (by omega) h2] at h; cases h
        have hstep : okUp (yR ρ) top (i + 1) = (decide (0 ≤ yR ρ i) && (decide (yR ρ i ≤ top) && decide (findAt (yR ρ) (yR ρ i) i 0 = -1))) := by
          show (okUp (yR ρ) top i && _) = _
          rw [hok, Bool.true_and]
        refine bnd_holds c2 ?_
        simp only [T.Holds]
        split
        · rename_i h1
          rw [BE.t_geq, ey, IE.den_lit] at h1
          split
          · rename_i h2
            rw [BE.t_leq, ey, ht] at h2
            refine bnd_holds c2 ?_
            simp only [T.Holds]
            have c4 : (BE.cmp .neq (findE (elemE v92)) v92).den (setI ρ 92 i) = true ↔ ¬ findAt (yR ρ) (yR ρ i) i 0 = -1 := by
              rw [BE.t_neq, ef, v92, IE.den_var, h92, ← findAt_here (yR ρ) hlt]
            split
            · rename_i h3
              rw [c4] at h3
              exact bnd_holds c2 (bnd_holds c2 (bad (hnot (by rw [hstep, decide_eq_true h1, decide_eq_true h2, decide_eq_false h3]; rfl))))
            · rename_i h3
              rw [c4, Classical.not_not] at h3
              refine bnd_holds c2 (bnd_holds c2 ?_)
              intro r hr
              simp only [extr, AV.tup.injEq, List.cons.injEq, lMap_eq, List.map_cons, List.map_nil, List.append_nil, li, AV.int.injEq, IE.lit.injEq, true_and, and_true] at hr
              obtain ⟨r1, r2, r3, r4, r5, r6⟩ := hr
              have r1 : r.1 = .norm := tagE_inj (by simpa [tagE] using Int.ofNat_inj.1 r1)
              refine .inl ⟨r1, _, ⟨hlt, hlt, by rw [hstep, decide_eq_true h1, decide_eq_true h2, decide_eq_true h3]; rfl, rfl⟩, dfA_nil r2, fun g hg => ?_, fun g hg => ?_⟩
              · simp only [LSpec.T, rareL, List.mem_cons, List.not_mem_nil, or_false] at hg
                rcases hg with rfl | rfl | rfl
                · exact ⟨_, optA_some r3, same_list (by rw [setI_ne ρ _ (by omega), setI_ne ρ _ (by omega)])⟩
                · exact ⟨_, optA_some r4, SameV.ptr _ _⟩
                · refine ⟨_, optA_some r5, SameV.int ?_⟩
                  rw [IE.den_add, v92, IE.den_var, IE.den_lit, h92, IE.den_var, setI_at, IntWalk.i64_in _ (by omega)]
                  simp
              · simp only [LSpec.T, rareL, List.map_cons, List.map_nil, List.mem_cons, List.not_mem_nil, or_false] at hg
                rcases hg with rfl | rfl
                · exact ⟨SameL.nil, SameU.some (by rw [setI_ne ρ _ (by omega), setI_ne ρ _ (by omega)]) rfl rfl⟩
                · exact ⟨cellsSame _ _, SameU.none _ _⟩
          · rename_i h2
            rw [BE.t_leq, ey, ht] at h2
            exact bnd_holds c2 (bad (hnot (by rw [hstep, decide_eq_false h2, Bool.false_and, Bool.and_false])))
        · rename_i h1
          rw [BE.t_geq, ey, IE.den_lit] at h1
          exact bnd_holds c2 (bad (hnot (by rw [hstep, decide_eq_false h1, Bool.false_and])))
      · rw [if_neg (by simpa using hi1)]
        intro r hr
        have hin : i = len := by omega
        simp only [extr, AV.tup.injEq, List.cons.injEq, lMap_eq, List.map_cons, List.map_nil, List.append_nil, li, AV.int.injEq, IE.lit.injEq, true_and, and_true] at hr
        obtain ⟨r1, r2, r3, r4, r5, r6⟩ := hr
        have r1 : r.1 = .exit 0 := tagE_inj (by simpa [tagE] using Int.ofNat_inj.1 r1)
        exact .inr ⟨by rw [r1]; simp, dfA_nil r2, ⟨_, (hend true (by rw [← hin]; exact hok)).trans (if_pos rfl), r1, fun g hg => by cases hg⟩, novs r⟩
    rw [← eqTW_eq _ _ rare_chk] at key
    exact T.holds_weak (extT_holds key) fun r h => h r rfl
/-! ## The call -/
noncomputable def rareCode (lc : C) : C := (cSeq (cOps [⟨some 2, true, none, iBox 26 (.t 0)⟩,
 ⟨some 4, true, none, iMov (.c (.bool (.lit false)))⟩])
 (cSeq (cSeq (cOps [⟨some 5, true, none, iMov (.c (.int .i64 (.lit 0)))⟩])
 (cBlock 0 lc))
 (cSeq (cOps [⟨some 4, true, none, iMov (.c (.bool (.lit true)))⟩])
 cRet)))
theorem rare_compiles (lc : C) : cCodeX lc Sx.Tryd.tt.get Tryd.f18.ntmps Sx.Tryd.kp18 18 (bodyOf Tryd.f18) = some (rareCode lc) := by kernel_rfl
theorem rare_loops : (loopsOf (bodyOf Tryd.f18)).map (cCode Sx.Tryd.tt.get Tryd.f18.ntmps Sx.Tryd.kp18 18) = [some rareBody] := by kernel_rfl
theorem rare_ranges : (loopsOf (bodyOf Tryd.f18)).map ranges = [[]] := by kernel_rfl
theorem rare_k1 : rareL.sl.all (fun g => and (memN Sx.Tryd.kp18 (some g.1)) (idsLt rareL.nv g.2)) = true := by kernel_rfl
theorem rare_k2 : rareL.vs.all (fun g => and (idsLts rareL.nv g.c) (and (idsLts rareL.nv g.cf) (and (Nat.ble (g.id + 1) rareL.nv) (or g.own.isNone (Nat.ble 1000 g.id))))) = true := by kernel_rfl
theorem rare_k3 : vsUp 0 rareL.vs = true := by kernel_rfl
theorem rare_code_ok : COk pU Tryd.f18.ntmps Sx.Tryd.kp18 (rareCode (rareL.runF [])) (bodyOf Tryd.f18) := by
  refine cCodeX_ok tabsU.types tabsU.mixed _ _ (rare_compiles _) (loopsOk_of _ fun a ha => ?_)
  have h1 : cCode Sx.Tryd.tt.get Tryd.f18.ntmps Sx.Tryd.kp18 18 a = some rareBody := by
    have := List.mem_map_of_mem (f := cCode Sx.Tryd.tt.get Tryd.f18.ntmps Sx.Tryd.kp18 18) ha
    rw [rare_loops] at this
    exact List.mem_singleton.1 this
  have h2 : ranges a = [] := by
    have := List.mem_map_of_mem (f := ranges) ha
    rw [rare_ranges] at this
    exact List.mem_singleton.1 this
  exact LSpec.cokF (cCode_ok tabsU.types tabsU.mixed a rareBody h1 (rcOf_rng [] h2 (by simp))) _ rare_k1 rare_k2 rare_k3 (Nat.le_of_ble_eq_true rfl) cxR_ok rfl rare_loop [] (fun ρ ρ' m h hi hb _ => ListOk.of h.ok hi hb)
noncomputable def rareTree : T (AV × Heap) := (rareCode (rareL.runF []) cxR ⟨18, none⟩ ⟨⟨[], tmOf [.agg filmU, listA] 0 .nil⟩, [], heapU 2000 1004 96 [false]⟩).bind (finish ⟨Tryd.f18.params.size + Tryd.f18.nfree, rareCode (rareL.runF []), [.t 4]⟩)
theorem rare_call : CallOk pU 18 [.agg filmU, listA] (heapU 2000 1004 96 [false]) rareTree :=
  bodyOf_ok tabsU.types cxR_ok Tryd.func18 (by kernel_rfl) (by kernel_rfl) rare_code_ok (by kernel_rfl) (by kernel_rfl) (by show 2 ≤ _; exact of_decide_eq_true (by kernel_rfl))
noncomputable def rareRT : T AV := .br (.cmp .eql (.var 96) lenE) (.br (.cmp .leq (.var 96) big) (.br allE (.ret (.bool (.lit true))) (.ret (.bool (.lit false)))) (.fail 99)) (.fail 99)
theorem rare_tree : eqTW (rareTree.bind fun r => .ret r.1) rareRT = true := by kernel_rfl
/-- of no number -/
noncomputable def rare0Run : T (AV × Heap) := evalN tb0 20 false 18 [.agg filmU, .sliceU 96] (viewHeap 2000 [])
noncomputable def rare0T : T AV := .br (.cmp .lss (.lit 0) (.var 96)) (.br (.and (.cmp .leq (.lit 0) (.lit 0)) (.cmp .lss (.lit 0) (.lit 0))) (.fail 18) (.fail 18)) (.ret (.bool (.lit true)))
theorem rare0_tree : eqTW (rare0Run.bind fun r => .ret r.1) rare0T = true := by kernel_rfl
/-- a list of numbers -/
def ListV (w : World) (v : Value) (y : Nat → Int) (len : Nat) : Prop := ∃ (bb : Option Addr) (cap : Nat), v = .slice bb len cap ∧ (len : Int) ≤ 9223372036854775807 ∧ len ≤ cap ∧ (0 < len → ∃ c x, bb = some ⟨c, x, none⟩ ∧ ListIn w c x len y)
def topF (n : Nat) : Int := IntKind.i64.wrap ((n : Int) - 1)
/-- the numbers of a film, and of a list -/
def bF (n : Nat) (nf : Nat → Int) (j : Nat) : Int := if j = 95 then n else nf j
/-- REELS, EACH ONCE, OF WHATEVER FILM AND LIST. -/
theorem rare_calls {w : World} {v : Value} {y : Nat → Int} {len : Nat} (hv : ListV w v y len) {p : Option Addr} {n c : Nat} (nf : Nat → Int) :
    (callFunc 18 #[.agg #[.slice p n c, .int .i64 (nf 0), .int .i64 (nf 1), .int .i64 (nf 2), .int .i64 (nf 3), .int .i64 (nf 4)], v]).run Tryd.prog w = .ok (.enter 18 #[.agg #[.slice p n c, .int .i64 (nf 0), .int .i64 (nf 1), .int .i64 (nf 2), .int .i64 (nf 3), .int .i64 (nf 4)], v]) w ∧
    Calls Tryd.prog 18 #[.agg #[.slice p n c, .int .i64 (nf 0), .int .i64 (nf 1), .int .i64 (nf 2), .int .i64 (nf 3), .int .i64 (nf 4)], v] w fun e w' => e = .returned (.bool (okUp y (topF n) len)) ∧ Below w.heap.size w w' := by
  obtain ⟨bb, cap, rfl, hm, hcap, hin⟩ := hv
  rcases Nat.eq_zero_or_pos len with rfl | hpos
  · let ρ := rhoY y 0 (bF n nf) (fun j => if j = 95 then .slice p n c else .slice bb 0 cap)
    have HS : HeapOk pU (envY ρ 0 0 cap) (viewHeap 2000 []) (Base.of w) w := view_ok (fun g hg => (List.not_mem_nil hg).elim)
      (fun x hx => by simp only [envY]; rw [if_neg (by omega), if_neg (by omega), if_neg (by omega)]) (fun x hx => by simp only [envY, if_pos hx]) (Nat.le_refl _) ⟨_, rhoY_ok y hm _ _, fun _ _ h => h⟩
    have ha : concL (envY ρ 0 0 cap) [.agg filmU, .sliceU 96] = some [.agg #[.slice p n c, .int .i64 (nf 0), .int .i64 (nf 1), .int .i64 (nf 2), .int .i64 (nf 3), .int .i64 (nf 4)], .slice bb 0 cap] := by
      simp [filmU, vi, concL, conc, IE.den, envY, ρ, rhoY, bF]
    obtain ⟨r1, r2⟩ := made (p := pU) (eval_ok tabsU 20 18 _ _) HS ha (V := fun v => v = .bool (.lit true)) (by
      show ((rare0Run.bind fun r => T.ret r.1) : T AV).Holds ρ _
      rw [eqTW_eq _ _ rare0_tree]
      unfold rare0T
      simp only [T.Holds]
      rw [if_neg (by rw [BE.t_lss]; show ¬ (0 : Int) < (rhoY y 0 (bF n nf) _).iv 96; simp [rhoY])]
      trivial)
    refine ⟨r1, r2.mono ?_⟩
    rintro e w' ⟨v, cv, E2, rfl, rfl, _, hv, hb⟩
    simp only [conc, BE.den, Option.some.injEq] at hv
    exact ⟨by rw [← hv]; rfl, hb⟩
  · obtain ⟨cc, x, rfl, hl⟩ := hin hpos
    let ρ := rhoY y len (bF n nf) (fun _ => .slice p n c)
    have HS := listHeap (cap := cap) (k := 0) hl hm (bF n nf) (fun _ => .slice p n c)
    have ha : concL (envY ρ cc x cap) [.agg filmU, listA] = some [.agg #[.slice p n c, .int .i64 (nf 0), .int .i64 (nf 1), .int .i64 (nf 2), .int .i64 (nf 3), .int .i64 (nf 4)], .slice (some ⟨cc, x, none⟩) len cap] := by
      simp only [concL, ρ, listArg hcap]
      simp [filmU, vi, concL, conc, IE.den, envY, rhoY, bF]
    obtain ⟨d1, d2⟩ := listD_ok (y := y) (b := bF n nf) (ov := fun _ => Value.slice p n c) hm
    have hA : allE.den ρ = okUp y (topF n) len := by simp [allE, topE, BE.den, IE.den, FB, ρ, rhoY, bF, topF]; rfl
    obtain ⟨r1, r2⟩ := made rare_call HS ha (V := fun v => v = .bool (.lit (okUp y (topF n) len))) (by
      rw [eqTW_eq _ _ rare_tree]
      show rareRT.Holds ρ _
      unfold rareRT
      simp only [T.Holds]
      rw [if_pos d1, if_pos d2, hA]
      cases okUp y (topF n) len with
      | true => rw [if_pos rfl]
      | false => rw [if_neg (by simp)])
    refine ⟨r1, r2.mono ?_⟩
    rintro e w' ⟨v, cv, E2, rfl, rfl, _, hv, hb⟩
    simp only [conc, BE.den, Option.some.injEq] at hv
    exact ⟨by rw [← hv], hb⟩
end Go.Sx
/-! REELS OF A FILM, EACH ONCE, as the program asks it: of a list that is not known. -/
namespace Go.Sx
open Go.RowKit Go.Proofs
set_option maxRecDepth 100000
noncomputable def filmK : List AV := [.sliceU 95, vi 0, vi 1, vi 2, vi 3, vi 4, .map 1005]
noncomputable def bUp : Nat → Nat → List AV
  | 0, _ => []
  | n + 1, i => .bool (.var i) :: bUp n (i + 1)
noncomputable def seenE (m : Nat) : AV := .bool (.app 1203 (.lit (Int.ofNat m)) topE (.lit 0))
noncomputable def seenUp : Nat → Nat → List AV
  | 0, _ => []
  | n + 1, i => seenE i :: seenUp n (i + 1)
noncomputable def falses : Nat → List AV
  | 0 => []
  | n + 1 => .bool (.lit false) :: falses n
noncomputable def areBody : C := (cSeq (cOps [⟨some 11, true, none, iCmp .lss (.t 10) (.t 9)⟩])
 (cSeq (cCond (.t 11) cSkip (cExit 0))
 (cSeq (cBlock 1 (cSeq (cOps [⟨some 12, false, none, iIaddr 1 (.t 8) (.t 10)⟩,
 ⟨some 13, false, none, iLoad (.t 12)⟩,
 ⟨some 7, true, none, iMov (.t 13)⟩])
 (cSeq (cSeq (cOps [⟨some 14, false, none, iLoadN 7 (.t 2)⟩,
 ⟨some 15, false, none, iMov (.t 7)⟩,
 ⟨some 16, false, none, iCall (.c (.func (.func 37) [] [])) [(.t 14), (.t 15)]⟩,
 ⟨some 17, false, none, iNot (.t 16)⟩,
 ⟨some 18, false, none, iMov (.t 17)⟩,
 ⟨some 19, false, some (18, false), iMov (.t 7)⟩,
 ⟨some 20, false, some (18, false), iIaddrA 1 6 (.t 5) (.t 19)⟩,
 ⟨some 21, false, some (18, false), iLoad (.t 20)⟩,
 ⟨some 22, true, none, iPick (.t 18) (.c (.bool (.lit true))) (.t 21)⟩])
 (cCond (.t 22) (cSeq (cOps [⟨some 4, true, none, iMov (.c (.bool (.lit false)))⟩])
 cRet) cSkip))
 (cOps [⟨some 23, false, none, iMov (.t 7)⟩,
 ⟨some 24, false, none, iIaddrA 1 6 (.t 5) (.t 23)⟩,
 ⟨none, false, none, iStore 1 (.t 24) (.c (.bool (.lit true)))⟩]))))
 (cOps [⟨some 25, false, none, iArith .add (.t 10) (.c (.int .i64 (.lit 1)))⟩,
 ⟨some 10, true, none, iMov (.t 25)⟩]))))
noncomputable def areL : LSpec where
  sl0 := [(2, .ptr 1006 0), (5, .ptr 1007 0), (8, listA), (9, vi 96), (10, li 0)]
  sl := [(2, .ptr 1006 0), (5, .ptr 1007 0), (8, listA), (9, vi 96), (10, vi 92)]
  vs := [⟨1004, none, [], [], [], some (96, [false])⟩, ⟨1006, none, filmK, filmK, [], none⟩, ⟨1007, some (68, false), falses 6, bUp 6 100, seenUp 6 0, none⟩]
  nv := 2000
  dom := .cmp .leq (.lit 0) (.var 95) :: .cmp .leq (.var 95) (.lit 6) :: listD
  out := .br allE (.ret (.exit 0, [])) (.ret (.ret, [(4, .bool (.lit false))]))
noncomputable def chainW (e : IE) (f : Nat → T AV) : Nat → T AV
  | 0 => .fail 18
  | m + 1 => .br (.cmp .leq (.lit (Int.ofNat m)) e) (f m) (chainW e f m)
noncomputable def caseW (e : IE) (f : Nat → T AV) : T AV := .br (.and (.cmp .leq (.lit 0) e) (.cmp .lss e (.lit 6))) (chainW e f 6) (.fail 18)
noncomputable def areLf (tag : Int) (i : IE) (l cs : List AV) : T AV := .ret (.tup (li tag :: .nilslice :: ([.tup [.ptr 1006 0], .tup [.ptr 1007 0], .tup [listA], .tup [vi 96], .tup [.int .i64 i], .tup l, .tup [.tup cs, li 68, .bool (.lit true), .bool (.lit false)]] : List AV)))
noncomputable def areBad : T AV := areLf 1 v92 [.bool (.lit false)] (bUp 6 100)
noncomputable def areOk (m : Nat) : T AV := areLf 0 (.bin .add .i64 v92 (.lit 1)) [] (modAt (fun _ => .bool (.lit true)) (bUp 6 100) m)
noncomputable def el : IE := elemE v92
noncomputable def areT : T AV :=
  .br (.cmp .lss v92 (.var 96))
    (bndT (.br (.cmp .geq el (.lit 0)) (.br (.cmp .lss el (.var 95)) (caseW el fun m => .br (.var (100 + m)) areBad (caseW el areOk)) areBad) areBad))
    (areLf 2 v92 [] (bUp 6 100))
theorem are_chk : eqTW (extT [2, 5, 8, 9, 10, 4] [1007] (areBody cxU ⟨14, none⟩ areL.T.st)) areT = true := by kernel_rfl
theorem chainW_holds {ρ : Rho} {Q : AV → Prop} {e : IE} {f : Nat → T AV} {k : Nat} (he : e.den ρ = k) (h : (f k).Holds ρ Q) : ∀ n, k < n → (chainW e f n).Holds ρ Q
  | 0, hk => by omega
  | m + 1, hk => by
    unfold chainW
    simp only [T.Holds]
    split
    · rename_i h1
      rw [BE.t_leq, he, IE.den_lit] at h1
      have : m = k := by simp only [Int.ofNat_eq_natCast] at h1; omega
      subst this; exact h
    · rename_i h1
      rw [BE.t_leq, he, IE.den_lit] at h1
      exact chainW_holds he h m (by simp only [Int.ofNat_eq_natCast] at h1; omega)
theorem caseW_holds {ρ : Rho} {Q : AV → Prop} {e : IE} {f : Nat → T AV} {k : Nat} (he : e.den ρ = k) (hk : k < 6) (h : (f k).Holds ρ Q) : (caseW e f).Holds ρ Q := by
  unfold caseW
  simp only [T.Holds]
  rw [if_pos (by
    rw [BE.t_and, BE.t_leq, BE.t_lss, he, IE.den_lit, IE.den_lit]
    omega)]
  exact chainW_holds he h 6 hk
/-- the numbers of a round -/
def rhoA (ρ : Rho) (i : Nat) : Rho := ⟨fun q => if q = 92 then i else ρ.iv q, fun q => if 100 ≤ q ∧ q < 106 then metF (yR ρ) ((q - 100 : Nat) : Int) i else ρ.bv q, ρ.fi, ρ.fb, ρ.ov⟩
theorem rhoA_ne (ρ : Rho) (i : Nat) {q : Nat} (h : q ≠ 92) : (rhoA ρ i).iv q = ρ.iv q := by simp [rhoA, h]
theorem rhoA_at (ρ : Rho) (i : Nat) : (rhoA ρ i).iv 92 = i := by simp [rhoA]
theorem rhoA_bv (ρ : Rho) (i : Nat) {m : Nat} (h : m < 6) : (rhoA ρ i).bv (100 + m) = metF (yR ρ) m i := by
  simp only [rhoA]
  rw [if_pos (by omega), Nat.add_sub_cancel_left]
/-- the marks, held against others -/
theorem bUp_same {ρ ρ' : Rho} {g : Nat → AV} : ∀ n i, (∀ j, j < n → SameV ρ (.bool (.var (i + j))) ρ' (g j)) → SameL ρ (bUp n i) ρ' ((List.range n).map g)
  | 0, _, _ => SameL.nil
  | n + 1, i, h => by
    rw [List.range_succ_eq_map, List.map_cons, List.map_map]
    exact SameL.cons (h 0 (by omega)) (bUp_same n (i + 1) fun j hj => by
      have := h (j + 1) (by omega)
      rw [show i + 1 + j = i + (j + 1) by omega]; exact this)
theorem bUp_eq : ∀ n i, bUp n i = (List.range n).map fun j => .bool (.var (i + j))
  | 0, _ => rfl
  | n + 1, i => by
    rw [List.range_succ_eq_map, List.map_cons, List.map_map, bUp, bUp_eq n (i + 1)]
    congr 1
    apply List.map_congr_left
    intro j _
    simp only [Function.comp, Nat.succ_eq_add_one]
    rw [show i + 1 + j = i + (j + 1) by omega]
theorem seenUp_eq : ∀ n i, seenUp n i = (List.range n).map fun j => seenE (i + j)
  | 0, _ => rfl
  | n + 1, i => by
    rw [List.range_succ_eq_map, List.map_cons, List.map_map, seenUp, seenUp_eq n (i + 1)]
    congr 1
    apply List.map_congr_left
    intro j _
    simp only [Function.comp, Nat.succ_eq_add_one]
    rw [show i + 1 + j = i + (j + 1) by omega]
theorem falses_eq : ∀ n, falses n = (List.range n).map fun _ => .bool (.lit false)
  | 0 => rfl
  | n + 1 => by
    rw [List.range_succ_eq_map, List.map_cons, List.map_map, falses, falses_eq n]; rfl
theorem map_same {ρ ρ' : Rho} {f g : Nat → AV} : ∀ l : List Nat, (∀ j ∈ l, SameV ρ (f j) ρ' (g j)) → SameL ρ (l.map f) ρ' (l.map g)
  | [], _ => SameL.nil
  | j :: l, h => SameL.cons (h j List.mem_cons_self) (map_same l fun q hq => h q (List.mem_cons_of_mem _ hq))
theorem modAt_map {f : Nat → AV} {a : AV} : ∀ (l : List Nat) (m : Nat), modAt (fun _ => a) (l.map f) m = (l.zipIdx).map fun q => if q.2 = m then a else f q.1 := by
  have key : ∀ (l : List Nat) (m k : Nat), modAt (fun _ => a) (l.map f) m = (l.zipIdx k).map fun q => if q.2 = k + m then a else f q.1 := by
    intro l
    induction l with
    | nil => intro m k; cases m <;> rfl
    | cons x l ih =>
      intro m k
      cases m with
      | zero =>
        have h0 : l.map f = (l.zipIdx (k + 1)).map fun q => if q.2 = k then a else f q.1 := by
          have : ∀ (l : List Nat) (k' : Nat), k < k' → l.map f = (l.zipIdx k').map fun q => if q.2 = k then a else f q.1 := by
            intro l
            induction l with
            | nil => intro _ _; rfl
            | cons y l ih => intro k' hk; simp only [List.map_cons, List.zipIdx_cons]; rw [if_neg (by omega), ih (k' + 1) (by omega)]
          exact this l (k + 1) (by omega)
        simp only [List.map_cons, List.zipIdx_cons, modAt, Nat.add_zero, if_true]
        rw [h0]
      | succ m =>
        simp only [List.map_cons, List.zipIdx_cons, modAt]
        rw [if_neg (by omega), ih m (k + 1)]
        simp only [show k + 1 + m = k + (m + 1) by omega]
  intro l m
  have := key l m 0
  simpa using this
/-- THE LOOP IS AS IT IS SAID. -/
theorem are_loop : areL.OkP pU.ok (fun ρ _ => ListOk ρ) cxU ⟨14, none⟩ areBody := by
  intro ρ m hL hdom
  obtain ⟨hlen, hmax⟩ := list_dom fun c hc => hdom c (List.mem_cons_of_mem _ (List.mem_cons_of_mem _ hc))
  have hN0 := hdom _ List.mem_cons_self
  have hN6 := hdom _ (List.mem_cons_of_mem _ List.mem_cons_self)
  rw [BE.t_leq, IE.den_lit, IE.den_var] at hN0 hN6
  have hl0 := hL.len
  have hn : (nR ρ : Int) = ρ.iv 96 := by unfold nR; rw [hlen]; exact Int.toNat_of_nonneg hl0
  have htop : topE.den ρ = ρ.iv 95 - 1 := by
    show IntKind.i64.wrap (ρ.iv 95 - 1) = _
    exact IntWalk.i64_in _ (by omega)
  have hA : allE.den ρ = okUp (yR ρ) (ρ.iv 95 - 1) (nR ρ) := by
    show FB ρ.fb 1201 (topE.den ρ) 0 0 = _
    rw [htop, ← hL.all]; rfl
  have hS : ∀ j : Nat, (BE.app 1203 (.lit (Int.ofNat j)) topE (.lit 0)).den ρ = metF (yR ρ) j (goodN (yR ρ) (ρ.iv 95 - 1) (nR ρ)) := fun j => by
    show FB ρ.fb 1203 (j : Int) (topE.den ρ) 0 = _
    rw [htop, ← hL.seen]; rfl
  generalize hNN : ρ.iv 95 - 1 = top at hA hS
  generalize hnn : nR ρ = len at hn hA hS
  have at_ : ∀ i : Nat, ListIs (rhoA ρ i) := fun i => ⟨hL.of rfl rfl, by rw [rhoA_ne ρ i (by omega)]; exact hlen, by rw [rhoA_ne ρ i (by omega)]; exact hmax⟩
  have cellsSame : ∀ i j : Nat, SameL (rhoA ρ i) filmK (rhoA ρ j) filmK := fun z z' => by
    have hv : ∀ q, q ≠ 92 → SameV (rhoA ρ z) (vi q) (rhoA ρ z') (vi q) := fun q hq => SameV.int (by rw [IE.den_var, IE.den_var, rhoA_ne ρ _ hq, rhoA_ne ρ _ hq])
    have hs : SameV (rhoA ρ z) (.sliceU 95) (rhoA ρ z') (.sliceU 95) := fun _ _ _ _ _ _ => by simp only [conc, rhoA]; rfl
    exact SameL.cons hs (SameL.cons (hv 0 (by omega)) (SameL.cons (hv 1 (by omega)) (SameL.cons (hv 2 (by omega)) (SameL.cons (hv 3 (by omega)) (SameL.cons (hv 4 (by omega)) (SameL.cons (SameV.map _) SameL.nil))))))
  have cells0 : SameL ρ filmK (rhoA ρ 0) filmK := by
    have hv : ∀ q, q ≠ 92 → SameV ρ (vi q) (rhoA ρ 0) (vi q) := fun q hq => SameV.int (by rw [IE.den_var, IE.den_var, rhoA_ne ρ _ hq])
    have hs : SameV ρ (.sliceU 95) (rhoA ρ 0) (.sliceU 95) := fun _ _ _ _ _ _ => by simp only [conc, rhoA]; rfl
    exact SameL.cons hs (SameL.cons (hv 0 (by omega)) (SameL.cons (hv 1 (by omega)) (SameL.cons (hv 2 (by omega)) (SameL.cons (hv 3 (by omega)) (SameL.cons (hv 4 (by omega)) (SameL.cons (SameV.map _) SameL.nil))))))
  refine ⟨len, fun i ρ' => i ≤ len ∧ okUp (yR ρ) top i = true ∧ ρ' = rhoA ρ i, rhoA ρ 0, fun i ρ' h => by obtain ⟨_, _, rfl⟩ := h; exact at_ i, ⟨Nat.zero_le _, rfl, rfl⟩, ?_, ?_, ?_⟩
  · intro g hg
    simp only [areL, List.mem_cons, List.not_mem_nil, or_false] at hg
    rcases hg with rfl | rfl | rfl | rfl | rfl
    · exact ⟨.ptr 1006 0, by simp [areL], SameV.ptr _ _⟩
    · exact ⟨.ptr 1007 0, by simp [areL], SameV.ptr _ _⟩
    · exact ⟨listA, by simp [areL], same_list (rhoA_ne ρ 0 (by omega)).symm⟩
    · exact ⟨vi 96, by simp [areL], SameV.int (rhoA_ne ρ 0 (by omega)).symm⟩
    · exact ⟨li 0, by simp [areL], SameV.int (rhoA_at ρ 0).symm⟩
  · intro g hg
    simp only [areL, List.mem_cons, List.not_mem_nil, or_false] at hg
    rcases hg with rfl | rfl | rfl
    · exact ⟨SameL.nil, SameU.some (rhoA_ne ρ 0 (by omega)).symm rfl rfl⟩
    · exact ⟨cells0, SameU.none _ _⟩
    · refine ⟨?_, SameU.none _ _⟩
      show SameL ρ (falses 6) (rhoA ρ 0) (bUp 6 100)
      rw [falses_eq, bUp_eq]
      refine map_same _ fun j hj => SameV.bool ?_
      show false = (rhoA ρ 0).bv (100 + j)
      rw [rhoA_bv ρ 0 (List.mem_range.1 hj)]; rfl
  · rintro i ρ' hi ⟨hi', hok, rfl⟩
    have h92 : (rhoA ρ i).iv 92 = i := rhoA_at ρ i
    have h96 : (rhoA ρ i).iv 96 = len := by rw [rhoA_ne ρ _ (by omega), hn]
    have h95 : (rhoA ρ i).iv 95 = top + 1 := by rw [rhoA_ne ρ _ (by omega)]; omega
    -- the marks at the end
    have marks : (i = len ∨ okUp (yR ρ) top (i + 1) = false) → SameL (rhoA ρ i) (bUp 6 100) ρ (seenUp 6 0) := fun h => by
      have hg := goodN_at (yR ρ) top len i hi hok h
      rw [bUp_eq, seenUp_eq]
      refine map_same _ fun j hj => SameV.bool ?_
      show (rhoA ρ i).bv (100 + j) = (BE.app 1203 (.lit (Int.ofNat (0 + j))) topE (.lit 0)).den ρ
      rw [hS, hg, rhoA_bv ρ i (List.mem_range.1 hj), Nat.zero_add]
    have key : areT.Holds (rhoA ρ i) (fun a => ∀ r, extr [2, 5, 8, 9, 10, 4] [1007] r = a →
        (r.1 = .norm ∧ ∃ ρ'', (i < len ∧ i + 1 ≤ len ∧ okUp (yR ρ) top (i + 1) = true ∧ ρ'' = rhoA ρ (i + 1)) ∧ Next areL.T (rhoA ρ i) ρ'' r.2) ∨
        (r.1 ≠ .norm ∧ r.2.df = [] ∧ (∃ o, areL.out.end_ ρ = some o ∧ r.1 = o.1 ∧ ∀ g ∈ o.2, idsLt areL.nv g.2 = true ∧ ∃ v, r.2.tm.tree.get g.1 = some v ∧ SameV (rhoA ρ i) v ρ g.2) ∧
          ∀ g ∈ areL.vs, ∀ q, g.own = some q → ∃ cs, r.2.h.get g.id = some (.cells cs q.1 true q.2) ∧ SameL (rhoA ρ i) cs ρ g.cf)) := by
      have hend : ∀ b : Bool, okUp (yR ρ) top len = b → areL.out.end_ ρ = (if b = true then some (Ex.exit 0, []) else some (Ex.ret, [(4, AV.bool (.lit false))])) := by
        intro b hb
        simp only [areL, T.end_]
        rw [hA, hb]
      have blks : ∀ r : Ex × St, r.2.h.get 1007 = some (.cells (bUp 6 100) 68 true false) → (i = len ∨ okUp (yR ρ) top (i + 1) = false) → ∀ g ∈ areL.vs, ∀ q, g.own = some q → ∃ cs, r.2.h.get g.id = some (.cells cs q.1 true q.2) ∧ SameL (rhoA ρ i) cs ρ g.cf := by
        intro r hr h g hg q hown
        simp only [areL, List.mem_cons, List.not_mem_nil, or_false] at hg
        rcases hg with rfl | rfl | rfl
        · cases hown
        · cases hown
        · cases hown
          exact ⟨_, hr, marks h⟩
      have bad : i < len → okUp (yR ρ) top (i + 1) = false → areBad.Holds (rhoA ρ i) (fun a => ∀ r, extr [2, 5, 8, 9, 10, 4] [1007] r = a →
        (r.1 = .norm ∧ ∃ ρ'', (i < len ∧ i + 1 ≤ len ∧ okUp (yR ρ) top (i + 1) = true ∧ ρ'' = rhoA ρ (i + 1)) ∧ Next areL.T (rhoA ρ i) ρ'' r.2) ∨
        (r.1 ≠ .norm ∧ r.2.df = [] ∧ (∃ o, areL.out.end_ ρ = some o ∧ r.1 = o.1 ∧ ∀ g ∈ o.2, idsLt areL.nv g.2 = true ∧ ∃ v, r.2.tm.tree.get g.1 = some v ∧ SameV (rhoA ρ i) v ρ g.2) ∧
          ∀ g ∈ areL.vs, ∀ q, g.own = some q → ∃ cs, r.2.h.get g.id = some (.cells cs q.1 true q.2) ∧ SameL (rhoA ρ i) cs ρ g.cf)) := fun hlt hb r hr => by
        simp only [extr, AV.tup.injEq, List.cons.injEq, List.cons_append, List.nil_append, lMap_eq, List.map_cons, List.map_nil, li, AV.int.injEq, IE.lit.injEq, true_and, and_true] at hr
        obtain ⟨r1, r2, r3, r4, r5, r6, r7, r8, r9⟩ := hr
        have r1 : r.1 = .ret := tagE_inj (by simpa [tagE] using Int.ofNat_inj.1 r1)
        have hall : okUp (yR ρ) top len = false := by
          cases h2 : okUp (yR ρ) top len with
          | false => rfl
          | true => rw [okUp_le _ _ len (i + 1) (by omega) h2] at hb; cases hb
        refine .inr ⟨by rw [r1]; simp, dfA_nil r2, ⟨_, (hend false hall).trans (if_neg (by simp)), r1, fun g hg => ?_⟩, blks r (blkA_some r9) (.inr hb)⟩
        rcases List.mem_singleton.1 hg with rfl
        exact ⟨rfl, _, optA_some r8, fun _ _ _ _ _ _ => rfl⟩
      have c1 : (BE.cmp .lss v92 (.var 96)).den (rhoA ρ i) = decide ((i : Int) < len) := by simp only [v92, BE.den, cmpDen, IE.den_var, h92, h96]
      unfold areT
      simp only [T.Holds]
      rw [c1]
      by_cases hi1 : (i : Int) < len
      · rw [if_pos (by simpa using hi1)]
        have c2 : inE.den (rhoA ρ i) = true := by
          simp only [inE, v92, BE.den, cmpDen, IE.den_var, IE.den_lit, h92, h96, decide_eq_true hi1, Bool.and_true]
          exact decide_eq_true (by omega)
        have ey : el.den (rhoA ρ i) = yR ρ i := by
          show FI ρ.fi 1096 ((rhoA ρ i).iv 92) 0 0 = _
          rw [h92]; rfl
        have hlt : i < len := by omega
        have hstep : okUp (yR ρ) top (i + 1) = (decide (0 ≤ yR ρ i) && (decide (yR ρ i ≤ top) && decide (findAt (yR ρ) (yR ρ i) i 0 = -1))) := by
          show (okUp (yR ρ) top i && _) = _
          rw [hok, Bool.true_and]
        refine bnd_holds c2 ?_
        simp only [T.Holds]
        split
        · rename_i h1
          rw [BE.t_geq, ey, IE.den_lit] at h1
          split
          · rename_i h2
            rw [BE.t_lss, ey, IE.den_var, h95] at h2
            obtain ⟨k, hk⟩ : ∃ k : Nat, yR ρ i = k := ⟨(yR ρ i).toNat, by omega⟩
            have hk6 : k < 6 := by omega
            have hek : el.den (rhoA ρ i) = k := by rw [ey, hk]
            refine caseW_holds hek hk6 ?_
            simp only [T.Holds]
            have cb : (BE.var (100 + k)).den (rhoA ρ i) = metF (yR ρ) (yR ρ i) i := by
              show (rhoA ρ i).bv (100 + k) = _
              rw [rhoA_bv ρ i hk6, hk]
            rw [cb]
            split
            · rename_i h3
              refine bad hlt ?_
              rw [hstep]
              have : ¬ findAt (yR ρ) (yR ρ i) i 0 = -1 := fun h => by rw [metF_find, h3] at h; cases h
              rw [decide_eq_false this, Bool.and_false, Bool.and_false]
            · rename_i h3
              have h3 : metF (yR ρ) (yR ρ i) i = false := by simpa using h3
              refine caseW_holds hek hk6 ?_
              intro r hr
              simp only [extr, AV.tup.injEq, List.cons.injEq, List.cons_append, List.nil_append, lMap_eq, List.map_cons, List.map_nil, li, AV.int.injEq, IE.lit.injEq, true_and, and_true] at hr
              obtain ⟨r1, r2, r3, r4, r5, r6, r7, r8, r9⟩ := hr
              have r1 : r.1 = .norm := tagE_inj (by simpa [tagE] using Int.ofNat_inj.1 r1)
              have hok1 : okUp (yR ρ) top (i + 1) = true := by
                rw [hstep, decide_eq_true h1, decide_eq_true (by omega), decide_eq_true ((metF_find _ _ _).2 h3)]; rfl
              refine .inl ⟨r1, _, ⟨hlt, hlt, hok1, rfl⟩, dfA_nil r2, fun g hg => ?_, fun g hg => ?_⟩
              · simp only [LSpec.T, areL, List.mem_cons, List.not_mem_nil, or_false] at hg
                rcases hg with rfl | rfl | rfl | rfl | rfl
                · exact ⟨_, optA_some r3, SameV.ptr _ _⟩
                · exact ⟨_, optA_some r4, SameV.ptr _ _⟩
                · exact ⟨_, optA_some r5, same_list (by rw [rhoA_ne ρ _ (by omega), rhoA_ne ρ _ (by omega)])⟩
                · exact ⟨_, optA_some r6, SameV.int (by rw [IE.den_var, IE.den_var, rhoA_ne ρ _ (by omega), rhoA_ne ρ _ (by omega)])⟩
                · refine ⟨_, optA_some r7, SameV.int ?_⟩
                  rw [IE.den_add, v92, IE.den_var, IE.den_lit, h92, IE.den_var, rhoA_at, IntWalk.i64_in _ (by omega)]
                  simp
              · simp only [LSpec.T, areL, List.map_cons, List.map_nil, List.mem_cons, List.not_mem_nil, or_false] at hg
                rcases hg with rfl | rfl | rfl
                · exact ⟨SameL.nil, SameU.some (by rw [rhoA_ne ρ _ (by omega), rhoA_ne ρ _ (by omega)]) rfl rfl⟩
                · exact ⟨cellsSame _ _, SameU.none _ _⟩
                · refine ⟨_, blkA_some r9, ?_⟩
                  rw [bUp_eq, modAt_map]
                  have e1 : ((List.range 6).zipIdx).map (fun q => if q.2 = k then AV.bool (.lit true) else AV.bool (.var (100 + q.1))) = (List.range 6).map (fun j => if j = k then AV.bool (.lit true) else AV.bool (.var (100 + j))) := rfl
                  rw [e1]
                  show SameL _ _ _ ((List.range 6).map fun j => AV.bool (.var (100 + j)))
                  refine map_same _ fun j hj => ?_
                  have hj6 := List.mem_range.1 hj
                  have hb1 : (rhoA ρ (i + 1)).bv (100 + j) = (metF (yR ρ) j i || decide (yR ρ i = j)) := rhoA_bv ρ (i + 1) hj6
                  have hb0 := rhoA_bv ρ i hj6
                  split
                  · rename_i hjk
                    refine SameV.bool ?_
                    show true = (rhoA ρ (i + 1)).bv (100 + j)
                    rw [hb1, decide_eq_true (by rw [hk, hjk]), Bool.or_true]
                  · rename_i hjk
                    refine SameV.bool ?_
                    show (rhoA ρ i).bv (100 + j) = (rhoA ρ (i + 1)).bv (100 + j)
                    rw [hb1, hb0, decide_eq_false (by rw [hk]; omega), Bool.or_false]
          · rename_i h2
            rw [BE.t_lss, ey, IE.den_var, h95] at h2
            exact bad hlt (by rw [hstep, decide_eq_false (show ¬ yR ρ i ≤ top by omega), Bool.false_and, Bool.and_false])
        · rename_i h1
          rw [BE.t_geq, ey, IE.den_lit] at h1
          exact bad hlt (by rw [hstep, decide_eq_false h1, Bool.false_and])
      · rw [if_neg (by simpa using hi1)]
        intro r hr
        have hin : i = len := by omega
        simp only [extr, AV.tup.injEq, List.cons.injEq, List.cons_append, List.nil_append, lMap_eq, List.map_cons, List.map_nil, li, AV.int.injEq, IE.lit.injEq, true_and, and_true] at hr
        obtain ⟨r1, r2, r3, r4, r5, r6, r7, r8, r9⟩ := hr
        have r1 : r.1 = .exit 0 := tagE_inj (by simpa [tagE] using Int.ofNat_inj.1 r1)
        exact .inr ⟨by rw [r1]; simp, dfA_nil r2, ⟨_, (hend true (by rw [← hin]; exact hok)).trans (if_pos rfl), r1, fun g hg => by cases hg⟩, blks r (blkA_some r9) (.inl hin)⟩
    rw [← eqTW_eq _ _ are_chk] at key
    exact T.holds_weak (extT_holds key) fun r h => h r rfl
/-! ## The call -/
noncomputable def areCode (lc : C) : C := (cSeq (cOps [⟨some 2, true, none, iBox 42 (.t 0)⟩,
 ⟨some 4, true, none, iMov (.c (.bool (.lit false)))⟩])
 (cSeq (cOps [⟨some 5, true, none, iAlloc 68 [(.bool (.lit false)), (.bool (.lit false)), (.bool (.lit false)), (.bool (.lit false)), (.bool (.lit false)), (.bool (.lit false))]⟩])
 (cSeq (cSeq (cOps [⟨some 8, true, none, iMov (.t 1)⟩,
 ⟨some 9, true, none, iLenS (.t 8)⟩,
 ⟨some 10, true, none, iMov (.c (.int .i64 (.lit 0)))⟩])
 (cBlock 0 lc))
 (cSeq (cOps [⟨some 4, true, none, iMov (.c (.bool (.lit true)))⟩])
 cRet))))
theorem are_compiles (lc : C) : cCodeX lc Sx.Tryd.tt.get Tryd.f14.ntmps Sx.Tryd.kp14 14 (bodyOf Tryd.f14) = some (areCode lc) := by kernel_rfl
theorem are_loops : (loopsOf (bodyOf Tryd.f14)).map (cCode Sx.Tryd.tt.get Tryd.f14.ntmps Sx.Tryd.kp14 14) = [some areBody] := by kernel_rfl
theorem are_ranges : (loopsOf (bodyOf Tryd.f14)).map ranges = [[]] := by kernel_rfl
theorem are_k1 : areL.sl.all (fun g => and (memN Sx.Tryd.kp14 (some g.1)) (idsLt areL.nv g.2)) = true := by kernel_rfl
theorem are_k2 : areL.vs.all (fun g => and (idsLts areL.nv g.c) (and (idsLts areL.nv g.cf) (and (Nat.ble (g.id + 1) areL.nv) (or g.own.isNone (Nat.ble 1000 g.id))))) = true := by kernel_rfl
theorem are_k3 : vsUp 0 areL.vs = true := by kernel_rfl
theorem are_code_ok : COk pU Tryd.f14.ntmps Sx.Tryd.kp14 (areCode (areL.runF [])) (bodyOf Tryd.f14) := by
  refine cCodeX_ok tabsU.types tabsU.mixed _ _ (are_compiles _) (loopsOk_of _ fun a ha => ?_)
  have h1 : cCode Sx.Tryd.tt.get Tryd.f14.ntmps Sx.Tryd.kp14 14 a = some areBody := by
    have := List.mem_map_of_mem (f := cCode Sx.Tryd.tt.get Tryd.f14.ntmps Sx.Tryd.kp14 14) ha
    rw [are_loops] at this
    exact List.mem_singleton.1 this
  have h2 : ranges a = [] := by
    have := List.mem_map_of_mem (f := ranges) ha
    rw [are_ranges] at this
    exact List.mem_singleton.1 this
  exact LSpec.cokF (cCode_ok tabsU.types tabsU.mixed a areBody h1 (rcOf_rng [] h2 (by simp))) _ are_k1 are_k2 are_k3 (Nat.le_of_ble_eq_true rfl) cxU_ok rfl are_loop [] (fun ρ ρ' m h hi hb _ => ListOk.of h.ok hi hb)
noncomputable def areTree : T (AV × Heap) := (areCode (areL.runF []) cxU ⟨14, none⟩ ⟨⟨[], tmOf [.agg filmK, listA] 0 .nil⟩, [], heapU 2000 1004 96 [false]⟩).bind (finish ⟨Tryd.f14.params.size + Tryd.f14.nfree, areCode (areL.runF []), [.t 4]⟩)
theorem are_call : CallOk pU 14 [.agg filmK, listA] (heapU 2000 1004 96 [false]) areTree :=
  bodyOf_ok tabsU.types cxU_ok Tryd.func14 (by kernel_rfl) (by kernel_rfl) are_code_ok (by kernel_rfl) (by kernel_rfl) (by show 2 ≤ _; exact of_decide_eq_true (by kernel_rfl))
noncomputable def areRT : T AV := .br (.cmp .leq (.lit 0) (.var 95)) (.br (.cmp .leq (.var 95) (.lit 6)) (.br (.cmp .eql (.var 96) lenE) (.br (.cmp .leq (.var 96) big) (.br allE (.ret (.bool (.lit true))) (.ret (.bool (.lit false)))) (.fail 99)) (.fail 99)) (.fail 99)) (.fail 99)
theorem are_tree : eqTW (areTree.bind fun r => .ret r.1) areRT = true := by kernel_rfl
/-- of no number -/
noncomputable def are0Run : T (AV × Heap) := evalN tb0 20 false 14 [.agg filmK, .sliceU 96] (viewHeap 2000 [])
noncomputable def are0T : T AV := .br (.cmp .lss (.lit 0) (.var 96)) (.br (.and (.cmp .leq (.lit 0) (.lit 0)) (.cmp .lss (.lit 0) (.lit 0))) (.fail 18) (.fail 18)) (.ret (.bool (.lit true)))
theorem are0_tree : eqTW (are0Run.bind fun r => .ret r.1) are0T = true := by kernel_rfl
/-- REELS, EACH ONCE, OF WHATEVER LIST: the program. -/
theorem are_calls {w : World} {v : Value} {y : Nat → Int} {len : Nat} (hv : ListV w v y len) {p : Option Addr} {n c k : Nat} (hn : n ≤ 6) (nf : Nat → Int) :
    (callFunc 14 #[.agg #[.slice p n c, .int .i64 (nf 0), .int .i64 (nf 1), .int .i64 (nf 2), .int .i64 (nf 3), .int .i64 (nf 4), .map (some k)], v]).run Tryd.prog w = .ok (.enter 14 #[.agg #[.slice p n c, .int .i64 (nf 0), .int .i64 (nf 1), .int .i64 (nf 2), .int .i64 (nf 3), .int .i64 (nf 4), .map (some k)], v]) w ∧
    Calls Tryd.prog 14 #[.agg #[.slice p n c, .int .i64 (nf 0), .int .i64 (nf 1), .int .i64 (nf 2), .int .i64 (nf 3), .int .i64 (nf 4), .map (some k)], v] w fun e w' => e = .returned (.bool (okUp y (topF n) len)) ∧ Below w.heap.size w w' := by
  obtain ⟨bb, cap, rfl, hm, hcap, hin⟩ := hv
  rcases Nat.eq_zero_or_pos len with rfl | hpos
  · let ρ := rhoY y 0 (bF n nf) (fun j => if j = 95 then .slice p n c else .slice bb 0 cap)
    have HS : HeapOk pU (envY ρ 0 0 cap k) (viewHeap 2000 []) (Base.of w) w := view_ok (fun g hg => (List.not_mem_nil hg).elim)
      (fun x hx => by simp only [envY]; rw [if_neg (by omega), if_neg (by omega), if_neg (by omega)]) (fun x hx => by simp only [envY, if_pos hx]) (Nat.le_refl _) ⟨_, rhoY_ok y hm _ _, fun _ _ h => h⟩
    have ha : concL (envY ρ 0 0 cap k) [.agg filmK, .sliceU 96] = some [.agg #[.slice p n c, .int .i64 (nf 0), .int .i64 (nf 1), .int .i64 (nf 2), .int .i64 (nf 3), .int .i64 (nf 4), .map (some k)], .slice bb 0 cap] := by
      simp [filmK, vi, concL, conc, IE.den, envY, ρ, rhoY, bF]
    obtain ⟨r1, r2⟩ := made (p := pU) (eval_ok tabsU 20 14 _ _) HS ha (V := fun v => v = .bool (.lit true)) (by
      show ((are0Run.bind fun r => T.ret r.1) : T AV).Holds ρ _
      rw [eqTW_eq _ _ are0_tree]
      unfold are0T
      simp only [T.Holds]
      rw [if_neg (by rw [BE.t_lss]; show ¬ (0 : Int) < (rhoY y 0 (bF n nf) _).iv 96; simp [rhoY])]
      trivial)
    refine ⟨r1, r2.mono ?_⟩
    rintro e w' ⟨v, cv, E2, rfl, rfl, _, hv, hb⟩
    simp only [conc, BE.den, Option.some.injEq] at hv
    exact ⟨by rw [← hv]; rfl, hb⟩
  · obtain ⟨cc, x, rfl, hl⟩ := hin hpos
    let ρ := rhoY y len (bF n nf) (fun _ => .slice p n c)
    have HS := listHeap (cap := cap) (k := k) hl hm (bF n nf) (fun _ => .slice p n c)
    have ha : concL (envY ρ cc x cap k) [.agg filmK, listA] = some [.agg #[.slice p n c, .int .i64 (nf 0), .int .i64 (nf 1), .int .i64 (nf 2), .int .i64 (nf 3), .int .i64 (nf 4), .map (some k)], .slice (some ⟨cc, x, none⟩) len cap] := by
      simp only [concL, ρ, listArg hcap]
      simp [filmK, vi, concL, conc, IE.den, envY, rhoY, bF]
    obtain ⟨d1, d2⟩ := listD_ok (y := y) (b := bF n nf) (ov := fun _ => Value.slice p n c) hm
    have h95 : (rhoY y len (bF n nf) (fun _ => Value.slice p n c)).iv 95 = n := by simp [rhoY, bF]
    have d3 : (BE.cmp .leq (.lit 0) (.var 95)).den (rhoY y len (bF n nf) (fun _ => Value.slice p n c)) = true := by rw [BE.t_leq, IE.den_var, IE.den_lit, h95]; omega
    have d4 : (BE.cmp .leq (.var 95) (.lit 6)).den (rhoY y len (bF n nf) (fun _ => Value.slice p n c)) = true := by rw [BE.t_leq, IE.den_var, IE.den_lit, h95]; omega
    have hA : allE.den ρ = okUp y (topF n) len := by simp [allE, topE, BE.den, IE.den, FB, ρ, rhoY, bF, topF]; rfl
    obtain ⟨r1, r2⟩ := made are_call HS ha (V := fun v => v = .bool (.lit (okUp y (topF n) len))) (by
      rw [eqTW_eq _ _ are_tree]
      show areRT.Holds ρ _
      unfold areRT
      simp only [T.Holds]
      rw [if_pos d3, if_pos d4, if_pos d1, if_pos d2, hA]
      cases okUp y (topF n) len with
      | true => rw [if_pos rfl]
      | false => rw [if_neg (by simp)])
    refine ⟨r1, r2.mono ?_⟩
    rintro e w' ⟨v, cv, E2, rfl, rfl, _, hv, hb⟩
    simp only [conc, BE.den, Option.some.injEq] at hv
    exact ⟨by rw [← hv], hb⟩
end Go.Sx
