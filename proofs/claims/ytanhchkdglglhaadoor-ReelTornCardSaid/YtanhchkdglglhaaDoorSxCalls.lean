/- THE CALLS that a film is asked by, as they are said: those with loops of their own. -/
import Derived.Test.YtanhchkdglglhaaDoorSxRSeen
/-! THE CALLS that a film is asked by, as they are said: those with loops of their own. -/
namespace Go.Sx
open Go.RowKit Go.Proofs
set_option maxRecDepth 100000
noncomputable def loopK (L : LSpec) (kp : List Nat) : Bool :=
  and (L.sl.all (fun g => and (memN kp (some g.1)) (idsLt L.nv g.2)))
    (and (L.vs.all (fun g => and (idsLts L.nv g.c) (and (idsLts L.nv g.cf) (and (Nat.ble (g.id + 1) L.nv) (or g.own.isNone (Nat.ble 1000 g.id)))))) (vsUp 0 L.vs))

/-! ## A film that is valid -/
noncomputable def le2 (a b : IE) : BE := .cmp .leq a b
noncomputable def reelC (b : Nat) : List BE :=
  [le2 (.lit 0) (.var b), le2 (.var b) (.var (b + 1)), le2 (.var (b + 1)) (.lit 99), le2 (.lit 0) (.var (b + 2)), le2 (.var (b + 2)) (.var (b + 3)), le2 (.var (b + 3)) (.lit 99), le2 (.lit 1) (.var (b + 4)), le2 (.var (b + 4)) (.var (b + 5)), le2 (.var (b + 5)) (.lit 1200), le2 (.var b) (.var (b + 3))]
noncomputable def restC : List BE := [le2 (.lit 1) (.var 0), le2 (.var 0) (.var 1), le2 (.var 1) (.lit 20), le2 (.lit 0) (.var 2), le2 (.var 2) (.var 3), le2 (.var 3) (.lit 50), le2 (.lit 1) (.var 4), le2 (.var 4) (.lit 6000)]
noncomputable def csUp : Nat → Nat → List BE
  | 0, _ => restC
  | n + 1, b => reelC b ++ csUp n (b + 6)
noncomputable def csL (L : Nat) : List BE := csUp L 10
noncomputable def okErr (vs : List AV) (e : Int) : AV := .tup (vs ++ [li e])

noncomputable def lk21 : List (Nat × Nat × Nat) := [(1, 0, 0), (2, 0, 0), (2, 1, 0), (3, 0, 0), (3, 1, 0), (3, 2, 0), (4, 0, 0), (4, 1, 0), (4, 2, 0), (4, 3, 0), (5, 0, 0), (5, 1, 0), (5, 2, 0), (5, 3, 0), (5, 4, 0), (6, 0, 0), (6, 1, 0), (6, 2, 0), (6, 3, 0), (6, 4, 0), (6, 5, 0)]
noncomputable def lk1 : List (Nat × Nat × Nat) := [(1, 0, 0)]
noncomputable def lk2 : List (Nat × Nat × Nat) := [(2, 0, 0), (2, 1, 0)]
noncomputable def lk3 : List (Nat × Nat × Nat) := [(3, 0, 0), (3, 1, 0), (3, 2, 0)]
noncomputable def lk4 : List (Nat × Nat × Nat) := [(4, 0, 0), (4, 1, 0), (4, 2, 0), (4, 3, 0)]
noncomputable def lk5 : List (Nat × Nat × Nat) := [(5, 0, 0), (5, 1, 0), (5, 2, 0), (5, 3, 0), (5, 4, 0)]
noncomputable def lk6 : List (Nat × Nat × Nat) := [(6, 0, 0), (6, 1, 0), (6, 2, 0), (6, 3, 0), (6, 4, 0), (6, 5, 0)]
theorem lk21_of {P : Nat × Nat × Nat → Bool} (h1 : lAll P lk1 = true) (h2 : lAll P lk2 = true) (h3 : lAll P lk3 = true) (h4 : lAll P lk4 = true) (h5 : lAll P lk5 = true) (h6 : lAll P lk6 = true) : ∀ q ∈ lk21, P q = true := by
  intro q hq
  simp only [lk21, List.mem_cons, List.not_mem_nil, or_false] at hq
  rcases hq with rfl | rfl | rfl | rfl | rfl | rfl | rfl | rfl | rfl | rfl | rfl | rfl | rfl | rfl | rfl | rfl | rfl | rfl | rfl | rfl | rfl
  · exact lAll_mem h1 _ (by simp [lk1])
  · exact lAll_mem h2 _ (by simp [lk2])
  · exact lAll_mem h2 _ (by simp [lk2])
  · exact lAll_mem h3 _ (by simp [lk3])
  · exact lAll_mem h3 _ (by simp [lk3])
  · exact lAll_mem h3 _ (by simp [lk3])
  · exact lAll_mem h4 _ (by simp [lk4])
  · exact lAll_mem h4 _ (by simp [lk4])
  · exact lAll_mem h4 _ (by simp [lk4])
  · exact lAll_mem h4 _ (by simp [lk4])
  · exact lAll_mem h5 _ (by simp [lk5])
  · exact lAll_mem h5 _ (by simp [lk5])
  · exact lAll_mem h5 _ (by simp [lk5])
  · exact lAll_mem h5 _ (by simp [lk5])
  · exact lAll_mem h5 _ (by simp [lk5])
  · exact lAll_mem h6 _ (by simp [lk6])
  · exact lAll_mem h6 _ (by simp [lk6])
  · exact lAll_mem h6 _ (by simp [lk6])
  · exact lAll_mem h6 _ (by simp [lk6])
  · exact lAll_mem h6 _ (by simp [lk6])
  · exact lAll_mem h6 _ (by simp [lk6])
theorem all21 : ∀ q ∈ allLk, (q.1, q.2.1, 0) ∈ lk21 := by
  intro q hq
  simp only [allLk, List.mem_cons, List.not_mem_nil, or_false] at hq
  rcases hq with rfl | rfl | rfl | rfl | rfl | rfl | rfl | rfl | rfl | rfl | rfl | rfl | rfl | rfl | rfl | rfl | rfl | rfl | rfl | rfl | rfl | rfl | rfl | rfl | rfl | rfl | rfl | rfl | rfl | rfl | rfl | rfl | rfl | rfl | rfl | rfl | rfl | rfl | rfl | rfl | rfl | rfl <;> simp [lk21]
noncomputable def seenCode (lc : C) : C := (cSeq (cOps [⟨some 3, true, none, iBox 82 (.t 0)⟩,
 ⟨some 6, true, none, iAlloc 24 [(.int .i64 (.lit 0)), (.int .i64 (.lit 0))]⟩,
 ⟨some 7, true, none, iMov (.c (.bool (.lit false)))⟩])
 (cSeq (cSeq (cOps [⟨some 10, true, none, iMov (.c (.int .i64 (.lit 0)))⟩])
 (cBlock 0 lc))
 (cSeq (cOps [⟨some 34, false, none, iLoadN 2 (.t 6)⟩,
 ⟨some 35, false, none, iMov (.t 7)⟩,
 ⟨none, false, none, iStore 2 (.t 6) (.t 34)⟩,
 ⟨some 7, true, none, iMov (.t 35)⟩])
 cRet)))
theorem seen_compiles (lc : C) : cCodeX lc Sx.Tryd.tt.get Tryd.f84.ntmps Sx.Tryd.kp84 84 (bodyOf Tryd.f84) = some (seenCode lc) := by kernel_rfl
theorem seen_loops : (loopsOf (bodyOf Tryd.f84)).map (cCode Sx.Tryd.tt.get Tryd.f84.ntmps Sx.Tryd.kp84 84) = [some seenBody] := by kernel_rfl
theorem seen_ranges : (loopsOf (bodyOf Tryd.f84)).map ranges = [[]] := by kernel_rfl
noncomputable def seenK (q : Nat × Nat × Nat) : Bool := loopK (seenL q.1 q.2.1) Sx.Tryd.kp84
theorem seen_k : lAll seenK allLk = true := by kernel_rfl
theorem seen_code_ok {q : Nat × Nat × Nat} (hq : q ∈ allLk) : COk pT Tryd.f84.ntmps Sx.Tryd.kp84 (seenCode (seenL q.1 q.2.1).run) (bodyOf Tryd.f84) := by
  refine cCodeX_ok tabs0.types tabs0.mixed _ _ (seen_compiles _) (loopsOk_of _ fun a ha => ?_)
  have h1 : cCode Sx.Tryd.tt.get Tryd.f84.ntmps Sx.Tryd.kp84 84 a = some seenBody := by
    have := List.mem_map_of_mem (f := cCode Sx.Tryd.tt.get Tryd.f84.ntmps Sx.Tryd.kp84 84) ha
    rw [seen_loops] at this
    exact List.mem_singleton.1 this
  have h2 : ranges a = [] := by
    have := List.mem_map_of_mem (f := ranges) ha
    rw [seen_ranges] at this
    exact List.mem_singleton.1 this
  have hk : seenK q = true := lAll_mem seen_k q hq
  simp only [seenK, loopK, Bool.and_eq_true] at hk
  exact LSpec.cok (cCode_ok tabs0.types tabs0.mixed a seenBody h1 (rcOf_rng [] h2 (by simp))) _ hk.1 hk.2.1 hk.2.2 (Nat.le_of_ble_eq_true rfl) cx0_ok rfl (seen_loop hq) (fun _ _ => trivial)
noncomputable def seenC (L k : Nat) : CSpec where
  f := 84
  args := [.agg (progFilm L), li k, vi 90]
  view := [(1002, cellsUp (6 * L) 10)]
  nv := 2000
  cs := rdom k
  u := .br (seenB k) (.ret (.tup [.agg [.int .i64 (seenI 2 k), .int .i64 (seenI 3 k)], .bool (.lit true)])) (.ret (.tup [.agg [.int .i64 (seenI 2 k), .int .i64 (seenI 3 k)], .bool (.lit false)]))
noncomputable def seenTree (L k : Nat) : T (AV × Heap) :=
  (seenCode (seenL L k).run cx0 ⟨84, none⟩ ⟨⟨[], tmOf (seenC L k).args 0 .nil⟩, [], viewHeap 2000 (seenC L k).view⟩).bind (finish ⟨Tryd.f84.params.size + Tryd.f84.nfree, seenCode (seenL L k).run, [.cell 6 true 2, .t 7]⟩)
theorem seen_call {q : Nat × Nat × Nat} (hq : q ∈ allLk) : CallOk pT 84 (seenC q.1 q.2.1).args (viewHeap 2000 (seenC q.1 q.2.1).view) (seenTree q.1 q.2.1) :=
  bodyOf_ok tabs0.types cx0_ok Tryd.func84 (by kernel_rfl) (by kernel_rfl) (seen_code_ok hq) (by kernel_rfl) (by kernel_rfl) (by show 3 ≤ _; exact of_decide_eq_true (by kernel_rfl))
noncomputable def seenCk (q : Nat × Nat × Nat) : Bool := (seenC q.1 q.2.1).chk (seenTree q.1 q.2.1)
theorem seen_ck1 : lAll seenCk lk1 = true := by kernel_rfl
theorem seen_ck2 : lAll seenCk lk2 = true := by kernel_rfl
theorem seen_ck3 : lAll seenCk lk3 = true := by kernel_rfl
theorem seen_ck4 : lAll seenCk lk4 = true := by kernel_rfl
theorem seen_ck5 : lAll seenCk lk5 = true := by kernel_rfl
theorem seen_ck6 : lAll seenCk lk6 = true := by kernel_rfl
theorem seen_cks : ∀ q ∈ lk21, seenCk q = true := lk21_of seen_ck1 seen_ck2 seen_ck3 seen_ck4 seen_ck5 seen_ck6
theorem seen_orc {q : Nat × Nat × Nat} (hq : q ∈ allLk) {args : List AV} {h : Heap} {t : T (AV × Heap)} (ho : (seenC q.1 q.2.1).orc args h = some t) : CallOk pT 84 args h t :=
  CSpec.ok (seen_call hq) (seen_cks _ (all21 q hq)) (Nat.le_of_ble_eq_true rfl) ho

noncomputable def rshowsCode (lc : C) : C := (cSeq (cOps [⟨some 3, true, none, iBox 26 (.t 0)⟩,
 ⟨some 6, true, none, iMov (.c (.int .i64 (.lit 0)))⟩,
 ⟨some 7, true, none, iMov (.c (.int .i64 (.lit 0)))⟩,
 ⟨some 8, true, none, iMov (.c (.int .i64 (.lit 0)))⟩])
 (cSeq (cSeq (dOps 0 [⟨⟨some 14, false, none, iLoadN 6 (.t 3)⟩, [3], false, 0, 2, none, []⟩,
 ⟨⟨some 15, false, none, iLoadN 6 (.t 3)⟩, [3], false, 0, 0, none, []⟩,
 ⟨⟨some 16, false, none, iMov (.t 1)⟩, [1], false, 0, 0, none, []⟩,
 ⟨⟨some 17, false, none, iCall (.c (.func (.func 77) [] [])) [(.t 15), (.t 16)]⟩, [15, 16], true, 0, 0, none, []⟩,
 ⟨⟨some 18, false, none, iMov (.t 17)⟩, [17], false, 1, 1, none, []⟩,
 ⟨⟨some 19, false, some (18, true), iMov (.t 2)⟩, [18, 2], false, 1, 1, none, []⟩,
 ⟨⟨some 20, false, some (18, true), iCall (.c (.func (.func 55) [] [])) [(.t 19), (.c (.int .i64 (.lit 1))), (.c (.int .i64 (.lit 1200)))]⟩, [18, 19], true, 1, 0, none, []⟩,
 ⟨⟨some 21, false, none, iPick (.t 18) (.t 20) (.c (.bool (.lit false)))⟩, [18, 20], false, 2, 2, none, []⟩,
 ⟨⟨some 22, false, none, iCall (.c (.func (.func 65) [] [])) [(.t 14), (.t 21)]⟩, [14, 21], true, 2, 0, none, []⟩,
 ⟨⟨some 9, true, none, iMov (.t 22)⟩, [22], false, 3, 3, none, []⟩])
 (cSeq (cOps [⟨some 23, false, none, iMov (.t 9)⟩,
 ⟨some 24, true, none, iCmp .neq (.t 23) (.c (.int .i64 (.lit 0)))⟩])
 (cCond (.t 24) (cSeq (cOps [⟨some 25, false, none, iMov (.t 9)⟩,
 ⟨some 6, true, none, iMov (.c (.int .i64 (.lit 0)))⟩,
 ⟨some 7, true, none, iMov (.c (.int .i64 (.lit 0)))⟩,
 ⟨some 8, true, none, iMov (.t 25)⟩])
 cRet) cSkip)))
 (cSeq (cOps [⟨some 10, true, none, iMov (.c (.int .i64 (.lit (-1))))⟩,
 ⟨some 11, true, none, iMov (.c (.int .i64 (.lit (-1))))⟩])
 (cSeq (cSeq (cOps [⟨some 12, true, none, iMov (.c (.int .i64 (.lit 0)))⟩])
 (cBlock 0 lc))
 (cSeq (cSeq (cOps [⟨some 44, false, none, iMov (.t 11)⟩,
 ⟨some 45, true, none, iCmp .lss (.t 44) (.c (.int .i64 (.lit 0)))⟩])
 (cCond (.t 45) (cSeq (cOps [⟨some 6, true, none, iMov (.c (.int .i64 (.lit 0)))⟩,
 ⟨some 7, true, none, iMov (.c (.int .i64 (.lit 0)))⟩,
 ⟨some 8, true, none, iMov (.c (.int .i64 (.lit 4)))⟩])
 cRet) cSkip))
 (cSeq (cOps [⟨some 46, false, none, iMov (.t 10)⟩,
 ⟨some 47, false, none, iMov (.t 11)⟩,
 ⟨some 6, true, none, iMov (.t 46)⟩,
 ⟨some 7, true, none, iMov (.t 47)⟩,
 ⟨some 8, true, none, iMov (.c (.int .i64 (.lit 0)))⟩])
 cRet))))))
theorem rshows_compiles (lc : C) : cCodeX lc Sx.Tryd.tt.get Tryd.f33.ntmps Sx.Tryd.kp33 33 (bodyOf Tryd.f33) = some (rshowsCode lc) := by kernel_rfl
theorem rshows_loops : (loopsOf (bodyOf Tryd.f33)).map (cCode Sx.Tryd.tt.get Tryd.f33.ntmps Sx.Tryd.kp33 33) = [some rshowsBody] := by kernel_rfl
theorem rshows_ranges : (loopsOf (bodyOf Tryd.f33)).map ranges = [[]] := by kernel_rfl
noncomputable def rshowsK (q : Nat × Nat × Nat) : Bool := loopK (rshowsL q.1 q.2.1) Sx.Tryd.kp33
theorem rshows_k : lAll rshowsK allLk = true := by kernel_rfl
theorem rshows_code_ok {q : Nat × Nat × Nat} (hq : q ∈ allLk) : COk pT Tryd.f33.ntmps Sx.Tryd.kp33 (rshowsCode (rshowsL q.1 q.2.1).run) (bodyOf Tryd.f33) := by
  refine cCodeX_ok tabs0.types tabs0.mixed _ _ (rshows_compiles _) (loopsOk_of _ fun a ha => ?_)
  have h1 : cCode Sx.Tryd.tt.get Tryd.f33.ntmps Sx.Tryd.kp33 33 a = some rshowsBody := by
    have := List.mem_map_of_mem (f := cCode Sx.Tryd.tt.get Tryd.f33.ntmps Sx.Tryd.kp33 33) ha
    rw [rshows_loops] at this
    exact List.mem_singleton.1 this
  have h2 : ranges a = [] := by
    have := List.mem_map_of_mem (f := ranges) ha
    rw [rshows_ranges] at this
    exact List.mem_singleton.1 this
  have hk : rshowsK q = true := lAll_mem rshows_k q hq
  simp only [rshowsK, loopK, Bool.and_eq_true] at hk
  exact LSpec.cok (cCode_ok tabs0.types tabs0.mixed a rshowsBody h1 (rcOf_rng [] h2 (by simp))) _ hk.1 hk.2.1 hk.2.2 (Nat.le_of_ble_eq_true rfl) cx0_ok rfl (rshows_loop hq) (fun _ _ => trivial)
noncomputable def showsIn : BE := .and (.cmp .leq (.lit 1) (.var 90)) (.cmp .leq (.var 90) (.lit 1200))
noncomputable def noneC (k : Nat) : BE := .cmp .lss (servesV k 1) (.lit 0)
noncomputable def showsOut (k : Nat) (b0 b1 : Bool) : AV := .tup [refOut k 0 b0, refOut k 1 b1, li 0]
noncomputable def rshowsC (L k : Nat) : CSpec where
  f := 33
  args := [.agg [.sliceX 1001 6 0 L, vi 0, vi 1, vi 2, vi 3, vi 4], li k, vi 90]
  view := [(1001, cellsUp (6 * L) 10)]
  nv := 2000
  cs := csL L ++ rdom k
  u := .br showsIn (.br (lessC k 0) (.br (lessC k 1) (.br (noneC k) (.ret (.tup [li 0, li 0, li 4])) (.ret (showsOut k true true))) (.ret (showsOut k true false)))
      (.br (lessC k 1) (.br (noneC k) (.ret (.tup [li 0, li 0, li 4])) (.ret (showsOut k false true))) (.ret (showsOut k false false))))
    (.ret (.tup [li 0, li 0, li 11]))
noncomputable def rshowsTree (L k : Nat) : T (AV × Heap) :=
  (rshowsCode (rshowsL L k).run cx0 ⟨33, none⟩ ⟨⟨[], tmOf (rshowsC L k).args 0 .nil⟩, [], viewHeap 2000 (rshowsC L k).view⟩).bind (finish ⟨Tryd.f33.params.size + Tryd.f33.nfree, rshowsCode (rshowsL L k).run, [.t 6, .t 7, .t 8]⟩)
theorem rshows_call {q : Nat × Nat × Nat} (hq : q ∈ allLk) : CallOk pT 33 (rshowsC q.1 q.2.1).args (viewHeap 2000 (rshowsC q.1 q.2.1).view) (rshowsTree q.1 q.2.1) :=
  bodyOf_ok tabs0.types cx0_ok Tryd.func33 (by kernel_rfl) (by kernel_rfl) (rshows_code_ok hq) (by kernel_rfl) (by kernel_rfl) (by show 3 ≤ _; exact of_decide_eq_true (by kernel_rfl))
noncomputable def rshowsCk (q : Nat × Nat × Nat) : Bool := (rshowsC q.1 q.2.1).chk (rshowsTree q.1 q.2.1)
theorem rshows_ck1 : lAll rshowsCk lk1 = true := by kernel_rfl
theorem rshows_ck2 : lAll rshowsCk lk2 = true := by kernel_rfl
theorem rshows_ck3 : lAll rshowsCk lk3 = true := by kernel_rfl
theorem rshows_ck4 : lAll rshowsCk lk4 = true := by kernel_rfl
theorem rshows_ck5 : lAll rshowsCk lk5 = true := by kernel_rfl
theorem rshows_ck6 : lAll rshowsCk lk6 = true := by kernel_rfl
theorem rshows_cks : ∀ q ∈ lk21, rshowsCk q = true := lk21_of rshows_ck1 rshows_ck2 rshows_ck3 rshows_ck4 rshows_ck5 rshows_ck6
theorem rshows_orc {q : Nat × Nat × Nat} (hq : q ∈ allLk) {args : List AV} {h : Heap} {t : T (AV × Heap)} (ho : (rshowsC q.1 q.2.1).orc args h = some t) : CallOk pT 33 args h t :=
  CSpec.ok (rshows_call hq) (rshows_cks _ (all21 q hq)) (Nat.le_of_ble_eq_true rfl) ho

noncomputable def rseenCode (lc : C) : C := (cSeq (cOps [⟨some 3, true, none, iBox 26 (.t 0)⟩,
 ⟨some 6, true, none, iAlloc 24 [(.int .i64 (.lit 0)), (.int .i64 (.lit 0))]⟩,
 ⟨some 7, true, none, iMov (.c (.int .i64 (.lit 0)))⟩])
 (cSeq (cSeq (dOps 0 [⟨⟨some 11, false, none, iLoadN 6 (.t 3)⟩, [3], false, 0, 2, none, []⟩,
 ⟨⟨some 12, false, none, iLoadN 6 (.t 3)⟩, [3], false, 0, 0, none, []⟩,
 ⟨⟨some 13, false, none, iMov (.t 1)⟩, [1], false, 0, 0, none, []⟩,
 ⟨⟨some 14, false, none, iCall (.c (.func (.func 77) [] [])) [(.t 12), (.t 13)]⟩, [12, 13], true, 0, 0, none, []⟩,
 ⟨⟨some 15, false, none, iMov (.t 14)⟩, [14], false, 1, 1, none, []⟩,
 ⟨⟨some 16, false, some (15, true), iMov (.t 2)⟩, [15, 2], false, 1, 1, none, []⟩,
 ⟨⟨some 17, false, some (15, true), iCall (.c (.func (.func 55) [] [])) [(.t 16), (.c (.int .i64 (.lit 0))), (.c (.int .i64 (.lit 1200)))]⟩, [15, 16], true, 1, 0, none, []⟩,
 ⟨⟨some 18, false, none, iPick (.t 15) (.t 17) (.c (.bool (.lit false)))⟩, [15, 17], false, 2, 2, none, []⟩,
 ⟨⟨some 19, false, none, iCall (.c (.func (.func 65) [] [])) [(.t 11), (.t 18)]⟩, [11, 18], true, 2, 0, none, []⟩,
 ⟨⟨some 8, true, none, iMov (.t 19)⟩, [19], false, 3, 3, none, []⟩])
 (cSeq (cOps [⟨some 20, false, none, iMov (.t 8)⟩,
 ⟨some 21, true, none, iCmp .neq (.t 20) (.c (.int .i64 (.lit 0)))⟩])
 (cCond (.t 21) (cSeq (cOps [⟨some 22, false, none, iBuild [(.int .i64 (.lit 0)), (.int .i64 (.lit 0))] []⟩,
 ⟨some 23, false, none, iMov (.t 8)⟩,
 ⟨none, false, none, iStore 2 (.t 6) (.t 22)⟩,
 ⟨some 7, true, none, iMov (.t 23)⟩])
 cRet) cSkip)))
 (cSeq (cOps [⟨some 24, false, none, iCall (.c (.func (.func 53) [] [])) [(.c (.int .i64 (.lit (-1)))), (.c (.int .i64 (.lit (-1))))]⟩,
 ⟨some 9, true, none, iAlloc 24 [(.int .i64 (.lit 0)), (.int .i64 (.lit 0))]⟩,
 ⟨none, false, none, iStore 2 (.t 9) (.t 24)⟩])
 (cSeq (cSeq (cOps [⟨some 10, true, none, iMov (.c (.int .i64 (.lit 0)))⟩])
 (cBlock 0 lc))
 (cSeq (cSeq (cOps [⟨some 42, false, none, iFaddr 0 (.t 9)⟩,
 ⟨some 43, false, none, iLoad (.t 42)⟩,
 ⟨some 44, true, none, iCmp .lss (.t 43) (.c (.int .i64 (.lit 0)))⟩])
 (cCond (.t 44) (cSeq (cOps [⟨some 45, false, none, iBuild [(.int .i64 (.lit 0)), (.int .i64 (.lit 0))] []⟩,
 ⟨none, false, none, iStore 2 (.t 6) (.t 45)⟩,
 ⟨some 7, true, none, iMov (.c (.int .i64 (.lit 4)))⟩])
 cRet) cSkip))
 (cSeq (cOps [⟨some 46, false, none, iLoadN 2 (.t 9)⟩,
 ⟨none, false, none, iStore 2 (.t 6) (.t 46)⟩,
 ⟨some 7, true, none, iMov (.c (.int .i64 (.lit 0)))⟩])
 cRet))))))
theorem rseen_compiles (lc : C) : cCodeX lc Sx.Tryd.tt.get Tryd.f35.ntmps Sx.Tryd.kp35 35 (bodyOf Tryd.f35) = some (rseenCode lc) := by kernel_rfl
theorem rseen_loops : (loopsOf (bodyOf Tryd.f35)).map (cCode Sx.Tryd.tt.get Tryd.f35.ntmps Sx.Tryd.kp35 35) = [some rseenBody] := by kernel_rfl
theorem rseen_ranges : (loopsOf (bodyOf Tryd.f35)).map ranges = [[]] := by kernel_rfl
noncomputable def rseenK (q : Nat × Nat × Nat) : Bool := loopK (rseenL q.1 q.2.1) Sx.Tryd.kp35
theorem rseen_k : lAll rseenK allLk = true := by kernel_rfl
theorem rseen_code_ok {q : Nat × Nat × Nat} (hq : q ∈ allLk) : COk pT Tryd.f35.ntmps Sx.Tryd.kp35 (rseenCode (rseenL q.1 q.2.1).run) (bodyOf Tryd.f35) := by
  refine cCodeX_ok tabs0.types tabs0.mixed _ _ (rseen_compiles _) (loopsOk_of _ fun a ha => ?_)
  have h1 : cCode Sx.Tryd.tt.get Tryd.f35.ntmps Sx.Tryd.kp35 35 a = some rseenBody := by
    have := List.mem_map_of_mem (f := cCode Sx.Tryd.tt.get Tryd.f35.ntmps Sx.Tryd.kp35 35) ha
    rw [rseen_loops] at this
    exact List.mem_singleton.1 this
  have h2 : ranges a = [] := by
    have := List.mem_map_of_mem (f := ranges) ha
    rw [rseen_ranges] at this
    exact List.mem_singleton.1 this
  have hk : rseenK q = true := lAll_mem rseen_k q hq
  simp only [rseenK, loopK, Bool.and_eq_true] at hk
  exact LSpec.cok (cCode_ok tabs0.types tabs0.mixed a rseenBody h1 (rcOf_rng [] h2 (by simp))) _ hk.1 hk.2.1 hk.2.2 (Nat.le_of_ble_eq_true rfl) cx0_ok rfl (rseen_loop hq) (fun _ _ => trivial)
noncomputable def seenIn : BE := .and (.cmp .leq (.lit 0) (.var 90)) (.cmp .leq (.var 90) (.lit 1200))
noncomputable def rseenC (L k : Nat) : CSpec where
  f := 35
  args := [.agg [.sliceX 1001 6 0 L, vi 0, vi 1, vi 2, vi 3, vi 4], li k, vi 90]
  view := [(1001, cellsUp (6 * L) 10)]
  nv := 2000
  cs := csL L ++ rdom k
  u := .br seenIn (.br (.cmp .lss (seenI 4 k) (.lit 0)) (.ret (.tup [.agg [li 0, li 0], li 4])) (.ret (.tup [.agg [.int .i64 (seenI 4 k), .int .i64 (seenI 5 k)], li 0])))
    (.ret (.tup [.agg [li 0, li 0], li 11]))
noncomputable def rseenTree (L k : Nat) : T (AV × Heap) :=
  (rseenCode (rseenL L k).run cx0 ⟨35, none⟩ ⟨⟨[], tmOf (rseenC L k).args 0 .nil⟩, [], viewHeap 2000 (rseenC L k).view⟩).bind (finish ⟨Tryd.f35.params.size + Tryd.f35.nfree, rseenCode (rseenL L k).run, [.cell 6 true 2, .t 7]⟩)
theorem rseen_call {q : Nat × Nat × Nat} (hq : q ∈ allLk) : CallOk pT 35 (rseenC q.1 q.2.1).args (viewHeap 2000 (rseenC q.1 q.2.1).view) (rseenTree q.1 q.2.1) :=
  bodyOf_ok tabs0.types cx0_ok Tryd.func35 (by kernel_rfl) (by kernel_rfl) (rseen_code_ok hq) (by kernel_rfl) (by kernel_rfl) (by show 3 ≤ _; exact of_decide_eq_true (by kernel_rfl))
noncomputable def rseenCk (q : Nat × Nat × Nat) : Bool := (rseenC q.1 q.2.1).chk (rseenTree q.1 q.2.1)
theorem rseen_ck1 : lAll rseenCk lk1 = true := by kernel_rfl
theorem rseen_ck2 : lAll rseenCk lk2 = true := by kernel_rfl
theorem rseen_ck3 : lAll rseenCk lk3 = true := by kernel_rfl
theorem rseen_ck4 : lAll rseenCk lk4 = true := by kernel_rfl
theorem rseen_ck5 : lAll rseenCk lk5 = true := by kernel_rfl
theorem rseen_ck6 : lAll rseenCk lk6 = true := by kernel_rfl
theorem rseen_cks : ∀ q ∈ lk21, rseenCk q = true := lk21_of rseen_ck1 rseen_ck2 rseen_ck3 rseen_ck4 rseen_ck5 rseen_ck6
theorem rseen_orc {q : Nat × Nat × Nat} (hq : q ∈ allLk) {args : List AV} {h : Heap} {t : T (AV × Heap)} (ho : (rseenC q.1 q.2.1).orc args h = some t) : CallOk pT 35 args h t :=
  CSpec.ok (rseen_call hq) (rseen_cks _ (all21 q hq)) (Nat.le_of_ble_eq_true rfl) ho
end Go.Sx
