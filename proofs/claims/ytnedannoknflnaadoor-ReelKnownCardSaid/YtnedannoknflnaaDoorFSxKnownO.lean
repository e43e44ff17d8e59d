/- CLOSED CALLS THAT ARE TAKEN AS MADE: the layer's examples, and one question of how often a reel was shown. -/
import Derived.Test.YtnedannoknflnaaDoorFSxTurned
import Derived.Test.YtnedannoknflnaaDoorFSxView
/-! CLOSED CALLS THAT ARE TAKEN AS MADE: the layer's examples, and one question of how often a reel was shown. -/
namespace Go.Sx
open Go.RowKit Go.Proofs
set_option maxRecDepth 100000

theorem cells_get {h : Heap} {b : Nat} {cs : List AV} (e : h.cells b = some cs) : ∃ el own ext, h.get b = some (.cells cs el own ext) := by
  unfold Heap.cells at e
  cases hg : h.get b with
  | none => rw [hg] at e; cases e
  | some o =>
    rw [hg] at e
    cases o with
    | cells l el own ext => cases e; exact ⟨el, own, ext, rfl⟩
    | _ => cases e

/-! ## The layer's closed call -/
noncomputable def turnedOrc (args : List AV) (h : Heap) : Option (T (AV × Heap)) :=
  match args with
  | [] => (match h.cells 0, h.cells 1 with
    | some c0, some c1 => cond (and (eqAVs c0 [li 1, li 20, li 0, li 50]) (eqAVs c1 [li 0, li 99, li 0, li 99, li 1, li 1200])) (some (.ret (.bool (.lit true), h))) none
    | _, _ => none)
  | _ => none

theorem turnedOrc_ok {args : List AV} {h : Heap} {t : T (AV × Heap)} (ho : turnedOrc args h = some t) : CallOk pT 25 args h t := by
  unfold turnedOrc at ho
  split at ho
  · split at ho
    · rename_i c0 c1 e0 e1
      cases hc : and (eqAVs c0 [li 1, li 20, li 0, li 50]) (eqAVs c1 [li 0, li 99, li 0, li 99, li 1, li 1200]) with
      | false => rw [hc] at ho; cases ho
      | true =>
        rw [hc] at ho
        cases ho
        simp only [Bool.and_eq_true] at hc
        refine callOk_of fun vs E w0 w Q HH ha k => ?_
        obtain ⟨el0, own0, ext0, g0⟩ := cells_get e0
        obtain ⟨el1, own1, ext1, g1⟩ := cells_get e1
        have v0 := ViewIn.of_heap HH g0
        have v1 := ViewIn.of_heap HH g1
        rw [eqAVs_eq _ _ hc.1] at v0
        rw [eqAVs_eq _ _ hc.2] at v1
        have hg : ∀ g ∈ gl, GlobIn w E.ρ g := by
          intro g hg
          simp only [gl, List.mem_cons, List.not_mem_nil, or_false] at hg
          rcases hg with rfl | rfl
          · obtain ⟨c, base, us, cells, el, fz, q1, q2, q3, q4⟩ := v0
            rw [HH.glob 0 (by omega)] at q1; cases q1
            exact ⟨by omega, us, cells, el, fz, by rw [← q2]; simp only [concL, conc, li, IE.den], q3, fun i hi => by have := q4 i hi; simpa using this⟩
          · obtain ⟨c, base, us, cells, el, fz, q1, q2, q3, q4⟩ := v1
            rw [HH.glob 1 (by omega)] at q1; cases q1
            exact ⟨by omega, us, cells, el, fz, by rw [← q2]; simp only [concL, conc, li, IE.den], q3, fun i hi => by have := q4 i hi; simpa using this⟩
        simp only [concL, Option.some.injEq] at ha
        subst ha
        obtain ⟨h1, hr⟩ := isTrue1_some turned_run
        have key := eval_ok tabs1 100 25 [] (globHeap gl) [] (E0 E.ρ) w w (fun r => r = (.bool (.lit true), h1)) (fun cv w' => cv = .bool true ∧ Below w.heap.size w w') (by rw [hr]; rfl) (start_ok hg) rfl ?_
        · refine ⟨key.1, key.2.mono ?_⟩
          rintro e w' ⟨cv, rfl, rfl, hb⟩
          exact ⟨.bool (.lit true), _, rfl, k, rfl, hb⟩
        · intro v h' E' w' cv q hle HH' hv
          cases q
          simp only [conc, BE.den, Option.some.injEq] at hv
          exact ⟨hv.symm, HH'.below⟩
    · cases ho
  · cases ho


/-! ## How often a reel was shown: none -/
noncomputable def seenArgs : List AV := [.agg [.slice 1000 0 4 4, li 6, li 8, li 1, li 3, li 2000, .map 1001], li 3, li 701]
noncomputable def seenNone : AV := .tup [.agg [li 0, li 0], .bool (.lit false)]
theorem seen_run : retIs seenNone (evalN tb1 100 false 84 seenArgs (viewHeap 2000 [(1000, reelsS)])) = true := by kernel_rfl

noncomputable def seenOrc (args : List AV) (h : Heap) : Option (T (AV × Heap)) :=
  match args with
  | [.agg [.slice b 0 len cap, t1, t2, t3, t4, t5, .map _], r, n] => (match h.cells b with
    | some cs => cond (and (eqAVs [.slice 1000 0 len cap, t1, t2, t3, t4, t5, r, n] [.slice 1000 0 4 4, li 6, li 8, li 1, li 3, li 2000, li 3, li 701]) (eqAVs cs reelsS))
        (some (.ret (seenNone, h))) none
    | none => none)
  | _ => none

theorem seenOrc_ok {args : List AV} {h : Heap} {t : T (AV × Heap)} (ho : seenOrc args h = some t) : CallOk pT 84 args h t := by
  unfold seenOrc at ho
  split at ho
  · rename_i b len cap t1 t2 t3 t4 t5 m r n
    split at ho
    · rename_i cs hcs
      cases hc : and (eqAVs [AV.slice 1000 0 len cap, t1, t2, t3, t4, t5, r, n] [.slice 1000 0 4 4, li 6, li 8, li 1, li 3, li 2000, li 3, li 701]) (eqAVs cs reelsS) with
      | false => rw [hc] at ho; cases ho
      | true =>
        rw [hc] at ho
        cases ho
        simp only [Bool.and_eq_true] at hc
        have e1 := eqAVs_eq _ _ hc.1
        have e2 := eqAVs_eq _ _ hc.2
        simp only [List.cons.injEq, AV.slice.injEq, and_true, true_and] at e1
        obtain ⟨⟨rfl, rfl⟩, rfl, rfl, rfl, rfl, rfl, rfl, rfl⟩ := e1
        subst e2
        refine callOk_of fun vs E w0 w Q HH ha k => ?_
        obtain ⟨el, own, ext, hg⟩ := cells_get hcs
        let ES : Env := ⟨E.ρ, fun i => if i < 1000 then some (i, 0) else if i = 1000 then E.σ b else if i = 1001 then E.σ m else none, fun _ => 0, 2000, fun _ => #[]⟩
        have s0 : ES.σ 1000 = E.σ b := by simp [ES]
        have s1 : ES.σ 1001 = E.σ m := by simp [ES]
        have hargs : concL ES seenArgs = some vs := by
          rw [← ha]
          simp only [seenArgs, concL, conc, s0, s1, li, IE.den]
        have hview : ∀ g ∈ [(1000, reelsS)], ViewIn w ES g := by
          intro g hg'
          rcases List.mem_singleton.1 hg' with rfl
          refine (ViewIn.of_heap HH hg).re s0 ?_
          simp only [reelsS, concL, conc, li, IE.den]
        obtain ⟨hh, hrun⟩ := retIs_some seen_run
        obtain ⟨c1, c2⟩ := call_view tabs1 (d := 100) (f := 84) (Q := fun v => v = seenNone) (l := [(1000, reelsS)]) (n := 2000) (E := ES) (w := w) hview
          (fun i hi => by simp only [ES]; rw [if_neg (by omega), if_neg (by omega), if_neg (by omega)]) (fun i hi => by simp [ES, hi]) (Nat.le_refl _) hargs (by rw [hrun]; rfl)
        refine ⟨c1, c2.mono ?_⟩
        rintro e w' ⟨v, cv, E', rfl, rfl, hle, hcv, hb⟩
        refine ⟨seenNone, cv, rfl, k, ?_, hb⟩
        rw [← hcv]
        simp only [seenNone, conc, concL, li, IE.den, BE.den]
    · cases ho
  · cases ho

/-! ## Whether a film is valid: the films of the closed call -/
theorem concL_li (E E' : Env) : ∀ l : List Int, concL E (l.map li) = concL E' (l.map li)
  | [] => rfl
  | n :: l => by
    simp only [List.map_cons, concL, concL_li E E' l]
    simp only [li, conc, IE.den]

structure CkE where
  (len cap : Nat) (a b c d e : Int) (cs : List Int) (r : Bool)
noncomputable def CkE.key (x : CkE) : List AV := [.slice 1000 0 x.len x.cap, li x.a, li x.b, li x.c, li x.d, li x.e]
noncomputable def g0S : List AV := [li 1, li 20, li 0, li 50]
noncomputable def g1S : List AV := [li 0, li 99, li 0, li 99, li 1, li 1200]
noncomputable def CkE.view (x : CkE) : List (Nat × List AV) := [(1000, x.cs.map li), (0, g0S), (1, g1S)]
noncomputable def CkE.run (x : CkE) : Bool := retIs (.bool (.lit x.r)) (evalN tb1 100 false 68 [.agg x.key] (viewHeap 2000 x.view))

noncomputable def ckL : List CkE := [
  ⟨4, 4, 6, 8, 1, 3, 2000, [10, 12, 20, 20, 900, 900, 1, 1, 9, 11, 950, 1000, 20, 22, 20, 30, 800, 820, 20, 31, 20, 40, 700, 700], true⟩,
  ⟨4, 4, 6, 8, 1, 3, 2000, [10, 12, 20, 20, 900, 900, 1, 1, 5, 6, 950, 1000, 20, 22, 20, 30, 800, 820, 20, 31, 20, 40, 700, 700], true⟩,
  ⟨4, 4, 6, 8, 1, 3, 999, [10, 12, 20, 20, 900, 900, 1, 1, 9, 11, 950, 1000, 20, 22, 20, 30, 800, 820, 20, 31, 20, 40, 700, 700], true⟩,
  ⟨4, 4, 6, 8, 1, 3, 1000, [10, 12, 20, 20, 900, 900, 1, 1, 9, 11, 950, 1000, 20, 22, 20, 30, 800, 820, 20, 31, 20, 40, 700, 700], true⟩,
  ⟨4, 4, 6, 8, 1, 3, 6000, [10, 12, 20, 20, 900, 900, 1, 1, 9, 11, 950, 1000, 20, 22, 20, 30, 800, 820, 20, 31, 20, 40, 700, 700], true⟩,
  ⟨4, 4, 6, 8, 1, 3, 2000, [10, 100, 20, 20, 900, 900, 1, 1, 9, 11, 950, 1000, 20, 22, 20, 30, 800, 820, 20, 31, 20, 40, 700, 700], false⟩,
  ⟨4, 4, 6, 8, 1, 3, 2000, [10, 12, 21, 20, 900, 900, 1, 1, 9, 11, 950, 1000, 20, 22, 20, 30, 800, 820, 20, 31, 20, 40, 700, 700], false⟩,
  ⟨4, 4, 6, 8, 1, 3, 2000, [21, 22, 20, 20, 900, 900, 1, 1, 9, 11, 950, 1000, 20, 22, 20, 30, 800, 820, 20, 31, 20, 40, 700, 700], false⟩,
  ⟨4, 4, 6, 8, 1, 3, 2000, [10, 12, 20, 20, 0, 900, 1, 1, 9, 11, 950, 1000, 20, 22, 20, 30, 800, 820, 20, 31, 20, 40, 700, 700], false⟩,
  ⟨4, 4, 6, 8, 1, 3, 2000, [10, 12, 20, 20, 900, 1201, 1, 1, 9, 11, 950, 1000, 20, 22, 20, 30, 800, 820, 20, 31, 20, 40, 700, 700], false⟩,
  ⟨4, 4, 0, 8, 1, 3, 2000, [10, 12, 20, 20, 900, 900, 1, 1, 9, 11, 950, 1000, 20, 22, 20, 30, 800, 820, 20, 31, 20, 40, 700, 700], false⟩,
  ⟨4, 4, 6, 8, 1, 51, 2000, [10, 12, 20, 20, 900, 900, 1, 1, 9, 11, 950, 1000, 20, 22, 20, 30, 800, 820, 20, 31, 20, 40, 700, 700], false⟩,
  ⟨4, 4, 6, 8, 1, 3, 0, [10, 12, 20, 20, 900, 900, 1, 1, 9, 11, 950, 1000, 20, 22, 20, 30, 800, 820, 20, 31, 20, 40, 700, 700], false⟩,
  ⟨4, 4, 6, 8, 1, 3, 6001, [10, 12, 20, 20, 900, 900, 1, 1, 9, 11, 950, 1000, 20, 22, 20, 30, 800, 820, 20, 31, 20, 40, 700, 700], false⟩]
theorem ck_all : ckL.all CkE.run = true := by kernel_rfl

noncomputable def ckFind (k cs : List AV) : List CkE → Option Bool
  | [] => none
  | x :: l => cond (and (eqAVs k x.key) (eqAVs cs (x.cs.map li))) (some x.r) (ckFind k cs l)
theorem ckFind_some {k cs : List AV} {r : Bool} : ∀ {l : List CkE}, ckFind k cs l = some r → ∃ x ∈ l, k = x.key ∧ cs = x.cs.map li ∧ x.r = r
  | [], h => by cases h
  | x :: l, h => by
    unfold ckFind at h
    cases hc : and (eqAVs k x.key) (eqAVs cs (x.cs.map li)) with
    | true =>
      rw [hc] at h
      simp only [Bool.and_eq_true] at hc
      exact ⟨x, List.mem_cons_self, eqAVs_eq _ _ hc.1, eqAVs_eq _ _ hc.2, Option.some.inj h⟩
    | false =>
      rw [hc] at h
      obtain ⟨y, hy, q⟩ := ckFind_some (l := l) h
      exact ⟨y, List.mem_cons_of_mem _ hy, q⟩

noncomputable def ckOrc (args : List AV) (h : Heap) : Option (T (AV × Heap)) :=
  match args with
  | [.agg [.slice b 0 len cap, t1, t2, t3, t4, t5]] => (match h.cells b, h.cells 0, h.cells 1 with
    | some cs, some c0, some c1 => cond (and (eqAVs c0 g0S) (eqAVs c1 g1S))
        (match ckFind [.slice 1000 0 len cap, t1, t2, t3, t4, t5] cs ckL with
          | some r => some (.ret (.bool (.lit r), h))
          | none => none) none
    | _, _, _ => none)
  | _ => none

theorem ckOrc_ok {args : List AV} {h : Heap} {t : T (AV × Heap)} (ho : ckOrc args h = some t) : CallOk pT 68 args h t := by
  unfold ckOrc at ho
  split at ho
  · rename_i b len cap t1 t2 t3 t4 t5
    split at ho
    · rename_i cs c0 c1 hcs e0 e1
      cases hc : and (eqAVs c0 g0S) (eqAVs c1 g1S) with
      | false => rw [hc] at ho; cases ho
      | true =>
        rw [hc, cond_true] at ho
        split at ho
        · rename_i r hf
          cases ho
          simp only [Bool.and_eq_true] at hc
          obtain ⟨x, hx, k1, k2, rfl⟩ := ckFind_some hf
          have hrun0 : x.run = true := List.all_eq_true.1 ck_all x hx
          simp only [CkE.key, List.cons.injEq, AV.slice.injEq, and_true, true_and] at k1
          obtain ⟨⟨rfl, rfl⟩, rfl, rfl, rfl, rfl, rfl⟩ := k1
          subst k2
          have z0 := eqAVs_eq _ _ hc.1
          have z1 := eqAVs_eq _ _ hc.2
          subst z0; subst z1
          refine callOk_of fun vs E w0 w Q HH ha k => ?_
          obtain ⟨el, own, ext, hg⟩ := cells_get hcs
          obtain ⟨el0, own0, ext0, hg0⟩ := cells_get e0
          obtain ⟨el1, own1, ext1, hg1⟩ := cells_get e1
          let ES : Env := ⟨E.ρ, fun i => if i < 1000 then some (i, 0) else if i = 1000 then E.σ b else none, fun _ => 0, 2000, fun _ => #[]⟩
          have s0 : ES.σ 1000 = E.σ b := by simp [ES]
          have hargs : concL ES [.agg x.key] = some vs := by
            rw [← ha]
            simp only [CkE.key, concL, conc, s0, li, IE.den]
          have hview : ∀ g ∈ x.view, ViewIn w ES g := by
            intro g hg'
            simp only [CkE.view, List.mem_cons, List.not_mem_nil, or_false] at hg'
            rcases hg' with rfl | rfl | rfl
            · exact (ViewIn.of_heap HH hg).re s0 (concL_li _ _ _)
            · exact (ViewIn.of_heap HH hg0).re (by rw [HH.glob 0 (by omega)]; simp [ES]) (by simp only [g0S, concL, conc, li, IE.den])
            · exact (ViewIn.of_heap HH hg1).re (by rw [HH.glob 1 (by omega)]; simp [ES]) (by simp only [g1S, concL, conc, li, IE.den])
          obtain ⟨hh, hrun⟩ := retIs_some hrun0
          obtain ⟨c1, c2⟩ := call_view tabs1 (d := 100) (f := 68) (Q := fun v => v = .bool (.lit x.r)) (l := x.view) (n := 2000) (E := ES) (w := w) hview
            (fun i hi => by simp only [ES]; rw [if_neg (by omega), if_neg (by omega)]) (fun i hi => by simp [ES, hi]) (Nat.le_refl _) hargs (by rw [hrun]; rfl)
          refine ⟨c1, c2.mono ?_⟩
          rintro e w' ⟨v, cv, E', rfl, rfl, hle, hcv, hb⟩
          refine ⟨.bool (.lit x.r), cv, rfl, k, ?_, hb⟩
          rw [← hcv]
          simp only [conc, BE.den]
        · cases ho
    · cases ho
  · cases ho

noncomputable def orcK (f : FuncId) (args : List AV) (h : Heap) : Option (T (AV × Heap)) :=
  cond (Nat.beq f 25) (turnedOrc args h) (cond (Nat.beq f 68) (ckOrc args h) (cond (Nat.beq f 84) (seenOrc args h) none))
theorem orcK_ok : ∀ f args h t, orcK f args h = some t → CallOk pT f args h t := by
  intro f args h t e
  unfold orcK at e
  cases h1 : Nat.beq f 25 with
  | true => rw [h1] at e; have := beq_t.1 h1; subst this; exact turnedOrc_ok e
  | false =>
    rw [h1, cond_false] at e
    cases h2 : Nat.beq f 68 with
    | true => rw [h2] at e; have := beq_t.1 h2; subst this; exact ckOrc_ok e
    | false =>
      rw [h2, cond_false] at e
      cases h3 : Nat.beq f 84 with
      | true => rw [h3] at e; have := beq_t.1 h3; subst this; exact seenOrc_ok e
      | false => rw [h3] at e; cases e

noncomputable def tbK : Tabs := ⟨Sx.Tryd.ft.get, lFind Sx.Tryd.rt, 2000, orcK⟩
theorem tabsK : TabOk pT Sx.Tryd.tt.get tbK := Tryd.tab orcK orcK_ok 2000

end Go.Sx
