/- THE LAYER's CALLS ON A LAW's FILM, TAKEN AS SAID. -/
import Derived.Test.YtnedannoknflnaaDoorSxFilm
import Derived.Test.YtnedannoknflnaaDoorSxTurned
/-! THE LAYER's CALLS ON A LAW's FILM, TAKEN AS SAID. -/
namespace Go.Sx
open Go.RowKit Go.Proofs
set_option maxRecDepth 100000

/-! ## Variables below 99 -/
def belowI : IE → Bool
  | .lit _ => true
  | .var i => Nat.ble (i + 1) 99
  | .bin _ _ a b => and (belowI a) (belowI b)
  | .conv _ a => belowI a
  | .mx a b => and (belowI a) (belowI b)
  | .mn a b => and (belowI a) (belowI b)
  | .app _ _ _ _ => false
def belowB : BE → Bool
  | .lit _ => true
  | .var _ => false
  | .not a => belowB a
  | .and a b => and (belowB a) (belowB b)
  | .cmp _ a b => and (belowI a) (belowI b)
  | .iff a b => and (belowB a) (belowB b)
  | .app _ _ _ _ => false

def Rho.set (ρ : Rho) (k : Nat) (z : Int) : Rho := ⟨fun j => if j = k then z else ρ.iv j, ρ.bv, ρ.fi, ρ.fb, ρ.ov⟩

theorem denI_set (ρ : Rho) (z : Int) : ∀ e, belowI e = true → e.den (ρ.set 99 z) = e.den ρ
  | .lit _, _ => rfl
  | .var i, h => by
    have := ble_t.1 (show Nat.ble (i + 1) 99 = true from h)
    simp only [IE.den, Rho.set]; rw [if_neg (by omega)]
  | .bin o k a b, h => by
    simp only [belowI, Bool.and_eq_true] at h
    simp only [IE.den, denI_set ρ z a h.1, denI_set ρ z b h.2]
  | .conv k a, h => by simp only [IE.den, denI_set ρ z a (by simpa [belowI] using h)]
  | .mx a b, h => by
    simp only [belowI, Bool.and_eq_true] at h
    simp only [IE.den, denI_set ρ z a h.1, denI_set ρ z b h.2]
  | .mn a b, h => by
    simp only [belowI, Bool.and_eq_true] at h
    simp only [IE.den, denI_set ρ z a h.1, denI_set ρ z b h.2]
  | .app .., h => by simp [belowI] at h
theorem denB_set (ρ : Rho) (z : Int) : ∀ e, belowB e = true → e.den (ρ.set 99 z) = e.den ρ
  | .lit _, _ => rfl
  | .var i, h => by simp [belowB] at h
  | .not a, h => by simp only [BE.den, denB_set ρ z a (by simpa [belowB] using h)]
  | .and a b, h => by
    simp only [belowB, Bool.and_eq_true] at h
    simp only [BE.den, denB_set ρ z a h.1, denB_set ρ z b h.2]
  | .cmp o a b, h => by
    simp only [belowB, Bool.and_eq_true] at h
    simp only [BE.den, denI_set ρ z a h.1, denI_set ρ z b h.2]
  | .iff a b, h => by
    simp only [belowB, Bool.and_eq_true] at h
    simp only [BE.den, denB_set ρ z a h.1, denB_set ρ z b h.2]
  | .app .., h => by simp [belowB] at h

/-! ## A list of conditions as one -/
def conjB : List BE → BE
  | [] => .lit true
  | c :: l => .and c (conjB l)
theorem conjB_den {ρ : Rho} : ∀ (l : List BE), (conjB l).den ρ = true ↔ ∀ c ∈ l, c.den ρ = true
  | [] => by simp [conjB, BE.den]
  | c :: l => by
    rw [conjB, BE.t_and, conjB_den l]
    simp

/-! ## The film -/
theorem cellsUp_conc (E E' : Env) : ∀ (k i : Nat), (∀ j, i ≤ j → j < i + k → E'.ρ.iv j = E.ρ.iv j) → concL E' (cellsUp k i) = concL E (cellsUp k i)
  | 0, i, _ => rfl
  | k + 1, i, h => by
    simp only [cellsUp, vi, concL, conc, IE.den]
    rw [h i (Nat.le_refl _) (by omega), cellsUp_conc E E' k (i + 1) fun j h1 h2 => h j (by omega) (by omega)]

def viewEnv (E : Env) (ρ : Rho) : Env := ⟨ρ, fun b => if b < 1000 then some (b, 0) else if b = 1000 then E.σ 1000 else none, E.κ, 2000⟩

noncomputable def seesFilm (L : Nat) (h : Heap) : Bool :=
  match h.cells 1000, h.cells 0, h.cells 1 with
  | some c, some c0, some c1 => and (eqAVs c (cellsL L)) (and (eqAVs c0 [li 1, li 20, li 0, li 50]) (eqAVs c1 [li 0, li 99, li 0, li 99, li 1, li 1200]))
  | _, _, _ => false

theorem cells_get {h : Heap} {b : Nat} {cs : List AV} (e : h.cells b = some cs) : ∃ el own ext, h.get b = some (.cells cs el own ext) := by
  unfold Heap.cells at e
  cases hg : h.get b with
  | none => rw [hg] at e; cases e
  | some o =>
    rw [hg] at e
    cases o with
    | cells l el own ext => cases e; exact ⟨el, own, ext, rfl⟩
    | _ => cases e

theorem seesFilm_view {p : Par} {E : Env} {h : Heap} {w0 w : World} (HH : HeapOk p E h w0 w) {L : Nat} (hL : L ≤ 6) (hs : seesFilm L h = true) (ρ : Rho) (hρ : ∀ j, j < 99 → ρ.iv j = E.ρ.iv j) : ∀ g ∈ viewsL L, ViewIn w (viewEnv E ρ) g := by
  unfold seesFilm at hs
  split at hs
  · rename_i c c0 c1 e e0 e1
    simp only [Bool.and_eq_true] at hs
    obtain ⟨el, own, ext, g⟩ := cells_get e
    obtain ⟨el0, own0, ext0, g0⟩ := cells_get e0
    obtain ⟨el1, own1, ext1, g1⟩ := cells_get e1
    have v := ViewIn.of_heap HH g
    have v0 := ViewIn.of_heap HH g0
    have v1 := ViewIn.of_heap HH g1
    rw [eqAVs_eq _ _ hs.1] at v
    rw [eqAVs_eq _ _ hs.2.1] at v0
    rw [eqAVs_eq _ _ hs.2.2] at v1
    intro q hq
    simp only [viewsL, glL, List.mem_cons, List.not_mem_nil, or_false] at hq
    rcases hq with rfl | rfl | rfl
    · refine v.re (by simp [viewEnv]) ?_
      exact cellsUp_conc E (viewEnv E ρ) (6 * L) 10 fun j h1 h2 => hρ j (by omega)
    · refine v0.re (by simp only [viewEnv]; rw [if_pos (by omega), HH.glob 0 (by omega)]) ?_
      simp only [concL, conc, li, IE.den]
    · refine v1.re (by simp only [viewEnv]; rw [if_pos (by omega), HH.glob 1 (by omega)]) ?_
      simp only [concL, conc, li, IE.den]
  · cases hs

theorem concL_congr {E E' : Env} {a b : AV} {l m : List AV} (h : conc E' a = conc E b) (k : concL E' l = concL E m) : concL E' (a :: l) = concL E (b :: m) := by
  simp only [concL, h, k]
theorem conc_agg_congr {E E' : Env} {l m : List AV} (k : concL E' l = concL E m) : conc E' (.agg l) = conc E (.agg m) := by
  simp only [conc, k]
theorem conc_int_congr {E E' : Env} {kd : IntKind} {a b : IE} (k : a.den E'.ρ = b.den E.ρ) : conc E' (.int kd a) = conc E (.int kd b) := by
  simp only [conc, k]
theorem viewEnv_1000 (E : Env) (ρ : Rho) : (viewEnv E ρ).σ 1000 = E.σ 1000 := by simp [viewEnv]

theorem film_conc (E : Env) (ρ : Rho) (hρ : ∀ j, j < 99 → ρ.iv j = E.ρ.iv j) (L : Nat) : conc (viewEnv E ρ) (filmL L) = conc E (filmL L) := by
  have v : ∀ j, j < 99 → conc (viewEnv E ρ) (vi j) = conc E (vi j) := fun j hj => conc_int_congr (hρ j hj)
  refine conc_agg_congr (concL_congr ?_ (concL_congr (v 0 (by omega)) (concL_congr (v 1 (by omega)) (concL_congr (v 2 (by omega)) (concL_congr (v 3 (by omega)) (concL_congr (v 4 (by omega)) rfl))))))
  simp only [conc, viewEnv_1000]
  rfl

theorem viewEnv_none (E : Env) (ρ : Rho) (b : Nat) (hb : 2000 ≤ b) : (viewEnv E ρ).σ b = none := by
  simp only [viewEnv]; rw [if_neg (by omega), if_neg (by omega)]
theorem viewEnv_glob (E : Env) (ρ : Rho) (b : Nat) (hb : b < 1000) : (viewEnv E ρ).σ b = some (b, 0) := by
  simp only [viewEnv]; rw [if_pos hb]

/-- which film, if it is one -/
noncomputable def asFilm (v : AV) : Option Nat :=
  match v with
  | .agg (.sliceX _ _ _ L :: _) => cond (and (and (Nat.ble 1 L) (Nat.ble L 6)) (eqAV v (filmL L))) (some L) none
  | _ => none
theorem asFilm_some {v : AV} {L : Nat} (h : asFilm v = some L) : 1 ≤ L ∧ L ≤ 6 ∧ v = filmL L := by
  unfold asFilm at h
  split at h
  · rename_i b s lo L' r
    cases hc : and (and (Nat.ble 1 L') (Nat.ble L' 6)) (eqAV (.agg (.sliceX b s lo L' :: r)) (filmL L')) with
    | false => rw [hc] at h; cases h
    | true =>
      rw [hc] at h
      cases h
      simp only [Bool.and_eq_true] at hc
      exact ⟨ble_t.1 hc.1.1, ble_t.1 hc.1.2, eqAV_eq _ _ hc.2⟩
  · cases h

/-! ## Is it one? -/
noncomputable def soundOrc (args : List AV) (h : Heap) : Option (T (AV × Heap)) :=
  match args with
  | [v] => (match asFilm v with
    | some L => cond (seesFilm L h) (some (.br (conjB (csL L)) (.ret (.bool (.lit true), h)) (.ret (.bool (.lit false), h)))) none
    | none => none)
  | _ => none

theorem soundOrc_ok (B : TabOk pT Sx.Tryd.tt.get tb0) {args : List AV} {h : Heap} {t : T (AV × Heap)} (ho : soundOrc args h = some t) : CallOk pT 43 args h t := by
  unfold soundOrc at ho
  split at ho
  · rename_i v
    split at ho
    · rename_i L hf
      obtain ⟨h1, h6, rfl⟩ := asFilm_some hf
      cases hs : seesFilm L h with
      | false => rw [hs] at ho; cases ho
      | true =>
        rw [hs] at ho
        cases ho
        refine callOk_of fun vs E w0 w Q HH ha k => ?_
        have hrun : (evalN tb0 30 false 43 [filmL L] (viewHeap 2000 (viewsL L))).Holds (viewEnv E E.ρ).ρ (fun r => Q (r.1, h) ∧ pureAV r.1 = true) := by
          have : (soundT L).Holds E.ρ (fun v => Q (v, h) ∧ pureAV v = true) := by
            have hc := sound_run h1 h6
            unfold soundChk at hc
            split at hc
            · rename_i q hq
              simp only [Bool.and_eq_true] at hc
              obtain ⟨e1, e2, e3⟩ := hc
              simp only [T.Holds] at k
              by_cases hv : (conjB (csL L)).den E.ρ = true
              · rw [if_pos hv] at k
                refine goTrue_put _ q.1 q.2 (chainF_go _ q hq) (fun c hc => (conjB_den _).1 hv c (allIn_mem e2 c hc)) ?_
                rw [eqAV_eq _ _ e1]; exact ⟨k, rfl⟩
              · rw [if_neg hv] at k
                refine chainF_put ⟨k, rfl⟩ _ q.1 q.2 hq ?_
                apply Classical.byContradiction
                intro hn
                refine hv ((conjB_den _).2 fun c hc => ?_)
                apply Classical.byContradiction
                intro hcn
                exact hn ⟨c, allIn_mem e3 c hc, hcn⟩
            · cases hc
          unfold soundT at this
          rw [T.holds_map] at this
          exact this
        have hargs : concL (viewEnv E E.ρ) [filmL L] = some vs := by
          rw [← ha]; exact concL_congr (film_conc E E.ρ (fun _ _ => rfl) L) rfl
        obtain ⟨c1, c2⟩ := call_view B (d := 30) (f := 43) (Q := fun v => Q (v, h) ∧ pureAV v = true) (l := viewsL L) (n := 2000) (E := viewEnv E E.ρ) (w := w)
          (seesFilm_view HH h6 hs E.ρ (fun _ _ => rfl)) (viewEnv_none E E.ρ) (viewEnv_glob E E.ρ) (Nat.le_refl _) hargs hrun
        refine ⟨c1, c2.mono ?_⟩
        rintro e w' ⟨v, cv, E', rfl, ⟨q1, q2⟩, hle, hcv, hb⟩
        refine ⟨v, cv, rfl, q1, ?_, hb⟩
        rw [← hcv]
        exact (conc_pure (E := E) (E' := E') (hle.ρ.trans rfl) v q2).symm
    · cases ho
  · cases ho

/-! ## How many feet -/
noncomputable def wornOrcL (args : List AV) (h : Heap) : Option (T (AV × Heap)) :=
  match args with
  | [v, .int .i64 (.lit (.ofNat k)), .int .i64 n] => (match asFilm v with
    | some L => cond (and (Nat.ble (k + 1) L) (seesFilm L h)) (some (.br (conjB (nC n ++ csL L)) (.ret (wornV k n, h)) (.fail 77))) none
    | none => none)
  | _ => none

theorem csUp_below : ∀ (k b : Nat), b + 6 * k ≤ 93 → ∀ c ∈ csUp k b, belowB c = true
  | 0, b, _, c, hc => by
    simp only [csUp, restC, List.mem_cons, List.not_mem_nil, or_false] at hc
    rcases hc with rfl | rfl | rfl | rfl | rfl | rfl | rfl | rfl <;> rfl
  | k + 1, b, h, c, hc => by
    simp only [csUp, List.mem_append] at hc
    rcases hc with hc | hc
    · have v : ∀ j, j < 6 → Nat.ble (b + j + 1) 99 = true := fun j hj => ble_t.2 (by omega)
      simp only [reelC, List.mem_cons, List.not_mem_nil, or_false] at hc
      have v0 := v 0 (by omega); have v1 := v 1 (by omega); have v2 := v 2 (by omega); have v3 := v 3 (by omega); have v4 := v 4 (by omega); have v5 := v 5 (by omega)
      rcases hc with rfl | rfl | rfl | rfl | rfl | rfl | rfl | rfl | rfl | rfl <;> simp only [le2, belowB, belowI, Bool.and_eq_true, true_and, and_true] <;> first | exact ⟨v0, v1⟩ | exact ⟨v2, v3⟩ | exact ⟨v4, v5⟩ | exact ⟨v0, v3⟩ | exact v0 | exact v1 | exact v2 | exact v3 | exact v4 | exact v5
    · exact csUp_below k (b + 6) (by omega) c hc

theorem wornOrcL_ok (B : TabOk pT Sx.Tryd.tt.get tb0) {args : List AV} {h : Heap} {t : T (AV × Heap)} (ho : wornOrcL args h = some t) : CallOk pT 30 args h t := by
  unfold wornOrcL at ho
  split at ho
  · rename_i v k n
    split at ho
    · rename_i L hf
      obtain ⟨h1, h6, rfl⟩ := asFilm_some hf
      cases hs : and (Nat.ble (k + 1) L) (seesFilm L h) with
      | false => rw [hs] at ho; cases ho
      | true =>
        rw [hs] at ho
        cases ho
        simp only [Bool.and_eq_true] at hs
        have hk := ble_t.1 hs.1
        refine callOk_of fun vs E w0 w Q HH ha kq => ?_
        simp only [T.Holds] at kq
        split at kq
        · rename_i hv
          have hall := (conjB_den _).1 hv
          let ρ := E.ρ.set 99 (n.den E.ρ)
          have hρ : ∀ j, j < 99 → ρ.iv j = E.ρ.iv j := fun j hj => by simp only [ρ, Rho.set]; rw [if_neg (by omega)]
          have h99 : ρ.iv 99 = n.den E.ρ := by simp [ρ, Rho.set]
          have hwv : conc (viewEnv E ρ) (wornV k (.var 99)) = conc E (wornV k n) := by
            have d1 : (wornLo k (.var 99)).den ρ = (wornLo k n).den E.ρ := by simp only [wornLo, IE.den_mx, IE.den_lit, IE.den_sub, IE.den_mul, IE.den_var, hρ (6 * k + 14) (by omega), hρ 3 (by omega), h99]
            have d2 : (wornHi k (.var 99)).den ρ = (wornHi k n).den E.ρ := by simp only [wornHi, IE.den_mx, IE.den_lit, IE.den_sub, IE.den_mul, IE.den_var, hρ (6 * k + 15) (by omega), hρ 2 (by omega), h99]
            have e1 : concL (viewEnv E ρ) [.agg [.int .i64 (wornLo k (.var 99)), .int .i64 (wornHi k (.var 99))], li 0] = concL E [.agg [.int .i64 (wornLo k n), .int .i64 (wornHi k n)], li 0] :=
              concL_congr (conc_agg_congr (concL_congr (conc_int_congr d1) (concL_congr (conc_int_congr d2) rfl))) (concL_congr (conc_int_congr rfl) rfl)
            simp only [wornV, conc]
            rw [e1]
          have hrun : (evalN tb0 30 false 30 [filmL L, li k, vi 99] (viewHeap 2000 (viewsL L))).Holds (viewEnv E ρ).ρ (fun r => r.1 = wornV k (.var 99)) := by
            have : (wornT L k).Holds ρ (fun v => v = wornV k (.var 99)) := by
              have hc := List.all_eq_true.1 (worn_runs h1 h6) k (by simp; omega)
              unfold wornChk at hc
              split at hc
              · rename_i q hq
                simp only [Bool.and_eq_true] at hc
                refine goTrue_put _ q.1 q.2 hq (fun c hc' => ?_) (eqAV_eq _ _ hc.1)
                have hm := allIn_mem hc.2 c hc'
                rcases List.mem_append.1 hm with hm | hm
                · simp only [nC, List.mem_cons, List.not_mem_nil, or_false] at hm
                  have g1 := hall (.cmp .geq n (.lit 0)) (by simp [nC])
                  have g2 := hall (.cmp .leq n (.lit 999)) (by simp [nC])
                  rcases hm with rfl | rfl
                  · rw [BE.t_geq] at g1 ⊢; simp only [IE.den, h99] at g1 ⊢; exact g1
                  · rw [BE.t_leq] at g2 ⊢; simp only [IE.den, h99] at g2 ⊢; exact g2
                · rw [denB_set E.ρ (n.den E.ρ) c (csUp_below L 10 (by omega) c hm)]
                  exact hall c (List.mem_append.2 (.inr hm))
              · cases hc
            unfold wornT at this
            rw [T.holds_map] at this
            exact this
          have hargs : concL (viewEnv E ρ) [filmL L, li k, vi 99] = some vs := by
            rw [← ha]
            exact concL_congr (film_conc E ρ hρ L) (concL_congr (conc_int_congr rfl) (concL_congr (conc_int_congr h99) rfl))
          obtain ⟨c1, c2⟩ := call_view B (d := 30) (f := 30) (Q := fun v => v = wornV k (.var 99)) (l := viewsL L) (n := 2000) (E := viewEnv E ρ) (w := w)
            (seesFilm_view HH h6 hs.2 ρ hρ) (viewEnv_none E ρ) (viewEnv_glob E ρ) (Nat.le_refl _) hargs hrun
          refine ⟨c1, c2.mono ?_⟩
          rintro e w' ⟨v, cv, E', rfl, rfl, hle, hcv, hb⟩
          refine ⟨wornV k n, cv, rfl, kq, ?_, hb⟩
          rw [← hwv, ← hcv]
          exact (conc_pure (E := viewEnv E ρ) (E' := E') hle.ρ (wornV k (.var 99)) rfl).symm
        · exact kq.elim
    · cases ho
  · cases ho

/-! ## The layer's closed call -/
noncomputable def turnedOrc (args : List AV) (h : Heap) : Option (T (AV × Heap)) :=
  match args with
  | [] => (match h.cells 0, h.cells 1 with
    | some c0, some c1 => cond (and (eqAVs c0 [li 1, li 20, li 0, li 50]) (eqAVs c1 [li 0, li 99, li 0, li 99, li 1, li 1200])) (some (.ret (.bool (.lit true), h))) none
    | _, _ => none)
  | _ => none

theorem turnedOrc_ok {args : List AV} {h : Heap} {t : T (AV × Heap)} (ho : turnedOrc args h = some t) : CallOk pT 25 args h t := by
  unfold turnedOrc at ho
  split at ho
  · split at ho
    · rename_i c0 c1 e0 e1
      cases hc : and (eqAVs c0 [li 1, li 20, li 0, li 50]) (eqAVs c1 [li 0, li 99, li 0, li 99, li 1, li 1200]) with
      | false => rw [hc] at ho; cases ho
      | true =>
        rw [hc] at ho
        cases ho
        simp only [Bool.and_eq_true] at hc
        refine callOk_of fun vs E w0 w Q HH ha k => ?_
        obtain ⟨el0, own0, ext0, g0⟩ := cells_get e0
        obtain ⟨el1, own1, ext1, g1⟩ := cells_get e1
        have v0 := ViewIn.of_heap HH g0
        have v1 := ViewIn.of_heap HH g1
        rw [eqAVs_eq _ _ hc.1] at v0
        rw [eqAVs_eq _ _ hc.2] at v1
        have hg : ∀ g ∈ gl, GlobIn w E.ρ g := by
          intro g hg
          simp only [gl, List.mem_cons, List.not_mem_nil, or_false] at hg
          rcases hg with rfl | rfl
          · obtain ⟨c, base, us, cells, el, fz, q1, q2, q3, q4⟩ := v0
            rw [HH.glob 0 (by omega)] at q1; cases q1
            exact ⟨by omega, us, cells, el, fz, by rw [← q2]; simp only [concL, conc, li, IE.den], q3, fun i hi => by have := q4 i hi; simpa using this⟩
          · obtain ⟨c, base, us, cells, el, fz, q1, q2, q3, q4⟩ := v1
            rw [HH.glob 1 (by omega)] at q1; cases q1
            exact ⟨by omega, us, cells, el, fz, by rw [← q2]; simp only [concL, conc, li, IE.den], q3, fun i hi => by have := q4 i hi; simpa using this⟩
        simp only [concL, Option.some.injEq] at ha
        subst ha
        obtain ⟨h1, hr⟩ := isTrue1_some turned_run
        have key := eval_ok tabs1 100 25 [] (globHeap gl) [] (E0 E.ρ) w w (fun r => r = (.bool (.lit true), h1)) (fun cv w' => cv = .bool true ∧ Below w.heap.size w w') (by rw [hr]; rfl) (start_ok hg) rfl ?_
        · refine ⟨key.1, key.2.mono ?_⟩
          rintro e w' ⟨cv, rfl, rfl, hb⟩
          exact ⟨.bool (.lit true), _, rfl, k, rfl, hb⟩
        · intro v h' E' w' cv q hle HH' hv
          cases q
          simp only [conc, BE.den, Option.some.injEq] at hv
          exact ⟨hv.symm, HH'.below⟩
    · cases ho
  · cases ho

end Go.Sx
