/- THE LOOP OF THE LAW OF BOTH ENDS. -/
import Derived.Test.YtnedannoknflnaaDoorSxTurned
import Derived.Test.YtnedannoknflnaaDoorSxLoop
/-! THE LOOP OF THE LAW OF BOTH ENDS. -/
namespace Go.Sx
open Go.RowKit Go.Proofs
set_option maxRecDepth 100000

noncomputable def endsBody : C := (cSeq (cSeq (cOps [⟨some 56, false, none, iMov (.t 13)⟩,
 ⟨some 57, false, none, iMov (.t 6)⟩,
 ⟨some 58, true, none, iCmp .lss (.t 56) (.t 57)⟩])
 (cCond (.t 58) cSkip (cExit 0)))
 (cSeq (cBlock 1 (dOps [⟨⟨some 61, false, none, iMov (.t 11)⟩, [11], false, 0, 0⟩,
 ⟨⟨some 62, false, none, iFaddr 3 (.t 2)⟩, [2], false, 0, 0⟩,
 ⟨⟨some 63, false, none, iFaddr 1 (.t 62)⟩, [62], false, 0, 0⟩,
 ⟨⟨some 64, false, none, iLoad (.t 63)⟩, [63], false, 0, 0⟩,
 ⟨⟨some 65, false, none, iArith .sub (.t 61) (.t 64)⟩, [61, 64], false, 0, 0⟩,
 ⟨⟨some 66, false, none, iMax [(.c (.int .i64 (.lit 0))), (.t 65)]⟩, [65], false, 0, 0⟩,
 ⟨⟨some 67, false, none, iMov (.t 12)⟩, [12], false, 0, 0⟩,
 ⟨⟨some 68, false, none, iFaddr 3 (.t 2)⟩, [2], false, 0, 0⟩,
 ⟨⟨some 69, false, none, iFaddr 0 (.t 68)⟩, [68], false, 0, 0⟩,
 ⟨⟨some 70, false, none, iLoad (.t 69)⟩, [69], false, 0, 0⟩,
 ⟨⟨some 71, false, none, iArith .sub (.t 67) (.t 70)⟩, [67, 70], false, 0, 0⟩,
 ⟨⟨some 72, false, none, iMax [(.c (.int .i64 (.lit 0))), (.t 71)]⟩, [71], false, 0, 0⟩,
 ⟨⟨some 11, true, none, iMov (.t 66)⟩, [66], false, 0, 0⟩,
 ⟨⟨some 12, true, none, iMov (.t 72)⟩, [72], false, 0, 0⟩]))
 (cOps [⟨some 59, false, none, iMov (.t 13)⟩,
 ⟨some 60, false, none, iArith .add (.t 59) (.c (.int .i64 (.lit 1)))⟩,
 ⟨some 13, true, none, iMov (.t 60)⟩])))

noncomputable def endsSl : List (Nat × AV) := [(2, .ptr 1000 0), (5, .opq 5), (6, .int .i64 (.var 0)), (7, .opq 7), (8, .opq 8), (9, .opq 9), (10, .opq 10), (11, .int .i64 (.var 1)), (12, .int .i64 (.var 2)), (13, .int .i64 (.var 3))]
noncomputable def endsH : Heap := viewHeap 2000 [(1000, [.opq 20, .opq 21, .opq 22, .int .i64 (.var 4), .int .i64 (.var 5), .opq 23])]
noncomputable def endsS : St := ⟨⟨[], treeOf endsSl⟩, [], endsH⟩
noncomputable def endsE1 : IE := .mx (.lit 0) (.bin .sub .i64 (.var 1) (.var 5))
noncomputable def endsE2 : IE := .mx (.lit 0) (.bin .sub .i64 (.var 2) (.var 4))
noncomputable def endsE3 : IE := .bin .add .i64 (.var 3) (.lit 1)
noncomputable def endsT1 : PT AV := ((((treeOf endsSl).set 58 (.bool (.lit true))).set 11 (.int .i64 endsE1)).set 12 (.int .i64 endsE2)).set 13 (.int .i64 endsE3)
noncomputable def endsT2 : PT AV := (treeOf endsSl).set 58 (.bool (.lit false))

theorem ends_iter (cx : Cx) (wh : Wh) : endsBody cx wh endsS = .br (.cmp .lss (.var 3) (.var 0)) (.ret (.norm, ⟨⟨[], endsT1⟩, [], endsH⟩)) (.ret (.exit 0, ⟨⟨[], endsT2⟩, [], endsH⟩)) := by kernel_rfl

/-! ## The loop, taken as said -/
noncomputable def slotsA (t : PT AV) : List Nat → Option (List AV)
  | [] => some []
  | i :: l => match t.get i, slotsA t l with
    | some v, some vs => some (v :: vs)
    | _, _ => none

theorem slotsA_cons {t : PT AV} {i : Nat} {l : List Nat} {vs : List AV} (h : slotsA t (i :: l) = some vs) : ∃ v r, t.get i = some v ∧ slotsA t l = some r ∧ vs = v :: r := by
  simp only [slotsA] at h
  split at h
  · rename_i v r h1 h2; cases h; exact ⟨v, r, h1, h2, rfl⟩
  · cases h

noncomputable def endsOk (n l h tl th : IE) : BE :=
  .and (.cmp .leq (.lit 0) n) (.and (.cmp .leq n (.lit 1000)) (.and (.cmp .leq (.lit 0) l) (.and (.cmp .leq l (.lit 1200)) (.and (.cmp .leq (.lit 0) h) (.and (.cmp .leq h (.lit 1200))
   (.and (.cmp .leq (.lit 0) tl) (.and (.cmp .leq tl (.lit 50)) (.and (.cmp .leq (.lit 0) th) (.cmp .leq th (.lit 50))))))))))

noncomputable def endsLo (n l th : IE) : AV := .int .i64 (.mx (.lit 0) (.bin .sub .i64 l (.bin .mul .i64 n th)))

noncomputable def endsTo (s : St) (b : Nat) (v5 v7 v8 v9 v10 : AV) (n l h tl th : IE) : T (Ex × St) :=
  .br (endsOk n l h tl th) (.ret (.exit 0, ⟨⟨[], treeOf [(2, .ptr b 0), (5, v5), (6, .int .i64 n), (7, v7), (8, v8), (9, v9), (10, v10), (11, endsLo n l th), (12, endsLo n h tl)]⟩, [], s.h⟩)) (.fail 99)

noncomputable def endsLoopC : C := fun _ wh s =>
  match wh.rd, s.df, slotsA s.tm.tree [2, 5, 6, 7, 8, 9, 10, 11, 12, 13] with
  | none, [], some [.ptr b 0, v5, .int .i64 n, v7, v8, v9, v10, .int .i64 l, .int .i64 h, .int .i64 (.lit 0)] => (match s.h.get b with
    | some (.cells [_, _, _, .int .i64 tl, .int .i64 th, _] _ _ _) => endsTo s b v5 v7 v8 v9 v10 n l h tl th
    | _ => .fail 98)
  | _, _, _ => .fail 97

def endsAt (c base : Nat) (N L H TL TH : Int) (V : Nat → Value) (i : Nat) : List (Nat × Value) :=
  [(2, .pointer (some ⟨c, base, none⟩)), (5, V 5), (6, .int .i64 N), (7, V 7), (8, V 8), (9, V 9), (10, V 10), (11, .int .i64 (max 0 (L - i * TH))), (12, .int .i64 (max 0 (H - i * TL))), (13, .int .i64 i)]

def endsRho (N L H TL TH : Int) (V : Nat → Value) (i : Nat) : Rho :=
  ⟨fun j => if j = 0 then N else if j = 1 then max 0 (L - i * TH) else if j = 2 then max 0 (H - i * TL) else if j = 3 then i else if j = 4 then TL else if j = 5 then TH else 0, fun _ => false, fun _ _ _ _ => 0, fun _ _ _ _ => false, V⟩
def endsEnv (c base : Nat) (N L H TL TH : Int) (V : Nat → Value) (i : Nat) : Env :=
  ⟨endsRho N L H TL TH V i, fun b => if b < 1000 then some (b, 0) else if b = 1000 then some (c, base) else none, fun _ => 0, 2000⟩

structure EndsInv (n : Nat) (c base : Nat) (N L H TL TH : Int) (V : Nat → Value) (w0 : World) (i : Nat) (a : Act) (w : World) : Prop where
  size : n ≤ a.tmps.size
  df : a.defers = []
  at_ : ∀ g ∈ endsAt c base N L H TL TH V i, a.tmps[g.1]? = some g.2
  cells : ∃ cells el fz, w.heap[c]? = some (.cells cells el fz) ∧ ∀ j x, [V 20, V 21, V 22, .int .i64 TL, .int .i64 TH, V 23][j]? = some x → cells[base + j]? = some x
  below : Below w0.heap.size w0 w

theorem max_step (L T : Int) (i : Nat) (hT : 0 ≤ T) : max 0 (max 0 (L - i * T) - T) = max 0 (L - ((i + 1 : Nat) : Int) * T) := by
  have : ((i + 1 : Nat) : Int) * T = i * T + T := by rw [Int.natCast_add, Int.add_mul]; simp
  rw [this]
  generalize (i : Int) * T = x
  omega

theorem ends_step {p : Par} {n : Nat} {keep : List Nat} {code : Code} (hf : COk p n keep endsBody code) (hk : [2, 5, 6, 7, 8, 9, 10, 11, 12, 13].all (fun t => memN keep (some t)) = true) {cx : Cx} (CX : CxOk p cx) {wh : Wh} {rd : Option Nat}
    (c base : Nat) (N L H TL TH : Int) (V : Nat → Value) (w0 : World) (i : Nat) (a : Act) (w : World) (hrd : ∀ E : Env, E.σ = (endsEnv c base N L H TL TH V i).σ → RdOk E wh.rd rd)
    (hTL : 0 ≤ TL ∧ TL ≤ 50) (hTH : 0 ≤ TH ∧ TH ≤ 50) (hL : 0 ≤ L ∧ L ≤ 1200) (hH : 0 ≤ H ∧ H ≤ 1200) (hN : N ≤ 1000) (hi : (i : Int) ≤ N)
    (I : EndsInv n c base N L H TL TH V w0 i a w) {Q' : Exit → Act → World → Prop}
    (go : ∀ a' w', (i : Int) < N → EndsInv n c base N L H TL TH V w0 (i + 1) a' w' → Q' .normal a' w')
    (stop : ∀ a' w', (i : Int) = N → EndsInv n c base N L H TL TH V w0 i a' w' → Q' (.exit 0) a' w') : code.wpIn (fence rd) 0 p.P Q' a w := by
  obtain ⟨hs, hdf, hat, ⟨cells, el, fz, hc, hcell⟩, hbel⟩ := I
  let E := endsEnv c base N L H TL TH V i
  have hview : ∀ g ∈ [(1000, [AV.opq 20, .opq 21, .opq 22, .int .i64 (.var 4), .int .i64 (.var 5), .opq 23])], ViewIn w E g := by
    intro g hg
    rcases List.mem_singleton.1 hg with rfl
    refine ⟨c, base, [V 20, V 21, V 22, .int .i64 TL, .int .i64 TH, V 23], cells, el, fz, by simp [E, endsEnv], by simp [E, endsEnv, endsRho, concL, conc, IE.den], hc, fun j hj => ?_⟩
    rw [hcell j _ (List.getElem?_eq_getElem hj)]; simp
  have HH : HeapOk p E endsH w w := view_ok hview (fun b hb => by simp only [E, endsEnv]; rw [if_neg (by omega), if_neg (by omega)]) (fun b hb => by simp [E, endsEnv, hb]) (Nat.le_refl _)
  have HT : TreeOk keep E (treeOf endsSl) a.tmps := by
    refine ⟨fun t A hA => ?_⟩
    have hm := treeOf_get _ _ _ hA
    simp only [List.all_cons, List.all_nil, Bool.and_true, Bool.and_eq_true] at hk
    obtain ⟨k2, k5, k6, k7, k8, k9, k10, k11, k12, k13⟩ := hk
    have at' : ∀ t v, (t, v) ∈ endsAt c base N L H TL TH V i → a.tmps[t]? = some v := fun t v h => hat (t, v) h
    simp only [endsAt, List.mem_cons, Prod.mk.injEq, List.not_mem_nil, or_false] at at'
    simp only [endsSl, List.mem_cons, Prod.mk.injEq, List.not_mem_nil, or_false] at hm
    rcases hm with ⟨rfl, rfl⟩ | ⟨rfl, rfl⟩ | ⟨rfl, rfl⟩ | ⟨rfl, rfl⟩ | ⟨rfl, rfl⟩ | ⟨rfl, rfl⟩ | ⟨rfl, rfl⟩ | ⟨rfl, rfl⟩ | ⟨rfl, rfl⟩ | ⟨rfl, rfl⟩
    · exact ⟨k2, .pointer (some ⟨c, base, none⟩), by simp [conc, E, endsEnv], at' 2 _ (by simp)⟩
    · exact ⟨k5, V 5, by simp [conc, E, endsEnv, endsRho], at' 5 _ (by simp)⟩
    · exact ⟨k6, .int .i64 N, by simp [conc, E, endsEnv, endsRho, IE.den], at' 6 _ (by simp)⟩
    · exact ⟨k7, V 7, by simp [conc, E, endsEnv, endsRho], at' 7 _ (by simp)⟩
    · exact ⟨k8, V 8, by simp [conc, E, endsEnv, endsRho], at' 8 _ (by simp)⟩
    · exact ⟨k9, V 9, by simp [conc, E, endsEnv, endsRho], at' 9 _ (by simp)⟩
    · exact ⟨k10, V 10, by simp [conc, E, endsEnv, endsRho], at' 10 _ (by simp)⟩
    · exact ⟨k11, .int .i64 (max 0 (L - i * TH)), by simp [conc, E, endsEnv, endsRho, IE.den], at' 11 _ (by simp)⟩
    · exact ⟨k12, .int .i64 (max 0 (H - i * TL)), by simp [conc, E, endsEnv, endsRho, IE.den], at' 12 _ (by simp)⟩
    · exact ⟨k13, .int .i64 i, by simp [conc, E, endsEnv, endsRho, IE.den], at' 13 _ (by simp)⟩
  have S : StOk p n keep E w endsS a w := ⟨⟨hs, fun t A h => (by cases h), HT⟩, by rw [hdf]; trivial, HH⟩
  have hback : ∀ (E' : Env) (t : PT AV) (h' : Heap) (a' : Act) (w' : World) (N' L' H' i' : Int), E.le E' → StOk p n keep E' w ⟨⟨[], t⟩, [], h'⟩ a' w' → t.get 2 = some (.ptr 1000 0) → t.get 5 = some (.opq 5) → t.get 6 = some (.int .i64 (.var 0)) → t.get 7 = some (.opq 7) → t.get 8 = some (.opq 8) →
      t.get 9 = some (.opq 9) → t.get 10 = some (.opq 10) → (∃ e, t.get 11 = some (.int .i64 e) ∧ e.den E.ρ = L') → (∃ e, t.get 12 = some (.int .i64 e) ∧ e.den E.ρ = H') → (∃ e, t.get 13 = some (.int .i64 e) ∧ e.den E.ρ = i') →
      n ≤ a'.tmps.size ∧ a'.defers = [] ∧ (∀ g ∈ [(2, .pointer (some ⟨c, base, none⟩)), (5, V 5), (6, .int .i64 N), (7, V 7), (8, V 8), (9, V 9), (10, V 10), (11, .int .i64 L'), (12, .int .i64 H'), (13, .int .i64 i')], a'.tmps[g.1]? = some g.2) ∧
      (∃ cells el fz, w'.heap[c]? = some (.cells cells el fz) ∧ ∀ j x, [V 20, V 21, V 22, .int .i64 TL, .int .i64 TH, V 23][j]? = some x → cells[base + j]? = some x) ∧ Below w0.heap.size w0 w' := by
    intro E' t h' a' w' N' L' H' i' hle S' g2 g5 g6 g7 g8 g9 g10 ⟨e1, g11, d1⟩ ⟨e2, g12, d2⟩ ⟨e3, g13, d3⟩
    have get : ∀ k A, t.get k = some A → ∃ v, conc E' A = some v ∧ a'.tmps[k]? = some v := fun k A h => (S'.tm.tree.at_ k A h).2
    have hσ : E'.σ 1000 = some (c, base) := hle.σ _ _ (by simp [E, endsEnv])
    have hρ := hle.ρ
    refine ⟨S'.tm.size, ?_, ?_, ?_, hbel.trans (S'.hp.below.mono hbel.size)⟩
    · have := S'.df
      cases hd : a'.defers with
      | nil => rfl
      | cons d ds => rw [hd] at this; exact this.elim
    · have opq : ∀ k, t.get k = some (.opq k) → a'.tmps[k]? = some (V k) := fun k h => by
        obtain ⟨v, h1, h2⟩ := get k _ h
        simp only [conc, hρ, Option.some.injEq] at h1
        rw [h2, ← h1]; rfl
      have int : ∀ k e z, t.get k = some (.int .i64 e) → e.den E.ρ = z → a'.tmps[k]? = some (.int .i64 z) := fun k e z h hz => by
        obtain ⟨v, h1, h2⟩ := get k _ h
        simp only [conc, hρ, Option.some.injEq] at h1
        rw [h2, ← h1, hz]
      intro g hg
      simp only [List.mem_cons, List.not_mem_nil, or_false] at hg
      rcases hg with rfl | rfl | rfl | rfl | rfl | rfl | rfl | rfl | rfl | rfl
      · obtain ⟨v, h1, h2⟩ := get 2 _ g2
        simp only [conc, hσ, Option.map_some, Option.some.injEq] at h1
        rw [h2, ← h1]; simp
      · exact opq 5 g5
      · exact int 6 _ _ g6 (by simp [IE.den, E, endsEnv, endsRho])
      · exact opq 7 g7
      · exact opq 8 g8
      · exact opq 9 g9
      · exact opq 10 g10
      · exact int 11 _ _ g11 d1
      · exact int 12 _ _ g12 d2
      · exact int 13 _ _ g13 d3
    · exact ⟨cells, el, fz, by rw [S'.hp.below.block c (Array.getElem?_eq_some_iff.1 hc).1]; exact hc, hcell⟩
  refine hf cx CX wh rd E w w endsS a (fun r => r = (.norm, ⟨⟨[], endsT1⟩, [], endsH⟩) ∧ (i : Int) < N ∨ r = (.exit 0, ⟨⟨[], endsT2⟩, [], endsH⟩) ∧ ¬ (i : Int) < N) Q' (hrd E rfl) S ?_ ?_
  · rw [ends_iter]
    simp only [T.Holds]
    have hd : (BE.cmp BinOp.lss (IE.var 3) (IE.var 0)).den E.ρ = decide ((i : Int) < N) := by simp [BE.den, IE.den, cmpDen, E, endsEnv, endsRho]
    rw [hd]
    by_cases h : (i : Int) < N
    · rw [if_pos (by simpa using h)]; exact .inl ⟨by trivial, h⟩
    · rw [if_neg (by simpa using h)]; exact .inr ⟨by trivial, h⟩
  · intro x s' E' w' a' q hle S'
    have hiN : 0 ≤ (i : Int) := Int.natCast_nonneg i
    have bnd : ∀ X T : Int, 0 ≤ X → X ≤ 1200 → 0 ≤ T → T ≤ 50 → 0 ≤ max 0 (X - i * T) ∧ max 0 (X - i * T) ≤ 1200 := fun X T h1 h2 h3 h4 => by
      have : 0 ≤ (i : Int) * T := Int.mul_nonneg hiN h3
      omega
    rcases q with ⟨q, hlt⟩ | ⟨q, hge⟩
    · cases q
      have b1 := bnd L TH hL.1 hL.2 hTH.1 hTH.2
      have b2 := bnd H TL hH.1 hH.2 hTL.1 hTL.2
      obtain ⟨r1, r2, r3, r4, r5⟩ := hback E' endsT1 endsH a' w' N (max 0 (L - ((i + 1 : Nat) : Int) * TH)) (max 0 (H - ((i + 1 : Nat) : Int) * TL)) ((i + 1 : Nat) : Int) hle S' (by kernel_rfl) (by kernel_rfl) (by kernel_rfl) (by kernel_rfl) (by kernel_rfl) (by kernel_rfl) (by kernel_rfl)
        ⟨endsE1, by kernel_rfl, by
          simp only [endsE1, IE.den, binDen, E, endsEnv, endsRho, mxden]
          rw [IntWalk.i64_in _ (by omega)]
          exact max_step L TH i hTH.1⟩
        ⟨endsE2, by kernel_rfl, by
          simp only [endsE2, IE.den, binDen, E, endsEnv, endsRho, mxden]
          rw [IntWalk.i64_in _ (by omega)]
          exact max_step H TL i hTL.1⟩
        ⟨endsE3, by kernel_rfl, by
          simp only [endsE3, IE.den, binDen, E, endsEnv, endsRho]
          rw [IntWalk.i64_in _ (by simp; omega)]
          simp⟩
      exact go a' w' hlt ⟨r1, r2, r3, r4, r5⟩
    · cases q
      obtain ⟨r1, r2, r3, r4, r5⟩ := hback E' endsT2 endsH a' w' N (max 0 (L - (i : Int) * TH)) (max 0 (H - (i : Int) * TL)) (i : Int) hle S' (by kernel_rfl) (by kernel_rfl) (by kernel_rfl) (by kernel_rfl) (by kernel_rfl) (by kernel_rfl) (by kernel_rfl)
        ⟨.var 1, by kernel_rfl, by simp [IE.den, E, endsEnv, endsRho]⟩ ⟨.var 2, by kernel_rfl, by simp [IE.den, E, endsEnv, endsRho]⟩ ⟨.var 3, by kernel_rfl, by simp [IE.den, E, endsEnv, endsRho]⟩
      exact stop a' w' (by omega) ⟨r1, r2, r3, r4, r5⟩

theorem ends_rounds {p : Par} {n : Nat} {keep : List Nat} {code : Code} (hf : COk p n keep endsBody code) (hk : [2, 5, 6, 7, 8, 9, 10, 11, 12, 13].all (fun t => memN keep (some t)) = true) {cx : Cx} (CX : CxOk p cx) {wh : Wh} {rd : Option Nat}
    (c base : Nat) (N L H TL TH : Int) (V : Nat → Value) (w0 : World) (hrd : ∀ (i : Nat) (E : Env), E.σ = (endsEnv c base N L H TL TH V i).σ → RdOk E wh.rd rd)
    (hTL : 0 ≤ TL ∧ TL ≤ 50) (hTH : 0 ≤ TH ∧ TH ≤ 50) (hL : 0 ≤ L ∧ L ≤ 1200) (hH : 0 ≤ H ∧ H ≤ 1200) (hN : N ≤ 1000) {Q' : Exit → Act → World → Prop}
    (stop : ∀ i a' w', (i : Nat) = N → EndsInv n c base N L H TL TH V w0 i a' w' → Q' (.exit 0) a' w') :
    ∀ (k i : Nat) (a : Act) (w : World), (i : Int) + k = N → EndsInv n c base N L H TL TH V w0 i a w → code.roundsIn (fence rd) 0 p.P Q' (k + 1) a w
  | 0, i, a, w, hik, I => by
    rw [roundsIn_succ]
    refine ends_step hf hk CX c base N L H TL TH V w0 i a w (hrd i) hTL hTH hL hH hN (by omega) I (fun a' w' hlt _ => by omega) (fun a' w' he I' => stop i a' w' he I')
  | k + 1, i, a, w, hik, I => by
    rw [roundsIn_succ]
    refine ends_step hf hk CX c base N L H TL TH V w0 i a w (hrd i) hTL hTH hL hH hN (by omega) I (fun a' w' hlt I' => ?_) (fun a' w' he I' => stop i a' w' he I')
    exact ends_rounds hf hk CX c base N L H TL TH V w0 hrd hTL hTH hL hH hN stop k (i + 1) a' w' (by omega) I'

theorem endsOk_den {ρ : Rho} {n l h tl th : IE} (k : (endsOk n l h tl th).den ρ = true) : (0 ≤ n.den ρ ∧ n.den ρ ≤ 1000) ∧ (0 ≤ l.den ρ ∧ l.den ρ ≤ 1200) ∧ (0 ≤ h.den ρ ∧ h.den ρ ≤ 1200) ∧ (0 ≤ tl.den ρ ∧ tl.den ρ ≤ 50) ∧ (0 ≤ th.den ρ ∧ th.den ρ ≤ 50) := by
  simp only [endsOk, BE.den, IE.den, cmpDen, Bool.and_eq_true] at k
  obtain ⟨h1, h2, h3, h4, h5, h6, h7, h8, h9, h10⟩ := k
  exact ⟨⟨of_decide_eq_true h1, of_decide_eq_true h2⟩, ⟨of_decide_eq_true h3, of_decide_eq_true h4⟩, ⟨of_decide_eq_true h5, of_decide_eq_true h6⟩, ⟨of_decide_eq_true h7, of_decide_eq_true h8⟩, of_decide_eq_true h9, of_decide_eq_true h10⟩

/-- THE LOOP, TAKEN AS SAID. -/
theorem endsLoop_ok {p : Par} {n : Nat} {keep : List Nat} {code : Code} (hf : COk p n keep endsBody code) (hk : [2, 5, 6, 7, 8, 9, 10, 11, 12, 13].all (fun t => memN keep (some t)) = true) : COk p n keep endsLoopC (.loop code) := by
  intro cx CX wh rd E w0 w s a Q Q' hrd S k P
  unfold endsLoopC at k
  split at k
  · rename_i b v5 N v7 v8 v9 v10 L H hwr hdf hsl
    split at k
    · rename_i q0 q1 q2 TL TH q5 e own ext hcells
      unfold endsTo at k
      simp only [T.Holds] at k
      split at k
      · rename_i hok
        obtain ⟨hN, hL, hH, hTL, hTH⟩ := endsOk_den hok
        obtain ⟨_, _, g2, hsl, e0⟩ := slotsA_cons hsl; cases e0
        obtain ⟨_, _, g5, hsl, e0⟩ := slotsA_cons hsl; cases e0
        obtain ⟨_, _, g6, hsl, e0⟩ := slotsA_cons hsl; cases e0
        obtain ⟨_, _, g7, hsl, e0⟩ := slotsA_cons hsl; cases e0
        obtain ⟨_, _, g8, hsl, e0⟩ := slotsA_cons hsl; cases e0
        obtain ⟨_, _, g9, hsl, e0⟩ := slotsA_cons hsl; cases e0
        obtain ⟨_, _, g10, hsl, e0⟩ := slotsA_cons hsl; cases e0
        obtain ⟨_, _, g11, hsl, e0⟩ := slotsA_cons hsl; cases e0
        obtain ⟨_, _, g12, hsl, e0⟩ := slotsA_cons hsl; cases e0
        obtain ⟨_, _, g13, hsl, e0⟩ := slotsA_cons hsl; cases e0
        have get : ∀ k A, s.tm.tree.get k = some A → ∃ v, conc E A = some v ∧ a.tmps[k]? = some v := fun k A h => (S.tm.tree.at_ k A h).2
        obtain ⟨u2, c2, t2⟩ := get 2 _ g2
        obtain ⟨u5, c5, t5⟩ := get 5 _ g5
        obtain ⟨u6, c6, t6⟩ := get 6 _ g6
        obtain ⟨u7, c7, t7⟩ := get 7 _ g7
        obtain ⟨u8, c8, t8⟩ := get 8 _ g8
        obtain ⟨u9, c9, t9⟩ := get 9 _ g9
        obtain ⟨u10, c10, t10⟩ := get 10 _ g10
        obtain ⟨u11, c11, t11⟩ := get 11 _ g11
        obtain ⟨u12, c12, t12⟩ := get 12 _ g12
        obtain ⟨u13, c13, t13⟩ := get 13 _ g13
        obtain ⟨c, base, vs, cells, el, fz, m1, m2, m3, m4⟩ := ViewIn.of_heap S.hp hcells
        obtain ⟨x0, r0, y0, n0, e0⟩ := concL_cons.1 m2
        obtain ⟨x1, r1, y1, n1, e1⟩ := concL_cons.1 n0
        obtain ⟨x2, r2, y2, n2, e2⟩ := concL_cons.1 n1
        obtain ⟨x3, r3, y3, n3, e3⟩ := concL_cons.1 n2
        obtain ⟨x4, r4, y4, n4, e4⟩ := concL_cons.1 n3
        obtain ⟨x5, r5, y5, n5, e5⟩ := concL_cons.1 n4
        simp only [concL, Option.some.injEq] at n5
        subst n5 e5 e4 e3 e2 e1 e0
        simp only [conc, Option.some.injEq] at c6 c11 c12 c13 y3 y4
        simp only [conc, m1, Option.map_some, Option.some.injEq, Nat.add_zero] at c2
        subst c2 c6 c11 c12 c13 y3 y4
        let V : Nat → Value := fun j => if j = 5 then u5 else if j = 7 then u7 else if j = 8 then u8 else if j = 9 then u9 else if j = 10 then u10 else if j = 20 then x0 else if j = 21 then x1 else if j = 22 then x2 else x5
        obtain ⟨M, hM⟩ : ∃ M : Nat, (M : Int) = N.den E.ρ := ⟨(N.den E.ρ).toNat, by omega⟩
        refine wpIn_loop_rounds (M + 1) (ends_rounds (wh := wh) hf hk CX c base (N.den E.ρ) (L.den E.ρ) (H.den E.ρ) (TL.den E.ρ) (TH.den E.ρ) V w (fun i E2 h2 => ?_) hTL hTH hL hH hN.2 (fun i a' w' hi I => ?_) M 0 a w (by omega) ?_)
        · rw [hwr] at hrd ⊢
          cases rd with
          | none => trivial
          | some l => exact hrd.elim
        · obtain ⟨i1, i2, i3, _, i5⟩ := I
          have at' : ∀ t v, (t, v) ∈ endsAt c base (N.den E.ρ) (L.den E.ρ) (H.den E.ρ) (TL.den E.ρ) (TH.den E.ρ) V i → a'.tmps[t]? = some v := fun t v h => i3 (t, v) h
          simp only [endsAt, List.mem_cons, Prod.mk.injEq, List.not_mem_nil, or_false] at at'
          refine P (.exit 0) _ E w' a' k (Env.le.refl E) ⟨⟨i1, fun t A h => (by cases h), ⟨fun t A hA => ?_⟩⟩, by rw [i2]; trivial, S.hp.world i5⟩
          have hm := treeOf_get _ _ _ hA
          simp only [List.mem_cons, Prod.mk.injEq, List.not_mem_nil, or_false] at hm
          simp only [List.all_cons, List.all_nil, Bool.and_true, Bool.and_eq_true] at hk
          obtain ⟨k2, k5, k6, k7, k8, k9, k10, k11, k12, k13⟩ := hk
          have wr : ∀ X T : Int, 0 ≤ X → X ≤ 1200 → 0 ≤ T → T ≤ 50 → IntKind.i64.wrap (X - IntKind.i64.wrap (N.den E.ρ * T)) = X - i * T := fun X T h1 h2 h3 h4 => by
            have e1 : (0 : Int) ≤ N.den E.ρ * T := Int.mul_nonneg hN.1 h3
            have e2 : N.den E.ρ * T ≤ 1000 * 50 := Int.mul_le_mul hN.2 h4 h3 (by omega)
            rw [IntWalk.i64_in (N.den E.ρ * T) (by omega), IntWalk.i64_in _ (by omega), hi]
          rcases hm with ⟨rfl, rfl⟩ | ⟨rfl, rfl⟩ | ⟨rfl, rfl⟩ | ⟨rfl, rfl⟩ | ⟨rfl, rfl⟩ | ⟨rfl, rfl⟩ | ⟨rfl, rfl⟩ | ⟨rfl, rfl⟩ | ⟨rfl, rfl⟩
          · exact ⟨k2, .pointer (some ⟨c, base, none⟩), by simp [conc, m1], at' 2 _ (by simp)⟩
          · exact ⟨k5, u5, c5, at' 5 _ (by simp [V])⟩
          · exact ⟨k6, .int .i64 (N.den E.ρ), by simp [conc], at' 6 _ (by simp)⟩
          · exact ⟨k7, u7, c7, at' 7 _ (by simp [V])⟩
          · exact ⟨k8, u8, c8, at' 8 _ (by simp [V])⟩
          · exact ⟨k9, u9, c9, at' 9 _ (by simp [V])⟩
          · exact ⟨k10, u10, c10, at' 10 _ (by simp [V])⟩
          · refine ⟨k11, .int .i64 (max 0 (L.den E.ρ - i * TH.den E.ρ)), ?_, at' 11 _ (by simp)⟩
            simp only [endsLo, conc, IE.den, binDen, mxden, wr _ _ hL.1 hL.2 hTH.1 hTH.2]
          · refine ⟨k12, .int .i64 (max 0 (H.den E.ρ - i * TL.den E.ρ)), ?_, at' 12 _ (by simp)⟩
            simp only [endsLo, conc, IE.den, binDen, mxden, wr _ _ hH.1 hH.2 hTL.1 hTL.2]
        · refine ⟨S.tm.size, ?_, fun g hg => ?_, ⟨cells, el, fz, m3, fun j x hj => ?_⟩, Below.refl _ _⟩
          · have := S.df
            rw [hdf] at this
            cases hd : a.defers with
            | nil => rfl
            | cons d ds => rw [hd] at this; exact this.elim
          · simp only [endsAt, List.mem_cons, List.not_mem_nil, or_false] at hg
            rcases hg with rfl | rfl | rfl | rfl | rfl | rfl | rfl | rfl | rfl | rfl
            · exact t2
            · simpa [V] using t5
            · exact t6
            · simpa [V] using t7
            · simpa [V] using t8
            · simpa [V] using t9
            · simpa [V] using t10
            · rw [t11]; simp; omega
            · rw [t12]; simp; omega
            · rw [t13]; simp [IE.den]
          · have hj' : [x0, x1, x2, Value.int .i64 (TL.den E.ρ), .int .i64 (TH.den E.ρ), x5][j]? = some x := by simpa [V] using hj
            rw [m4 j (List.getElem?_eq_some_iff.1 hj').1, hj']
      · exact k.elim
    · exact k.elim
  · exact k.elim

end Go.Sx
