/- LISTS THAT ARE HANDED BACK, and calls that are said of a small heap. -/
import Derived.Test.YtlaakbmimplceaaDoorRyC
import Derived.Test.YtlaakbmimplceaaDoorFiP
/-! THE FIRST ORDER OF A VALID FILM: its run, and what is said of it. -/
namespace Go.Sx
open Go.RowKit Go.Proofs
set_option maxRecDepth 100000
/-! ## What a valid film is -/
noncomputable def filmQ (L : Nat) : List (Nat × Int × Int) :=
  (0, 1, 20) :: (1, 1, 20) :: (2, 0, 50) :: (3, 0, 50) :: (4, 1, 6000) :: (@List.rec Nat (fun _ => List (Nat × Int × Int)) [] (fun r _ ih => (10 + 6 * r, 0, 99) :: (11 + 6 * r, 0, 99) :: (12 + 6 * r, 0, 99) :: (13 + 6 * r, 0, 99) :: (14 + 6 * r, 1, 1200) :: (15 + 6 * r, 1, 1200) :: ih) (upN L 0))
noncomputable def leV (i j : Nat) : BE := .cmp .leq (.var i) (.var j)
noncomputable def filmC (L : Nat) : List BE :=
  leV 0 1 :: leV 2 3 :: (@List.rec Nat (fun _ => List BE) [] (fun r _ ih => leV (10 + 6 * r) (11 + 6 * r) :: leV (12 + 6 * r) (13 + 6 * r) :: leV (14 + 6 * r) (15 + 6 * r) :: leV (10 + 6 * r) (13 + 6 * r) :: ih) (upN L 0))
def okFilm (L : Nat) (ρ : Rho) : Prop := (∀ c ∈ ivC (filmQ L), c.den ρ = true) ∧ ∀ c ∈ filmC L, c.den ρ = true
theorem okFilm_kn {L : Nat} {ρ : Rho} (h : okFilm L ρ) : KnOk ρ (knOf (filmQ L) (filmC L)) := knOf_ok h.1 h.2

theorem CallOk.weak {P : Program} {RC : Nat → Nat → List Nat → Code → Code → Prop} {ok0 ok : Rho → (Nat → Obj → Prop) → Prop} (hw : ∀ ρ m, ok ρ m → ok0 ρ m) {f : FuncId} {args : List AV} {h : Heap} {t : T (AV × Heap)} (hc : CallOk ⟨P, RC, ok0⟩ f args h t) : CallOk ⟨P, RC, ok⟩ f args h t :=
  CallOk.read (p0 := ⟨P, RC, ok0⟩) (p := ⟨P, RC, ok⟩) rfl hc fun ρ _ ⟨m, k1, k2⟩ _ k => ⟨ρ, ⟨m, hw ρ m k1, k2⟩, SameL.refl _ _, ⟨rfl, fun _ o g => ⟨o, g, SameA.refl o⟩⟩, T.holds_mono (fun r hr => ⟨r, hr, SameV.refl _ _, rfl, fun _ o g => ⟨o, g, SameA.refl o⟩⟩) k⟩

/-! ## What is known before -/
noncomputable def vK (L : Nat) : List (Nat × AObj) := [(0, ro [li 1, li 20, li 0, li 50]), (1, ro [li 0, li 99, li 0, li 99, li 1, li 1200]), (1001, rowsA L)]
noncomputable def vK2 (L : Nat) : List (Nat × AObj) := [(0, ro [li 1, li 20, li 0, li 50]), (1, ro [li 0, li 99, li 0, li 99, li 1, li 1200]), (1001, rowsA L), (2000, .umap (mU false))]
noncomputable def knowV (L b : Nat) : AV := .tup [filmK b L, ln 0]
noncomputable def pK (L : Nat) : Par := ⟨Tryd.prog, rcOf Tryd.rows, fun ρ _ => okFilm L ρ⟩
theorem tabsK (L : Nat) : TabOk (pK L) Sx.Tryd.tt.get tbA := Tryd.tab (fun _ _ _ => none) (fun _ _ _ _ h => by cases h) 2000
noncomputable def runK (L : Nat) : T (AV × Heap) := (evalN tbA 100 false 38 [filmF L] (viewA 2000 (vK L))).bind fun r => graftT 2000 (vK L) (viewA 2000 (vK L)) (match r.1 with | .tup (.agg cs :: _) => (match listGet cs 6 with | some (.map b) => [b] | _ => []) | _ => []) r
noncomputable def mapO (o : Option AObj) : Bool :=
  match o with
  | some (.map [] 0) => true
  | _ => false
theorem mapO_eq {o : Option AObj} (h : mapO o = true) : o = some (.map [] 0) := by
  unfold mapO at h; split at h
  · rfl
  · cases h
noncomputable def endK (L : Nat) (_ : Kn) (q : AV × Heap) : Bool := and (eqAV q.1 (knowV L 2000)) (and (mapO (q.2.get 2000)) (and (allO q.2 (vK L)) (Nat.beq q.2.next 2001)))
noncomputable def ckK (L : Nat) : Bool := allW [] (endK L) (runK L) (knOf (filmQ L) (filmC L))
theorem ckK1 : ckK 1 = true := by kernel_rfl
theorem ckK2 : ckK 2 = true := by kernel_rfl
theorem ckK3 : ckK 3 = true := by kernel_rfl
theorem ckK4 : ckK 4 = true := by kernel_rfl
theorem ckK5 : ckK 5 = true := by kernel_rfl
theorem ckK6 : ckK 6 = true := by kernel_rfl
end Go.Sx
/-! A VALID FILM, as it is known. -/
namespace Go.Sx
open Go.RowKit Go.Proofs
set_option maxRecDepth 100000
theorem viewK_ok {L : Nat} (h0 : 1 ≤ L) (hL : L ≤ 6) : viewOk 2000 (vK L) = true := by
  rcases six h0 hL with rfl | rfl | rfl | rfl | rfl | rfl <;> kernel_rfl
theorem ckK_all {L : Nat} (h0 : 1 ≤ L) (hL : L ≤ 6) : ckK L = true := by
  rcases six h0 hL with rfl | rfl | rfl | rfl | rfl | rfl
  · exact ckK1
  · exact ckK2
  · exact ckK3
  · exact ckK4
  · exact ckK5
  · exact ckK6
noncomputable def nwK (r : AV × Heap) : List Nat := (match r.1 with | .tup (.agg cs :: _) => (match listGet cs 6 with | some (.map b) => [b] | _ => []) | _ => [])
/-- WHAT 'know' HANDS BACK, of a valid film. -/
theorem know_said {L : Nat} (h0 : 1 ≤ L) (hL : L ≤ 6) : CallOk (pK L) 38 [filmF L] (viewA 2000 (vK L)) (.ret (knowV L 2000, viewA 2001 (vK2 L))) := by
  have base := eval_ok (tabsK L) 100 38 [filmF L] (viewA 2000 (vK L))
  have up : upA 0 (vK L) = true := rfl
  have fr : CallOk (pK L) 38 [filmF L] (viewA 2000 (vK L)) (runK L) := base.frame (n := 2000) (l := vK L) (by omega) rfl (viewK_ok h0 hL)
    (fun g hg => ⟨g.2, viewA_mem 2000 _ 0 up g hg, .refl _⟩) (by rw [viewA_next]; exact Nat.le_refl _) nwK
  refine CallOk.read rfl fr fun ρ b hok Q k => ⟨ρ, hok, SameL.refl _ _, ⟨rfl, fun j o g => ⟨o, g, SameA.refl o⟩⟩, ?_⟩
  obtain ⟨_, hA, _⟩ := hok
  have k : Q (knowV L 2000, viewA 2001 (vK2 L)) := k
  refine allW_ok (rules_nil ρ) (fun K q _ hq => ?_) (runK L) _ (okFilm_kn hA) (ckK_all h0 hL)
  unfold endK at hq
  simp only [Bool.and_eq_true] at hq
  obtain ⟨q1, q2, q3, q4⟩ := hq
  refine ⟨_, k, by rw [eqAV_eq _ _ q1]; exact SameV.refl _ _, (beq_t.1 q4).trans (viewA_next _ _).symm, fun j o g => ?_⟩
  have hm := viewA_get _ _ _ _ g
  unfold vK2 at hm
  simp only [List.mem_cons, List.not_mem_nil, or_false] at hm
  rcases hm with h | h | h | h
  · exact ⟨o, allO_get q3 (by unfold vK; rw [h]; simp), SameA.refl o⟩
  · exact ⟨o, allO_get q3 (by unfold vK; rw [h]; simp), SameA.refl o⟩
  · exact ⟨o, allO_get q3 (by unfold vK; rw [h]; simp), SameA.refl o⟩
  · cases h; exact ⟨_, mapO_eq q2, SameA.empty rfl⟩

noncomputable def nwM (_ : AV × Heap) : List Nat := [2000]
noncomputable def orcK (L : Nat) (args : List AV) (h : Heap) : Option (T (AV × Heap)) :=
  cond (and (eqAVs args [filmF L]) (and (lessAll h (vK L)) (Nat.ble 2000 h.next))) (some ((T.ret (knowV L 2000, viewA 2001 (vK2 L))).bind fun r => graftT 2000 (vK L) h (nwM r) r)) none
noncomputable def fullM (L : Nat) : Nat := Nat.pow 2 L - 1
noncomputable def noneVF : AV := .tup [.nilslice, ln 4]
theorem orcK_ok {ok : Rho → (Nat → Obj → Prop) → Prop} {L : Nat} (h0 : 1 ≤ L) (hL : L ≤ 6) (hw : ∀ ρ m, ok ρ m → okFilm L ρ) {args : List AV} {h : Heap} {t : T (AV × Heap)} (e : orcK L args h = some t) : CallOk ⟨Tryd.prog, rcOf Tryd.rows, ok⟩ 38 args h t := by
  unfold orcK at e
  obtain ⟨hc, e2⟩ := cond_some e
  clear e
  simp only [Bool.and_eq_true] at hc
  obtain ⟨i1, i2, i3⟩ := hc
  rw [eqAVs_eq _ _ i1]
  cases e2
  have hk : CallOk ⟨Tryd.prog, rcOf Tryd.rows, ok⟩ 38 [filmF L] (viewA 2000 (vK L)) (.ret (knowV L 2000, viewA 2001 (vK2 L))) := CallOk.weak hw (know_said h0 hL)
  exact hk.frame (n := 2000) (by omega) rfl (viewK_ok h0 hL) (lessAll_ok i2) (ble_t.1 i3) nwM
end Go.Sx
/-! LISTS THAT ARE HANDED BACK, and calls that are said of a small heap. -/
namespace Go.Sx
open Go.RowKit Go.Proofs
set_option maxRecDepth 100000
noncomputable def litN (r : Nat) : IE := .lit (Int.ofNat r)
noncomputable def valS (l : List Nat) : AV :=
  match l with
  | [] => .tup [.slice 2000 0 0 0, ln 0]
  | _ :: _ => .tup [.sliceX 2000 1 0 (lLen l), ln 0]
def extS : List Nat → Bool
  | [] => false
  | _ :: _ => true
noncomputable def vS (L : Nat) (l : List Nat) : List (Nat × AObj) := vK L ++ [(2000, .cells (lMap iA (lMap litN l)) 3 true (extS l))]
noncomputable def leafS (L : Nat) (o : Option (List Nat)) : AV × Heap :=
  match o with
  | none => (.tup [.nilslice, ln 0], viewA 2000 (vK L))
  | some l => (valS l, viewA 2001 (vS L l))
noncomputable def encS (L : Nat) (q : AV × Heap) : AV :=
  match q.1 with
  | .tup [.nilslice, e] => .tup [tag true, e, tag (and (allO q.2 (vK L)) (Nat.beq q.2.next 2000))]
  | v => .tup [tag false, v, tag (and (allO q.2 (vK L)) (Nat.beq q.2.next 2001)), blkA (q.2.get 2000)]
noncomputable def expLf (o : Option (List Nat)) : AV :=
  match o with
  | none => .tup [tag true, ln 0, tag true]
  | some l => .tup [tag false, valS l, tag true, cellsB (lMap litN l) (extS l)]
theorem encS_none {L : Nat} {q : AV × Heap} (h : encS L q = expLf none) : q.1 = .tup [.nilslice, ln 0] ∧ allO q.2 (vK L) = true ∧ q.2.next = 2000 := by
  unfold encS expLf at h
  split at h
  · rename_i e hv
    simp only [AV.tup.injEq, List.cons.injEq, and_true, true_and] at h
    obtain ⟨h1, h2⟩ := h
    simp only [tag, AV.bool.injEq, BE.lit.injEq, Bool.and_eq_true] at h2
    exact ⟨by rw [hv, h1], h2.1, beq_t.1 h2.2⟩
  · simp at h
theorem encS_some {L : Nat} {q : AV × Heap} {l : List Nat} (h : encS L q = expLf (some l)) : q.1 = valS l ∧ allO q.2 (vK L) = true ∧ q.2.next = 2001 ∧ q.2.get 2000 = some (.cells (lMap iA (lMap litN l)) 3 true (extS l)) := by
  unfold encS expLf at h
  split at h
  · simp at h
  · simp only [AV.tup.injEq, List.cons.injEq, and_true, true_and] at h
    obtain ⟨h1, h2, h3⟩ := h
    simp only [tag, AV.bool.injEq, BE.lit.injEq, Bool.and_eq_true] at h2
    exact ⟨h1, h2.1, beq_t.1 h2.2, blkA_some h3⟩
/-- a call that is said of a small heap -/
noncomputable def smallO (n : Nat) (args0 : List AV) (l : List (Nat × AObj)) (t : T (AV × Heap)) (nw : AV × Heap → List Nat) (args : List AV) (h : Heap) : Option (T (AV × Heap)) :=
  cond (and (eqAVs args args0) (and (lessAll h l) (Nat.ble n h.next))) (some (t.bind fun r => graftT n l h (nw r) r)) none
theorem smallO_ok {p : Par} {f : FuncId} {n : Nat} {args0 : List AV} {l : List (Nat × AObj)} {t : T (AV × Heap)} {nw : AV × Heap → List Nat} (hc : CallOk p f args0 (viewA n l) t) (hn : 1000 ≤ n) (ha : idsLts n args0 = true) (hv : viewOk n l = true)
    {args : List AV} {h : Heap} {u : T (AV × Heap)} (e : smallO n args0 l t nw args h = some u) : CallOk p f args h u := by
  unfold smallO at e
  obtain ⟨h1, e2⟩ := cond_some e
  clear e
  simp only [Bool.and_eq_true] at h1
  obtain ⟨i1, i2, i3⟩ := h1
  rw [eqAVs_eq _ _ i1]
  cases e2
  exact hc.frame (n := n) hn ha hv (lessAll_ok i2) (ble_t.1 i3) nw
end Go.Sx
