/- RlA -/
import Derived.Test.YtpdednocbpoikaaDoorRyKF
import Derived.Test.YtpdednocbpoikaaDoorRyKF6
import Derived.Test.YtpdednocbpoikaaDoorEntL2x0
import Derived.Test.YtpdednocbpoikaaDoorSxGraft
import Derived.Test.YtpdednocbpoikaaDoorSxView
namespace Go.Sx
open Go.RowKit Go.Proofs
set_option maxRecDepth 100000
theorem ckF_all {L m : Nat} (h0 : 1 ≤ L) (hL : L ≤ 6) (hm : m < 2 ^ L) : ckT consF L m = true := by
  rcases six h0 hL with rfl | rfl | rfl | rfl | rfl | rfl
  · exact lAll_at kF1 (Nat.zero_le _) (by omega)
  · exact lAll_at kF2 (Nat.zero_le _) (by omega)
  · exact lAll_at kF3 (Nat.zero_le _) (by omega)
  · exact lAll_at kF4 (Nat.zero_le _) (by omega)
  · have h : m < 8 ∧ 0 ≤ m ∨ m < 16 ∧ 8 ≤ m ∨ m < 24 ∧ 16 ≤ m ∨ m < 32 ∧ 24 ≤ m := by omega
    rcases h with h | h | h | h
    · exact lAll_at kF5_0 (by omega) (by omega)
    · exact lAll_at kF5_1 (by omega) (by omega)
    · exact lAll_at kF5_2 (by omega) (by omega)
    · exact lAll_at kF5_3 (by omega) (by omega)
  · have h : m < 8 ∧ 0 ≤ m ∨ m < 16 ∧ 8 ≤ m ∨ m < 24 ∧ 16 ≤ m ∨ m < 32 ∧ 24 ≤ m ∨ m < 40 ∧ 32 ≤ m ∨ m < 48 ∧ 40 ≤ m ∨ m < 56 ∧ 48 ≤ m ∨ m < 64 ∧ 56 ≤ m := by omega
    rcases h with h | h | h | h | h | h | h | h
    · exact lAll_at kF6_0 (by omega) (by omega)
    · exact lAll_at kF6_1 (by omega) (by omega)
    · exact lAll_at kF6_2 (by omega) (by omega)
    · exact lAll_at kF6_3 (by omega) (by omega)
    · exact lAll_at kF6_4 (by omega) (by omega)
    · exact lAll_at kF6_5 (by omega) (by omega)
    · exact lAll_at kF6_6 (by omega) (by omega)
    · exact lAll_at kF6_7 (by omega) (by omega)
theorem cnt_six (m : Nat) : cnt m ≤ 6 := by
  have k : ∀ i, (cond (bt m i) 1 0 : Nat) ≤ 1 := fun i => by cases bt m i <;> simp
  unfold cnt
  have := k 0; have := k 1; have := k 2; have := k 3; have := k 4; have := k 5
  omega
theorem cnt_le' {L m : Nat} (hm : m < 2 ^ L) : cnt m ≤ L := by
  by_cases h : 6 ≤ L
  · exact Nat.le_trans (cnt_six m) h
  · rcases Nat.eq_zero_or_pos L with rfl | h0
    · have : m = 0 := by omega
      subst this; exact Nat.le_of_eq rfl
    · exact cnt_le h0 (by omega) hm
theorem ltP_t {L m : Nat} (h : ltP L m = true) : m < 2 ^ L := ble_t.1 h
theorem del_lt {L m r : Nat} (h : m < 2 ^ L) : del m r < 2 ^ L := Nat.lt_of_le_of_lt (Nat.sub_le _ _) h
theorem consF_ok : ConsOk consF where
  b := .inr (.inl rfl)
  ck L m h0 hL h _ := ckF_all h0 hL (ltP_t h)
  lt L m h := ltP_t h
  sub L m r h _ := ble_t.2 (del_lt (ltP_t h))
  le L m h := cnt_le' (ltP_t h)
  six L hL := hL
  big := by decide
  ids := rfl
  ptrs := rfl
  arr := by decide
  up L xs _ _ := rfl
  pre L h0 hL := by rcases six h0 hL with rfl | rfl | rfl | rfl | rfl | rfl <;> kernel_rfl
  suf L _ _ := by kernel_rfl
  fup f hf L cs _ _ := by cases hf; rfl
  fpl f hf L h0 hL := by cases hf; rcases six h0 hL with rfl | rfl | rfl | rfl | rfl | rfl <;> kernel_rfl
end Go.Sx
namespace Go.Sx
open Go.RowKit Go.Proofs
set_option maxRecDepth 100000
theorem bk1 (k : Nat) : RunL tb1 100 k [e1, e8] := ⟨(lAll_cons (p := Ent.run tb1 100) e1_run (lAll_cons (p := Ent.run tb1 100) e8_run rfl))⟩
theorem bk9 (k : Nat) : RunL tb1 100 k [e9] := ⟨(lAll_cons (p := Ent.run tb1 100) e9_run rfl)⟩
theorem bk10 (k : Nat) : RunL tb1 100 k [e10, e11] := ⟨(lAll_cons (p := Ent.run tb1 100) e10_run (lAll_cons (p := Ent.run tb1 100) e11_run rfl))⟩
theorem bk12 (k : Nat) : RunL tb1 100 k [e12] := ⟨(lAll_cons (p := Ent.run tb1 100) e12_run rfl)⟩
theorem bk13 (k : Nat) : RunL tb1 100 k [e13] := ⟨(lAll_cons (p := Ent.run tb1 100) e13_run rfl)⟩
noncomputable def ents2 : PT (List Ent) := (.node (some [e10, e11]) (.node (some [e13]) .nil .nil) (.node (some [e1, e8]) (.node (some [e9]) .nil .nil) (.node (some [e12]) .nil .nil)))
theorem ents2_run : ents2.Every (RunL tb1 100) := ⟨ev1 (bk10 _), ⟨ev1 (bk13 _), trivial, trivial⟩, ⟨ev1 (bk1 _), ⟨ev1 (bk9 _), trivial, trivial⟩, ⟨ev1 (bk12 _), trivial, trivial⟩⟩⟩
noncomputable def orc2 (f : FuncId) (args : List AV) (h : Heap) : Option (T (AV × Heap)) :=
  match entPT 8 ents2 f args h with
  | some t => some t
  | none => orc1 f args h
theorem orc2_ok : ∀ f args h t, orc2 f args h = some t → CallOk pT f args h t := by
  intro f args h t e
  unfold orc2 at e
  split at e
  · rename_i u hu
    cases e
    exact entPT_ok tabs1 ents2_run hu
  · exact orc1_ok f args h t e
noncomputable def tb2 : Tabs := ⟨Sx.Tryd.ft.get, lFind Sx.Tryd.rt, 2000, orc2⟩
theorem tabs2 : TabOk pT Sx.Tryd.tt.get tb2 := Tryd.tab orc2 orc2_ok 2000
end Go.Sx
namespace Go.Sx
open Go.RowKit Go.Proofs
set_option maxRecDepth 100000
noncomputable def filmQ (L : Nat) : List (Nat × Int × Int) :=
  (0, 1, 20) :: (1, 1, 20) :: (2, 0, 50) :: (3, 0, 50) :: (4, 1, 6000) :: (@List.rec Nat (fun _ => List (Nat × Int × Int)) [] (fun r _ ih => (10 + 6 * r, 0, 99) :: (11 + 6 * r, 0, 99) :: (12 + 6 * r, 0, 99) :: (13 + 6 * r, 0, 99) :: (14 + 6 * r, 1, 1200) :: (15 + 6 * r, 1, 1200) :: ih) (upN L 0))
noncomputable def leV (i j : Nat) : BE := .cmp .leq (.var i) (.var j)
noncomputable def filmC (L : Nat) : List BE :=
  leV 0 1 :: leV 2 3 :: (@List.rec Nat (fun _ => List BE) [] (fun r _ ih => leV (10 + 6 * r) (11 + 6 * r) :: leV (12 + 6 * r) (13 + 6 * r) :: leV (14 + 6 * r) (15 + 6 * r) :: leV (10 + 6 * r) (13 + 6 * r) :: ih) (upN L 0))
def okFilm (L : Nat) (ρ : Rho) : Prop := (∀ c ∈ ivC (filmQ L), c.den ρ = true) ∧ ∀ c ∈ filmC L, c.den ρ = true
theorem okFilm_kn {L : Nat} {ρ : Rho} (h : okFilm L ρ) : KnOk ρ (knOf (filmQ L) (filmC L)) := knOf_ok h.1 h.2
theorem CallOk.weak {P : Program} {RC : Nat → Nat → List Nat → Code → Code → Prop} {ok0 ok : Rho → (Nat → Obj → Prop) → Prop} (hw : ∀ ρ m, ok ρ m → ok0 ρ m) {f : FuncId} {args : List AV} {h : Heap} {t : T (AV × Heap)} (hc : CallOk ⟨P, RC, ok0⟩ f args h t) : CallOk ⟨P, RC, ok⟩ f args h t :=
  CallOk.read (p0 := ⟨P, RC, ok0⟩) (p := ⟨P, RC, ok⟩) rfl hc fun ρ _ ⟨m, k1, k2⟩ _ k => ⟨ρ, ⟨m, hw ρ m k1, k2⟩, SameL.refl _ _, ⟨rfl, fun _ o g => ⟨o, g, SameA.refl o⟩⟩, T.holds_mono (fun r hr => ⟨r, hr, SameV.refl _ _, rfl, fun _ o g => ⟨o, g, SameA.refl o⟩⟩) k⟩
noncomputable def vK (L : Nat) : List (Nat × AObj) := [(0, ro [li 1, li 20, li 0, li 50]), (3, ro [li 0, li 99, li 0, li 99, li 1, li 1200]), (1001, rowsA L)]
noncomputable def vK2 (L : Nat) : List (Nat × AObj) := [(0, ro [li 1, li 20, li 0, li 50]), (3, ro [li 0, li 99, li 0, li 99, li 1, li 1200]), (1001, rowsA L), (2000, .umap (mU false))]
noncomputable def knowV (L b : Nat) : AV := .tup [filmK b L, ln 0]
noncomputable def pK (L : Nat) : Par := ⟨Tryd.prog, rcOf Tryd.rows, fun ρ _ => okFilm L ρ⟩
theorem tabsK (L : Nat) : TabOk (pK L) Sx.Tryd.tt.get tbA := Tryd.tab (fun _ _ _ => none) (fun _ _ _ _ h => by cases h) 2000
noncomputable def runK (L : Nat) : T (AV × Heap) := (evalN tbA 100 false 64 [filmF L] (viewA 2000 (vK L))).bind fun r => graftT 2000 (vK L) (viewA 2000 (vK L)) (match r.1 with | .tup (.agg cs :: _) => (match listGet cs 6 with | some (.map b) => [b] | _ => []) | _ => []) r
noncomputable def mapO (o : Option AObj) : Bool :=
  match o with
  | some (.map [] 0) => true
  | _ => false
theorem mapO_eq {o : Option AObj} (h : mapO o = true) : o = some (.map [] 0) := by
  unfold mapO at h; split at h
  · rfl
  · cases h
noncomputable def endK (L : Nat) (_ : Kn) (q : AV × Heap) : Bool := and (eqAV q.1 (knowV L 2000)) (and (mapO (q.2.get 2000)) (and (allO q.2 (vK L)) (Nat.beq q.2.next 2001)))
noncomputable def ckK (L : Nat) : Bool := allW [] (endK L) (runK L) (knOf (filmQ L) (filmC L))
theorem ckK1 : ckK 1 = true := by kernel_rfl
theorem ckK2 : ckK 2 = true := by kernel_rfl
theorem ckK3 : ckK 3 = true := by kernel_rfl
theorem ckK4 : ckK 4 = true := by kernel_rfl
theorem ckK5 : ckK 5 = true := by kernel_rfl
theorem ckK6 : ckK 6 = true := by kernel_rfl
end Go.Sx
namespace Go.Sx
open Go.RowKit Go.Proofs
set_option maxRecDepth 100000
noncomputable def glR : List (Nat × List AV) := [(0, [li 1, li 20, li 0, li 50]), (1, [li 0, li 998, li 1, li 6]), (2, [li 0, li 3600, li 0, li 3600]), (3, [li 0, li 99, li 0, li 99, li 1, li 1200])]
theorem carried_run : isTrue1 (evalN tb2 100 false 7 [] (globHeap glR)) = true := by kernel_rfl
theorem glR_lit : lAll (fun g : Nat × List AV => and (Nat.ble (g.1 + 1) 1000) (lAll litVal g.2)) glR = true := by kernel_rfl
theorem carried_orc {args : List AV} {h : Heap} {t : T (AV × Heap)} (e : closedOrc glR args h = some t) : CallOk pT 7 args h t := closedOrc_ok tabs2 carried_run glR_lit e
end Go.Sx
namespace Go.Sx
open Go.RowKit Go.Proofs
set_option maxRecDepth 100000
theorem viewK_ok {L : Nat} (h0 : 1 ≤ L) (hL : L ≤ 6) : viewOk 2000 (vK L) = true := by
  rcases six h0 hL with rfl | rfl | rfl | rfl | rfl | rfl <;> kernel_rfl
theorem ckK_all {L : Nat} (h0 : 1 ≤ L) (hL : L ≤ 6) : ckK L = true := by
  rcases six h0 hL with rfl | rfl | rfl | rfl | rfl | rfl
  · exact ckK1
  · exact ckK2
  · exact ckK3
  · exact ckK4
  · exact ckK5
  · exact ckK6
noncomputable def nwK (r : AV × Heap) : List Nat := (match r.1 with | .tup (.agg cs :: _) => (match listGet cs 6 with | some (.map b) => [b] | _ => []) | _ => [])
theorem know_said {L : Nat} (h0 : 1 ≤ L) (hL : L ≤ 6) : CallOk (pK L) 64 [filmF L] (viewA 2000 (vK L)) (.ret (knowV L 2000, viewA 2001 (vK2 L))) := by
  have base := eval_ok (tabsK L) 100 64 [filmF L] (viewA 2000 (vK L))
  have up : upA 0 (vK L) = true := rfl
  have fr : CallOk (pK L) 64 [filmF L] (viewA 2000 (vK L)) (runK L) := base.frame (n := 2000) (l := vK L) (by omega) rfl (viewK_ok h0 hL)
    (fun g hg => ⟨g.2, viewA_mem 2000 _ 0 up g hg, .refl _⟩) (by rw [viewA_next]; exact Nat.le_refl _) nwK
  refine CallOk.read rfl fr fun ρ b hok Q k => ⟨ρ, hok, SameL.refl _ _, ⟨rfl, fun j o g => ⟨o, g, SameA.refl o⟩⟩, ?_⟩
  obtain ⟨_, hA, _⟩ := hok
  have k : Q (knowV L 2000, viewA 2001 (vK2 L)) := k
  refine allW_ok (rules_nil ρ) (fun K q _ hq => ?_) (runK L) _ (okFilm_kn hA) (ckK_all h0 hL)
  unfold endK at hq
  simp only [Bool.and_eq_true] at hq
  obtain ⟨q1, q2, q3, q4⟩ := hq
  refine ⟨_, k, by rw [eqAV_eq _ _ q1]; exact SameV.refl _ _, (beq_t.1 q4).trans (viewA_next _ _).symm, fun j o g => ?_⟩
  have hm := viewA_get _ _ _ _ g
  unfold vK2 at hm
  simp only [List.mem_cons, List.not_mem_nil, or_false] at hm
  rcases hm with h | h | h | h
  · exact ⟨o, allO_get q3 (by unfold vK; rw [h]; simp), SameA.refl o⟩
  · exact ⟨o, allO_get q3 (by unfold vK; rw [h]; simp), SameA.refl o⟩
  · exact ⟨o, allO_get q3 (by unfold vK; rw [h]; simp), SameA.refl o⟩
  · cases h; exact ⟨_, mapO_eq q2, SameA.empty rfl⟩
noncomputable def pF (L : Nat) : Par := ⟨Tryd.prog, rcOf Tryd.rows, fun ρ _ => okT L ρ ∧ okFilm L ρ⟩
noncomputable def nwM (_ : AV × Heap) : List Nat := [2000]
noncomputable def orcK (L : Nat) (args : List AV) (h : Heap) : Option (T (AV × Heap)) :=
  cond (and (eqAVs args [filmF L]) (and (lessAll h (vK L)) (Nat.ble 2000 h.next))) (some ((T.ret (knowV L 2000, viewA 2001 (vK2 L))).bind fun r => graftT 2000 (vK L) h (nwM r) r)) none
noncomputable def orcF (L : Nat) (f : FuncId) (args : List AV) (h : Heap) : Option (T (AV × Heap)) :=
  cond (Nat.beq f 64) (orcK L args h) (orcL consF L 7 f args h)
noncomputable def tbF (L : Nat) : Tabs := ⟨Sx.Tryd.ft.get, lFind Sx.Tryd.rt, 2000, orcF L⟩
theorem tabsF {L : Nat} (h0 : 1 ≤ L) (hL : L ≤ 6) : TabOk (pF L) Sx.Tryd.tt.get (tbF L) := by
  refine Tryd.tab (orcF L) (fun f args h t e => ?_) 2000
  unfold orcF at e
  cases h1 : Nat.beq f 64 with
  | true =>
    rw [h1, cond_true] at e
    rw [beq_t.1 h1]
    unfold orcK at e
    obtain ⟨hc, e2⟩ := cond_some e
    clear e
    simp only [Bool.and_eq_true] at hc
    obtain ⟨i1, i2, i3⟩ := hc
    rw [eqAVs_eq _ _ i1]
    cases e2
    have hw : CallOk (pF L) 64 [filmF L] (viewA 2000 (vK L)) (.ret (knowV L 2000, viewA 2001 (vK2 L))) := CallOk.weak (fun ρ m h => h.2) (know_said h0 hL)
    exact hw.frame (n := 2000) (by omega) rfl (viewK_ok h0 hL) (lessAll_ok i2) (ble_t.1 i3) nwM
  | false =>
    rw [h1, cond_false] at e
    exact CallOk.weak (fun ρ m h => h.1) ((tabsTs consF_ok h0 hL 7).orc f args h t e)
noncomputable def fullM (L : Nat) : Nat := Nat.pow 2 L - 1
noncomputable def vF (L : Nat) : List (Nat × AObj) := vK L ++ [(2000, .cells (lMap iA (ordL (fullM L) (.lit 0) (.lit 100))) 3 true true)]
noncomputable def nwFirst (r : AV × Heap) : List Nat :=
  match r.1 with
  | .tup [.sliceX b _ _ _, _] => [b]
  | .tup [.nilslice, _] => [2001]
  | _ => []
noncomputable def dumO : AObj := .cells [.nilslice] 29 true false
noncomputable def vF0 (L : Nat) : List (Nat × AObj) := vK L ++ [(2000, dumO)]
noncomputable def runF (L : Nat) : T (AV × Heap) := (evalN (tbF L) 100 false 40 [filmF L] (viewA 2000 (vK L))).bind fun r => graftT 2000 (vK L) (viewA 2000 (vK L)) (nwFirst r) r
noncomputable def noneVF : AV := .tup [.nilslice, ln 4]
noncomputable def foundVF (L : Nat) : AV := .tup [.sliceX 2000 1 0 L, ln 0]
noncomputable def encF (L : Nat) (q : AV × Heap) : AV :=
  match q.1 with
  | .tup [.nilslice, e] => .tup [tag true, e, tag (and (allO q.2 (vF0 L)) (Nat.beq q.2.next 2001))]
  | v => .tup [tag false, v, tag (and (allO q.2 (vK L)) (Nat.beq q.2.next 2001)), blkA (q.2.get 2000)]
noncomputable def expF (L : Nat) : T AV :=
  .br (noneE (fullM L) (.lit 0) (.lit 100)) (.ret (.tup [tag true, ln 4, tag true])) (.ret (.tup [tag false, foundVF L, tag true, cellsB (ordL (fullM L) (.lit 0) (.lit 100)) true]))
noncomputable def ckFi (L : Nat) : Bool := eqTF ((runF L).bind fun q => .ret (encF L q)) (expF L)
theorem ckFi1 : ckFi 1 = true := by kernel_rfl
theorem ckFi2 : ckFi 2 = true := by kernel_rfl
theorem ckFi3 : ckFi 3 = true := by kernel_rfl
theorem ckFi4 : ckFi 4 = true := by kernel_rfl
theorem ckFi5 : ckFi 5 = true := by kernel_rfl
theorem ckFi6 : ckFi 6 = true := by kernel_rfl
end Go.Sx
namespace Go.Sx
open Go.RowKit Go.Proofs
set_option maxRecDepth 100000
theorem ckFi_all {L : Nat} (h0 : 1 ≤ L) (hL : L ≤ 6) : ((runF L).bind fun q => T.ret (encF L q)) = expF L := by
  refine eqTF_eq _ _ ?_
  rcases six h0 hL with rfl | rfl | rfl | rfl | rfl | rfl
  · exact ckFi1
  · exact ckFi2
  · exact ckFi3
  · exact ckFi4
  · exact ckFi5
  · exact ckFi6
noncomputable def saidF (L : Nat) : T (AV × Heap) := .br (noneE (fullM L) (.lit 0) (.lit 100)) (.ret (noneVF, viewA 2001 (vF0 L))) (.ret (foundVF L, viewA 2001 (vF L)))
theorem encF_none {L : Nat} {q : AV × Heap} (h : encF L q = .tup [tag true, ln 4, tag true]) : q.1 = noneVF ∧ allO q.2 (vF0 L) = true ∧ q.2.next = 2001 := by
  unfold encF at h
  split at h
  · rename_i e hv
    simp only [AV.tup.injEq, List.cons.injEq, and_true, true_and] at h
    obtain ⟨h1, h2⟩ := h
    simp only [tag, AV.bool.injEq, BE.lit.injEq, Bool.and_eq_true] at h2
    exact ⟨by rw [hv, h1]; rfl, h2.1, beq_t.1 h2.2⟩
  · simp at h
theorem encF_found {L : Nat} {q : AV × Heap} {cs : List IE} (h : encF L q = .tup [tag false, foundVF L, tag true, cellsB cs true]) : q.1 = foundVF L ∧ allO q.2 (vK L) = true ∧ q.2.next = 2001 ∧ q.2.get 2000 = some (.cells (lMap iA cs) 3 true true) := by
  unfold encF at h
  split at h
  · simp at h
  · simp only [AV.tup.injEq, List.cons.injEq, and_true, true_and] at h
    obtain ⟨h1, h2, h3⟩ := h
    simp only [tag, AV.bool.injEq, BE.lit.injEq, Bool.and_eq_true] at h2
    exact ⟨h1, h2.1, beq_t.1 h2.2, blkA_some h3⟩
theorem first_said {L : Nat} (h0 : 1 ≤ L) (hL : L ≤ 6) : CallOk (pF L) 40 [filmF L] (viewA 2000 (vK L)) (saidF L) := by
  have base := eval_ok (tabsF h0 hL) 100 40 [filmF L] (viewA 2000 (vK L))
  have up : upA 0 (vK L) = true := rfl
  have fr : CallOk (pF L) 40 [filmF L] (viewA 2000 (vK L)) (runF L) := base.frame (n := 2000) (l := vK L) (by omega) rfl (viewK_ok h0 hL)
    (fun g hg => ⟨g.2, viewA_mem 2000 _ 0 up g hg, .refl _⟩) (by rw [viewA_next]; exact Nat.le_refl _) nwFirst
  refine CallOk.read rfl fr fun ρ b hok Q k => ⟨ρ, hok, SameL.refl _ _, ⟨rfl, fun j o g => ⟨o, g, SameA.refl o⟩⟩, T.holds_enc (ckFi_all h0 hL) ?_⟩
  unfold saidF at k
  unfold expF
  simp only [T.Holds] at k ⊢
  split
  · rename_i hc
    rw [if_pos hc] at k
    intro r0 he
    obtain ⟨h1, h2, h3⟩ := encF_none he
    exact ⟨_, k, by rw [h1]; exact SameV.refl _ _, h3.trans (viewA_next _ _).symm, fun j o g => ⟨o, allO_get h2 (viewA_get _ _ _ _ g), SameA.refl o⟩⟩
  · rename_i hc
    rw [if_neg hc] at k
    intro r0 he
    obtain ⟨h1, h2, h3, h4⟩ := encF_found he
    refine ⟨_, k, by rw [h1]; exact SameV.refl _ _, h3.trans (viewA_next _ _).symm, fun j o g => ?_⟩
    have hm := viewA_get _ _ _ _ g
    unfold vF at hm
    rcases List.mem_append.1 hm with hm | hm
    · exact ⟨o, allO_get h2 hm, SameA.refl o⟩
    · rw [List.mem_singleton] at hm
      cases hm
      exact ⟨_, h4, SameA.refl _⟩
end Go.Sx
namespace Go.Sx
open Go.RowKit Go.Proofs
set_option maxRecDepth 100000
noncomputable def smallO (n : Nat) (args0 : List AV) (l : List (Nat × AObj)) (t : T (AV × Heap)) (nw : AV × Heap → List Nat) (args : List AV) (h : Heap) : Option (T (AV × Heap)) :=
  cond (and (eqAVs args args0) (and (lessAll h l) (Nat.ble n h.next))) (some (t.bind fun r => graftT n l h (nw r) r)) none
theorem smallO_ok {p : Par} {f : FuncId} {n : Nat} {args0 : List AV} {l : List (Nat × AObj)} {t : T (AV × Heap)} {nw : AV × Heap → List Nat} (hc : CallOk p f args0 (viewA n l) t) (hn : 1000 ≤ n) (ha : idsLts n args0 = true) (hv : viewOk n l = true)
    {args : List AV} {h : Heap} {u : T (AV × Heap)} (e : smallO n args0 l t nw args h = some u) : CallOk p f args h u := by
  unfold smallO at e
  obtain ⟨h1, e2⟩ := cond_some e
  clear e
  simp only [Bool.and_eq_true] at h1
  obtain ⟨i1, i2, i3⟩ := h1
  rw [eqAVs_eq _ _ i1]
  cases e2
  exact hc.frame (n := n) hn ha hv (lessAll_ok i2) (ble_t.1 i3) nw
noncomputable def bookC (L : Nat) : List AV := [.sliceX 1001 6 0 L, vj 0, vj 1, vj 2, vj 3, vj 4, vj 60, vj 61, vj 62, vj 63, vj 64, vj 65]
noncomputable def bookF (L : Nat) : AV := .agg (bookC L)
noncomputable def vR (L : Nat) : List (Nat × AObj) := [(0, ro [li 1, li 20, li 0, li 50]), (1, ro [li 0, li 998, li 1, li 6]), (2, ro [li 0, li 3600, li 0, li 3600]), (3, ro [li 0, li 99, li 0, li 99, li 1, li 1200]), (1001, rowsA L)]
noncomputable def bookQ : List (Nat × Int × Int) := [(60, 0, 998), (61, 0, 3600), (62, 0, 3600), (63, 0, 3600), (64, 0, 3600), (65, 1, 6)]
noncomputable def bookLe : List BE := [leV 61 62, leV 63 64]
def okBook (ρ : Rho) : Prop := (∀ c ∈ ivC bookQ, c.den ρ = true) ∧ ∀ c ∈ bookLe, c.den ρ = true
noncomputable def noneB (L : Nat) : BE := noneE (fullM L) (.lit 0) (.lit 100)
def okB (L : Nat) (ρ : Rho) : Prop := okT L ρ ∧ okFilm L ρ ∧ (noneB L).den ρ = false ∧ okBook ρ
noncomputable def pB (L : Nat) : Par := ⟨Tryd.prog, rcOf Tryd.rows, fun ρ _ => okB L ρ⟩
theorem okBook_kn {ρ : Rho} (h : okBook ρ) : KnOk ρ (knOf bookQ bookLe) := knOf_ok h.1 h.2
noncomputable def ordB (L : Nat) : AObj := .cells (lMap iA (ordL (fullM L) (.lit 0) (.lit 100))) 3 true true
theorem first_found {L : Nat} (h0 : 1 ≤ L) (hL : L ≤ 6) : CallOk (pB L) 40 [filmF L] (viewA 2000 (vK L)) (.ret (foundVF L, viewA 2001 (vF L))) := by
  refine CallOk.read (p0 := pF L) (p := pB L) rfl (first_said h0 hL) fun ρ b ⟨m, k1, k2⟩ Q k => ⟨ρ, ⟨m, ⟨k1.1, k1.2.1⟩, k2⟩, SameL.refl _ _, ⟨rfl, fun j o g => ⟨o, g, SameA.refl o⟩⟩, ?_⟩
  have k : Q (foundVF L, viewA 2001 (vF L)) := k
  have hn : (noneE (fullM L) (.lit 0) (.lit 100)).den ρ = false := k1.2.2.1
  unfold saidF
  simp only [T.Holds]
  rw [if_neg (by rw [hn]; exact Bool.false_ne_true)]
  exact ⟨_, k, SameV.refl _ _, rfl, fun j o g => ⟨o, g, SameA.refl o⟩⟩
noncomputable def mR (live : Bool) : MU := ⟨3100, [(false, 3101), (false, 3102), (false, 3103), (false, 3104)], true, 2, live⟩
noncomputable def kV (L b m : Nat) : AV := .agg (bookC L ++ [.sliceX b 1 0 L, .map m])
noncomputable def vKR (L : Nat) (live : Bool) : List (Nat × AObj) := vR L ++ [(2000, ordB L), (2001, .umap (mR live))]
noncomputable def orcKR (L : Nat) (f : FuncId) (args : List AV) (h : Heap) : Option (T (AV × Heap)) :=
  cond (Nat.beq f 40) (smallO 2000 [filmF L] (vK L) (.ret (foundVF L, viewA 2001 (vF L))) (fun _ => [2000]) args h) none
noncomputable def tbKR (L : Nat) : Tabs := ⟨Sx.Tryd.ft.get, lFind Sx.Tryd.rt, 2000, orcKR L⟩
noncomputable abbrev pOk (ok : Rho → (Nat → Obj → Prop) → Prop) : Par := ⟨Tryd.prog, rcOf Tryd.rows, ok⟩
theorem orcFirst_ok {ok : Rho → (Nat → Obj → Prop) → Prop} {L : Nat} (hok : ∀ ρ m, ok ρ m → okB L ρ) (h0 : 1 ≤ L) (hL : L ≤ 6) {args : List AV} {h : Heap} {t : T (AV × Heap)}
    (e : smallO 2000 [filmF L] (vK L) (.ret (foundVF L, viewA 2001 (vF L))) (fun _ => [2000]) args h = some t) : CallOk (pOk ok) 40 args h t :=
  smallO_ok (CallOk.weak (ok0 := fun ρ _ => okB L ρ) hok (first_found h0 hL)) (by omega) rfl (viewK_ok h0 hL) e
theorem tabsKR {L : Nat} (h0 : 1 ≤ L) (hL : L ≤ 6) : TabOk (pB L) Sx.Tryd.tt.get (tbKR L) := by
  refine Tryd.tab (orcKR L) (fun f args h t e => ?_) 2000
  unfold orcKR at e
  obtain ⟨h1, e⟩ := cond_some e
  rw [beq_t.1 h1]
  exact orcFirst_ok (ok := fun ρ _ => okB L ρ) (fun _ _ h => h) h0 hL e
noncomputable def nwKR (r : AV × Heap) : List Nat := match r.1 with
  | .tup (.agg cs :: _) => (match listGet cs 12, listGet cs 13 with
    | some (.sliceX b _ _ _), some (.map m) => [b, m]
    | _, _ => [])
  | _ => []
noncomputable def runKR (L : Nat) : T (AV × Heap) := (evalN (tbKR L) 100 false 42 [bookF L] (viewA 2000 (vR L))).bind fun r => graftT 2000 (vR L) (viewA 2000 (vR L)) (nwKR r) r
noncomputable def knowVR (L : Nat) : AV := .tup [kV L 2000 2001, ln 0]
noncomputable def endKR (L : Nat) (_ : Kn) (q : AV × Heap) : Bool := and (eqAV q.1 (knowVR L)) (and (mapO (q.2.get 2001)) (and (isO (q.2.get 2000) (ordB L)) (and (allO q.2 (vR L)) (Nat.beq q.2.next 2002))))
noncomputable def ckKR (L : Nat) : Bool := allW [] (endKR L) (runKR L) (knOf bookQ bookLe)
theorem ckKR1 : ckKR 1 = true := by kernel_rfl
theorem ckKR2 : ckKR 2 = true := by kernel_rfl
theorem ckKR3 : ckKR 3 = true := by kernel_rfl
theorem ckKR4 : ckKR 4 = true := by kernel_rfl
theorem ckKR5 : ckKR 5 = true := by kernel_rfl
theorem ckKR6 : ckKR 6 = true := by kernel_rfl
theorem viewR_ok {L : Nat} (h0 : 1 ≤ L) (hL : L ≤ 6) : viewOk 2000 (vR L) = true := by
  rcases six h0 hL with rfl | rfl | rfl | rfl | rfl | rfl <;> kernel_rfl
theorem ckKR_all {L : Nat} (h0 : 1 ≤ L) (hL : L ≤ 6) : ckKR L = true := by
  rcases six h0 hL with rfl | rfl | rfl | rfl | rfl | rfl
  · exact ckKR1
  · exact ckKR2
  · exact ckKR3
  · exact ckKR4
  · exact ckKR5
  · exact ckKR6
theorem mR_nb (live : Bool) : ∀ q ∈ (mR live).fi, q.1 = false := by
  intro q hq
  simp only [mR, List.mem_cons, List.not_mem_nil, or_false] at hq
  rcases hq with rfl | rfl | rfl | rfl <;> rfl
theorem knowR_said {L : Nat} (h0 : 1 ≤ L) (hL : L ≤ 6) : CallOk (pB L) 42 [bookF L] (viewA 2000 (vR L)) (.ret (knowVR L, viewA 2002 (vKR L false))) := by
  have base := eval_ok (tabsKR h0 hL) 100 42 [bookF L] (viewA 2000 (vR L))
  have up : upA 0 (vR L) = true := rfl
  have fr : CallOk (pB L) 42 [bookF L] (viewA 2000 (vR L)) (runKR L) := base.frame (n := 2000) (l := vR L) (by omega) rfl (viewR_ok h0 hL)
    (fun g hg => ⟨g.2, viewA_mem 2000 _ 0 up g hg, .refl _⟩) (by rw [viewA_next]; exact Nat.le_refl _) nwKR
  refine CallOk.read rfl fr fun ρ b hok Q k => ⟨ρ, hok, SameL.refl _ _, ⟨rfl, fun j o g => ⟨o, g, SameA.refl o⟩⟩, ?_⟩
  obtain ⟨_, hA, _⟩ := hok
  have hA : okB L ρ := hA
  have k : Q (knowVR L, viewA 2002 (vKR L false)) := k
  refine allW_ok (rules_nil ρ) (fun K q _ hq => ?_) (runKR L) _ (okBook_kn hA.2.2.2) (ckKR_all h0 hL)
  unfold endKR at hq
  simp only [Bool.and_eq_true] at hq
  obtain ⟨q1, q2, q3, q4, q5⟩ := hq
  refine ⟨_, k, by rw [eqAV_eq _ _ q1]; exact SameV.refl _ _, (beq_t.1 q5).trans (viewA_next _ _).symm, fun j o g => ?_⟩
  have hm := viewA_get _ _ _ _ g
  unfold vKR at hm
  rcases List.mem_append.1 hm with hm | hm
  · exact ⟨o, allO_get q4 hm, SameA.refl o⟩
  · simp only [List.mem_cons, List.not_mem_nil, or_false] at hm
    rcases hm with h | h
    · cases h; exact ⟨_, isO_eq q3, SameA.refl _⟩
    · cases h; exact ⟨_, mapO_eq q2, SameA.empty rfl⟩
end Go.Sx
