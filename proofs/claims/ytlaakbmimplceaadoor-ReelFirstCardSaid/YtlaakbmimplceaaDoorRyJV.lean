/- WHETHER A LIST OF ALL REELS IS AN ORDER, as it is said: of lists of names. -/
import Derived.Test.YtlaakbmimplceaaDoorRyPu
import Derived.Test.YtlaakbmimplceaaDoorRyJ2001a
import Derived.Test.YtlaakbmimplceaaDoorRyJ2001b0
import Derived.Test.YtlaakbmimplceaaDoorRyJ2001b2
import Derived.Test.YtlaakbmimplceaaDoorRyJ2001b4
import Derived.Test.YtlaakbmimplceaaDoorRyJ2003a
import Derived.Test.YtlaakbmimplceaaDoorRyJ2003b0
import Derived.Test.YtlaakbmimplceaaDoorRyJ2003b2
import Derived.Test.YtlaakbmimplceaaDoorRyJ2003b4
/-! WHETHER A LIST OF ALL REELS IS AN ORDER, as it is said: of lists of names. -/
namespace Go.Sx
open Go.RowKit Go.Proofs
set_option maxRecDepth 100000
theorem ckJr_of {B L r : Nat} (h : ckJ B L = true) (hr : r < L) : ckJr B L r = true := lAll_at h (Nat.zero_le _) (by omega)
theorem ckJ2001_all {L r : Nat} (h0 : 1 ≤ L) (hL : L ≤ 6) (hr : r < L) : ckJr 2001 L r = true := by
  rcases six h0 hL with rfl | rfl | rfl | rfl | rfl | rfl
  · exact ckJr_of ckJ2001_1 hr
  · exact ckJr_of ckJ2001_2 hr
  · exact ckJr_of ckJ2001_3 hr
  · exact ckJr_of ckJ2001_4 hr
  · have h : r = 0 ∨ r = 1 ∨ r = 2 ∨ r = 3 ∨ r = 4 := by omega
    rcases h with rfl | rfl | rfl | rfl | rfl
    · exact ckJ2001_5_0
    · exact ckJ2001_5_1
    · exact ckJ2001_5_2
    · exact ckJ2001_5_3
    · exact ckJ2001_5_4
  · have h : r = 0 ∨ r = 1 ∨ r = 2 ∨ r = 3 ∨ r = 4 ∨ r = 5 := by omega
    rcases h with rfl | rfl | rfl | rfl | rfl | rfl
    · exact ckJ2001_6_0
    · exact ckJ2001_6_1
    · exact ckJ2001_6_2
    · exact ckJ2001_6_3
    · exact ckJ2001_6_4
    · exact ckJ2001_6_5
theorem ckJ2003_all {L r : Nat} (h0 : 1 ≤ L) (hL : L ≤ 6) (hr : r < L) : ckJr 2003 L r = true := by
  rcases six h0 hL with rfl | rfl | rfl | rfl | rfl | rfl
  · exact ckJr_of ckJ2003_1 hr
  · exact ckJr_of ckJ2003_2 hr
  · exact ckJr_of ckJ2003_3 hr
  · exact ckJr_of ckJ2003_4 hr
  · have h : r = 0 ∨ r = 1 ∨ r = 2 ∨ r = 3 ∨ r = 4 := by omega
    rcases h with rfl | rfl | rfl | rfl | rfl
    · exact ckJ2003_5_0
    · exact ckJ2003_5_1
    · exact ckJ2003_5_2
    · exact ckJ2003_5_3
    · exact ckJ2003_5_4
  · have h : r = 0 ∨ r = 1 ∨ r = 2 ∨ r = 3 ∨ r = 4 ∨ r = 5 := by omega
    rcases h with rfl | rfl | rfl | rfl | rfl | rfl
    · exact ckJ2003_6_0
    · exact ckJ2003_6_1
    · exact ckJ2003_6_2
    · exact ckJ2003_6_3
    · exact ckJ2003_6_4
    · exact ckJ2003_6_5
/-- a call is said if it is said where the numbers are as they are -/
theorem CallOk.pick {p0 p : Par} (hP : p0.P = p.P) {f : FuncId} {args : List AV} {h : Heap} {t : T (AV × Heap)}
    (H : ∀ ρ b, p.okB ρ b → ∀ Q : AV × Heap → Prop, t.Holds ρ Q → ∃ args0 h0 t0, CallOk p0 f args0 h0 t0 ∧ p0.okB ρ b ∧ SameL ρ args ρ args0 ∧ SameH p p0 ρ h ρ h0 ∧ t0.Holds ρ fun r0 => ∃ r, Q r ∧ SameV ρ r0.1 ρ r.1 ∧ SameH p0 p ρ r0.2 ρ r.2) : CallOk p f args h t := by
  intro vs E w0 w Q K k HH ha P
  obtain ⟨args0, h0, t0, hc, hok, hargs, hh, ht⟩ := H E.ρ w0 HH.ok Q k
  have HH0 : HeapOk p0 ⟨E.ρ, E.σ, E.κ, E.n, E.rc⟩ h0 w0 w := HeapOk.read (ρ0 := E.ρ) (σ := E.σ) (κ := E.κ) (n := E.n) (rc := E.rc) HH hh hok
  have ha0 : concL ⟨E.ρ, E.σ, E.κ, E.n, E.rc⟩ args0 = some vs := by
    rw [← hargs E.σ E.κ E.n E.n E.rc E.rc]; exact ha
  have key := hc vs ⟨E.ρ, E.σ, E.κ, E.n, E.rc⟩ w0 w _ K ht HH0 ha0 (fun v' h' E1 w' cv q hle H1 hcv => by
    obtain ⟨r, hq, hv, hs⟩ := q
    have hρ1 : E1.ρ = E.ρ := hle.ρ
    have H2 : HeapOk p ⟨E.ρ, E1.σ, E1.κ, E1.n, E1.rc⟩ r.2 w0 w' := HeapOk.read (ρ0 := E.ρ) (σ := E1.σ) (κ := E1.κ) (n := E1.n) (rc := E1.rc) (by rw [← hρ1]; exact H1) hs HH.ok
    refine P r.1 r.2 ⟨E.ρ, E1.σ, E1.κ, E1.n, E1.rc⟩ w' cv hq ⟨⟨rfl, hle.σ, hle.κ, hle.rc⟩, hle.n, hle.none⟩ H2 ?_
    have := hv E1.σ E1.κ E1.n E1.n E1.rc E1.rc
    rw [← this, ← hρ1]; exact hcv)
  rw [hP] at key
  exact key
theorem viewI_ok {B L : Nat} (hB : B = 2001 ∨ B = 2003) (h0 : 1 ≤ L) (hL : L ≤ 6) (xs : List IE) : viewOk (B + 1) (vI B L xs) = true := by
  have key : ∀ B, B = 2001 ∨ B = 2003 → viewOk (B + 1) (vK L) = true := by
    intro B hB
    rcases hB with rfl | rfl <;> rcases six h0 hL with rfl | rfl | rfl | rfl | rfl | rfl <;> kernel_rfl
  have k := key B hB
  unfold viewOk at k ⊢
  rw [Bool.and_eq_true] at k ⊢
  refine ⟨by rcases hB with rfl | rfl <;> rfl, ?_⟩
  unfold vI
  refine lAll_app k.2 (lAll_cons ?_ rfl)
  rw [Bool.and_eq_true]
  exact ⟨ble_t.2 (Nat.le_refl _), idsI (B + 1) xs⟩
theorem permsM_len : ∀ (k m : Nat) (l : List Nat), l ∈ permsM k m → l.length = k
  | 0, m, l, h => by rw [permsM, List.mem_singleton] at h; rw [h]; rfl
  | k + 1, m, l, h => by
    rw [permsM, List.mem_flatMap] at h
    obtain ⟨r, hr, h⟩ := h
    obtain ⟨l', h', rfl⟩ := List.mem_map.1 h
    rw [List.length_cons, permsM_len k _ l' h']
theorem fullM_cnt {L : Nat} (h0 : 1 ≤ L) (hL : L ≤ 6) : cnt (fullM L) = L := by
  rcases six h0 hL with rfl | rfl | rfl | rfl | rfl | rfl <;> rfl
theorem fullM_lt {L : Nat} : fullM L < 2 ^ L := by
  have : 0 < 2 ^ L := Nat.pow_pos (by omega)
  show 2 ^ L - 1 < 2 ^ L
  omega
theorem ckJ_all {B L : Nat} (hB : B = 2001 ∨ B = 2003) (h0 : 1 ≤ L) (hL : L ≤ 6) {l : List Nat} (hl : l ∈ permsM L (fullM L)) : ckJ1 B L l = true := by
  obtain ⟨k, rfl⟩ : ∃ k, L = k + 1 := ⟨L - 1, by omega⟩
  rw [permsM, List.mem_flatMap] at hl
  obtain ⟨r, hr, h⟩ := hl
  obtain ⟨l', h', rfl⟩ := List.mem_map.1 h
  have hrL : r < k + 1 := ((facts_of hL fullM_lt).1 r hr).1
  have ck : ckJr B (k + 1) r = true := by
    rcases hB with rfl | rfl
    · exact ckJ2001_all h0 hL hrL
    · exact ckJ2003_all h0 hL hrL
  exact lAll_mem ck l' h'
theorem tabsI {B L : Nat} (hB : B = 2001 ∨ B = 2003) (h0 : 1 ≤ L) (hL : L ≤ 6) : TabOk (pF L) Sx.Tryd.tt.get (tbI B L) := by
  refine Tryd.tab (orcI B L) (fun f args h t e => ?_) 2000
  unfold orcI at e
  cases h1 : Nat.beq f 38 with
  | true =>
    rw [h1, cond_true] at e
    refine (tabsF h0 hL).orc f args h t ?_
    show orcF L f args h = some t
    unfold orcF
    rw [h1, cond_true]
    exact e
  | false =>
    rw [h1, cond_false] at e
    obtain ⟨h2, e⟩ := cond_some e
    rw [beq_t.1 h2]
    exact orcA_ok (p := pF L) rfl (by rcases hB with rfl | rfl <;> simp) (fun ρ m h => h.1.1) h0 hL e
theorem chainT_holds {L : Nat} {ρ : Rho} (h : okA L ρ) {R : AV → Prop} : ∀ (l : List Nat) (x1 x2 : IE), (∀ r ∈ l, r < L) → R (.tup [.tup [tag (chainF ρ l (x1.den ρ) (x2.den ρ)), ln 0], tag true]) → (chainJ l x1 x2).Holds ρ R
  | [], x1, x2, _, hR => hR
  | r :: l, x1, x2, hl, hR => by
    have hr := hl r List.mem_cons_self
    obtain ⟨d1, d2⟩ := af_den h hr x1 x2
    have e : chainJ (r :: l) x1 x2 = .br (empE r x1 x2) (.ret (.tup [.tup [tag false, ln 0], tag true])) (chainJ l (af1 r x1 x2) (af2 r x1 x2)) := rfl
    rw [e]
    simp only [T.Holds]
    split
    · rename_i he
      have he := (emp_den h hr x1 x2).1 he
      simp only [chainF, he, decide_true, Bool.not_true, Bool.false_and] at hR
      exact hR
    · rename_i he
      have he : ¬ aftF ρ r (x1.den ρ) (x2.den ρ) = (0, 0) := fun h' => he ((emp_den h hr x1 x2).2 h')
      refine chainT_holds h l _ _ (fun r hr => hl r (List.mem_cons_of_mem _ hr)) ?_
      rw [d1, d2]
      simp only [chainF, decide_eq_false he, Bool.not_false, Bool.true_and] at hR
      exact hR
theorem permsM_lt {L : Nat} (hL : L ≤ 6) : ∀ (k m : Nat), m < 2 ^ L → ∀ l ∈ permsM k m, ∀ r ∈ l, r < L
  | 0, m, _, l, h => by rw [permsM, List.mem_singleton] at h; rw [h]; intro r hr; cases hr
  | k + 1, m, hm, l, h => by
    rw [permsM, List.mem_flatMap] at h
    obtain ⟨r, hr, h⟩ := h
    obtain ⟨l', h', rfl⟩ := List.mem_map.1 h
    have f := (facts_of hL hm).1 r hr
    intro r' hr'
    rcases List.mem_cons.1 hr' with rfl | hr'
    · exact f.1
    · exact permsM_lt hL k _ f.2.1 l' h' r' hr'
noncomputable def leafI (B L : Nat) (xs : List IE) (c : BE) : AV × Heap := (.tup [.bool c, ln 0], viewA (B + 1) (vI B L xs))
noncomputable def saidI (B L : Nat) (xs : List IE) (g c : BE) : T (AV × Heap) := .br g (.fail 8) (.ret (leafI B L xs c))
theorem vI_same {B L : Nat} (hB : B = 2001 ∨ B = 2003) {ok ok' : Rho → (Nat → Obj → Prop) → Prop} {ρ : Rho} {xs ys : List IE} (h : xs.map (IE.den ρ) = ys.map (IE.den ρ)) : SameH ⟨Tryd.prog, rcOf Tryd.rows, ok⟩ ⟨Tryd.prog, rcOf Tryd.rows, ok'⟩ ρ (viewA (B + 1) (vI B L xs)) ρ (viewA (B + 1) (vI B L ys)) := by
  refine ⟨by rw [viewA_next, viewA_next], fun j c g => ?_⟩
  have up : upA 0 (vI B L xs) = true := by rcases hB with rfl | rfl <;> rfl
  have get : ∀ {b c}, (b, c) ∈ vI B L xs → (viewA (B + 1) (vI B L xs)).get b = some c := fun hm => viewA_mem (B + 1) _ 0 up _ hm
  have hm := viewA_get _ _ _ _ g
  unfold vI at hm
  rcases List.mem_append.1 hm with hm | hm
  · exact ⟨c, get (List.mem_append_left _ hm), SameA.refl c⟩
  · rw [List.mem_singleton] at hm
    cases hm
    exact ⟨_, get (List.mem_append_right _ List.mem_cons_self), SameA.cells rfl (same_ints h)⟩
theorem litN_den {ρ : Rho} : ∀ l : List Nat, (lMap litN l).map (IE.den ρ) = l.map Int.ofNat
  | [] => rfl
  | a :: l => by
    have e : lMap litN (a :: l) = litN a :: lMap litN l := rfl
    rw [e, List.map_cons, List.map_cons, litN_den l]
    rfl
theorem idsLts_argsI {B L : Nat} (hB : B = 2001 ∨ B = 2003) : idsLts (B + 1) (argsI B L) = true := by
  rcases hB with rfl | rfl <;> rfl
/-- WHAT 'IsOrder' HANDS BACK, of a list of all reels. -/
theorem isOrder_said {ok : Rho → (Nat → Obj → Prop) → Prop} {B L : Nat} (hB : B = 2001 ∨ B = 2003) (h0 : 1 ≤ L) (hL : L ≤ 6) (xs : List IE) (g c : BE)
    (H : ∀ ρ m, ok ρ m → okT L ρ ∧ okFilm L ρ ∧ (g.den ρ = true ∨ ∃ l ∈ permsM L (fullM L), xs.map (IE.den ρ) = l.map Int.ofNat ∧ c.den ρ = chainF ρ l 0 100)) :
    CallOk ⟨Tryd.prog, rcOf Tryd.rows, ok⟩ 10 (argsI B L) (viewA (B + 1) (vI B L xs)) (saidI B L xs g c) := by
  refine CallOk.pick (p0 := pF L) (p := ⟨Tryd.prog, rcOf Tryd.rows, ok⟩) rfl fun ρ b ⟨m, k1, k2⟩ Q k => ?_
  obtain ⟨hT, hF, hl⟩ := H ρ m k1
  unfold saidI at k
  simp only [T.Holds] at k
  split at k
  · exact k.elim
  · rename_i hg
    obtain ⟨l, hl, hx, hc⟩ := hl.resolve_left hg
    have base := eval_ok (tabsI hB h0 hL) 100 10 (argsI B L) (viewA (B + 1) (vI B L (lMap litN l)))
    have up : upA 0 (vI B L (lMap litN l)) = true := by rcases hB with rfl | rfl <;> rfl
    have fr : CallOk (pF L) 10 (argsI B L) (viewA (B + 1) (vI B L (lMap litN l))) (runI B L l) := base.frame (n := B + 1) (l := vI B L (lMap litN l)) (by omega) (idsLts_argsI hB) (viewI_ok hB h0 hL _)
      (fun g hg => ⟨g.2, viewA_mem (B + 1) _ 0 up g hg, .refl _⟩) (by rw [viewA_next]; exact Nat.le_refl _) (fun _ => [])
    have hd : (lMap litN l).map (IE.den ρ) = xs.map (IE.den ρ) := (litN_den l).trans hx.symm
    refine ⟨_, _, _, fr, ⟨m, ⟨hT, hF⟩, k2⟩, SameL.refl _ _, vI_same hB hd.symm, T.holds_enc (eqTF_eq _ _ (ckJ_all hB h0 hL hl)) ?_⟩
    refine chainT_holds hT.1 l _ _ (permsM_lt hL _ _ fullM_lt l hl) ?_
    intro r0 he
    unfold encI at he
    simp only [AV.tup.injEq, List.cons.injEq, and_true] at he
    obtain ⟨h1, h2⟩ := he
    simp only [tag, AV.bool.injEq, BE.lit.injEq, Bool.and_eq_true] at h2
    refine ⟨_, k, ?_, ?_⟩
    · rw [h1]
      show SameV ρ (.tup [tag (chainF ρ l 0 100), ln 0]) ρ (.tup [.bool c, ln 0])
      rw [← hc]
      intro σ κ n n' rc rc'
      simp only [conc, concL, tag, BE.den]
      rfl
    · have e1 : r0.2.next = B + 1 := beq_t.1 h2.2
      obtain ⟨s1, s2⟩ := vI_same (L := L) hB (ok := fun ρ _ => okT L ρ ∧ okFilm L ρ) (ok' := ok) hd
      refine ⟨e1.trans (viewA_next _ _).symm, fun j o g => ?_⟩
      obtain ⟨o0, g0, sa⟩ := s2 j o g
      exact ⟨o0, allO_get h2.1 (viewA_get _ _ _ _ g0), sa⟩
end Go.Sx
