/- MxU -/
import Derived.Test.YtlaakbmimplceaaDoorMxM
import Derived.Test.YtlaakbmimplceaaDoorMxL5
import Derived.Test.YtlaakbmimplceaaDoorMxL6
import Derived.Test.YtlaakbmimplceaaDoorMxO
import Derived.Test.YtlaakbmimplceaaDoorFiTu
import Derived.Test.YtlaakbmimplceaaDoorMxF5
import Derived.Test.YtlaakbmimplceaaDoorMxF6a
import Derived.Test.YtlaakbmimplceaaDoorMxF6b
import Derived.Test.YtlaakbmimplceaaDoorMxF6c
import Derived.Test.YtlaakbmimplceaaDoorMxF6d
import Derived.Test.YtlaakbmimplceaaDoorMxF6e
import Derived.Test.YtlaakbmimplceaaDoorMxF6f
namespace Go.Sx
noncomputable section
open Go.RowKit Go.Proofs
set_option maxRecDepth 100000
theorem mixCk_all {L i : Nat} (h0 : 1 ≤ L) (hL : L ≤ 6) (hi : i ≤ L) : mixCk L i = true := by
 rcases six h0 hL with rfl | rfl | rfl | rfl | rfl | rfl
 ·exact lAll_at mixCk_1 (Nat.zero_le _) (by omega)
 ·exact lAll_at mixCk_2 (Nat.zero_le _) (by omega)
 ·exact lAll_at mixCk_3 (Nat.zero_le _) (by omega)
 ·exact lAll_at mixCk_4 (Nat.zero_le _) (by omega)
 ·have : i = 0 ∨ i = 1 ∨ i = 2 ∨ i = 3 ∨ i = 4 ∨ i = 5 := by omega
  rcases this with rfl | rfl | rfl | rfl | rfl | rfl
  ·exact mixCk_50
  ·exact mixCk_51
  ·exact mixCk_52
  ·exact mixCk_53
  ·exact mixCk_54
  ·exact mixCk_55
 ·have : i = 0 ∨ i = 1 ∨ i = 2 ∨ i = 3 ∨ i = 4 ∨ i = 5 ∨ i = 6 := by omega
  rcases this with rfl | rfl | rfl | rfl | rfl | rfl | rfl
  ·exact mixCk_60
  ·exact mixCk_61
  ·exact mixCk_62
  ·exact mixCk_63
  ·exact mixCk_64
  ·exact mixCk_65
  ·exact mixCk_66
theorem endMx_eq {ρ : Rho} {L : Nat} {r : Ex × St} {tag : Nat} {c : IE} (hs : SameE ρ (endMx L r) (.tup [li tag, .tup [.int .i64 c], .bool (.lit true)])) :
  tagE r.1 = tag ∧ (∃ v, r.2.tm.tree.get 17 = some v ∧ SameE ρ v (.int .i64 c)) ∧ keepsMx L r = true := by
 have key : ∀ E : Env, E.ρ = ρ → tagE r.1 = tag ∧ (∃ v, r.2.tm.tree.get 17 = some v ∧ conc E v = conc E (.int .i64 c)) ∧ keepsMx L r = true := by
  intro E hE
  have h := hs E hE
  have h2 : conc E (.tup [li tag, .tup [.int .i64 c], .bool (.lit true)]) = some (.tuple #[.int .i64 tag, .tuple #[.int .i64 (c.den E.ρ)], .bool true]) := by
   simp [conc, concL, li, IE.den, BE.den]
  rw [h2] at h
  have slot : ∀ {o : Option AV} {e : IE} {x : Value}, conc E (optA o) = some x → x = .tuple #[.int .i64 (e.den E.ρ)] → ∃ v, o = some v ∧ conc E v = conc E (.int .i64 e) := by
   intro o e x h1 h2
   subst h2
   cases o with
   | none => simp [optA, conc, concL] at h1
   | some v =>
    simp only [optA, conc, Option.map_eq_some_iff] at h1
    obtain ⟨l, h3, h4⟩ := h1
    obtain ⟨x, us, h5, h6, h7⟩ := concL_cons.1 h3
    simp only [concL, Option.some.injEq] at h6
    subst h6 h7
    refine ⟨v, rfl, ?_⟩
    rw [h5]
    simpa [conc] using h4
  simp only [endMx, conc, Option.map_eq_some_iff] at h
  obtain ⟨l, h3, h4⟩ := h
  obtain ⟨x1, u1, a1, a2, rfl⟩ := concL_cons.1 h3
  obtain ⟨x2, u2, a3, a4, rfl⟩ := concL_cons.1 a2
  obtain ⟨x3, u3, a5, a6, rfl⟩ := concL_cons.1 a4
  simp only [concL, Option.some.injEq] at a6
  subst a6
  simp only [Value.tuple.injEq] at h4
  have h4 := congrArg Array.toList h4
  simp only [List.cons.injEq, and_true] at h4
  obtain ⟨e1, e2, e3⟩ := h4
  refine ⟨?_, slot a3 e2, ?_⟩
  ·subst e1
   simp only [li, conc, IE.den, Option.some.injEq, Value.int.injEq, true_and] at a1
   exact Int.ofNat_inj.1 a1
  ·subst e3
   simpa [conc, BE.den] using a5
 obtain ⟨k1, ⟨v, k2, _⟩, k3⟩ := key ⟨ρ, fun _ => none, fun _ => 0, 0, fun _ => #[]⟩ rfl
 refine ⟨k1, ⟨v, k2, fun E hE => ?_⟩, k3⟩
 obtain ⟨_, ⟨v', h1, h2⟩, _⟩ := key E hE
 rw [k2] at h1; cases h1; exact h2
theorem keepsMx_eq {L : Nat} {r : Ex × St} (h : keepsMx L r = true) (hr : r.1 ≠ .ret) : r.2.df = [] ∧ r.2.tm.tree.get 5 = some (.ptr 1005 0) ∧ r.2.tm.tree.get 7 = some (.ptr 1001 0) ∧ r.2.tm.tree.get 8 = some (.sliceX 1002 1 0 L) ∧ r.2.tm.tree.get 11 = some (vi 312) := by
 unfold keepsMx at h
 split at h
 ·rename_i h1; exact absurd h1 hr
 ·split at h
  ·rename_i hd
   have e := eqAVs_eq _ _ h
   rw [lMap_eq] at e
   simp only [List.map_cons, List.map_nil, List.cons.injEq, and_true] at e
   obtain ⟨e1, e2, e3, e4⟩ := e
   exact ⟨hd, optA_some e1, optA_some e2, optA_some e3, optA_some e4⟩
  ·cases h
def setK (ρ : Rho) (i : Int) : Rho := ⟨fun q => if q = 700 then i else ρ.iv q, ρ.bv, ρ.fi, ρ.fb, ρ.ov⟩
theorem setK_700 (ρ : Rho) (i : Int) : (setK ρ i).iv 700 = i := by simp [setK]
theorem setK_ne (ρ : Rho) (i : Int) {q : Nat} (h : q ≠ 700) : (setK ρ i).iv q = ρ.iv q := by simp [setK, h]
theorem catR_mem {f : Nat → Rules} {l : List Nat} {x : List BE × BE} : x ∈ mixR.catR f l ↔ ∃ a ∈ l, x ∈ f a := by
 induction l with
 | nil => exact ⟨fun h => (List.not_mem_nil h).elim, fun ⟨_, h, _⟩ => (List.not_mem_nil h).elim⟩
 | cons a l ih =>
  have e : mixR.catR f (a :: l) = lApp (f a) (mixR.catR f l) := rfl
  rw [e, lApp_eq, List.mem_append, ih]
  constructor
  ·rintro (h | ⟨b, h1, h2⟩)
   ·exact ⟨a, List.mem_cons_self, h⟩
   ·exact ⟨b, List.mem_cons_of_mem _ h1, h2⟩
  ·rintro ⟨b, h1, h2⟩
   rcases List.mem_cons.1 h1 with rfl | h1
   ·exact .inl h2
   ·exact .inr ⟨b, h1, h2⟩
theorem mixR_ok {L : Nat} {ρ : Rho} (h : OkLp L ρ) : RulesOk ρ (mixR L) := by
 intro r hr hp
 exfalso
 obtain ⟨i, hi, hr⟩ := catR_mem.1 hr
 have hi := mem_up hi
 rcases List.mem_cons.1 hr with rfl | hr
 ·have := hp _ List.mem_cons_self
  rw [BE.t_not] at this
  exact this (h.here i hi)
 ·obtain ⟨j, hj, hr⟩ := catR_mem.1 hr
  have hj := mem_up hj
  cases hb : Nat.beq i j with
  | true => rw [hb] at hr; exact List.not_mem_nil hr
  | false =>
   rw [hb, cond_false, List.mem_singleton] at hr
   subst hr
   have p1 := hp _ List.mem_cons_self
   have p2 := hp _ (List.mem_cons_of_mem _ List.mem_cons_self)
   rw [BE.t_eql] at p1
   rw [h.one p1 i j hi hj (beq_f.1 hb)] at p2
   cases p2
end
end Go.Sx
namespace Go.Sx
noncomputable section
open Go.RowKit Go.Proofs
set_option maxRecDepth 100000
def loI (L : Nat) (fi : Nat → Int → Int → Int → Int) (iv : Nat → Int) (j : Nat) : Int :=
 if j < 5 then fi 9002 (Int.ofNat j) 0 0 else if 110 ≤ j ∧ j < 110 + L then fi 9001 (Int.ofNat (j - 110)) 0 0 else if j = 312 then fi 9003 0 0 0 else if 350 ≤ j ∧ j < 350 + 6 * L then fi 9000 (Int.ofNat (j - 350)) 0 0 else iv j
def loR (L : Nat) (ρ : Rho) : Rho := ⟨loI L ρ.fi ρ.iv, ρ.bv, ρ.fi, ρ.fb, ρ.ov⟩
def stLp (L : Nat) (ρ : Rho) (_ : Nat → Obj → Prop) : Prop := OkLp L (loR L ρ)
theorem fix_den {ρ : Rho} {f j v : Nat} (hf : 1000 ≤ f) (h : (fixE f j v).den ρ = true) : ρ.iv v = ρ.fi f (Int.ofNat j) 0 0 := by
 have h := BE.t_eql.1 h
 simp only [IE.den, FI] at h
 rw [if_pos hf] at h
 exact h
theorem fixL_den {ρ : Rho} {f n v : Nat} (hf : 1000 ≤ f) (h : ∀ c ∈ fixL f n v, c.den ρ = true) {j : Nat} (hj : j < n) : ρ.iv (v + j) = ρ.fi f (Int.ofNat j) 0 0 := by
 refine fix_den hf (h _ ?_)
 unfold fixL
 rw [lMap_eq]
 exact List.mem_map.2 ⟨j, mem_upN n 0 j (Nat.zero_le _) (by omega), rfl⟩
theorem dom_key {L : Nat} (hL : L ≤ 6) {ρ : Rho} (h : ∀ c ∈ (mixL L).dom, c.den ρ = true) : ∀ j, KeyV L j → ρ.iv j = loI L ρ.fi ρ.iv j := by
 have h : ∀ c ∈ fixE 9003 0 312 :: (fixL 9002 5 0 ++ (fixL 9001 L 110 ++ fixL 9000 (6 * L) 350)), c.den ρ = true := h
 have d0 := fix_den (by omega) (h _ List.mem_cons_self)
 have d1 : ∀ j, j < 5 → ρ.iv j = ρ.fi 9002 (Int.ofNat j) 0 0 := fun j hj => by
  have := fixL_den (f := 9002) (v := 0) (by omega) (fun c hc => h c (List.mem_cons_of_mem _ (List.mem_append_left _ hc))) hj
  rw [Nat.zero_add] at this; exact this
 have d2 : ∀ j, j < L → ρ.iv (110 + j) = ρ.fi 9001 (Int.ofNat j) 0 0 := fun j hj => fixL_den (by omega) (fun c hc => h c (List.mem_cons_of_mem _ (List.mem_append_right _ (List.mem_append_left _ hc)))) hj
 have d3 : ∀ j, j < 6 * L → ρ.iv (350 + j) = ρ.fi 9000 (Int.ofNat j) 0 0 := fun j hj => fixL_den (by omega) (fun c hc => h c (List.mem_cons_of_mem _ (List.mem_append_right _ (List.mem_append_right _ hc)))) hj
 intro j hj
 unfold loI
 rcases hj with hj | hj | rfl | hj
 ·rw [if_pos hj]; exact d1 j hj
 ·rw [if_neg (by omega), if_pos hj]
  have := d2 (j - 110) (by omega)
  rw [show 110 + (j - 110) = j by omega] at this; exact this
 ·rw [if_neg (by omega), if_neg (by omega), if_pos rfl]; exact d0
 ·rw [if_neg (by omega), if_neg (by omega), if_neg (by omega), if_pos hj]
  have := d3 (j - 350) (by omega)
  rw [show 350 + (j - 350) = j by omega] at this; exact this
theorem vjs_same {ρ ρ' : Rho} : ∀ (n i : Nat), (∀ j, i ≤ j → j < i + n → ρ.iv j = ρ'.iv j) → SameL ρ (lMap vj (upN n i)) ρ' (lMap vj (upN n i))
 | 0, _, _ => SameL.nil
 | n + 1, i, h => by
  have e : lMap vj (upN (n + 1) i) = vj i :: lMap vj (upN n (i + 1)) := rfl
  rw [e]
  exact SameL.cons (SameV.int (h i (by omega) (by omega))) (vjs_same n (i + 1) fun j h1 h2 => h j (by omega) (by omega))
theorem nms_same {ρ ρ' : Rho} : ∀ (n i : Nat), (∀ j, i ≤ j → j < i + n → ρ.iv j = ρ'.iv j) → SameL ρ (lMap iA (lMap IE.var (upN n i))) ρ' (lMap iA (lMap IE.var (upN n i)))
 | 0, _, _ => SameL.nil
 | n + 1, i, h => by
  have e : lMap iA (lMap IE.var (upN (n + 1) i)) = iA (.var i) :: lMap iA (lMap IE.var (upN n (i + 1))) := rfl
  rw [e]
  exact SameL.cons (SameV.int (h i (by omega) (by omega))) (nms_same n (i + 1) fun j h1 h2 => h j (by omega) (by omega))
theorem mix_loop {L : Nat} (h0 : 1 ≤ L) (hL : L ≤ 6) : (mixL L).OkP (fun ρ _ => OkLp L ρ) (stLp L) (cxLp L) ⟨3, none⟩ mixBody := by
 intro ρ m hst hdom
 have hst : OkLp L (loR L ρ) := hst
 have hO : OkLp L ρ := OkLp.key hL (ρ := loR L ρ) (dom_key hL hdom) rfl hst
 have ne : ∀ (i i' : Int) (q : Nat), q < 700 → (setK ρ i).iv q = (setK ρ i').iv q := fun i i' q hq => by rw [setK_ne _ _ (by omega), setK_ne _ _ (by omega)]
 have ne0 : ∀ (i : Int) (q : Nat), q < 700 → ρ.iv q = (setK ρ i).iv q := fun i q hq => by rw [setK_ne _ _ (by omega)]
 have okI : ∀ i : Int, OkLp L (setK ρ i) := fun i => OkLp.key hL (ρ := ρ) (fun j hj => setK_ne _ _ (by rcases hj with h | h | h | h <;> omega)) rfl hO
 have views : ∀ ρ1 ρ2 : Rho, (∀ q, q < 700 → ρ1.iv q = ρ2.iv q) → ∀ g ∈ (mixL L).vs, g.own = none ∧ SameL ρ1 g.c0 ρ2 g.c ∧ SameL ρ1 g.c ρ2 g.c := fun ρ1 ρ2 h g hg => by
  simp only [mixL, List.mem_cons, List.not_mem_nil, or_false] at hg
  have lit : ∀ n : Int, SameV ρ1 (li n) ρ2 (li n) := fun n => SameV.int rfl
  have var : ∀ q, q < 700 → SameV ρ1 (vj q) ρ2 (vj q) := fun q hq => SameV.int (h q hq)
  rcases hg with rfl | rfl | rfl | rfl | rfl
  ·have := SameL.cons (lit 1) (SameL.cons (lit 20) (SameL.cons (lit 0) (SameL.cons (lit 50) SameL.nil)))
   exact ⟨rfl, this, this⟩
  ·have := SameL.cons (lit 0) (SameL.cons (lit 99) (SameL.cons (lit 0) (SameL.cons (lit 99) (SameL.cons (lit 1) (SameL.cons (lit 1200) SameL.nil)))))
   exact ⟨rfl, this, this⟩
  ·have : SameL ρ1 (boxF L) ρ2 (boxF L) := SameL.cons (SameV.sliceX _ _ _ _) (SameL.cons (var 0 (by omega)) (SameL.cons (var 1 (by omega)) (SameL.cons (var 2 (by omega)) (SameL.cons (var 3 (by omega)) (SameL.cons (var 4 (by omega)) SameL.nil)))))
   exact ⟨rfl, this, this⟩
  ·have : SameL ρ1 (nmA L) ρ2 (nmA L) := nms_same L 110 fun j h1 h2 => h j (by omega)
   exact ⟨rfl, this, this⟩
  ·have : SameL ρ1 (rwA L) ρ2 (rwA L) := vjs_same (6 * L) 350 fun j h1 h2 => h j (by omega)
   exact ⟨rfl, this, this⟩
 refine ⟨L, fun i ρ' => i ≤ L ∧ ρ' = setK ρ (i : Int), setK ρ 0, ?_, ⟨Nat.zero_le _, rfl⟩, ?_, ?_, ?_⟩
 ·rintro i ρ' ⟨_, rfl⟩; exact okI _
 ·intro g hg
  simp only [mixL, List.mem_cons, List.not_mem_nil, or_false] at hg
  rcases hg with rfl | rfl | rfl | rfl | rfl
  ·exact ⟨.ptr 1005 0, by simp [mixL], SameV.ptr _ _⟩
  ·exact ⟨.ptr 1001 0, by simp [mixL], SameV.ptr _ _⟩
  ·exact ⟨.sliceX 1002 1 0 L, by simp [mixL], SameV.sliceX _ _ _ _⟩
  ·exact ⟨vi 312, by simp [mixL], SameV.int (ne0 0 312 (by omega))⟩
  ·exact ⟨li 0, by simp [mixL], SameV.int (setK_700 ρ 0).symm⟩
 ·intro g hg
  exact (views ρ (setK ρ 0) (ne0 0) g hg).2.1
 ·rintro i ρ' hi ⟨hiL, rfl⟩
  have h700 : (setK ρ (i : Int)).iv 700 = i := setK_700 _ _
  have hK : KnOk (setK ρ (i : Int)) (knOf [(700, Int.ofNat i, Int.ofNat i)] []) := knOf_ok (fun c hc => by
   simp only [ivC, List.mem_cons, List.not_mem_nil, or_false] at hc
   rcases hc with rfl | rfl
   ·rw [BE.t_leq, IE.den_lit, IE.den_var, h700]; exact Int.le_refl _
   ·rw [BE.t_leq, IE.den_lit, IE.den_var, h700]; exact Int.le_refl _) (fun c hc => (List.not_mem_nil hc).elim)
  have hR := mixR_ok (okI i)
  have hu : (mixU L).Holds (setK ρ (i : Int)) (fun b => (b = .tup [li (0 : Nat), .tup [.int .i64 upK], .bool (.lit true)] ∧ i < L) ∨ (b = .tup [li (2 : Nat), .tup [vi 700], .bool (.lit true)] ∧ ¬ i < L)) := by
   unfold mixU
   simp only [T.Holds]
   split
   ·rename_i c1
    rw [BE.t_lss, IE.den_var, IE.den_lit, h700] at c1
    exact .inl ⟨rfl, by simp only [Int.ofNat_eq_natCast] at c1; omega⟩
   ·rename_i c1
    rw [BE.t_lss, IE.den_var, IE.den_lit, h700] at c1
    exact .inr ⟨rfl, by simp only [Int.ofNat_eq_natCast] at c1; omega⟩
  have key := servesX_ok hR hu _ _ hK (mixCk_all h0 hL hiL)
  rw [T.holds_bind] at key
  refine T.holds_weak key fun r hr => ?_
  obtain ⟨b, hb, _, hs⟩ := hr
  rcases hb with ⟨rfl, g1⟩ | ⟨rfl, g1⟩
  ·left
   obtain ⟨t1, ⟨v, t2, t3⟩, hkeep⟩ := endMx_eq hs
   have t1 : r.1 = .norm := tagE_inj (by rw [t1]; rfl)
   obtain ⟨k1, k2, k3, k4, k5⟩ := keepsMx_eq hkeep (by rw [t1]; simp)
   have hup : upK.den (setK ρ (i : Int)) = ((i + 1 : Nat) : Int) := by
    unfold upK
    rw [IE.den_add, IE.den_var, IE.den_lit, h700, wrap_sm (by omega) (by omega)]; omega
   refine ⟨t1, setK ρ ((i + 1 : Nat) : Int), ⟨g1, by omega, rfl⟩, k1, fun g hg => ?_, fun g hg => ?_⟩
   ·simp only [LSpec.T, mixL, List.mem_cons, List.not_mem_nil, or_false] at hg
    rcases hg with rfl | rfl | rfl | rfl | rfl
    ·exact ⟨_, k2, SameV.ptr _ _⟩
    ·exact ⟨_, k3, SameV.ptr _ _⟩
    ·exact ⟨_, k4, SameV.sliceX _ _ _ _⟩
    ·exact ⟨_, k5, SameV.int (ne _ _ 312 (by omega))⟩
    ·refine ⟨v, t2, fun σ κ n m rc rc' => (t3 ⟨_, σ, κ, n, rc⟩ rfl).trans ?_⟩
     simp only [conc, vi, IE.den, setK_700]
     exact congrArg (fun x => some (Value.int IntKind.i64 x)) hup
   ·simp only [LSpec.T, List.mem_map] at hg
    obtain ⟨g0, hg0, rfl⟩ := hg
    obtain ⟨v1, v2, v3⟩ := views (setK ρ (i : Int)) (setK ρ ((i + 1 : Nat) : Int)) (ne _ _) g0 hg0
    simp only [v1]
    exact v3
  ·right
   obtain ⟨t1, ⟨v, t2, t3⟩, hkeep⟩ := endMx_eq hs
   have t1 : r.1 = .exit 0 := tagE_inj (by rw [t1]; rfl)
   obtain ⟨k1, k2, k3, k4, k5⟩ := keepsMx_eq hkeep (by rw [t1]; simp)
   refine ⟨by rw [t1]; simp, k1, ⟨_, rfl, t1, fun g hg => ?_⟩, fun g hg q hown => ?_⟩
   ·simp only [List.mem_cons, List.not_mem_nil, or_false] at hg
    rcases hg with rfl | rfl | rfl
    ·exact ⟨rfl, _, k2, SameV.ptr _ _⟩
    ·exact ⟨rfl, _, k3, SameV.ptr _ _⟩
    ·exact ⟨rfl, _, k4, SameV.sliceX _ _ _ _⟩
   ·rw [(views ρ ρ (fun _ _ => rfl) g hg).1] at hown; cases hown
end
end Go.Sx
namespace Go.Sx
noncomputable section
open Go.RowKit Go.Proofs
set_option maxRecDepth 100000
def retM (args args0 : List AV) (v : AV) (h : Heap) : Option (T (AV × Heap)) := cond (eqAVs args args0) (some (.ret (v, h))) none
def orM (a b : Option (T (AV × Heap))) : Option (T (AV × Heap)) :=
 match a with
 | some t => some t
 | none => b
theorem orM_some {a b : Option (T (AV × Heap))} {t : T (AV × Heap)} (h : orM a b = some t) : a = some t ∨ b = some t := by
 unfold orM at h
 split at h
 ·exact .inl h
 ·exact .inr h
def isM (L : Nat) (args : List AV) (h : Heap) : Option (T (AV × Heap)) :=
 match args with
 | [.agg (.sliceX c _ _ _ :: _), .sliceX d _ a m] => cond (and (eqAVs args [filmAt c L, .sliceX d 1 a m]) (and (and (Nat.ble 1 m) (Nat.ble (a + m) L)) (and (filmIn L c h) (lessO (nmO L) (h.get d))))) (some (.ret (.tup [tag true, ln 0], h))) none
 | _ => none
def oneM (L : Nat) (t : Heap → T (AV × Heap)) (args : List AV) (h : Heap) : Option (T (AV × Heap)) :=
 match args with
 | [.agg (.sliceX c _ _ _ :: _)] => cond (and (eqAVs args [filmAt c L]) (filmIn L c h)) (some (t h)) none
 | _ => none
def ordM (h : Heap) : T (AV × Heap) := .ret (valE (.var 312), h)
def fstM (L : Nat) (h : Heap) : T (AV × Heap) := (T.ret (leafF L)).bind fun r => mvT 2000 h r
def strM (L : Nat) (h : Heap) : T (AV × Heap) := (T.ret (leafZ L)).bind fun r => mvT 2000 h r
def nwZ (_ : AV × Heap) : List Nat := []
def orcMx (L lo n : Nat) (f : FuncId) (args : List AV) (h : Heap) : Option (T (AV × Heap)) :=
 cond (Nat.beq f 8) (closedOrc glV args h) (cond (Nat.beq f 7) (smallO 2000 [filmF L] (vK L) (saidSo L) nwZ args h)
  (cond (Nat.beq f 9) (smallO 2000 (argsFm L) (vFm L) (.ret (valFm L, viewA 2002 (vFo L))) nwFm args h)
  (cond (Nat.beq f 18) (orM (retM args [vi 301, ln L] (ln lo) h) (retM args [vi 302, ln (L - lo)] (ln (n - 1)) h))
  (cond (Nat.beq f 10) (isM L args h) (cond (Nat.beq f 11) (oneM L ordM args h) (cond (Nat.beq f 12) (oneM L (fstM L) args h) (cond (Nat.beq f 13) (oneM L (strM L) args h) none)))))))
def tbMx (L lo n : Nat) : Tabs := ⟨Sx.Tryd.ft.get, lFind Sx.Tryd.rt, 2000, orcMx L lo n⟩
def cxMx (L lo n : Nat) : Cx := ⟨evalN (tbMx L lo n) 60 false, evalN (tbMx L lo n) 60 true, 2000⟩
def argsMx (L : Nat) : List AV := [filmV L, .sliceU 96, .agg [vi 301, vi 302]]
def mixTree (L lo n : Nat) : T (AV × Heap) :=
 (mixCode ((mixL L).runF []) (cxMx L lo n) ⟨3, none⟩ ⟨⟨[], tmOf (argsMx L) 0 .nil⟩, [], viewHeap 2000 (viewV L)⟩).bind (finish ⟨Tryd.f3.params.size + Tryd.f3.nfree, mixCode ((mixL L).runF []), [.t 6]⟩)
def eqMx (i : Nat) : List BE := lMap (fun j => .cmp .eql (.var (110 + j)) (.var (320 + j))) (upN i 0)
def befMx (L : Nat) : Rules := lMap (fun i => (.cmp .lss (.var (110 + i)) (.var (320 + i)) :: eqMx i, (.lit false : BE))) (upN L 0)
def knMx (L : Nat) : Kn := knOf ((312, 1, 46656) :: filmQ L) (filmC L ++ (mixL L).dom)
def lawMx (L lo n : Nat) : Bool := servesX (befMx L) (.ret (.bool (.lit true))) ((mixTree L lo n).bind fun r => .ret r.1) (knMx L)
def lawMxL (L lo : Nat) : Bool := lAll (lawMx L lo) (upN (L - lo) 1)
theorem lawMx1 : lAll (lawMxL 1) (upN 1 0) = true := by kernel_rfl
theorem lawMx2 : lAll (lawMxL 2) (upN 2 0) = true := by kernel_rfl
end
end Go.Sx
namespace Go.Sx
open Go.RowKit Go.Proofs
set_option maxRecDepth 100000
theorem ckFm_all {L : Nat} (h0 : 1 ≤ L) (hL : L ≤ 6) {o : List Nat} (ho : o ∈ permsM L (fullM L)) : ckFm1 L o = true := by
 obtain ⟨k, rfl⟩ : ∃ k, L = k + 1 := ⟨L - 1, by omega⟩
 rw [permsM, List.mem_flatMap] at ho
 obtain ⟨r, hr, ho⟩ := ho
 obtain ⟨l, hl, rfl⟩ := List.mem_map.1 ho
 have hrl : r < k + 1 := ((facts_of hL fullM_lt0).1 r hr).1
 have low : ckFm (k + 1) r = true → ckFm1 (k + 1) (r :: l) = true := fun h => lAll_mem (p := fun l => ckFm1 (k + 1) (r :: l)) h l hl
 have hk : k = 0 ∨ k = 1 ∨ k = 2 ∨ k = 3 ∨ k = 4 ∨ k = 5 := by omega
 rcases hk with rfl | rfl | rfl | rfl | rfl | rfl
 ·exact low (lAll_at ckFmA1 (Nat.zero_le _) (by omega))
 ·exact low (lAll_at ckFmA2 (Nat.zero_le _) (by omega))
 ·exact low (lAll_at ckFmA3 (Nat.zero_le _) (by omega))
 ·exact low (lAll_at ckFmA4 (Nat.zero_le _) (by omega))
 ·have : r = 0 ∨ r = 1 ∨ r = 2 ∨ r = 3 ∨ r = 4 := by omega
  rcases this with rfl | rfl | rfl | rfl | rfl
  ·exact low ckFmA50
  ·exact low ckFmA51
  ·exact low ckFmA52
  ·exact low ckFmA53
  ·exact low ckFmA54
 ·have hl0 := hl
  rw [permsM, List.mem_flatMap] at hl
  obtain ⟨s, hs, hl⟩ := hl
  obtain ⟨m, hm, rfl⟩ := List.mem_map.1 hl
  have f1 := ((facts_of (L := 6) (Nat.le_refl _) fullM_lt0).1 r hr).2.1
  have hsl : s < 6 := ((facts_of (L := 6) (Nat.le_refl _) f1).1 s hs).1
  have low2 : ckFmB 6 r s = true → ckFm1 6 (r :: s :: m) = true := fun h => lAll_mem (p := fun l => ckFm1 6 (r :: s :: l)) h m hm
  have hne : r ≠ s := fun e => by
   subst e
   have hc : lAll (fun r => Bool.not (bt (del (fullM 6) r) r)) (upN 6 0) = true := by kernel_rfl
   have := lAll_at (p := fun r => Bool.not (bt (del (fullM 6) r) r)) hc (Nat.zero_le r) (by omega)
   have hb : bt (del (fullM 6) r) r = true := (lFilter_mem hs).2
   rw [hb] at this
   cases this
  have h6 : r = 0 ∨ r = 1 ∨ r = 2 ∨ r = 3 ∨ r = 4 ∨ r = 5 := by omega
  have h7 : s = 0 ∨ s = 1 ∨ s = 2 ∨ s = 3 ∨ s = 4 ∨ s = 5 := by omega
  rcases h6 with rfl | rfl | rfl | rfl | rfl | rfl <;> rcases h7 with rfl | rfl | rfl | rfl | rfl | rfl
  ·exact absurd rfl hne
  ·exact low2 ckFm601
  ·exact low2 ckFm602
  ·exact low2 ckFm603
  ·exact low2 ckFm604
  ·exact low2 ckFm605
  ·exact low2 ckFm610
  ·exact absurd rfl hne
  ·exact low2 ckFm612
  ·exact low2 ckFm613
  ·exact low2 ckFm614
  ·exact low2 ckFm615
  ·exact low2 ckFm620
  ·exact low2 ckFm621
  ·exact absurd rfl hne
  ·exact low2 ckFm623
  ·exact low2 ckFm624
  ·exact low2 ckFm625
  ·exact low2 ckFm630
  ·exact low2 ckFm631
  ·exact low2 ckFm632
  ·exact absurd rfl hne
  ·exact low2 ckFm634
  ·exact low2 ckFm635
  ·exact low2 ckFm640
  ·exact low2 ckFm641
  ·exact low2 ckFm642
  ·exact low2 ckFm643
  ·exact absurd rfl hne
  ·exact low2 ckFm645
  ·exact low2 ckFm650
  ·exact low2 ckFm651
  ·exact low2 ckFm652
  ·exact low2 ckFm653
  ·exact low2 ckFm654
  ·exact absurd rfl hne
structure OkM (L lo n : Nat) (ρ : Rho) (m : Nat → Obj → Prop) : Prop where
 pick : okPick ρ m
 mx : OkMx L ρ
 lp : OkLp L (loR L ρ)
 from_ : (lo : Int) = turnF (ρ.iv 301) L
 to_ : ((n - 1 : Nat) : Int) = turnF (ρ.iv 302) ((L - lo : Nat) : Int)
noncomputable def pMx (L lo n : Nat) : Par := ⟨Tryd.prog, rcOf Tryd.rows, OkM L lo n⟩
theorem filmed_said {ok : Rho → (Nat → Obj → Prop) → Prop} {L : Nat} (h0 : 1 ≤ L) (hL : L ≤ 6) (hok : ∀ ρ m, ok ρ m → okPick ρ m ∧ OkMx L ρ) : CallOk ⟨Tryd.prog, rcOf Tryd.rows, ok⟩ 9 (argsFm L) (viewA 2000 (vFm L)) (.ret (valFm L, viewA 2002 (vFo L))) := by
 refine CallOk.each fun ρ m h => ?_
 obtain ⟨k1, k2⟩ := hok ρ m h
 refine ⟨fun ρ' m' => okPick ρ' m' ∧ OkSh L ρ' ∧ orderOf L ρ' = orderOf L ρ ∧ okRowM L (orderOf L ρ) ρ', ⟨k1, k2.sh, rfl, k2.row⟩, ?_⟩
 obtain ⟨o1, o2⟩ := orderOk h0 hL k2.sh
 exact filmed_o h0 hL (fun ρ' m' h => ⟨h.1, h.2.1, h.2.2.1⟩) (fun ρ' m' h => row_same h.2.2.2) (ckFm_all h0 hL (perm_mem h0 hL o1 o2))
theorem turn_varM {p : Par} (hP : pT.P = p.P) {a : Nat} {e : IE} {x : AV} {y : IE} (hx : x = .int .i64 y) (hok : ∀ ρ M, p.ok ρ M → e.den ρ ≤ 9223372036854775807 ∧ y.den ρ = turnF (ρ.iv a) (e.den ρ)) {h : Heap} : CallOk p 18 [vi a, .int .i64 e] h (.ret (x, h)) := by
 have ho : turnC.orc [vi a, .int .i64 e] h = some (.br (.cmp .leq e big) (.ret (.int .i64 (.app 6 (.var a) e (.lit 0)), h)) (.fail 99)) := rfl
 refine CallOk.read (p0 := p) (p := p) rfl (turn_orc hP ho) ?_
 intro ρ _ ⟨M, k1, k2⟩ Q kk
 obtain ⟨h1, h2⟩ := hok ρ M k1
 have kk : Q (x, h) := kk
 refine ⟨ρ, ⟨M, k1, k2⟩, SameL.refl _ _, ⟨rfl, fun _ o g => ⟨o, g, SameA.refl o⟩⟩, ?_⟩
 simp only [T.Holds]
 rw [if_pos (BE.t_leq.2 h1)]
 refine ⟨_, kk, ?_, rfl, fun _ o g => ⟨o, g, SameA.refl o⟩⟩
 subst hx
 exact SameV.int h2.symm
theorem retM_some {args args0 : List AV} {v : AV} {h : Heap} {t : T (AV × Heap)} (e : retM args args0 v h = some t) : args = args0 ∧ t = .ret (v, h) := by
 unfold retM at e
 obtain ⟨h1, h2⟩ := cond_some e
 exact ⟨eqAVs_eq _ _ h1, (Option.some.inj h2).symm⟩
theorem oneM_some {L : Nat} {t : Heap → T (AV × Heap)} {args : List AV} {h : Heap} {u : T (AV × Heap)} (e : oneM L t args h = some u) : ∃ c, args = [filmAt c L] ∧ filmIn L c h = true ∧ u = t h := by
 unfold oneM at e
 split at e
 ·obtain ⟨h1, h2⟩ := cond_some e
  rw [Bool.and_eq_true] at h1
  exact ⟨_, eqAVs_eq _ _ h1.1, h1.2, (Option.some.inj h2).symm⟩
 ·cases e
theorem isM_some {L : Nat} {args : List AV} {h : Heap} {u : T (AV × Heap)} (e : isM L args h = some u) : ∃ c d a m, args = [filmAt c L, .sliceX d 1 a m] ∧ 1 ≤ m ∧ a + m ≤ L ∧ filmIn L c h = true ∧ lessO (nmO L) (h.get d) = true ∧ u = .ret (.tup [tag true, ln 0], h) := by
 unfold isM at e
 split at e
 ·obtain ⟨h1, h2⟩ := cond_some e
  simp only [Bool.and_eq_true] at h1
  obtain ⟨i1, ⟨i2, i3⟩, i4, i5⟩ := h1
  exact ⟨_, _, _, _, eqAVs_eq _ _ i1, ble_t.1 i2, ble_t.1 i3, i4, i5, (Option.some.inj h2).symm⟩
 ·cases e
theorem orcMx_ok {L lo n : Nat} (h0 : 1 ≤ L) (hL : L ≤ 6) : ∀ f args h t, orcMx L lo n f args h = some t → CallOk (pMx L lo n) f args h t := by
 intro f args h t e
 have okm : ∀ ρ M, (pMx L lo n).ok ρ M → OkM L lo n ρ M := fun ρ M h => h
 have mx : ∀ ρ M, (pMx L lo n).ok ρ M → OkMx L ρ := fun ρ M h => (okm ρ M h).mx
 have film : ∀ ρ M, (pMx L lo n).ok ρ M → okFilm L ρ := fun ρ M h => (film_of_cs h0 hL (mx ρ M h).film).1
 unfold orcMx at e
 have dec : ∀ {n : Nat} {a b : Option (T (AV × Heap))}, cond (Nat.beq f n) a b = some t → (f = n ∧ a = some t) ∨ b = some t := fun {n a b} e => by
  cases hf : Nat.beq f n with
  | true => rw [hf, cond_true] at e; exact .inl ⟨beq_t.1 hf, e⟩
  | false => rw [hf, cond_false] at e; exact .inr e
 rcases dec e with ⟨rfl, e⟩ | e
 ·exact CallOk.weak (fun _ _ _ => trivial) (turned_orc e)
 rcases dec e with ⟨rfl, e⟩ | e
 ·exact smallO_ok (CallOk.weak film (sound_said h0 hL)) (by omega) rfl (viewK_ok h0 hL) e
 rcases dec e with ⟨rfl, e⟩ | e
 ·exact smallO_ok (p := pMx L lo n) (filmed_said h0 hL fun ρ m h => ⟨(okm ρ m h).pick, (okm ρ m h).mx⟩) (by omega) rfl (viewFm_ok h0 hL) e
 rcases dec e with ⟨rfl, e⟩ | e
 ·rcases orM_some e with e | e
  ·obtain ⟨rfl, rfl⟩ := retM_some e
   exact turn_varM (p := pMx L lo n) rfl (a := 301) (e := .lit (Int.ofNat L)) (y := .lit (Int.ofNat lo)) rfl fun ρ M h => ⟨by show ((L : Nat) : Int) ≤ _; omega, (okm ρ M h).from_⟩
  ·obtain ⟨rfl, rfl⟩ := retM_some e
   exact turn_varM (p := pMx L lo n) rfl (a := 302) (e := .lit (Int.ofNat (L - lo))) (y := .lit (Int.ofNat (n - 1))) rfl fun ρ M h => ⟨by show ((L - lo : Nat) : Int) ≤ _; omega, (okm ρ M h).to_⟩
 rcases dec e with ⟨rfl, e⟩ | e
 ·obtain ⟨c, d, a, m, rfl, i2, i3, i4, i5, rfl⟩ := isM_some e
  exact isAt (p := pMx L lo n) rfl h0 hL mx i4 i2 i3 i5
 rcases dec e with ⟨rfl, e⟩ | e
 ·obtain ⟨c, rfl, hh, rfl⟩ := oneM_some e
  exact ordersAt (p := pMx L lo n) rfl h0 hL mx hh
 rcases dec e with ⟨rfl, e⟩ | e
 ·obtain ⟨c, rfl, hh, rfl⟩ := oneM_some e
  exact firstMx (p := pMx L lo n) rfl h0 hL mx hh
 rcases dec e with ⟨rfl, e⟩ | e
 ·obtain ⟨c, rfl, hh, rfl⟩ := oneM_some e
  exact strangeMx (p := pMx L lo n) rfl h0 hL mx hh
 ·cases e
theorem tabsMx {L lo n : Nat} (h0 : 1 ≤ L) (hL : L ≤ 6) : TabOk (pMx L lo n) Sx.Tryd.tt.get (tbMx L lo n) := Tryd.tab (orcMx L lo n) (orcMx_ok h0 hL) 2000
noncomputable def mixKk (L : Nat) : Bool :=
 and ((mixL L).sl.all (fun g => and (memN Sx.Tryd.kp3 (some g.1)) (idsLt (mixL L).nv g.2)))
  (and ((mixL L).vs.all (fun g => and (idsLts (mixL L).nv g.c) (and (idsLts (mixL L).nv g.cf) (and (Nat.ble (g.id + 1) (mixL L).nv) (or g.own.isNone (Nat.ble 1000 g.id))))))
   (vsUp 0 (mixL L).vs))
theorem mix_k {L : Nat} (h0 : 1 ≤ L) (hL : L ≤ 6) : mixKk L = true := by
 rcases six h0 hL with rfl | rfl | rfl | rfl | rfl | rfl <;> kernel_rfl
theorem mix_code_ok {L lo n : Nat} (h0 : 1 ≤ L) (hL : L ≤ 6) : COk (pMx L lo n) Tryd.f3.ntmps Sx.Tryd.kp3 (mixCode ((mixL L).runF [])) (bodyOf Tryd.f3) := by
 have B := tabsMx (lo := lo) (n := n) h0 hL
 refine cCodeX_ok B.types B.mixed _ _ (mix_compiles _) (loopsOk_of _ fun a ha => ?_)
 have h1 : cCode Sx.Tryd.tt.get Tryd.f3.ntmps Sx.Tryd.kp3 3 a = some mixBody := by
  have := List.mem_map_of_mem (f := cCode Sx.Tryd.tt.get Tryd.f3.ntmps Sx.Tryd.kp3 3) ha
  rw [mix_loops] at this
  exact List.mem_singleton.1 this
 have h2 : ranges a = [] := by
  have := List.mem_map_of_mem (f := ranges) ha
  rw [mix_ranges] at this
  exact List.mem_singleton.1 this
 have hk : mixKk L = true := mix_k h0 hL
 simp only [mixKk, Bool.and_eq_true] at hk
 have BT := tabsLp h0 hL
 refine LSpec.cokG (pI := pLp L) (p := pMx L lo n) rfl rfl (cCode_ok BT.types BT.mixed a mixBody h1 (rcOf_rng [] h2 (by simp))) _ hk.1 hk.2.1 hk.2.2 (Nat.le_of_ble_eq_true rfl) (cxLp_ok h0 hL) rfl (mix_loop h0 hL) [] ?_
 intro ρ ρ' m hok hfi hfb _
 have hok : OkM L lo n ρ m := hok
 refine OkLp.key hL (ρ := loR L ρ) (ρ' := loR L ρ') (fun j hj => ?_) hfi hok.lp
 show loI L ρ'.fi ρ'.iv j = loI L ρ.fi ρ.iv j
 rw [hfi]
 unfold loI
 rcases hj with hj | hj | rfl | hj
 ·rw [if_pos hj, if_pos hj]
 ·rw [if_neg (by omega), if_pos hj, if_neg (by omega), if_pos hj]
 ·rw [if_neg (by omega), if_neg (by omega), if_pos rfl, if_neg (by omega), if_neg (by omega), if_pos rfl]
 ·rw [if_neg (by omega), if_neg (by omega), if_neg (by omega), if_pos hj, if_neg (by omega), if_neg (by omega), if_neg (by omega), if_pos hj]
theorem mix_call {L lo n : Nat} (h0 : 1 ≤ L) (hL : L ≤ 6) : CallOk (pMx L lo n) 3 (argsMx L) (viewHeap 2000 (viewV L)) (mixTree L lo n) :=
 bodyOf_ok (tabsMx h0 hL).types (evalN_ok (tabsMx h0 hL) 60) Tryd.func3 (by kernel_rfl) (by kernel_rfl) (mix_code_ok h0 hL) (by kernel_rfl) (by kernel_rfl) (by show 3 ≤ _; exact of_decide_eq_true (by kernel_rfl))
end Go.Sx
