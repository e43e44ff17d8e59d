/- THE LAW OF STRANGE REELS, CALLED WITH WHATEVER CAN BE READ. -/
import Derived.Test.YtlaakbmimplceaaDoorStR4
import Derived.Test.YtlaakbmimplceaaDoorStR5
import Derived.Test.YtlaakbmimplceaaDoorStR6a
import Derived.Test.YtlaakbmimplceaaDoorStR6b
import Derived.Test.YtlaakbmimplceaaDoorStR6c
import Derived.Test.YtlaakbmimplceaaDoorStR6d
import Derived.Test.YtlaakbmimplceaaDoorStR6e
import Derived.Test.YtlaakbmimplceaaDoorStR6f
import Derived.Test.YtlaakbmimplceaaDoorStR6g
import Derived.Test.YtlaakbmimplceaaDoorStR6h
import Derived.Test.YtlaakbmimplceaaDoorSxSelf
import Derived.Test.YtlaakbmimplceaaDoorStI
/-! THE LAW OF STRANGE REELS holds of a valid film. -/
namespace Go.Sx
open Go.RowKit Go.Proofs
set_option maxRecDepth 100000
theorem len_allS : (allS 1).length = 1 ∧ (allS 2).length = 3 ∧ (allS 3).length = 7 ∧ (allS 4).length = 15 ∧ (allS 5).length = 31 ∧ (allS 6).length = 63 := ⟨rfl, rfl, rfl, rfl, rfl, rfl⟩
theorem rows4 : ∀ i, i < 15 → lawSt 4 i = true
  | 0, _ => lawSt4_0
  | 1, _ => lawSt4_1
  | 2, _ => lawSt4_2
  | 3, _ => lawSt4_3
  | 4, _ => lawSt4_4
  | 5, _ => lawSt4_5
  | 6, _ => lawSt4_6
  | 7, _ => lawSt4_7
  | 8, _ => lawSt4_8
  | 9, _ => lawSt4_9
  | 10, _ => lawSt4_10
  | 11, _ => lawSt4_11
  | 12, _ => lawSt4_12
  | 13, _ => lawSt4_13
  | 14, _ => lawSt4_14
  | _ + 15, h => absurd h (by omega)
theorem rows5 : ∀ i, i < 31 → lawSt 5 i = true
  | 0, _ => lawSt5_0
  | 1, _ => lawSt5_1
  | 2, _ => lawSt5_2
  | 3, _ => lawSt5_3
  | 4, _ => lawSt5_4
  | 5, _ => lawSt5_5
  | 6, _ => lawSt5_6
  | 7, _ => lawSt5_7
  | 8, _ => lawSt5_8
  | 9, _ => lawSt5_9
  | 10, _ => lawSt5_10
  | 11, _ => lawSt5_11
  | 12, _ => lawSt5_12
  | 13, _ => lawSt5_13
  | 14, _ => lawSt5_14
  | 15, _ => lawSt5_15
  | 16, _ => lawSt5_16
  | 17, _ => lawSt5_17
  | 18, _ => lawSt5_18
  | 19, _ => lawSt5_19
  | 20, _ => lawSt5_20
  | 21, _ => lawSt5_21
  | 22, _ => lawSt5_22
  | 23, _ => lawSt5_23
  | 24, _ => lawSt5_24
  | 25, _ => lawSt5_25
  | 26, _ => lawSt5_26
  | 27, _ => lawSt5_27
  | 28, _ => lawSt5_28
  | 29, _ => lawSt5_29
  | 30, _ => lawSt5_30
  | _ + 31, h => absurd h (by omega)
theorem rows6 : ∀ i, i < 63 → lawSt 6 i = true
  | 0, _ => lawSt6_0
  | 1, _ => lawSt6_1
  | 2, _ => lawSt6_2
  | 3, _ => lawSt6_3
  | 4, _ => lawSt6_4
  | 5, _ => lawSt6_5
  | 6, _ => lawSt6_6
  | 7, _ => lawSt6_7
  | 8, _ => lawSt6_8
  | 9, _ => lawSt6_9
  | 10, _ => lawSt6_10
  | 11, _ => lawSt6_11
  | 12, _ => lawSt6_12
  | 13, _ => lawSt6_13
  | 14, _ => lawSt6_14
  | 15, _ => lawSt6_15
  | 16, _ => lawSt6_16
  | 17, _ => lawSt6_17
  | 18, _ => lawSt6_18
  | 19, _ => lawSt6_19
  | 20, _ => lawSt6_20
  | 21, _ => lawSt6_21
  | 22, _ => lawSt6_22
  | 23, _ => lawSt6_23
  | 24, _ => lawSt6_24
  | 25, _ => lawSt6_25
  | 26, _ => lawSt6_26
  | 27, _ => lawSt6_27
  | 28, _ => lawSt6_28
  | 29, _ => lawSt6_29
  | 30, _ => lawSt6_30
  | 31, _ => lawSt6_31
  | 32, _ => lawSt6_32
  | 33, _ => lawSt6_33
  | 34, _ => lawSt6_34
  | 35, _ => lawSt6_35
  | 36, _ => lawSt6_36
  | 37, _ => lawSt6_37
  | 38, _ => lawSt6_38
  | 39, _ => lawSt6_39
  | 40, _ => lawSt6_40
  | 41, _ => lawSt6_41
  | 42, _ => lawSt6_42
  | 43, _ => lawSt6_43
  | 44, _ => lawSt6_44
  | 45, _ => lawSt6_45
  | 46, _ => lawSt6_46
  | 47, _ => lawSt6_47
  | 48, _ => lawSt6_48
  | 49, _ => lawSt6_49
  | 50, _ => lawSt6_50
  | 51, _ => lawSt6_51
  | 52, _ => lawSt6_52
  | 53, _ => lawSt6_53
  | 54, _ => lawSt6_54
  | 55, _ => lawSt6_55
  | 56, _ => lawSt6_56
  | 57, _ => lawSt6_57
  | 58, _ => lawSt6_58
  | 59, _ => lawSt6_59
  | 60, _ => lawSt6_60
  | 61, _ => lawSt6_61
  | 62, _ => lawSt6_62
  | _ + 63, h => absurd h (by omega)
theorem lawSt_all {L i : Nat} (h0 : 1 ≤ L) (hL : L ≤ 6) (hi : i < (allS L).length) : lawSt L i = true := by
  obtain ⟨e1, e2, e3, e4, e5, e6⟩ := len_allS
  rcases six h0 hL with rfl | rfl | rfl | rfl | rfl | rfl
  · exact lAll_at lawSt1 (Nat.zero_le _) (by omega)
  · exact lAll_at lawSt2 (Nat.zero_le _) (by omega)
  · exact lAll_at lawSt3 (Nat.zero_le _) (by omega)
  · exact rows4 i (by omega)
  · exact rows5 i (by omega)
  · exact rows6 i (by omega)
theorem pow_small {c : Nat} (h : c ≤ 6) : (0 : Int) + 6 ^ c ≤ 1000000000 := by
  have : c = 0 ∨ c = 1 ∨ c = 2 ∨ c = 3 ∨ c = 4 ∨ c = 5 ∨ c = 6 := by omega
  rcases this with rfl | rfl | rfl | rfl | rfl | rfl | rfl <;> decide
/-! ## What the search found -/
theorem chainS_at {α : Type} {ρ : Rho} {f : Option (List Nat) → α} {Q : α → Prop} (L : Nat) : ∀ (ls : List (List Nat)) (i : Nat), i < ls.length → (∀ l ∈ takeL ls i, (noneE (outM L l) (.lit 0) (.lit 100)).den ρ = true) →
    (noneE (outM L (nthL ls i)) (.lit 0) (.lit 100)).den ρ = false → Q (f (some (nthL ls i))) → (chainS f L ls).Holds ρ Q
  | [], i, h, _, _, _ => by simp at h
  | l :: ls, 0, _, _, h, q => by
    simp only [chainS, T.Holds]
    have h : (noneE (outM L l) (.lit 0) (.lit 100)).den ρ = false := h
    rw [h, if_neg (by simp)]
    exact q
  | l :: ls, i + 1, hi, ht, h, q => by
    simp only [chainS, T.Holds]
    have h1 := ht l List.mem_cons_self
    rw [h1, if_pos rfl]
    exact chainS_at L ls i (by simpa using hi) (fun l' h' => ht l' (List.mem_cons_of_mem _ h')) h q
/-- what the names of the law mean, where the i-th list is found -/
def okSt (L i : Nat) (ρ : Rho) : Prop := (∀ c ∈ csL L, c.den ρ = true) ∧ okO L ρ ∧ i < (allS L).length ∧ (∀ l ∈ takeL (allS L) i, outM L l < 2 ^ L ∧ noneF ρ (cnt (outM L l)) (outM L l) 0 100 = true) ∧
  (outM L (lsAt L i) < 2 ^ L ∧ noneF ρ (cnt (outM L (lsAt L i))) (outM L (lsAt L i)) 0 100 = false) ∧ ρ.iv 300 = manyF ρ (cnt (outM L (lsAt L i))) (outM L (lsAt L i)) 0 100 0 ∧ ρ.iv 302 = turnF (ρ.iv 301) (2 ^ L - 1 : Nat)
noncomputable def pSt (L i : Nat) : Par := ⟨Tryd.prog, rcOf Tryd.rows, fun ρ _ => okSt L i ρ⟩
theorem none_lit {L m : Nat} {ρ : Rho} (h : okO L ρ) (hm : m < 2 ^ L) : (noneE m (.lit 0) (.lit 100)).den ρ = noneF ρ (cnt m) m 0 100 := none_den h.1 hm (.lit 0) (.lit 100)
theorem strange_leaf {L i : Nat} (h0 : 1 ≤ L) (hL : L ≤ 6) : CallOk (pSt L i) 13 [filmF L] (viewA 2000 (vK L)) (.ret (leafS L (some (lsAt L i)))) := by
  refine CallOk.read (p0 := pF L) (p := pSt L i) rfl (strange_said h0 hL) ?_
  intro ρ _ ⟨M, hk, h2⟩ Q k
  have hk : okSt L i ρ := hk
  obtain ⟨k1, k2, k3, k4, k5, _⟩ := hk
  have k : Q (leafS L (some (lsAt L i))) := k
  refine ⟨ρ, ⟨M, ⟨k2.1, (film_of_cs h0 hL k1).1⟩, h2⟩, SameL.refl _ _, ⟨rfl, fun _ o g => ⟨o, g, SameA.refl o⟩⟩, ?_⟩
  refine chainS_at L (allS L) i k3 (fun l hl => ?_) ?_ ⟨_, k, SameV.refl _ _, rfl, fun _ o g => ⟨o, g, SameA.refl o⟩⟩
  · rw [none_lit k2 (k4 l hl).1]; exact (k4 l hl).2
  · exact (none_lit k2 k5.1).trans k5.2
theorem manyF_none {ρ : Rho} {m : Nat} (hm : m < 64) (h : noneF ρ (cnt m) m 0 100 = true) : manyF ρ (cnt m) m 0 100 0 = 0 := by
  have hc : cnt m ≤ 6 := cnt_le' (L := 6) hm
  have hp := cntF_pos ρ (cnt m) m 0 100
  have h2 : ¬ 0 < cntF ρ (cnt m) m 0 100 := fun hh => by have := hp.1 hh; rw [h] at this; cases this
  rw [manyF_cnt ρ (cnt m) m 0 100 0 (Int.le_refl _) (pow_small hc)]
  omega
theorem takeL_mem {l : List Nat} : ∀ {ls : List (List Nat)} {i : Nat}, l ∈ takeL ls i → l ∈ ls
  | [], _, h => by cases h
  | a :: ls, 0, h => by cases h
  | a :: ls, i + 1, h => by
    have h : l ∈ a :: takeL ls i := h
    rcases List.mem_cons.1 h with rfl | h
    · exact List.mem_cons_self
    · exact List.mem_cons_of_mem _ (takeL_mem h)
theorem esS_ok {L i : Nat} (hL : L ≤ 6) {ρ : Rho} (h : okSt L i ρ) : ∀ m e, m < 2 ^ L → m ≠ 0 → esS L i m = some e → e.den ρ = manyF ρ (cnt m) m 0 100 0 := by
  intro m e hm _ he
  obtain ⟨_, _, _, k4, k5, k6, _⟩ := h
  unfold esS at he
  cases hb : Nat.beq m (outM L (lsAt L i)) with
  | true =>
    rw [hb, cond_true] at he; cases he
    rw [beq_t.1 hb]; exact k6
  | false =>
    rw [hb, cond_false] at he
    obtain ⟨h1, h2⟩ := cond_some he
    cases h2
    have h3 := memZ_mem h1
    unfold outs at h3
    rw [lMap_eq] at h3
    obtain ⟨l, hl, rfl⟩ := List.mem_map.1 h3
    exact (manyF_none (lt64 hL hm) (k4 l hl).2).symm
theorem turn_said {L i : Nat} (hL : L ≤ 6) {h : Heap} (h1 : 1 ≤ L) : CallOk (pSt L i) 18 (turnA L) h ((caseT 302 (Nat.pow 2 L - 2)).bind fun a => .ret (a, h)) := by
  have ho : turnC.orc (turnA L) h = some (.br (.cmp .leq (.lit (Int.ofNat (Nat.pow 2 L - 1))) big) (.ret (.int .i64 (.app 6 (.var 301) (.lit (Int.ofNat (Nat.pow 2 L - 1))) (.lit 0)), h)) (.fail 99)) := rfl
  have hc := turn_orc (p := pSt L i) rfl ho
  refine CallOk.read (p0 := pSt L i) rfl hc fun ρ b ⟨M, hk, h2⟩ Q k => ⟨ρ, ⟨M, hk, h2⟩, SameL.refl _ _, ⟨rfl, fun _ o g => ⟨o, g, SameA.refl o⟩⟩, ?_⟩
  have hk : okSt L i ρ := hk
  have k7 := hk.2.2.2.2.2.2
  have hb : (2 : Nat) ^ L ≤ 64 ∧ 2 ≤ (2 : Nat) ^ L := by rcases six h1 hL with rfl | rfl | rfl | rfl | rfl | rfl <;> decide
  have hp : Nat.pow 2 L = 2 ^ L := rfl
  rw [hp] at *
  have hin := turnF_in (n := ρ.iv 301) (m := ((2 ^ L - 1 : Nat) : Int)) (by omega)
  rw [← k7] at hin
  have hleaf := caseT_leaf (ρ := ρ) (v := 302) (2 ^ L - 2) hin.1 (by omega)
  rw [T.holds_bind] at k
  have kq : (T.ret (li (ρ.iv 302), h)).Holds ρ Q := T.leaf_of (P := fun a => (T.ret (a, h)).Holds ρ Q) k hleaf
  have kq : Q (li (ρ.iv 302), h) := kq
  simp only [T.Holds]
  rw [if_pos (BE.t_leq.2 (by show ((2 ^ L - 1 : Nat) : Int) ≤ 9223372036854775807; omega))]
  refine ⟨_, kq, SameV.int ?_, rfl, fun _ o g => ⟨o, g, SameA.refl o⟩⟩
  show turnF (ρ.iv 301) ((2 ^ L - 1 : Nat) : Int) = ρ.iv 302
  exact k7.symm
theorem orcSt_ok {L i : Nat} (h0 : 1 ≤ L) (hL : L ≤ 6) : ∀ f args h t, orcSt L i f args h = some t → CallOk (pSt L i) f args h t := by
  intro f args h t e
  unfold orcSt at e
  have dec : ∀ {n : Nat} {a b : Option (T (AV × Heap))}, cond (Nat.beq f n) a b = some t → (f = n ∧ a = some t) ∨ b = some t := fun {n a b} e => by
    cases hf : Nat.beq f n with
    | true => rw [hf, cond_true] at e; exact .inl ⟨beq_t.1 hf, e⟩
    | false => rw [hf, cond_false] at e; exact .inr e
  rcases dec e with ⟨rfl, e⟩ | e
  · exact CallOk.weak (fun _ _ _ => trivial) (turned_orc e)
  rcases dec e with ⟨rfl, e⟩ | e
  · exact smallO_ok (CallOk.weak (fun ρ m h => (film_of_cs h0 hL (show okSt L i ρ from h).1).1) (sound_said h0 hL)) (by omega) rfl (viewK_ok h0 hL) e
  rcases dec e with ⟨rfl, e⟩ | e
  · exact smallO_ok (strange_leaf h0 hL) (by omega) rfl (viewK_ok h0 hL) e
  rcases dec e with ⟨rfl, e⟩ | e
  · have e2 : cond (eqAVs args (turnA L)) (some ((caseT 302 (Nat.pow 2 L - 2)).bind fun a => T.ret (a, h))) none = some t := e
    obtain ⟨h1, h2⟩ := cond_some e2
    have h2 := Option.some.inj h2
    subst h2
    rw [eqAVs_eq _ _ h1]
    exact turn_said hL h0
  rcases dec e with ⟨rfl, e⟩ | e
  · exact orcOs_ok rfl hL (fun ρ M k => ⟨(show okSt L i ρ from k).1, esS_ok hL k⟩) e
  · cases e
section
variable {E : Env} {w : World} {vs : List Value}
/-- THE LAW, of a valid film. -/
theorem strange_valid {L i : Nat} (h0 : 1 ≤ L) (hL : L ≤ 6) (hv : ∀ g ∈ viewV L, ViewIn w E g) (hf : ∀ b, 2000 ≤ b → E.σ b = none) (hg : ∀ b, b < 1000 → E.σ b = some (b, 0)) (hn : E.n ≤ 2000)
    (ha : concL E [filmV L, vi 301] = some vs) (hok : okSt L i E.ρ) : Calls Tryd.prog 5 vs.toArray w fun e w' => e = .returned (.bool true) ∧ Below w.heap.size w w' := by
  have k := hok
  obtain ⟨_, _, k3, _, k5, k6, k7⟩ := k
  have h64 := lt64 hL k5.1
  have hc : cnt (outM L (lsAt L i)) ≤ 6 := cnt_le' (L := 6) h64
  have hb : (2 : Nat) ^ L ≤ 64 ∧ 2 ≤ (2 : Nat) ^ L := by rcases six h0 hL with rfl | rfl | rfl | rfl | rfl | rfl <;> decide
  have hin := turnF_in (n := E.ρ.iv 301) (m := ((2 ^ L - 1 : Nat) : Int)) (by omega)
  rw [← k7] at hin
  have hm := manyF_cnt E.ρ (cnt (outM L (lsAt L i))) (outM L (lsAt L i)) 0 100 0 (Int.le_refl _) (pow_small hc)
  have hp := (cntF_pos E.ρ (cnt (outM L (lsAt L i))) (outM L (lsAt L i)) 0 100).2 k5.2
  have hle := cntF_le E.ρ (cnt (outM L (lsAt L i))) (outM L (lsAt L i)) 0 100
  have hle2 : 6 ^ cnt (outM L (lsAt L i)) ≤ 46656 := Nat.le_trans (Nat.pow_le_pow_right (by omega) hc) (by decide)
  have pp : Nat.pow 2 L = 2 ^ L := rfl
  have hK : KnOk E.ρ (knOf [(300, 1, 46656), (302, 0, Int.ofNat (Nat.pow 2 L - 2))] []) := knOf_ok (fun c hc => by
    simp only [ivC, List.mem_cons, List.not_mem_nil, or_false] at hc
    rcases hc with rfl | rfl | rfl | rfl
    · rw [BE.t_leq, IE.den_var, IE.den_lit]; omega
    · rw [BE.t_leq, IE.den_var, IE.den_lit]; omega
    · rw [BE.t_leq, IE.den_var, IE.den_lit]; omega
    · rw [BE.t_leq, IE.den_var, IE.den_lit, pp]; simp only [Int.ofNat_eq_natCast]; omega) (fun c hc => (List.not_mem_nil hc).elim)
  exact law_view (Tryd.tab (orcSt L i) (orcSt_ok h0 hL) 2000) hv hf hg hn ha (allK_ok (fun K a H h => isTrueK_ok H h) _ _ hK (lawSt_all h0 hL k3)) ⟨_, hok, fun _ _ h => h⟩
end
end Go.Sx
/-! THE LAW OF STRANGE REELS, CALLED WITH WHATEVER CAN BE READ. -/
namespace Go.Sx
open Go.RowKit Go.Proofs
set_option maxRecDepth 100000
theorem cellsUp_vals2 (E : Env) (z : Nat → Int) : ∀ (k i : Nat), (∀ j, i ≤ j → j < i + k → E.ρ.iv j = z j) → concL E (cellsUp k i) = some ((List.range k).map fun q => .int .i64 (z (i + q)))
  | 0, i, _ => rfl
  | k + 1, i, h => by
    simp only [cellsUp, vi, concL, conc, IE.den]
    rw [h i (Nat.le_refl _) (by omega), cellsUp_vals2 E z k (i + 1) fun j h1 h2 => h j (by omega) (by omega)]
    simp only [List.range_succ_eq_map, List.map_cons, List.map_map, Nat.add_zero]
    congr 2
    apply List.map_congr_left
    intro q _
    simp only [Function.comp, Nat.succ_eq_add_one]
    rw [show i + 1 + q = i + (q + 1) by omega]
/-- the first list that does -/
theorem first_of {b : List Nat → Bool} : ∀ {ls : List (List Nat)}, (∃ l ∈ ls, b l = false) → ∃ i, i < ls.length ∧ (∀ l ∈ takeL ls i, b l = true) ∧ b (nthL ls i) = false
  | [], h => by obtain ⟨l, h, _⟩ := h; cases h
  | a :: ls, h => by
    cases hb : b a with
    | false => exact ⟨0, by simp, fun l h => (by cases h), hb⟩
    | true =>
      obtain ⟨l, hl, hl2⟩ := h
      obtain ⟨i, h1, h2, h3⟩ := first_of (b := b) (ls := ls) ⟨l, by
        rcases List.mem_cons.1 hl with rfl | h
        · rw [hb] at hl2; cases hl2
        · exact h, hl2⟩
      refine ⟨i + 1, by simpa using h1, fun l' h' => ?_, h3⟩
      have h' : l' ∈ a :: takeL ls i := h'
      rcases List.mem_cons.1 h' with rfl | h'
      · exact hb
      · exact h2 l' h'
theorem nthL_mem : ∀ {ls : List (List Nat)} {i : Nat}, i < ls.length → nthL ls i ∈ ls
  | [], i, h => by simp at h
  | a :: ls, 0, _ => List.mem_cons_self
  | a :: ls, i + 1, h => List.mem_cons_of_mem _ (nthL_mem (by simpa using h))
noncomputable def lLenL (l : List (List Nat)) : Nat := @List.rec (List Nat) (fun _ => Nat) 0 (fun _ _ ih => ih + 1) l
noncomputable def outCk (L : Nat) : Bool := and (lAll (fun l => Nat.ble (outM L l + 1) (Nat.pow 2 L)) (allS L)) (and (Nat.ble (Nat.pow 2 L - L) (lLenL (allS L))) (Nat.beq (outM L (nthL (allS L) (Nat.pow 2 L - 1 - L))) (Nat.pow 2 (L - 1))))
theorem outCk_all : lAll outCk (upN 6 1) = true := by kernel_rfl
theorem lLenL_eq : ∀ l : List (List Nat), lLenL l = l.length
  | [] => rfl
  | a :: l => by
    have e : lLenL (a :: l) = lLenL l + 1 := rfl
    rw [e, lLenL_eq l]; rfl
theorem out_lt {L : Nat} (h0 : 1 ≤ L) (hL : L ≤ 6) : ∀ l ∈ allS L, outM L l < 2 ^ L := fun l hl => by
  have h : outCk L = true := lAll_at outCk_all h0 (by omega)
  unfold outCk at h
  rw [Bool.and_eq_true] at h
  exact ble_t.1 (lAll_mem h.1 l hl)
theorem out_one {L : Nat} (h0 : 1 ≤ L) (hL : L ≤ 6) : ∃ l ∈ allS L, outM L l = 2 ^ (L - 1) := by
  have h : outCk L = true := lAll_at outCk_all h0 (by omega)
  unfold outCk at h
  simp only [Bool.and_eq_true] at h
  obtain ⟨_, h1, h2⟩ := h
  have h1 := ble_t.1 h1
  rw [lLenL_eq] at h1
  have hb : Nat.pow 2 L ≤ 64 ∧ L < Nat.pow 2 L := by rcases six h0 hL with rfl | rfl | rfl | rfl | rfl | rfl <;> decide
  exact ⟨_, nthL_mem (by omega), beq_t.1 h2⟩
theorem found_at {L : Nat} (h0 : 1 ≤ L) (hL : L ≤ 6) {ρ : Rho} (hA : okA L ρ) (hv : ρ.iv (10 + 6 * (L - 1)) ≤ ρ.iv (13 + 6 * (L - 1))) : ∃ i, i < (allS L).length ∧ (∀ l ∈ takeL (allS L) i, outM L l < 2 ^ L ∧ noneF ρ (cnt (outM L l)) (outM L l) 0 100 = true) ∧
    (outM L (lsAt L i) < 2 ^ L ∧ noneF ρ (cnt (outM L (lsAt L i))) (outM L (lsAt L i)) 0 100 = false) := by
  obtain ⟨l, hl, he⟩ := out_one h0 hL
  have one : rsOf (2 ^ (L - 1)) = [L - 1] ∧ cnt (2 ^ (L - 1)) = 1 := by rcases six h0 hL with rfl | rfl | rfl | rfl | rfl | rfl <;> exact ⟨rfl, rfl⟩
  obtain ⟨i, h1, h2, h3⟩ := first_of (b := fun l => noneF ρ (cnt (outM L l)) (outM L l) 0 100) (ls := allS L) ⟨l, hl, by
    show noneF ρ (cnt (outM L l)) (outM L l) 0 100 = false
    rw [he, one.2]
    exact single_ok hA (by omega) one.1 hv⟩
  exact ⟨i, h1, fun l' h' => ⟨out_lt h0 hL l' (takeL_mem h'), h2 l' h'⟩, out_lt h0 hL _ (nthL_mem h1), h3⟩
/-- the numbers below 110 -/
def baseS (nf z : Nat → Int) (len j : Nat) : Int := if j < 5 then nf j else if j < 70 then z (j - 10) else if j = 95 then len else 0
def ivS (b : Nat → Int) (n q : Int) (len j : Nat) : Int := if j < 110 then b j else if j = 300 then q else if j = 301 then n else turnF n ((2 ^ len - 1 : Nat) : Int)
noncomputable def rhoA (b : Nat → Int) (n : Int) (len : Nat) (s : Value) : Rho := ⟨ivS b n 0 len, fun _ => false, fun _ _ _ _ => 0, fun _ _ _ _ => false, fun _ => s⟩
noncomputable def rhoS (b : Nat → Int) (n q : Int) (len : Nat) (s : Value) : Rho := ⟨ivS b n q len, fun _ => false, fiW (rhoA b n len s), fbW (rhoA b n len s), fun _ => s⟩
def envS (ρ : Rho) (b o cap : Nat) : Env := ⟨ρ, fun x => if x < 1000 then some (x, 0) else if x = 1001 then some (b, o) else none, fun _ => cap, 2000, fun _ => #[]⟩
theorem strange_any {W : World} {ρ0 : Rho} (hG : ∀ g ∈ glV, GlobIn W ρ0 g) {s : Value} {nf : Nat → Int} {n : Int}
    (hs : s = .slice none 0 0 ∨ ∃ (b o len cap : Nat) (z : Nat → Int), s = .slice (some ⟨b, o, none⟩) len cap ∧ len ≤ cap ∧
        (0 < len → ∃ cells el fz, W.heap[b]? = some (.cells cells el fz) ∧ ∀ q, q < 6 * len → cells[o + q]? = some (.int .i64 (z q)))) :
    Calls Tryd.prog 5 #[.agg #[s, .int .i64 (nf 0), .int .i64 (nf 1), .int .i64 (nf 2), .int .i64 (nf 3), .int .i64 (nf 4)], .int .i64 n] W fun e w' => e = .returned (.bool true) ∧ Below W.heap.size W w' := by
  have hσ : ∀ ρ b o cap, ∀ x, x < 1000 → (envS ρ b o cap).σ x = some (x, 0) := fun ρ b o cap x hx => by simp [envS, hx]
  have hnone : ∀ ρ b o cap, ∀ x, 2000 ≤ x → (envS ρ b o cap).σ x = none := fun ρ b o cap x hx => by
    simp only [envS]; rw [if_neg (by omega), if_neg (by omega)]
  have gvw : ∀ ρ b o cap, ∀ g ∈ glV, ViewIn W (envS ρ b o cap) g := fun ρ b o cap => glob_view glV_lit' hG (hσ ρ b o cap)
  have args : ∀ (z : Nat → Int) (q : Int) (len b o cap : Nat) (a : AV), conc (envS (rhoS (baseS nf z len) n q len s) b o cap) a = some s →
      concL (envS (rhoS (baseS nf z len) n q len s) b o cap) [.agg [a, vi 0, vi 1, vi 2, vi 3, vi 4], vi 301] =
      some [.agg #[s, .int .i64 (nf 0), .int .i64 (nf 1), .int .i64 (nf 2), .int .i64 (nf 3), .int .i64 (nf 4)], .int .i64 n] := fun z q len b o cap a ha => by
    have h1 : conc (envS (rhoS (baseS nf z len) n q len s) b o cap) (.agg [a, vi 0, vi 1, vi 2, vi 3, vi 4]) = some (.agg #[s, .int .i64 (nf 0), .int .i64 (nf 1), .int .i64 (nf 2), .int .i64 (nf 3), .int .i64 (nf 4)]) := by
      rw [conc, concL_cons.2 ⟨_, _, ha, (show concL _ [vi 0, vi 1, vi 2, vi 3, vi 4] = some [.int .i64 (nf 0), .int .i64 (nf 1), .int .i64 (nf 2), .int .i64 (nf 3), .int .i64 (nf 4)] by
        simp [vi, concL, conc, IE.den, envS, rhoS, ivS, baseS]), rfl⟩]; rfl
    have h2 : concL (envS (rhoS (baseS nf z len) n q len s) b o cap) [vi 301] = some [.int .i64 n] := by
      simp [vi, concL, conc, IE.den, envS, rhoS, ivS]
    exact concL_cons.2 ⟨_, _, h1, h2, rfl⟩
  rcases hs with hs0 | ⟨b, o, len, cap, z, hs1, hlc, hcells⟩
  · exact strange_short lawBT_nil (gvw _ 0 0 0) (hnone _ 0 0 0) (hσ _ 0 0 0) (Nat.le_refl _) (args (fun _ => 0) 0 0 0 0 0 .nilslice (by rw [hs0]; rfl)) (fun c hc => (List.not_mem_nil hc).elim)
  · have hsu : ∀ q, conc (envS (rhoS (baseS nf z len) n q len s) b o cap) (.sliceU 95) = some s := fun q => by
      rw [hs1]; simp [conc, envS, rhoS, ivS, baseS]
    have i95 : ∀ q, (rhoS (baseS nf z len) n q len s).iv 95 = len := fun q => by simp [rhoS, ivS, baseS]
    by_cases h0 : len = 0
    · exact strange_short lawBT_few (gvw _ b o cap) (hnone _ _ _ _) (hσ _ _ _ _) (Nat.le_refl _) (args z 0 len b o cap (.sliceU 95) (hsu _)) (fun c hc => by
        rcases List.mem_singleton.1 hc with rfl
        rw [BE.t_leq, IE.den_var, IE.den_lit]; show (rhoS (baseS nf z len) n 0 len s).iv 95 ≤ 0; rw [i95]; omega)
    · by_cases h7 : 7 ≤ len
      · exact strange_short lawBT_many (gvw _ b o cap) (hnone _ _ _ _) (hσ _ _ _ _) (Nat.le_refl _) (args z 0 len b o cap (.sliceU 95) (hsu _)) (fun c hc => by
          rcases List.mem_singleton.1 hc with rfl
          rw [BE.t_leq, IE.den_var, IE.den_lit]; show 7 ≤ (rhoS (baseS nf z len) n 0 len s).iv 95; rw [i95]; omega)
      · have h1 : 1 ≤ len := by omega
        have h6 : len ≤ 6 := by omega
        have hLm : len ∈ [1, 2, 3, 4, 5, 6] := by
          simp only [List.mem_cons, List.not_mem_nil, or_false]; omega
        obtain ⟨cells, el, fz, c1, c2⟩ := hcells (by omega)
        have low : ∀ q j, j < 110 → (rhoS (baseS nf z len) n q len s).iv j = baseS nf z len j := fun q j hj => by
          show ivS _ n q len j = _
          unfold ivS; rw [if_pos hj]
        have hsl : ∀ q, conc (envS (rhoS (baseS nf z len) n q len s) b o cap) (.sliceX 1001 6 0 len) = some s := fun q => by
          rw [hs1]
          simp only [conc, envS]
          rw [if_pos (by omega)]
          simp
        have hview : ∀ q, ∀ g ∈ viewV len, ViewIn W (envS (rhoS (baseS nf z len) n q len s) b o cap) g := fun q g hg => by
          rcases List.mem_cons.1 hg with rfl | hg
          · refine ⟨b, o, _, cells, el, fz, by simp [envS], cellsUp_vals2 _ (fun j => z (j - 10)) (6 * len) 10 (fun j h3 h4 => ?_), c1, fun i hi => ?_⟩
            · show (rhoS (baseS nf z len) n q len s).iv j = _
              rw [low q j (by omega)]
              unfold baseS
              rw [if_neg (by omega), if_pos (by omega)]
            · simp only [List.length_map, List.length_range] at hi
              rw [c2 i hi, List.getElem?_map, List.getElem?_range hi]
              simp
          · exact gvw _ b o cap g hg
        have like : ∀ q, LikeF (rhoS (baseS nf z len) n q len s) (rhoA (baseS nf z len) n len s) := fun q j hj => by
          show ivS _ n q len j = ivS _ n 0 len j
          unfold ivS; rw [if_pos (by omega), if_pos (by omega)]
        by_cases hcs : ∀ c ∈ csL len, c.den (rhoS (baseS nf z len) n 0 len s) = true
        · have same : ∀ q, ∀ c ∈ csL len, c.den (rhoS (baseS nf z len) n q len s) = true := fun q c hc => by
            have e : ∀ j, j < 110 → (rhoS (baseS nf z len) n q len s).iv j = (rhoS (baseS nf z len) n 0 len s).iv j := fun j hj => (low q j hj).trans (low 0 j hj).symm
            have k := hcs c hc
            rcases (csUp_mem len 10).1 hc with ⟨r, hr, hc⟩ | hc
            · have k : ∀ c ∈ reelC (10 + 6 * r), c.den (rhoS (baseS nf z len) n 0 len s) = true := fun c hc => hcs c ((csUp_mem len 10).2 (.inl ⟨r, hr, hc⟩))
              refine reelC_den.2 ?_ c hc
              have k := reelC_den.1 k
              rw [e _ (by omega), e _ (by omega), e _ (by omega), e _ (by omega), e _ (by omega), e _ (by omega)]
              exact k
            · have k : ∀ c ∈ restC, c.den (rhoS (baseS nf z len) n 0 len s) = true := fun c hc => hcs c ((csUp_mem len 10).2 (.inr hc))
              refine restC_den.2 ?_ c hc
              have k := restC_den.1 k
              rw [e _ (by omega), e _ (by omega), e _ (by omega), e _ (by omega), e _ (by omega)]
              exact k
          obtain ⟨_, hR⟩ := film_of_cs h1 h6 hcs
          have oO : ∀ q, okO len (rhoS (baseS nf z len) n q len s) := fun q => okO_of h6 (like q) rfl rfl (film_of_cs h1 h6 (same q)).2
          have hlast := (reelC_den.1 fun c hc => hcs c ((csUp_mem len 10).2 (.inl ⟨len - 1, by omega, hc⟩))).2.2.2.2.2.2.2.2.2
          rw [show 10 + 6 * (len - 1) + 3 = 13 + 6 * (len - 1) by omega] at hlast
          obtain ⟨i, i1, i2, i3⟩ := found_at h1 h6 (oO 0).1.1 hlast
          let q := manyF (rhoA (baseS nf z len) n len s) (cnt (outM len (lsAt len i))) (outM len (lsAt len i)) 0 100 0
          have nl : ∀ k m, noneF (rhoS (baseS nf z len) n q len s) k m 0 100 = noneF (rhoS (baseS nf z len) n 0 len s) k m 0 100 := fun k m => (noneF_like (like q) k m 0 100).trans (noneF_like (like 0) k m 0 100).symm
          refine strange_valid h1 h6 (hview q) (hnone _ _ _ _) (hσ _ _ _ _) (Nat.le_refl _) (args z q len b o cap _ (hsl q)) (i := i) ⟨same q, oO q, i1, fun l hl => ?_, ?_, ?_, ?_⟩
          · show _ ∧ noneF (rhoS (baseS nf z len) n q len s) _ _ 0 100 = true
            rw [nl]; exact i2 l hl
          · show _ ∧ noneF (rhoS (baseS nf z len) n q len s) _ _ 0 100 = false
            rw [nl]; exact i3
          · show q = manyF (rhoS (baseS nf z len) n q len s) _ _ 0 100 0
            rw [manyF_like (like q)]
          · rfl
        · exact strange_bad hLm (hview 0) (hnone _ _ _ _) (hσ _ _ _ _) (Nat.le_refl _) (args z 0 len b o cap _ (hsl 0)) hcs
end Go.Sx
