/- THE REELS THAT MUST BE OF ANOTHER FILM, as they are said. -/
import Derived.Test.YtlaakbmimplceaaDoorRyKF
import Derived.Test.YtlaakbmimplceaaDoorRyKF6
import Derived.Test.YtlaakbmimplceaaDoorRyKP
import Derived.Test.YtlaakbmimplceaaDoorRyKP6
import Derived.Test.YtlaakbmimplceaaDoorRyKC
import Derived.Test.YtlaakbmimplceaaDoorRyKC6a
import Derived.Test.YtlaakbmimplceaaDoorRyKC6b
import Derived.Test.YtlaakbmimplceaaDoorRyKC6c
import Derived.Test.YtlaakbmimplceaaDoorRyKC6d
import Derived.Test.YtlaakbmimplceaaDoorRyKC6e
import Derived.Test.YtlaakbmimplceaaDoorRyKC6f
import Derived.Test.YtlaakbmimplceaaDoorRyKC6g
import Derived.Test.YtlaakbmimplceaaDoorSxSelf
/-! WHO LOOKS FOR AN ORDER: First, canFollow and Places are such. -/
namespace Go.Sx
open Go.RowKit Go.Proofs
set_option maxRecDepth 100000
theorem ckF_all {L m : Nat} (h0 : 1 ≤ L) (hL : L ≤ 6) (hm : m < 2 ^ L) : ckT consF L m = true := by
  rcases six h0 hL with rfl | rfl | rfl | rfl | rfl | rfl
  · exact lAll_at kF1 (Nat.zero_le _) (by omega)
  · exact lAll_at kF2 (Nat.zero_le _) (by omega)
  · exact lAll_at kF3 (Nat.zero_le _) (by omega)
  · exact lAll_at kF4 (Nat.zero_le _) (by omega)
  · have h : m < 8 ∧ 0 ≤ m ∨ m < 16 ∧ 8 ≤ m ∨ m < 24 ∧ 16 ≤ m ∨ m < 32 ∧ 24 ≤ m := by omega
    rcases h with h | h | h | h
    · exact lAll_at kF5_0 (by omega) (by omega)
    · exact lAll_at kF5_1 (by omega) (by omega)
    · exact lAll_at kF5_2 (by omega) (by omega)
    · exact lAll_at kF5_3 (by omega) (by omega)
  · have h : m < 8 ∧ 0 ≤ m ∨ m < 16 ∧ 8 ≤ m ∨ m < 24 ∧ 16 ≤ m ∨ m < 32 ∧ 24 ≤ m ∨ m < 40 ∧ 32 ≤ m ∨ m < 48 ∧ 40 ≤ m ∨ m < 56 ∧ 48 ≤ m ∨ m < 64 ∧ 56 ≤ m := by omega
    rcases h with h | h | h | h | h | h | h | h
    · exact lAll_at kF6_0 (by omega) (by omega)
    · exact lAll_at kF6_1 (by omega) (by omega)
    · exact lAll_at kF6_2 (by omega) (by omega)
    · exact lAll_at kF6_3 (by omega) (by omega)
    · exact lAll_at kF6_4 (by omega) (by omega)
    · exact lAll_at kF6_5 (by omega) (by omega)
    · exact lAll_at kF6_6 (by omega) (by omega)
    · exact lAll_at kF6_7 (by omega) (by omega)
theorem ckP_all {L m : Nat} (h0 : 1 ≤ L) (hL : L ≤ 6) (hm : m < 2 ^ L) : ckP L m = true := by
  rcases six h0 hL with rfl | rfl | rfl | rfl | rfl | rfl
  · exact lAll_at kP1 (Nat.zero_le _) (by omega)
  · exact lAll_at kP2 (Nat.zero_le _) (by omega)
  · exact lAll_at kP3 (Nat.zero_le _) (by omega)
  · exact lAll_at kP4 (Nat.zero_le _) (by omega)
  · have h : m < 8 ∧ 0 ≤ m ∨ m < 16 ∧ 8 ≤ m ∨ m < 24 ∧ 16 ≤ m ∨ m < 32 ∧ 24 ≤ m := by omega
    rcases h with h | h | h | h
    · exact lAll_at kP5_0 (by omega) (by omega)
    · exact lAll_at kP5_1 (by omega) (by omega)
    · exact lAll_at kP5_2 (by omega) (by omega)
    · exact lAll_at kP5_3 (by omega) (by omega)
  · have h : m < 8 ∧ 0 ≤ m ∨ m < 16 ∧ 8 ≤ m ∨ m < 24 ∧ 16 ≤ m ∨ m < 32 ∧ 24 ≤ m ∨ m < 40 ∧ 32 ≤ m ∨ m < 48 ∧ 40 ≤ m ∨ m < 56 ∧ 48 ≤ m ∨ m < 64 ∧ 56 ≤ m := by omega
    rcases h with h | h | h | h | h | h | h | h
    · exact lAll_at kP6_0 (by omega) (by omega)
    · exact lAll_at kP6_1 (by omega) (by omega)
    · exact lAll_at kP6_2 (by omega) (by omega)
    · exact lAll_at kP6_3 (by omega) (by omega)
    · exact lAll_at kP6_4 (by omega) (by omega)
    · exact lAll_at kP6_5 (by omega) (by omega)
    · exact lAll_at kP6_6 (by omega) (by omega)
    · exact lAll_at kP6_7 (by omega) (by omega)
theorem upN_join {p : Nat → Bool} : ∀ {a b k : Nat}, lAll p (upN a k) = true → lAll p (upN b (k + a)) = true → lAll p (upN (a + b) k) = true
  | 0, b, k, _, h => by rw [Nat.zero_add]; exact h
  | a + 1, b, k, h, h' => by
    have e : lAll p (upN (a + 1) k) = cond (p k) (lAll p (upN a (k + 1))) false := rfl
    have e' : lAll p (upN (a + 1 + b) k) = cond (p k) (lAll p (upN (a + b) (k + 1))) false := by rw [show a + 1 + b = a + b + 1 by omega]; rfl
    rw [e] at h
    rw [e']
    cases hp : p k with
    | false => rw [hp] at h; cases h
    | true =>
      rw [hp, cond_true] at h
      rw [cond_true]
      exact upN_join h (by rw [show k + 1 + a = k + (a + 1) by omega]; exact h')
theorem kC63 : ckC 6 63 = true := upN_join (a := 16) (b := 48) kC63_0 (upN_join (a := 16) (b := 32) kC63_1 (upN_join (a := 16) (b := 16) kC63_2 kC63_3))
theorem kC6_15c : lAll (ckC 6) (upN 1 63) = true := lAll_cons kC63 rfl
theorem kC6_15 : lAll (ckC 6) (upN 4 60) = true := upN_join (a := 2) (b := 2) kC6_15a (upN_join (a := 1) (b := 1) kC6_15b kC6_15c)
theorem ckC_all0 {L m : Nat} (h0 : 1 ≤ L) (hL : L ≤ 6) (hm : m < 2 ^ L) : ckC L m = true := by
  rcases six h0 hL with rfl | rfl | rfl | rfl | rfl | rfl
  · exact lAll_at kC1 (Nat.zero_le _) (by omega)
  · exact lAll_at kC2 (Nat.zero_le _) (by omega)
  · exact lAll_at kC3 (Nat.zero_le _) (by omega)
  · exact lAll_at kC4 (Nat.zero_le _) (by omega)
  · have h : m < 8 ∧ 0 ≤ m ∨ m < 16 ∧ 8 ≤ m ∨ m < 24 ∧ 16 ≤ m ∨ m < 32 ∧ 24 ≤ m := by omega
    rcases h with h | h | h | h
    · exact lAll_at kC5_0 (by omega) (by omega)
    · exact lAll_at kC5_1 (by omega) (by omega)
    · exact lAll_at kC5_2 (by omega) (by omega)
    · exact lAll_at kC5_3 (by omega) (by omega)
  · have h : m < 4 ∧ 0 ≤ m ∨ m < 8 ∧ 4 ≤ m ∨ m < 12 ∧ 8 ≤ m ∨ m < 16 ∧ 12 ≤ m ∨ m < 20 ∧ 16 ≤ m ∨ m < 24 ∧ 20 ≤ m ∨ m < 28 ∧ 24 ≤ m ∨ m < 32 ∧ 28 ≤ m ∨ m < 36 ∧ 32 ≤ m ∨ m < 40 ∧ 36 ≤ m ∨ m < 44 ∧ 40 ≤ m ∨ m < 48 ∧ 44 ≤ m ∨ m < 52 ∧ 48 ≤ m ∨ m < 56 ∧ 52 ≤ m ∨ m < 60 ∧ 56 ≤ m ∨ m < 64 ∧ 60 ≤ m := by omega
    rcases h with h | h | h | h | h | h | h | h | h | h | h | h | h | h | h | h
    · exact lAll_at kC6_0 (by omega) (by omega)
    · exact lAll_at kC6_1 (by omega) (by omega)
    · exact lAll_at kC6_2 (by omega) (by omega)
    · exact lAll_at kC6_3 (by omega) (by omega)
    · exact lAll_at kC6_4 (by omega) (by omega)
    · exact lAll_at kC6_5 (by omega) (by omega)
    · exact lAll_at kC6_6 (by omega) (by omega)
    · exact lAll_at kC6_7 (by omega) (by omega)
    · exact lAll_at kC6_8 (by omega) (by omega)
    · exact lAll_at kC6_9 (by omega) (by omega)
    · exact lAll_at kC6_10 (by omega) (by omega)
    · exact lAll_at kC6_11 (by omega) (by omega)
    · exact lAll_at kC6_12 (by omega) (by omega)
    · exact lAll_at kC6_13 (by omega) (by omega)
    · exact lAll_at kC6_14 (by omega) (by omega)
    · exact lAll_at kC6_15 (by omega) (by omega)

theorem bt_bit (m i : Nat) : bt m i = m.testBit i := by
  unfold bt
  rw [Nat.testBit_eq_decide_div_mod_eq]
  cases h : Nat.beq (Nat.mod (Nat.div m (Nat.pow 2 i)) 2) 1 with
  | true => exact (decide_eq_true (beq_t.1 h)).symm
  | false => exact (decide_eq_false (beq_f.1 h)).symm
theorem cnt_mono {m M : Nat} (h : Nat.land m M = m) : cnt m ≤ cnt M := by
  have k : ∀ i, (cond (bt m i) 1 0 : Nat) ≤ cond (bt M i) 1 0 := fun i => by
    have e : (m &&& M).testBit i = m.testBit i := congrArg (fun x => x.testBit i) h
    rw [Nat.testBit_and, ← bt_bit, ← bt_bit] at e
    cases h1 : bt m i <;> cases h2 : bt M i <;> simp_all
  unfold cnt
  have := k 0; have := k 1; have := k 2; have := k 3; have := k 4; have := k 5
  omega
theorem cnt_six (m : Nat) : cnt m ≤ 6 := by
  have k : ∀ i, (cond (bt m i) 1 0 : Nat) ≤ 1 := fun i => by cases bt m i <;> simp
  unfold cnt
  have := k 0; have := k 1; have := k 2; have := k 3; have := k 4; have := k 5
  omega
theorem cnt_le' {L m : Nat} (hm : m < 2 ^ L) : cnt m ≤ L := by
  by_cases h : 6 ≤ L
  · exact Nat.le_trans (cnt_six m) h
  · rcases Nat.eq_zero_or_pos L with rfl | h0
    · have : m = 0 := by omega
      subst this; exact Nat.le_of_eq rfl
    · exact cnt_le h0 (by omega) hm
theorem ltP_t {L m : Nat} (h : ltP L m = true) : m < 2 ^ L := ble_t.1 h
noncomputable def subM (m : Nat) : Bool := lAll (fun r => Nat.beq (Nat.land (del m r) m) (del m r)) (rsOf m)
theorem subM_all : lAll subM (upN 64 0) = true := by kernel_rfl
theorem del_lt {L m r : Nat} (h : m < 2 ^ L) : del m r < 2 ^ L := Nat.lt_of_le_of_lt (Nat.sub_le _ _) h
theorem consF_ok : ConsOk consF where
  b := .inr (.inl rfl)
  ck L m h0 hL h _ := ckF_all h0 hL (ltP_t h)
  lt L m h := ltP_t h
  sub L m r h _ := ble_t.2 (del_lt (ltP_t h))
  le L m h := cnt_le' (ltP_t h)
  six L hL := hL
  big := by decide
  ids := rfl
  ptrs := rfl
  arr := by decide
  up L xs _ _ := rfl
  pre L h0 hL := by rcases six h0 hL with rfl | rfl | rfl | rfl | rfl | rfl <;> kernel_rfl
  suf L _ _ := by kernel_rfl
  fup f hf L cs _ _ := by cases hf; rfl
  fpl f hf L h0 hL := by cases hf; rcases six h0 hL with rfl | rfl | rfl | rfl | rfl | rfl <;> kernel_rfl
theorem consP_ok : ConsOk consP where
  b := .inl rfl
  ck L m h0 hL h hn := by
    have k := ckP_all h0 hL (ltP_t h)
    unfold ckP at k
    rw [beq_f.2 (hn rfl), cond_false] at k
    exact k
  lt L m h := ltP_t h
  sub L m r h _ := ble_t.2 (del_lt (ltP_t h))
  le L m h := cnt_le' (ltP_t h)
  six L hL := hL
  big := by decide
  ids := rfl
  ptrs := rfl
  arr := by decide
  up L xs _ _ := rfl
  pre L h0 hL := by rcases six h0 hL with rfl | rfl | rfl | rfl | rfl | rfl <;> kernel_rfl
  suf L _ _ := by kernel_rfl
  fup f hf L cs _ _ := by cases hf
  fpl f hf L h0 hL := by cases hf
theorem domC {M L m : Nat} : (consC M).dom L m = true ↔ M < 2 ^ L ∧ Nat.land m M = m := by
  show and (ltP L M) (Nat.beq (Nat.land m M) m) = true ↔ _
  rw [Bool.and_eq_true]
  exact ⟨fun h => ⟨ltP_t h.1, beq_t.1 h.2⟩, fun h => ⟨ble_t.2 h.1, beq_t.2 h.2⟩⟩
theorem domC_lt {M L m : Nat} (h : (consC M).dom L m = true) : m < 2 ^ L := by
  obtain ⟨h1, h2⟩ := domC.1 h
  have : m &&& M ≤ M := Nat.and_le_right
  have e : m &&& M = m := h2
  omega
theorem consC_ok {M : Nat} (hM : M < 64) : ConsOk (consC M) where
  b := .inl rfl
  ck L m h0 hL h _ := by
    obtain ⟨h1, h2⟩ := domC.1 h
    have k := ckC_all0 h0 hL h1
    unfold ckC at k
    have k := lAll_at k (Nat.zero_le m) (by rw [Nat.zero_add]; exact domC_lt h)
    rw [beq_t.2 h2, cond_true] at k
    exact k
  lt L m h := domC_lt h
  sub L m r h hr := by
    obtain ⟨h1, h2⟩ := domC.1 h
    have e : m &&& M = m := h2
    have hm : m < 64 := by
      have : m &&& M ≤ M := Nat.and_le_right
      omega
    have k : subM m = true := lAll_at subM_all (Nat.zero_le m) (by omega)
    have k : del m r &&& m = del m r := beq_t.1 (lAll_mem k r hr)
    refine domC.2 ⟨h1, ?_⟩
    show del m r &&& M = del m r
    rw [← k, Nat.and_assoc, e]
  le L m h := cnt_mono (domC.1 h).2
  six L _ := cnt_six M
  big := (by decide : 1000 ≤ 2013)
  ids := rfl
  ptrs := rfl
  arr := (by decide : 2010 < 2013)
  up L xs _ _ := rfl
  pre L h0 hL := by rcases six h0 hL with rfl | rfl | rfl | rfl | rfl | rfl <;> kernel_rfl
  suf L _ _ := by kernel_rfl
  fup f hf L cs _ _ := by cases hf; rfl
  fpl f hf L h0 hL := by cases hf; rcases six h0 hL with rfl | rfl | rfl | rfl | rfl | rfl <;> kernel_rfl
end Go.Sx
/-! WHETHER SOME REELS HAVE AN ORDER: canFollow, as it is said. -/
namespace Go.Sx
open Go.RowKit Go.Proofs
set_option maxRecDepth 100000
noncomputable def runCan (L M : Nat) : T (AV × Heap) := (evalN (tbTs (consC M) L 7) 100 false 64 [filmK 2001 L, bitsA M] (viewA 2002 (vA 2001 L false))).bind fun r => graftT 2002 (vA 2001 L false) (viewA 2002 (vA 2001 L false)) [] r
noncomputable def encCan (L : Nat) (q : AV × Heap) : AV := .tup [q.1, tag (and (allO q.2 (vA 2001 L false)) (Nat.beq q.2.next 2002))]
noncomputable def treeCan {α : Type} (M : Nat) (f : Bool → α) : T α := cond (Nat.beq M 0) (.ret (f false)) (.br (noneE M (.lit 0) (.lit 100)) (.ret (f false)) (.ret (f true)))
noncomputable def expCan (M : Nat) : T AV := treeCan M fun b => .tup [tag b, tag true]
noncomputable def ckCan (L M : Nat) : Bool := eqTF ((runCan L M).bind fun q => .ret (encCan L q)) (expCan M)
theorem ckCan1 : lAll (ckCan 1) (upN 2 0) = true := by kernel_rfl
theorem ckCan2 : lAll (ckCan 2) (upN 4 0) = true := by kernel_rfl
theorem ckCan3 : lAll (ckCan 3) (upN 8 0) = true := by kernel_rfl
theorem ckCan4 : lAll (ckCan 4) (upN 16 0) = true := by kernel_rfl
theorem ckCan5 : lAll (ckCan 5) (upN 32 0) = true := by kernel_rfl
theorem ckCan6 : lAll (ckCan 6) (upN 64 0) = true := by kernel_rfl
theorem ckCan_all {L M : Nat} (h0 : 1 ≤ L) (hL : L ≤ 6) (hM : M < 2 ^ L) : ckCan L M = true := by
  rcases six h0 hL with rfl | rfl | rfl | rfl | rfl | rfl
  · exact lAll_at ckCan1 (Nat.zero_le _) (by omega)
  · exact lAll_at ckCan2 (Nat.zero_le _) (by omega)
  · exact lAll_at ckCan3 (Nat.zero_le _) (by omega)
  · exact lAll_at ckCan4 (Nat.zero_le _) (by omega)
  · exact lAll_at ckCan5 (Nat.zero_le _) (by omega)
  · exact lAll_at ckCan6 (Nat.zero_le _) (by omega)
noncomputable def saidCan (L M : Nat) : T (AV × Heap) := treeCan M fun b => (tag b, viewA 2002 (vA 2001 L false))
theorem treeCan_holds {α β : Type} {ρ : Rho} {M : Nat} {f : Bool → α} {g : Bool → β} {Q : α → Prop} {R : β → Prop} (h : ∀ b, Q (f b) → R (g b)) (k : (treeCan M f).Holds ρ Q) : (treeCan M g).Holds ρ R := by
  unfold treeCan at k ⊢
  cases hz : Nat.beq M 0 with
  | true => rw [hz, cond_true] at k; rw [cond_true]; exact h _ k
  | false =>
    rw [hz, cond_false] at k
    rw [cond_false]
    simp only [T.Holds] at k ⊢
    split
    · rename_i c; rw [if_pos c] at k; exact h _ k
    · rename_i c; rw [if_neg c] at k; exact h _ k
theorem bitsA_ids (n M : Nat) : idsLts n [bitsA M] = true := rfl
theorem can_said {L M : Nat} (h0 : 1 ≤ L) (hL : L ≤ 6) (hM : M < 2 ^ L) : CallOk (pTs L) 64 [filmK 2001 L, bitsA M] (viewA 2002 (vA 2001 L false)) (saidCan L M) := by
  have base := eval_ok (tabsTs (consC_ok (lt64 hL hM)) h0 hL 7) 100 64 [filmK 2001 L, bitsA M] (viewA 2002 (vA 2001 L false))
  have up : upA 0 (vA 2001 L false) = true := rfl
  have fr : CallOk (pTs L) 64 [filmK 2001 L, bitsA M] (viewA 2002 (vA 2001 L false)) (runCan L M) := base.frame (n := 2002) (l := vA 2001 L false) (by omega) rfl (viewA_ok (.inl rfl) L h0 hL false)
    (fun g hg => ⟨g.2, viewA_mem 2002 _ 0 up g hg, .refl _⟩) (by rw [viewA_next]; exact Nat.le_refl _) (fun _ => [])
  refine CallOk.read rfl fr fun ρ b hok Q k => ⟨ρ, hok, SameL.refl _ _, ⟨rfl, fun j o g => ⟨o, g, SameA.refl o⟩⟩, T.holds_enc (eqTF_eq _ _ (ckCan_all h0 hL hM)) ?_⟩
  refine treeCan_holds (fun b kb => ?_) k
  intro r0 he
  unfold encCan at he
  simp only [AV.tup.injEq, List.cons.injEq, and_true] at he
  obtain ⟨h1, h2⟩ := he
  simp only [tag, AV.bool.injEq, BE.lit.injEq, Bool.and_eq_true] at h2
  exact ⟨_, kb, by rw [h1]; exact SameV.refl _ _, (beq_t.1 h2.2).trans (viewA_next _ _).symm, fun j o g => ⟨o, allO_get h2.1 (viewA_get _ _ _ _ g), SameA.refl o⟩⟩
noncomputable def orcCan (L : Nat) (args : List AV) (h : Heap) : Option (T (AV × Heap)) :=
  match args with
  | [_, .agg bs] => (match maskA bs 1 with
    | some M => cond (and (eqAVs args [filmK 2001 L, bitsA M]) (and (ltP L M) (and (lessAll h (vA 2001 L false)) (Nat.ble 2002 h.next))))
        (some ((saidCan L M).bind fun r => graftT 2002 (vA 2001 L false) h [] r)) none
    | none => none)
  | _ => none
theorem orcCan_ok {L : Nat} (h0 : 1 ≤ L) (hL : L ≤ 6) {args : List AV} {h : Heap} {t : T (AV × Heap)} (e : orcCan L args h = some t) : CallOk (pTs L) 64 args h t := by
  unfold orcCan at e
  split at e
  · split at e
    · obtain ⟨hc, e2⟩ := cond_some e
      clear e
      simp only [Bool.and_eq_true] at hc
      obtain ⟨i1, i2, i3, i4⟩ := hc
      rw [eqAVs_eq _ _ i1]
      cases e2
      exact (can_said h0 hL (ltP_t i2)).frame (n := 2002) (by omega) rfl (viewA_ok (.inl rfl) L h0 hL false) (lessAll_ok i3) (ble_t.1 i4) (fun _ => [])
    · cases e
  · cases e
end Go.Sx
/-! THE FIRST ORDER OF A VALID FILM: its run, and what is said of it. -/
namespace Go.Sx
open Go.RowKit Go.Proofs
set_option maxRecDepth 100000
/-! ## What a valid film is -/
noncomputable def filmQ (L : Nat) : List (Nat × Int × Int) :=
  (0, 1, 20) :: (1, 1, 20) :: (2, 0, 50) :: (3, 0, 50) :: (4, 1, 6000) :: (@List.rec Nat (fun _ => List (Nat × Int × Int)) [] (fun r _ ih => (10 + 6 * r, 0, 99) :: (11 + 6 * r, 0, 99) :: (12 + 6 * r, 0, 99) :: (13 + 6 * r, 0, 99) :: (14 + 6 * r, 1, 1200) :: (15 + 6 * r, 1, 1200) :: ih) (upN L 0))
noncomputable def leV (i j : Nat) : BE := .cmp .leq (.var i) (.var j)
noncomputable def filmC (L : Nat) : List BE :=
  leV 0 1 :: leV 2 3 :: (@List.rec Nat (fun _ => List BE) [] (fun r _ ih => leV (10 + 6 * r) (11 + 6 * r) :: leV (12 + 6 * r) (13 + 6 * r) :: leV (14 + 6 * r) (15 + 6 * r) :: leV (10 + 6 * r) (13 + 6 * r) :: ih) (upN L 0))
def okFilm (L : Nat) (ρ : Rho) : Prop := (∀ c ∈ ivC (filmQ L), c.den ρ = true) ∧ ∀ c ∈ filmC L, c.den ρ = true
theorem okFilm_kn {L : Nat} {ρ : Rho} (h : okFilm L ρ) : KnOk ρ (knOf (filmQ L) (filmC L)) := knOf_ok h.1 h.2

theorem CallOk.weak {P : Program} {RC : Nat → Nat → List Nat → Code → Code → Prop} {ok0 ok : Rho → (Nat → Obj → Prop) → Prop} (hw : ∀ ρ m, ok ρ m → ok0 ρ m) {f : FuncId} {args : List AV} {h : Heap} {t : T (AV × Heap)} (hc : CallOk ⟨P, RC, ok0⟩ f args h t) : CallOk ⟨P, RC, ok⟩ f args h t :=
  CallOk.read (p0 := ⟨P, RC, ok0⟩) (p := ⟨P, RC, ok⟩) rfl hc fun ρ _ ⟨m, k1, k2⟩ _ k => ⟨ρ, ⟨m, hw ρ m k1, k2⟩, SameL.refl _ _, ⟨rfl, fun _ o g => ⟨o, g, SameA.refl o⟩⟩, T.holds_mono (fun r hr => ⟨r, hr, SameV.refl _ _, rfl, fun _ o g => ⟨o, g, SameA.refl o⟩⟩) k⟩

/-! ## What is known before -/
noncomputable def vK (L : Nat) : List (Nat × AObj) := [(0, ro [li 1, li 20, li 0, li 50]), (1, ro [li 0, li 99, li 0, li 99, li 1, li 1200]), (1001, rowsA L)]
noncomputable def vK2 (L : Nat) : List (Nat × AObj) := [(0, ro [li 1, li 20, li 0, li 50]), (1, ro [li 0, li 99, li 0, li 99, li 1, li 1200]), (1001, rowsA L), (2000, .umap (mU false))]
noncomputable def knowV (L b : Nat) : AV := .tup [filmK b L, ln 0]
noncomputable def pK (L : Nat) : Par := ⟨Tryd.prog, rcOf Tryd.rows, fun ρ _ => okFilm L ρ⟩
theorem tabsK (L : Nat) : TabOk (pK L) Sx.Tryd.tt.get tbA := Tryd.tab (fun _ _ _ => none) (fun _ _ _ _ h => by cases h) 2000
noncomputable def runK (L : Nat) : T (AV × Heap) := (evalN tbA 100 false 38 [filmF L] (viewA 2000 (vK L))).bind fun r => graftT 2000 (vK L) (viewA 2000 (vK L)) (match r.1 with | .tup (.agg cs :: _) => (match listGet cs 6 with | some (.map b) => [b] | _ => []) | _ => []) r
noncomputable def mapO (o : Option AObj) : Bool :=
  match o with
  | some (.map [] 0) => true
  | _ => false
theorem mapO_eq {o : Option AObj} (h : mapO o = true) : o = some (.map [] 0) := by
  unfold mapO at h; split at h
  · rfl
  · cases h
noncomputable def endK (L : Nat) (_ : Kn) (q : AV × Heap) : Bool := and (eqAV q.1 (knowV L 2000)) (and (mapO (q.2.get 2000)) (and (allO q.2 (vK L)) (Nat.beq q.2.next 2001)))
noncomputable def ckK (L : Nat) : Bool := allW [] (endK L) (runK L) (knOf (filmQ L) (filmC L))
theorem ckK1 : ckK 1 = true := by kernel_rfl
theorem ckK2 : ckK 2 = true := by kernel_rfl
theorem ckK3 : ckK 3 = true := by kernel_rfl
theorem ckK4 : ckK 4 = true := by kernel_rfl
theorem ckK5 : ckK 5 = true := by kernel_rfl
theorem ckK6 : ckK 6 = true := by kernel_rfl
end Go.Sx
/-! THE FIRST ORDER OF A VALID FILM, as it is said. -/
namespace Go.Sx
open Go.RowKit Go.Proofs
set_option maxRecDepth 100000
theorem viewK_ok {L : Nat} (h0 : 1 ≤ L) (hL : L ≤ 6) : viewOk 2000 (vK L) = true := by
  rcases six h0 hL with rfl | rfl | rfl | rfl | rfl | rfl <;> kernel_rfl
theorem ckK_all {L : Nat} (h0 : 1 ≤ L) (hL : L ≤ 6) : ckK L = true := by
  rcases six h0 hL with rfl | rfl | rfl | rfl | rfl | rfl
  · exact ckK1
  · exact ckK2
  · exact ckK3
  · exact ckK4
  · exact ckK5
  · exact ckK6
noncomputable def nwK (r : AV × Heap) : List Nat := (match r.1 with | .tup (.agg cs :: _) => (match listGet cs 6 with | some (.map b) => [b] | _ => []) | _ => [])
/-- WHAT 'know' HANDS BACK, of a valid film. -/
theorem know_said {L : Nat} (h0 : 1 ≤ L) (hL : L ≤ 6) : CallOk (pK L) 38 [filmF L] (viewA 2000 (vK L)) (.ret (knowV L 2000, viewA 2001 (vK2 L))) := by
  have base := eval_ok (tabsK L) 100 38 [filmF L] (viewA 2000 (vK L))
  have up : upA 0 (vK L) = true := rfl
  have fr : CallOk (pK L) 38 [filmF L] (viewA 2000 (vK L)) (runK L) := base.frame (n := 2000) (l := vK L) (by omega) rfl (viewK_ok h0 hL)
    (fun g hg => ⟨g.2, viewA_mem 2000 _ 0 up g hg, .refl _⟩) (by rw [viewA_next]; exact Nat.le_refl _) nwK
  refine CallOk.read rfl fr fun ρ b hok Q k => ⟨ρ, hok, SameL.refl _ _, ⟨rfl, fun j o g => ⟨o, g, SameA.refl o⟩⟩, ?_⟩
  obtain ⟨_, hA, _⟩ := hok
  have k : Q (knowV L 2000, viewA 2001 (vK2 L)) := k
  refine allW_ok (rules_nil ρ) (fun K q _ hq => ?_) (runK L) _ (okFilm_kn hA) (ckK_all h0 hL)
  unfold endK at hq
  simp only [Bool.and_eq_true] at hq
  obtain ⟨q1, q2, q3, q4⟩ := hq
  refine ⟨_, k, by rw [eqAV_eq _ _ q1]; exact SameV.refl _ _, (beq_t.1 q4).trans (viewA_next _ _).symm, fun j o g => ?_⟩
  have hm := viewA_get _ _ _ _ g
  unfold vK2 at hm
  simp only [List.mem_cons, List.not_mem_nil, or_false] at hm
  rcases hm with h | h | h | h
  · exact ⟨o, allO_get q3 (by unfold vK; rw [h]; simp), SameA.refl o⟩
  · exact ⟨o, allO_get q3 (by unfold vK; rw [h]; simp), SameA.refl o⟩
  · exact ⟨o, allO_get q3 (by unfold vK; rw [h]; simp), SameA.refl o⟩
  · cases h; exact ⟨_, mapO_eq q2, SameA.empty rfl⟩

noncomputable def pF (L : Nat) : Par := ⟨Tryd.prog, rcOf Tryd.rows, fun ρ _ => okT L ρ ∧ okFilm L ρ⟩
noncomputable def nwM (_ : AV × Heap) : List Nat := [2000]
noncomputable def orcK (L : Nat) (args : List AV) (h : Heap) : Option (T (AV × Heap)) :=
  cond (and (eqAVs args [filmF L]) (and (lessAll h (vK L)) (Nat.ble 2000 h.next))) (some ((T.ret (knowV L 2000, viewA 2001 (vK2 L))).bind fun r => graftT 2000 (vK L) h (nwM r) r)) none
noncomputable def orcF (L : Nat) (f : FuncId) (args : List AV) (h : Heap) : Option (T (AV × Heap)) :=
  cond (Nat.beq f 38) (orcK L args h) (orcL consF L 7 f args h)
noncomputable def tbF (L : Nat) : Tabs := ⟨Sx.Tryd.ft.get, lFind Sx.Tryd.rt, 2000, orcF L⟩
theorem tabsF {L : Nat} (h0 : 1 ≤ L) (hL : L ≤ 6) : TabOk (pF L) Sx.Tryd.tt.get (tbF L) := by
  refine Tryd.tab (orcF L) (fun f args h t e => ?_) 2000
  unfold orcF at e
  cases h1 : Nat.beq f 38 with
  | true =>
    rw [h1, cond_true] at e
    rw [beq_t.1 h1]
    unfold orcK at e
    obtain ⟨hc, e2⟩ := cond_some e
    clear e
    simp only [Bool.and_eq_true] at hc
    obtain ⟨i1, i2, i3⟩ := hc
    rw [eqAVs_eq _ _ i1]
    cases e2
    have hw : CallOk (pF L) 38 [filmF L] (viewA 2000 (vK L)) (.ret (knowV L 2000, viewA 2001 (vK2 L))) := CallOk.weak (fun ρ m h => h.2) (know_said h0 hL)
    exact hw.frame (n := 2000) (by omega) rfl (viewK_ok h0 hL) (lessAll_ok i2) (ble_t.1 i3) nwM
  | false =>
    rw [h1, cond_false] at e
    exact CallOk.weak (fun ρ m h => h.1) ((tabsTs consF_ok h0 hL 7).orc f args h t e)

/-! ## The run -/
noncomputable def fullM (L : Nat) : Nat := Nat.pow 2 L - 1
noncomputable def vF (L : Nat) : List (Nat × AObj) := vK L ++ [(2000, .cells (lMap iA (ordL (fullM L) (.lit 0) (.lit 100))) 3 true true)]
noncomputable def nwFirst (r : AV × Heap) : List Nat :=
  match r.1 with
  | .tup [.sliceX b _ _ _, _] => [b]
  | .tup [.nilslice, _] => [2001]
  | _ => []
noncomputable def dumO : AObj := .cells [.nilslice] 27 true false
noncomputable def vF0 (L : Nat) : List (Nat × AObj) := vK L ++ [(2000, dumO)]
noncomputable def runF (L : Nat) : T (AV × Heap) := (evalN (tbF L) 100 false 12 [filmF L] (viewA 2000 (vK L))).bind fun r => graftT 2000 (vK L) (viewA 2000 (vK L)) (nwFirst r) r
noncomputable def noneVF : AV := .tup [.nilslice, ln 4]
noncomputable def foundVF (L : Nat) : AV := .tup [.sliceX 2000 1 0 L, ln 0]
noncomputable def encF (L : Nat) (q : AV × Heap) : AV :=
  match q.1 with
  | .tup [.nilslice, e] => .tup [tag true, e, tag (and (allO q.2 (vF0 L)) (Nat.beq q.2.next 2001))]
  | v => .tup [tag false, v, tag (and (allO q.2 (vK L)) (Nat.beq q.2.next 2001)), blkA (q.2.get 2000)]
noncomputable def expF (L : Nat) : T AV :=
  .br (noneE (fullM L) (.lit 0) (.lit 100)) (.ret (.tup [tag true, ln 4, tag true])) (.ret (.tup [tag false, foundVF L, tag true, cellsB (ordL (fullM L) (.lit 0) (.lit 100)) true]))
noncomputable def ckFi (L : Nat) : Bool := eqTF ((runF L).bind fun q => .ret (encF L q)) (expF L)
theorem ckFi1 : ckFi 1 = true := by kernel_rfl
theorem ckFi2 : ckFi 2 = true := by kernel_rfl
theorem ckFi3 : ckFi 3 = true := by kernel_rfl
theorem ckFi4 : ckFi 4 = true := by kernel_rfl
theorem ckFi5 : ckFi 5 = true := by kernel_rfl
theorem ckFi6 : ckFi 6 = true := by kernel_rfl
end Go.Sx
/-! THE FIRST ORDER OF A VALID FILM, as it is said: none, or a new list. -/
namespace Go.Sx
open Go.RowKit Go.Proofs
set_option maxRecDepth 100000
theorem ckFi_all {L : Nat} (h0 : 1 ≤ L) (hL : L ≤ 6) : ((runF L).bind fun q => T.ret (encF L q)) = expF L := by
  refine eqTF_eq _ _ ?_
  rcases six h0 hL with rfl | rfl | rfl | rfl | rfl | rfl
  · exact ckFi1
  · exact ckFi2
  · exact ckFi3
  · exact ckFi4
  · exact ckFi5
  · exact ckFi6
noncomputable def saidF (L : Nat) : T (AV × Heap) := .br (noneE (fullM L) (.lit 0) (.lit 100)) (.ret (noneVF, viewA 2001 (vF0 L))) (.ret (foundVF L, viewA 2001 (vF L)))
theorem encF_none {L : Nat} {q : AV × Heap} (h : encF L q = .tup [tag true, ln 4, tag true]) : q.1 = noneVF ∧ allO q.2 (vF0 L) = true ∧ q.2.next = 2001 := by
  unfold encF at h
  split at h
  · rename_i e hv
    simp only [AV.tup.injEq, List.cons.injEq, and_true, true_and] at h
    obtain ⟨h1, h2⟩ := h
    simp only [tag, AV.bool.injEq, BE.lit.injEq, Bool.and_eq_true] at h2
    exact ⟨by rw [hv, h1]; rfl, h2.1, beq_t.1 h2.2⟩
  · simp at h
theorem encF_found {L : Nat} {q : AV × Heap} {cs : List IE} (h : encF L q = .tup [tag false, foundVF L, tag true, cellsB cs true]) : q.1 = foundVF L ∧ allO q.2 (vK L) = true ∧ q.2.next = 2001 ∧ q.2.get 2000 = some (.cells (lMap iA cs) 3 true true) := by
  unfold encF at h
  split at h
  · simp at h
  · simp only [AV.tup.injEq, List.cons.injEq, and_true, true_and] at h
    obtain ⟨h1, h2, h3⟩ := h
    simp only [tag, AV.bool.injEq, BE.lit.injEq, Bool.and_eq_true] at h2
    exact ⟨h1, h2.1, beq_t.1 h2.2, blkA_some h3⟩
/-- THE FIRST ORDER. -/
theorem first_said {L : Nat} (h0 : 1 ≤ L) (hL : L ≤ 6) : CallOk (pF L) 12 [filmF L] (viewA 2000 (vK L)) (saidF L) := by
  have base := eval_ok (tabsF h0 hL) 100 12 [filmF L] (viewA 2000 (vK L))
  have up : upA 0 (vK L) = true := rfl
  have fr : CallOk (pF L) 12 [filmF L] (viewA 2000 (vK L)) (runF L) := base.frame (n := 2000) (l := vK L) (by omega) rfl (viewK_ok h0 hL)
    (fun g hg => ⟨g.2, viewA_mem 2000 _ 0 up g hg, .refl _⟩) (by rw [viewA_next]; exact Nat.le_refl _) nwFirst
  refine CallOk.read rfl fr fun ρ b hok Q k => ⟨ρ, hok, SameL.refl _ _, ⟨rfl, fun j o g => ⟨o, g, SameA.refl o⟩⟩, T.holds_enc (ckFi_all h0 hL) ?_⟩
  unfold saidF at k
  unfold expF
  simp only [T.Holds] at k ⊢
  split
  · rename_i hc
    rw [if_pos hc] at k
    intro r0 he
    obtain ⟨h1, h2, h3⟩ := encF_none he
    exact ⟨_, k, by rw [h1]; exact SameV.refl _ _, h3.trans (viewA_next _ _).symm, fun j o g => ⟨o, allO_get h2 (viewA_get _ _ _ _ g), SameA.refl o⟩⟩
  · rename_i hc
    rw [if_neg hc] at k
    intro r0 he
    obtain ⟨h1, h2, h3, h4⟩ := encF_found he
    refine ⟨_, k, by rw [h1]; exact SameV.refl _ _, h3.trans (viewA_next _ _).symm, fun j o g => ?_⟩
    have hm := viewA_get _ _ _ _ g
    unfold vF at hm
    rcases List.mem_append.1 hm with hm | hm
    · exact ⟨o, allO_get h2 hm, SameA.refl o⟩
    · rw [List.mem_singleton] at hm
      cases hm
      exact ⟨_, h4, SameA.refl _⟩
end Go.Sx
/-! THE REELS THAT MUST BE OF ANOTHER FILM, as they are said. -/
namespace Go.Sx
open Go.RowKit Go.Proofs
set_option maxRecDepth 100000
noncomputable def orcS (L : Nat) (f : FuncId) (args : List AV) (h : Heap) : Option (T (AV × Heap)) :=
  cond (Nat.beq f 38) (orcK L args h) (cond (Nat.beq f 64) (orcCan L args h) none)
noncomputable def tbS (L : Nat) : Tabs := ⟨Sx.Tryd.ft.get, lFind Sx.Tryd.rt, 2000, orcS L⟩
theorem tabsS {L : Nat} (h0 : 1 ≤ L) (hL : L ≤ 6) : TabOk (pF L) Sx.Tryd.tt.get (tbS L) := by
  refine Tryd.tab (orcS L) (fun f args h t e => ?_) 2000
  unfold orcS at e
  cases h1 : Nat.beq f 38 with
  | true =>
    rw [h1, cond_true] at e
    refine (tabsF h0 hL).orc f args h t ?_
    show orcF L f args h = some t
    unfold orcF
    rw [h1, cond_true]
    exact e
  | false =>
    rw [h1, cond_false] at e
    obtain ⟨h2, e⟩ := cond_some e
    rw [beq_t.1 h2]
    exact CallOk.weak (fun ρ m h => h.1) (orcCan_ok h0 hL e)
noncomputable def nwS (r : AV × Heap) : List Nat :=
  match r.1 with
  | .tup [.sliceX b _ _ _, _] => [b]
  | .tup [.slice b _ _ _, _] => [b]
  | _ => []
noncomputable def runS (L : Nat) : T (AV × Heap) := (evalN (tbS L) 100 false 13 [filmF L] (viewA 2000 (vK L))).bind fun r => graftT 2000 (vK L) (viewA 2000 (vK L)) (nwS r) r
/-- all lists of `s` of the numbers from `k` on, of which there are `n` -/
noncomputable def combos : Nat → Nat → Nat → List (List Nat)
  | _, _, 0 => [[]]
  | _, 0, _ + 1 => []
  | k, n + 1, s + 1 => lMap (k :: ·) (combos (k + 1) n s) ++ combos (k + 1) n (s + 1)
noncomputable def allS (L : Nat) : List (List Nat) := (upN L 0).foldr (fun s l => combos 0 L s ++ l) []
def outM (L : Nat) (l : List Nat) : Nat := l.foldl (fun m r => m - Nat.pow 2 r) (Nat.pow 2 L - 1)
noncomputable def chainS {α : Type} (f : Option (List Nat) → α) (L : Nat) : List (List Nat) → T α
  | [] => .ret (f none)
  | l :: ls => .br (noneE (outM L l) (.lit 0) (.lit 100)) (chainS f L ls) (.ret (f (some l)))
theorem chainS_holds {α β : Type} {ρ : Rho} {f : Option (List Nat) → α} {g : Option (List Nat) → β} {Q : α → Prop} {R : β → Prop} (h : ∀ o, Q (f o) → R (g o)) (L : Nat) : ∀ ls, (chainS f L ls).Holds ρ Q → (chainS g L ls).Holds ρ R
  | [], k => h _ k
  | l :: ls, k => by
    simp only [chainS, T.Holds] at k ⊢
    split
    · rename_i c; rw [if_pos c] at k; exact chainS_holds h L ls k
    · rename_i c; rw [if_neg c] at k; exact h _ k
noncomputable def litN (r : Nat) : IE := .lit (Int.ofNat r)
noncomputable def valS (l : List Nat) : AV :=
  match l with
  | [] => .tup [.slice 2000 0 0 0, ln 0]
  | _ :: _ => .tup [.sliceX 2000 1 0 (lLen l), ln 0]
def extS : List Nat → Bool
  | [] => false
  | _ :: _ => true
noncomputable def vS (L : Nat) (l : List Nat) : List (Nat × AObj) := vK L ++ [(2000, .cells (lMap iA (lMap litN l)) 3 true (extS l))]
noncomputable def leafS (L : Nat) (o : Option (List Nat)) : AV × Heap :=
  match o with
  | none => (.tup [.nilslice, ln 0], viewA 2000 (vK L))
  | some l => (valS l, viewA 2001 (vS L l))
noncomputable def saidS (L : Nat) : T (AV × Heap) := chainS (leafS L) L (allS L)
noncomputable def encS (L : Nat) (q : AV × Heap) : AV :=
  match q.1 with
  | .tup [.nilslice, e] => .tup [tag true, e, tag (and (allO q.2 (vK L)) (Nat.beq q.2.next 2000))]
  | v => .tup [tag false, v, tag (and (allO q.2 (vK L)) (Nat.beq q.2.next 2001)), blkA (q.2.get 2000)]
noncomputable def expLf (o : Option (List Nat)) : AV :=
  match o with
  | none => .tup [tag true, ln 0, tag true]
  | some l => .tup [tag false, valS l, tag true, cellsB (lMap litN l) (extS l)]
noncomputable def ckS (L : Nat) : Bool := eqTF ((runS L).bind fun q => .ret (encS L q)) (chainS expLf L (allS L))
theorem ckS1 : ckS 1 = true := by kernel_rfl
theorem ckS2 : ckS 2 = true := by kernel_rfl
theorem ckS3 : ckS 3 = true := by kernel_rfl
theorem ckS4 : ckS 4 = true := by kernel_rfl
theorem ckS5 : ckS 5 = true := by kernel_rfl
end Go.Sx
