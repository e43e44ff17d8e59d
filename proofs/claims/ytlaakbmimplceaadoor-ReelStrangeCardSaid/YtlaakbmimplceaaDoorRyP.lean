/- AT WHICH PLACES A REEL CAN BE, where there is no order: as it is said. -/
import Derived.Test.YtlaakbmimplceaaDoorRyG6
import Derived.Test.YtlaakbmimplceaaDoorRyG
/-! THE REELS THAT MUST BE OF ANOTHER FILM, as they are said. -/
namespace Go.Sx
open Go.RowKit Go.Proofs
set_option maxRecDepth 100000
theorem ckS_all {L : Nat} (h0 : 1 ≤ L) (hL : L ≤ 6) : ((runS L).bind fun q => T.ret (encS L q)) = chainS expLf L (allS L) := by
  refine eqTF_eq _ _ ?_
  rcases six h0 hL with rfl | rfl | rfl | rfl | rfl | rfl
  · exact ckS1
  · exact ckS2
  · exact ckS3
  · exact ckS4
  · exact ckS5
  · exact ckS6
theorem encS_none {L : Nat} {q : AV × Heap} (h : encS L q = expLf none) : q.1 = .tup [.nilslice, ln 0] ∧ allO q.2 (vK L) = true ∧ q.2.next = 2000 := by
  unfold encS expLf at h
  split at h
  · rename_i e hv
    simp only [AV.tup.injEq, List.cons.injEq, and_true, true_and] at h
    obtain ⟨h1, h2⟩ := h
    simp only [tag, AV.bool.injEq, BE.lit.injEq, Bool.and_eq_true] at h2
    exact ⟨by rw [hv, h1], h2.1, beq_t.1 h2.2⟩
  · simp at h
theorem encS_some {L : Nat} {q : AV × Heap} {l : List Nat} (h : encS L q = expLf (some l)) : q.1 = valS l ∧ allO q.2 (vK L) = true ∧ q.2.next = 2001 ∧ q.2.get 2000 = some (.cells (lMap iA (lMap litN l)) 3 true (extS l)) := by
  unfold encS expLf at h
  split at h
  · simp at h
  · simp only [AV.tup.injEq, List.cons.injEq, and_true, true_and] at h
    obtain ⟨h1, h2, h3⟩ := h
    simp only [tag, AV.bool.injEq, BE.lit.injEq, Bool.and_eq_true] at h2
    exact ⟨h1, h2.1, beq_t.1 h2.2, blkA_some h3⟩
/-- WHAT 'Strange' HANDS BACK. -/
theorem strange_said {L : Nat} (h0 : 1 ≤ L) (hL : L ≤ 6) : CallOk (pF L) 13 [filmF L] (viewA 2000 (vK L)) (saidS L) := by
  have base := eval_ok (tabsS h0 hL) 100 13 [filmF L] (viewA 2000 (vK L))
  have up : upA 0 (vK L) = true := rfl
  have fr : CallOk (pF L) 13 [filmF L] (viewA 2000 (vK L)) (runS L) := base.frame (n := 2000) (l := vK L) (by omega) rfl (viewK_ok h0 hL)
    (fun g hg => ⟨g.2, viewA_mem 2000 _ 0 up g hg, .refl _⟩) (by rw [viewA_next]; exact Nat.le_refl _) nwS
  refine CallOk.read rfl fr fun ρ b hok Q k => ⟨ρ, hok, SameL.refl _ _, ⟨rfl, fun j o g => ⟨o, g, SameA.refl o⟩⟩, T.holds_enc (ckS_all h0 hL) ?_⟩
  unfold saidS at k
  refine chainS_holds (fun o ko => ?_) L (allS L) k
  intro r0 he
  cases o with
  | none =>
    obtain ⟨h1, h2, h3⟩ := encS_none he
    exact ⟨_, ko, by rw [h1]; exact SameV.refl _ _, h3.trans (viewA_next _ _).symm, fun j o g => ⟨o, allO_get h2 (viewA_get _ _ _ _ g), SameA.refl o⟩⟩
  | some l =>
    obtain ⟨h1, h2, h3, h4⟩ := encS_some he
    refine ⟨_, ko, by rw [h1]; exact SameV.refl _ _, h3.trans (viewA_next _ _).symm, fun j o g => ?_⟩
    have hm := viewA_get _ _ _ _ g
    unfold vS at hm
    rcases List.mem_append.1 hm with hm | hm
    · exact ⟨o, allO_get h2 hm, SameA.refl o⟩
    · rw [List.mem_singleton] at hm
      cases hm
      exact ⟨_, h4, SameA.refl _⟩
end Go.Sx
/-! AT WHICH PLACES A REEL CAN BE, where there is no order: as it is said. -/
namespace Go.Sx
open Go.RowKit Go.Proofs
set_option maxRecDepth 100000
noncomputable def orcP (L : Nat) (f : FuncId) (args : List AV) (h : Heap) : Option (T (AV × Heap)) :=
  cond (Nat.beq f 38) (orcK L args h) (orcL consP L 7 f args h)
noncomputable def tbP (L : Nat) : Tabs := ⟨Sx.Tryd.ft.get, lFind Sx.Tryd.rt, 2000, orcP L⟩
theorem tabsP {L : Nat} (h0 : 1 ≤ L) (hL : L ≤ 6) : TabOk (pF L) Sx.Tryd.tt.get (tbP L) := by
  refine Tryd.tab (orcP L) (fun f args h t e => ?_) 2000
  unfold orcP at e
  cases h1 : Nat.beq f 38 with
  | true =>
    rw [h1, cond_true] at e
    refine (tabsF h0 hL).orc f args h t ?_
    show orcF L f args h = some t
    unfold orcF
    rw [h1, cond_true]
    exact e
  | false =>
    rw [h1, cond_false] at e
    exact CallOk.weak (fun ρ m h => h.1) ((tabsTs consP_ok h0 hL 7).orc f args h t e)
noncomputable def runP (L : Nat) : T (AV × Heap) := (evalN (tbP L) 100 false 15 [filmF L, ln 0] (viewA 2000 (vK L))).bind fun r => graftT 2000 (vK L) (viewA 2000 (vK L)) [] r
noncomputable def encP (L : Nat) (q : AV × Heap) : AV := .tup [q.1, tag (and (allO q.2 (vK L)) (Nat.beq q.2.next 2000))]
noncomputable def expP (L : Nat) : T AV := .br (noneE (fullM L) (.lit 0) (.lit 100)) (.ret (.tup [noneVF, tag true])) (.fail 9)
noncomputable def ckPl (L : Nat) : Bool := eqTF ((runP L).bind fun q => .ret (encP L q)) (expP L)
theorem ckPl1 : ckPl 1 = true := by kernel_rfl
theorem ckPl2 : ckPl 2 = true := by kernel_rfl
theorem ckPl3 : ckPl 3 = true := by kernel_rfl
theorem ckPl4 : ckPl 4 = true := by kernel_rfl
theorem ckPl5 : ckPl 5 = true := by kernel_rfl
theorem ckPl6 : ckPl 6 = true := by kernel_rfl
theorem ckPl_all {L : Nat} (h0 : 1 ≤ L) (hL : L ≤ 6) : ((runP L).bind fun q => T.ret (encP L q)) = expP L := by
  refine eqTF_eq _ _ ?_
  rcases six h0 hL with rfl | rfl | rfl | rfl | rfl | rfl
  · exact ckPl1
  · exact ckPl2
  · exact ckPl3
  · exact ckPl4
  · exact ckPl5
  · exact ckPl6
noncomputable def saidPl (L : Nat) : T (AV × Heap) := .br (noneE (fullM L) (.lit 0) (.lit 100)) (.ret (noneVF, viewA 2000 (vK L))) (.fail 9)
/-- WHAT 'Places' HANDS BACK, where there is no order. -/
theorem places_said {L : Nat} (h0 : 1 ≤ L) (hL : L ≤ 6) : CallOk (pF L) 15 [filmF L, ln 0] (viewA 2000 (vK L)) (saidPl L) := by
  have base := eval_ok (tabsP h0 hL) 100 15 [filmF L, ln 0] (viewA 2000 (vK L))
  have up : upA 0 (vK L) = true := rfl
  have fr : CallOk (pF L) 15 [filmF L, ln 0] (viewA 2000 (vK L)) (runP L) := base.frame (n := 2000) (l := vK L) (by omega) rfl (viewK_ok h0 hL)
    (fun g hg => ⟨g.2, viewA_mem 2000 _ 0 up g hg, .refl _⟩) (by rw [viewA_next]; exact Nat.le_refl _) (fun _ => [])
  refine CallOk.read rfl fr fun ρ b hok Q k => ⟨ρ, hok, SameL.refl _ _, ⟨rfl, fun j o g => ⟨o, g, SameA.refl o⟩⟩, T.holds_enc (ckPl_all h0 hL) ?_⟩
  unfold saidPl at k
  unfold expP
  simp only [T.Holds] at k ⊢
  split
  · rename_i hc
    rw [if_pos hc] at k
    intro r0 he
    unfold encP at he
    simp only [AV.tup.injEq, List.cons.injEq, and_true] at he
    obtain ⟨h1, h2⟩ := he
    simp only [tag, AV.bool.injEq, BE.lit.injEq, Bool.and_eq_true] at h2
    exact ⟨_, k, by rw [h1]; exact SameV.refl _ _, (beq_t.1 h2.2).trans (viewA_next _ _).symm, fun j o g => ⟨o, allO_get h2.1 (viewA_get _ _ _ _ g), SameA.refl o⟩⟩
  · rename_i hc
    rw [if_neg hc] at k
    exact k
end Go.Sx
