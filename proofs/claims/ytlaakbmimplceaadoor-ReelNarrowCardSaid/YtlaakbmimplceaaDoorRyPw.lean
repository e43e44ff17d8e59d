/- AT WHICH PLACES A REEL CAN BE: as it is said. -/
import Derived.Test.YtlaakbmimplceaaDoorRyPx
import Derived.Test.YtlaakbmimplceaaDoorRyEn
/-! AT WHICH PLACES A REEL CAN BE: as it is said. -/
namespace Go.Sx
open Go.RowKit Go.Proofs
set_option maxRecDepth 100000
noncomputable def orcPw (L k : Nat) (f : FuncId) (args : List AV) (h : Heap) : Option (T (AV × Heap)) :=
  cond (Nat.beq f 38) (orcK L args h) (orcL3 L k 0 7 f args h)
noncomputable def tbPw (L k : Nat) : Tabs := ⟨Sx.Tryd.ft.get, lFind Sx.Tryd.rt, 2000, orcPw L k⟩
noncomputable def pPw (L k : Nat) : Par := ⟨Tryd.prog, rcOf Tryd.rows, fun ρ _ => okPl L k ρ ∧ okFilm L ρ⟩
theorem tabsPw {L k : Nat} (h0 : 1 ≤ L) (hL : L ≤ 6) (hk : k < L) : TabOk (pPw L k) Sx.Tryd.tt.get (tbPw L k) := by
  refine Tryd.tab (orcPw L k) (fun f args h t e => ?_) 2000
  unfold orcPw at e
  cases h1 : Nat.beq f 38 with
  | true =>
    rw [h1, cond_true] at e
    rw [beq_t.1 h1]
    exact orcK_ok h0 hL (fun ρ m h => h.2) e
  | false =>
    rw [h1, cond_false] at e
    exact CallOk.weak (fun ρ m h => ⟨h.1, fun j hj => absurd hj (Nat.not_lt_zero j)⟩) ((tabsL h0 hL hk 7 0).orc f args h t e)
noncomputable def nwPw (r : AV × Heap) : List Nat :=
  match r.1 with
  | .tup [.sliceX b _ _ _, _] => [b]
  | _ => []
noncomputable def runPw (L k : Nat) : T (AV × Heap) := (evalN (tbPw L k) 100 false 15 [filmF L, ln k] (viewA 2000 (vK L))).bind fun r => graftT 2000 (vK L) (viewA 2000 (vK L)) (nwPw r) r
noncomputable def bP (L k j : Nat) : BE := atE k (fullM L) (.lit 0) (.lit 100) j
noncomputable def offE (L k : Nat) : BE := @List.rec Nat (fun _ => BE) (.lit true) (fun j _ ih => .and (.iff (bP L k j) (.lit false)) ih) (upN L 0)
noncomputable def forkT {α : Type} (c : Nat → BE) (leaf : List Nat → T α) (l : List Nat) : List Nat → T α := @List.rec Nat (fun _ => List Nat → T α) (fun acc => leaf acc) (fun j _ ih acc => .br (c j) (ih (acc ++ [j])) (ih acc)) l
noncomputable def optL (l : List Nat) : Option (List Nat) :=
  match l with
  | [] => none
  | _ :: _ => some l
noncomputable def expPw (L k : Nat) : T AV := .br (offE L k) (.ret (.tup [tag true, ln 4, tag true])) (forkT (bP L k) (fun l => .ret (expLf (optL l))) (upN L 0) [])
noncomputable def ckPw (L k : Nat) : Bool := eqTF ((runPw L k).bind fun q => .ret (encS L q)) (expPw L k)
theorem forkT_cons {α : Type} (c : Nat → BE) (leaf : List Nat → T α) (j : Nat) (l acc : List Nat) : forkT c leaf (j :: l) acc = .br (c j) (forkT c leaf l (acc ++ [j])) (forkT c leaf l acc) := rfl
theorem forkT_holds {α : Type} {ρ : Rho} {c : Nat → BE} {leaf : List Nat → T α} {R : α → Prop} : ∀ (l acc : List Nat), (leaf (acc ++ l.filter fun j => (c j).den ρ)).Holds ρ R → (forkT c leaf l acc).Holds ρ R
  | [], acc, h => by rw [List.filter_nil, List.append_nil] at h; exact h
  | j :: l, acc, h => by
    rw [forkT_cons]
    simp only [T.Holds]
    rw [List.filter_cons] at h
    split
    · rename_i hc
      rw [if_pos hc] at h
      exact forkT_holds l (acc ++ [j]) (by rw [List.append_assoc]; exact h)
    · rename_i hc
      rw [if_neg hc] at h
      exact forkT_holds l acc h
theorem forkT_map {α β : Type} {ρ : Rho} {c : Nat → BE} {leaf : List Nat → T α} {leaf' : List Nat → T β} {Q : α → Prop} {R : β → Prop} (hm : ∀ l, (leaf l).Holds ρ Q → (leaf' l).Holds ρ R) : ∀ (l acc : List Nat), (forkT c leaf l acc).Holds ρ Q → (forkT c leaf' l acc).Holds ρ R
  | [], acc, h => hm acc h
  | j :: l, acc, h => by
    rw [forkT_cons] at h ⊢
    simp only [T.Holds] at h ⊢
    split
    · rename_i hc; rw [if_pos hc] at h; exact forkT_map hm l _ h
    · rename_i hc; rw [if_neg hc] at h; exact forkT_map hm l _ h
noncomputable def saidPw (L k : Nat) : T (AV × Heap) := .br (offE L k) (.ret (noneVF, viewA 2000 (vK L))) (forkT (bP L k) (fun l => .ret (leafS L (optL l))) (upN L 0) [])
theorem ckPw1_0 : ckPw 1 0 = true := by kernel_rfl
theorem ckPw2_0 : ckPw 2 0 = true := by kernel_rfl
theorem ckPw2_1 : ckPw 2 1 = true := by kernel_rfl
theorem ckPw3_0 : ckPw 3 0 = true := by kernel_rfl
theorem ckPw3_1 : ckPw 3 1 = true := by kernel_rfl
theorem ckPw3_2 : ckPw 3 2 = true := by kernel_rfl
theorem ckPw4_0 : ckPw 4 0 = true := by kernel_rfl
theorem ckPw4_1 : ckPw 4 1 = true := by kernel_rfl
theorem ckPw4_2 : ckPw 4 2 = true := by kernel_rfl
theorem ckPw4_3 : ckPw 4 3 = true := by kernel_rfl
theorem ckPw5_0 : ckPw 5 0 = true := by kernel_rfl
theorem ckPw5_1 : ckPw 5 1 = true := by kernel_rfl
theorem ckPw5_2 : ckPw 5 2 = true := by kernel_rfl
theorem ckPw5_3 : ckPw 5 3 = true := by kernel_rfl
theorem ckPw5_4 : ckPw 5 4 = true := by kernel_rfl
theorem ckPw6_0 : ckPw 6 0 = true := by kernel_rfl
theorem ckPw6_1 : ckPw 6 1 = true := by kernel_rfl
theorem ckPw6_2 : ckPw 6 2 = true := by kernel_rfl
theorem ckPw6_3 : ckPw 6 3 = true := by kernel_rfl
theorem ckPw6_4 : ckPw 6 4 = true := by kernel_rfl
theorem ckPw6_5 : ckPw 6 5 = true := by kernel_rfl
theorem ckPw_all {L k : Nat} (h0 : 1 ≤ L) (hL : L ≤ 6) (hk : k < L) : ckPw L k = true := by
  rcases six h0 hL with rfl | rfl | rfl | rfl | rfl | rfl
  · have : k = 0 := by omega
    subst this
    · exact ckPw1_0
  · have : k = 0 ∨ k = 1 := by omega
    rcases this with rfl | rfl
    · exact ckPw2_0
    · exact ckPw2_1
  · have : k = 0 ∨ k = 1 ∨ k = 2 := by omega
    rcases this with rfl | rfl | rfl
    · exact ckPw3_0
    · exact ckPw3_1
    · exact ckPw3_2
  · have : k = 0 ∨ k = 1 ∨ k = 2 ∨ k = 3 := by omega
    rcases this with rfl | rfl | rfl | rfl
    · exact ckPw4_0
    · exact ckPw4_1
    · exact ckPw4_2
    · exact ckPw4_3
  · have : k = 0 ∨ k = 1 ∨ k = 2 ∨ k = 3 ∨ k = 4 := by omega
    rcases this with rfl | rfl | rfl | rfl | rfl
    · exact ckPw5_0
    · exact ckPw5_1
    · exact ckPw5_2
    · exact ckPw5_3
    · exact ckPw5_4
  · have : k = 0 ∨ k = 1 ∨ k = 2 ∨ k = 3 ∨ k = 4 ∨ k = 5 := by omega
    rcases this with rfl | rfl | rfl | rfl | rfl | rfl
    · exact ckPw6_0
    · exact ckPw6_1
    · exact ckPw6_2
    · exact ckPw6_3
    · exact ckPw6_4
    · exact ckPw6_5
/-- WHAT 'Places' HANDS BACK. -/
theorem places_free {L k : Nat} (h0 : 1 ≤ L) (hL : L ≤ 6) (hk : k < L) : CallOk (pPw L k) 15 [filmF L, ln k] (viewA 2000 (vK L)) (saidPw L k) := by
  have base := eval_ok (tabsPw h0 hL hk) 100 15 [filmF L, ln k] (viewA 2000 (vK L))
  have up : upA 0 (vK L) = true := rfl
  have fr : CallOk (pPw L k) 15 [filmF L, ln k] (viewA 2000 (vK L)) (runPw L k) := base.frame (n := 2000) (l := vK L) (by omega) rfl (viewK_ok h0 hL)
    (fun g hg => ⟨g.2, viewA_mem 2000 _ 0 up g hg, .refl _⟩) (by rw [viewA_next]; exact Nat.le_refl _) nwPw
  refine CallOk.read rfl fr fun ρ b hok Q kk => ⟨ρ, hok, SameL.refl _ _, ⟨rfl, fun _ o g => ⟨o, g, SameA.refl o⟩⟩, T.holds_enc (eqTF_eq _ _ (ckPw_all h0 hL hk)) ?_⟩
  unfold saidPw at kk
  unfold expPw
  simp only [T.Holds] at kk ⊢
  split
  · rename_i hc
    rw [if_pos hc] at kk
    intro r0 he
    unfold encS at he
    split at he
    · rename_i e hv
      simp only [AV.tup.injEq, List.cons.injEq, and_true, true_and] at he
      obtain ⟨h1, h2⟩ := he
      simp only [tag, AV.bool.injEq, BE.lit.injEq, Bool.and_eq_true] at h2
      exact ⟨_, kk, by rw [hv, h1]; exact SameV.refl _ _, (beq_t.1 h2.2).trans (viewA_next _ _).symm, fun j o g => ⟨o, allO_get h2.1 (viewA_get _ _ _ _ g), SameA.refl o⟩⟩
    · simp at he
  · rename_i hc
    rw [if_neg hc] at kk
    refine forkT_map (fun l kl => ?_) _ _ kk
    have kl : Q (leafS L (optL l)) := kl
    show ∀ r0, encS L r0 = expLf (optL l) → _
    intro r0 he
    cases l with
    | nil =>
      obtain ⟨h1, h2, h3⟩ := encS_none he
      exact ⟨_, kl, by rw [h1]; exact SameV.refl _ _, h3.trans (viewA_next _ _).symm, fun j o g => ⟨o, allO_get h2 (viewA_get _ _ _ _ g), SameA.refl o⟩⟩
    | cons a l =>
      obtain ⟨h1, h2, h3, h4⟩ := encS_some he
      refine ⟨_, kl, by rw [h1]; exact SameV.refl _ _, h3.trans (viewA_next _ _).symm, fun j o g => ?_⟩
      have hm := viewA_get _ _ _ _ g
      unfold vS at hm
      rcases List.mem_append.1 hm with hm | hm
      · exact ⟨o, allO_get h2 hm, SameA.refl o⟩
      · rw [List.mem_singleton] at hm
        cases hm
        exact ⟨_, h4, SameA.refl _⟩
theorem offE_den {L k : Nat} {ρ : Rho} (h : ∃ j, j < L ∧ (bP L k j).den ρ = true) : (offE L k).den ρ = false := by
  obtain ⟨j, hj, hd⟩ := h
  have key : ∀ l : List Nat, j ∈ l → (@List.rec Nat (fun _ => BE) (.lit true) (fun j _ ih => .and (.iff (bP L k j) (.lit false)) ih) l : BE).den ρ = false := by
    intro l
    induction l with
    | nil => intro h; cases h
    | cons a l ih =>
      intro h
      show (BE.and (.iff (bP L k a) (.lit false)) (@List.rec Nat (fun _ => BE) (.lit true) (fun j _ ih => .and (.iff (bP L k j) (.lit false)) ih) l)).den ρ = false
      simp only [BE.den]
      rcases List.mem_cons.1 h with rfl | h
      · rw [hd]; rfl
      · rw [ih h, Bool.and_false]
  exact key _ (mem_upN L 0 j (Nat.zero_le _) (by omega))
theorem bP_den {L k : Nat} {ρ : Rho} (h0 : 1 ≤ L) (hL : L ≤ 6) (h : okPl L k ρ) {j : Nat} (hj : j < L) : (bP L k j).den ρ = atF ρ k L 0 (fullM L) 0 100 j := by
  have hf : fullM L < 2 ^ L := by
    have : 0 < 2 ^ L := Nat.two_pow_pos L
    show Nat.pow 2 L - 1 < 2 ^ L
    have e : Nat.pow 2 L = 2 ^ L := rfl
    omega
  have hc : cnt (fullM L) = L := by rcases six h0 hL with rfl | rfl | rfl | rfl | rfl | rfl <;> rfl
  have := at_den h hf (.lit 0) (.lit 100) (show j < 8 by omega)
  rw [hc, Nat.sub_self] at this
  exact this
end Go.Sx
