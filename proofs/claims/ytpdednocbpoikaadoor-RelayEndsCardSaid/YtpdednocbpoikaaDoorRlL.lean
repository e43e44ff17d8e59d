/- RlL -/
import Derived.Test.YtpdednocbpoikaaDoorRlA
import Derived.Test.YtpdednocbpoikaaDoorSxMove3
namespace Go.Sx
open Go.RowKit Go.Proofs
set_option maxRecDepth 100000
noncomputable def vL1 (L o : Nat) : List (Nat × AObj) := vK L ++ [(2000, ro [ln o])]
noncomputable def loE (o : Nat) (x : IE) : IE := .bin .mul .i64 (.bin .add .i64 (.lit 0) (.mx (.lit 0) (.bin .sub .i64 (.var (14 + 6 * o)) (.bin .mul .i64 x (.var 3))))) (.var 0)
noncomputable def hiE (o : Nat) (x : IE) : IE := .bin .mul .i64 (.bin .add .i64 (.lit 0) (.mx (.lit 0) (.bin .sub .i64 (.var (15 + 6 * o)) (.bin .mul .i64 x (.var 2))))) (.var 1)
noncomputable def lastV (a b : IE) : AV := .tup [.agg [iA a, iA b], ln 0]
noncomputable def orcK2 (L : Nat) (f : FuncId) (args : List AV) (h : Heap) : Option (T (AV × Heap)) :=
  cond (Nat.beq f 64) (orcK L args h) none
noncomputable def tbK2 (L : Nat) : Tabs := ⟨Sx.Tryd.ft.get, lFind Sx.Tryd.rt, 2000, orcK2 L⟩
noncomputable def pLs (L : Nat) : Par := ⟨Tryd.prog, rcOf Tryd.rows, fun ρ _ => okFilm L ρ ∧ 0 ≤ ρ.iv 500 ∧ ρ.iv 500 ≤ 999⟩
theorem tabsK2 {L : Nat} (h0 : 1 ≤ L) (hL : L ≤ 6) : TabOk (pLs L) Sx.Tryd.tt.get (tbK2 L) := by
  refine Tryd.tab (orcK2 L) (fun f args h t e => ?_) 2000
  unfold orcK2 at e
  obtain ⟨h1, e⟩ := cond_some e
  rw [beq_t.1 h1]
  unfold orcK at e
  obtain ⟨hc, e2⟩ := cond_some e
  clear e
  simp only [Bool.and_eq_true] at hc
  obtain ⟨i1, i2, i3⟩ := hc
  rw [eqAVs_eq _ _ i1]
  cases e2
  have hw : CallOk (pLs L) 64 [filmF L] (viewA 2000 (vK L)) (.ret (knowV L 2000, viewA 2001 (vK2 L))) := CallOk.weak (fun ρ m h => h.1) (know_said h0 hL)
  exact hw.frame (n := 2000) (by omega) rfl (viewK_ok h0 hL) (lessAll_ok i2) (ble_t.1 i3) nwM
noncomputable def argsLs (L : Nat) (x : IE) : List AV := [filmF L, .slice 2000 0 1 1, iA x]
noncomputable def runLs (L o : Nat) : T (AV × Heap) := (evalN (tbK2 L) 100 false 41 (argsLs L (.var 500)) (viewA 2001 (vL1 L o))).bind fun r => graftT 2001 (vL1 L o) (viewA 2001 (vL1 L o)) [] r
noncomputable def endLs (L o : Nat) (_ : Kn) (q : AV × Heap) : Bool := and (eqAV q.1 (lastV (loE o (.var 500)) (hiE o (.var 500)))) (and (allO q.2 (vL1 L o)) (Nat.beq q.2.next 2001))
noncomputable def ckLs (L : Nat) : Bool := lAll (fun o => and (viewOk 2001 (vL1 L o)) (allW [] (endLs L o) (runLs L o) (knOf [(500, 0, 999)] []))) (upN L 0)
theorem ckLs1 : ckLs 1 = true := by kernel_rfl
theorem ckLs2 : ckLs 2 = true := by kernel_rfl
theorem ckLs3 : ckLs 3 = true := by kernel_rfl
theorem ckLs4 : ckLs 4 = true := by kernel_rfl
theorem ckLs5 : ckLs 5 = true := by kernel_rfl
theorem ckLs6 : ckLs 6 = true := by kernel_rfl
theorem ckLs_all {L o : Nat} (h0 : 1 ≤ L) (hL : L ≤ 6) (ho : o < L) : and (viewOk 2001 (vL1 L o)) (allW [] (endLs L o) (runLs L o) (knOf [(500, 0, 999)] [])) = true := by
  have h : ckLs L = true := by
    rcases six h0 hL with rfl | rfl | rfl | rfl | rfl | rfl
    · exact ckLs1
    · exact ckLs2
    · exact ckLs3
    · exact ckLs4
    · exact ckLs5
    · exact ckLs6
  exact lAll_at h (Nat.zero_le _) (by omega)
theorem lasts_var {L o : Nat} (h0 : 1 ≤ L) (hL : L ≤ 6) (ho : o < L) : CallOk (pLs L) 41 (argsLs L (.var 500)) (viewA 2001 (vL1 L o)) (.ret (lastV (loE o (.var 500)) (hiE o (.var 500)), viewA 2001 (vL1 L o))) := by
  have hck := ckLs_all h0 hL ho
  rw [Bool.and_eq_true] at hck
  have base := eval_ok (tabsK2 h0 hL) 100 41 (argsLs L (.var 500)) (viewA 2001 (vL1 L o))
  have up : upA 0 (vL1 L o) = true := rfl
  have fr : CallOk (pLs L) 41 (argsLs L (.var 500)) (viewA 2001 (vL1 L o)) (runLs L o) := base.frame (n := 2001) (l := vL1 L o) (by omega) rfl hck.1
    (fun g hg => ⟨g.2, viewA_mem 2001 _ 0 up g hg, .refl _⟩) (by rw [viewA_next]; exact Nat.le_refl _) (fun _ => [])
  refine CallOk.read (p0 := pLs L) (p := pLs L) rfl fr fun ρ b hok Q k => ⟨ρ, hok, SameL.refl _ _, ⟨rfl, fun j o g => ⟨o, g, SameA.refl o⟩⟩, ?_⟩
  obtain ⟨_, hA, _⟩ := hok
  have k : Q (lastV (loE o (.var 500)) (hiE o (.var 500)), viewA 2001 (vL1 L o)) := k
  refine allW_ok (rules_nil ρ) (fun K q _ hq => ?_) (runLs L o) _ (knOf_ok (fun c hc => ?_) (fun c hc => by cases hc)) hck.2
  · unfold endLs at hq
    simp only [Bool.and_eq_true] at hq
    obtain ⟨q1, q2, q3⟩ := hq
    exact ⟨_, k, by rw [eqAV_eq _ _ q1]; exact SameV.refl _ _, (beq_t.1 q3).trans (viewA_next _ _).symm, fun j o g => ⟨o, allO_get q2 (viewA_get _ _ _ _ g), SameA.refl o⟩⟩
  · simp only [ivC, List.mem_cons, List.not_mem_nil, or_false] at hc
    rcases hc with rfl | rfl
    · rw [BE.t_leq]; exact hA.2.1
    · rw [BE.t_leq]; exact hA.2.2
end Go.Sx
