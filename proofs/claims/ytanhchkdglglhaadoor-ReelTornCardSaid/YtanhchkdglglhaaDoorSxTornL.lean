/- THE LAW OF WHAT IS TORN OFF: its loop, as it is said. -/
import Derived.Test.YtanhchkdglglhaaDoorSxCalls2
import Derived.Test.YtanhchkdglglhaaDoorSxChoose
/-! THE LAW OF WHAT IS TORN OFF: its loop, as it is said. -/
namespace Go.Sx
open Go.RowKit Go.Proofs
set_option maxRecDepth 100000
/-! ## A tree against another one, where some paths cannot be -/
noncomputable def servesX (R : Rules) (u t : T AV) : Kn → Bool :=
  @T.rec AV (fun _ => Kn → Bool) (fun a K => cond (matchU a u K) true (fires R K (.lit false)))
    (fun c _ _ ih1 ih2 K => match decW R K c with
      | some b => cond b (ih1 K) (ih2 K)
      | none => and (ih1 (addK true c K)) (ih2 (addK false c K)))
    (fun _ K => cond (deadU u K) true (fires R K (.lit false))) t
theorem servesX_ok {ρ : Rho} {R : Rules} (HR : RulesOk ρ R) {P : AV → Prop} {u : T AV} (hu : u.Holds ρ P) : ∀ (t : T AV) (K : Kn), KnOk ρ K → servesX R u t K = true → t.Holds ρ fun a => ∃ b, P b ∧ pureAV b = true ∧ SameE ρ a b
  | .ret a, K, H, h => by
    have h : cond (matchU a u K) true (fires R K (.lit false)) = true := h
    cases hm : matchU a u K with
    | true => exact matchU_ok u K H hm hu
    | false => rw [hm] at h; exact absurd (fires_ok H HR h) (by simp [BE.den])
  | .fail w, K, H, h => by
    have h : cond (deadU u K) true (fires R K (.lit false)) = true := h
    cases hm : deadU u K with
    | true => exact (deadU_ok u K H hm hu).elim
    | false => rw [hm] at h; exact absurd (fires_ok H HR h) (by simp [BE.den])
  | .br c x y, K, H, h => by
    have h : (match decW R K c with
      | some b => cond b (servesX R u x K) (servesX R u y K)
      | none => and (servesX R u x (addK true c K)) (servesX R u y (addK false c K))) = true := h
    simp only [T.Holds]
    split at h
    · rename_i b hb
      have hc := decW_ok HR H hb
      cases b with
      | true => rw [hc, if_pos rfl]; exact servesX_ok HR hu x K H h
      | false => rw [hc, if_neg (by simp)]; exact servesX_ok HR hu y K H h
    · simp only [Bool.and_eq_true] at h
      cases hc : c.den ρ with
      | true => rw [if_pos rfl]; exact servesX_ok HR hu x _ (addK_ok c true K H hc) h.1
      | false => rw [if_neg (by simp)]; exact servesX_ok HR hu y _ (addK_ok c false K H hc) h.2
/-- all ends of a tree -/
noncomputable def endsT {α : Type} (P : α → Bool) (t : T α) : Bool :=
  @T.rec α (fun _ => Bool) P (fun _ _ _ x y => and x y) (fun _ => true) t
theorem endsT_ok {α : Type} {ρ : Rho} {P : α → Bool} {Q : α → Prop} : ∀ (t : T α), endsT P t = true → t.Holds ρ Q → t.Holds ρ fun a => Q a ∧ P a = true
  | .ret a, h, q => ⟨q, h⟩
  | .fail _, _, q => q
  | .br c x y, h, q => by
    have h : and (endsT P x) (endsT P y) = true := h
    simp only [Bool.and_eq_true] at h
    simp only [T.Holds] at q ⊢
    split at q
    · rename_i hc; rw [if_pos hc]; exact endsT_ok x h.1 q
    · rename_i hc; rw [if_neg hc]; exact endsT_ok y h.2 q

noncomputable def tornBody : C := (cSeq (cSeq (cOps [⟨some 90, false, none, iMov (.t 16)⟩,
 ⟨some 91, false, none, iMov (.t 10)⟩,
 ⟨some 92, true, none, iCmp .leq (.t 90) (.t 91)⟩])
 (cCond (.t 92) cSkip (cExit 0)))
 (cSeq (cBlock 1 (cSeq (cOps [⟨some 96, false, none, iLoadN 6 (.t 4)⟩,
 ⟨some 97, false, none, iMov (.t 9)⟩,
 ⟨some 98, false, none, iMov (.t 16)⟩,
 ⟨some 99, false, none, iCall (.c (.func (.func 30) [] [])) [(.t 96), (.t 97), (.t 98)]⟩,
 ⟨some 95, false, none, iMov (.t 99)⟩,
 ⟨some 100, false, none, iExtract 0 (.t 95)⟩,
 ⟨some 101, false, none, iExtract 1 (.t 95)⟩,
 ⟨some 17, true, none, iAlloc 24 [(.int .i64 (.lit 0)), (.int .i64 (.lit 0))]⟩,
 ⟨none, false, none, iStore 2 (.t 17) (.t 100)⟩,
 ⟨some 18, true, none, iMov (.t 101)⟩])
 (cSeq (cOps [⟨some 103, false, none, iLoadN 6 (.t 4)⟩,
 ⟨some 104, false, none, iMov (.t 9)⟩,
 ⟨some 105, false, none, iMov (.t 11)⟩,
 ⟨some 106, false, none, iCall (.c (.func (.func 34) [] [])) [(.t 103), (.t 104), (.t 105)]⟩,
 ⟨some 102, false, none, iMov (.t 106)⟩,
 ⟨some 107, false, none, iExtract 0 (.t 102)⟩,
 ⟨some 108, false, none, iExtract 1 (.t 102)⟩,
 ⟨some 19, true, none, iAlloc 24 [(.int .i64 (.lit 0)), (.int .i64 (.lit 0))]⟩,
 ⟨none, false, none, iStore 2 (.t 19) (.t 107)⟩,
 ⟨some 20, true, none, iMov (.t 108)⟩])
 (cSeq (cSeq (cOps [⟨some 109, false, none, iMov (.t 18)⟩,
 ⟨some 110, false, none, iCmp .neq (.t 109) (.c (.int .i64 (.lit 0)))⟩,
 ⟨some 111, false, none, iMov (.t 110)⟩,
 ⟨some 112, false, some (111, false), iMov (.t 20)⟩,
 ⟨some 113, false, some (111, false), iCmp .neq (.t 112) (.c (.int .i64 (.lit 0)))⟩,
 ⟨some 114, false, none, iPick (.t 111) (.c (.bool (.lit true))) (.t 113)⟩,
 ⟨some 115, false, none, iMov (.t 114)⟩,
 ⟨some 116, false, some (115, false), iLoadN 2 (.t 17)⟩,
 ⟨some 117, false, some (115, false), iMov (.t 11)⟩,
 ⟨some 118, false, some (115, false), iCall (.c (.func (.func 56) [] [])) [(.t 116), (.t 117)]⟩,
 ⟨some 119, false, some (115, false), iNot (.t 118)⟩,
 ⟨some 120, false, none, iPick (.t 115) (.c (.bool (.lit true))) (.t 119)⟩,
 ⟨some 121, false, none, iMov (.t 120)⟩,
 ⟨some 122, false, some (121, false), iLoadN 2 (.t 19)⟩,
 ⟨some 123, false, some (121, false), iMov (.t 16)⟩,
 ⟨some 124, false, some (121, false), iCall (.c (.func (.func 56) [] [])) [(.t 122), (.t 123)]⟩,
 ⟨some 125, false, some (121, false), iNot (.t 124)⟩,
 ⟨some 126, true, none, iPick (.t 121) (.c (.bool (.lit true))) (.t 125)⟩])
 (cCond (.t 126) (cSeq (cOps [⟨some 8, true, none, iMov (.c (.bool (.lit false)))⟩])
 cRet) cSkip))
 (cSeq (cSeq (cOps [⟨some 127, false, none, iMov (.t 15)⟩,
 ⟨some 128, false, none, iCmp .eql (.t 127) (.c (.int .i64 (.lit 0)))⟩,
 ⟨some 129, false, none, iMov (.t 128)⟩,
 ⟨some 130, false, some (129, true), iMov (.t 16)⟩,
 ⟨some 131, false, some (129, true), iMov (.t 13)⟩,
 ⟨some 132, false, some (129, true), iCmp .leq (.t 130) (.t 131)⟩,
 ⟨some 133, false, some (129, true), iMov (.t 132)⟩,
 ⟨some 134, false, some (133, true), iMov (.t 11)⟩,
 ⟨some 135, false, some (133, true), iMov (.t 12)⟩,
 ⟨some 136, false, some (133, true), iCmp .lss (.t 134) (.t 135)⟩,
 ⟨some 137, false, some (129, true), iPick (.t 133) (.t 136) (.c (.bool (.lit false)))⟩,
 ⟨some 138, false, some (129, true), iMov (.t 137)⟩,
 ⟨some 139, false, some (138, false), iMov (.t 16)⟩,
 ⟨some 140, false, some (138, false), iMov (.t 14)⟩,
 ⟨some 141, false, some (138, false), iCmp .gtr (.t 139) (.t 140)⟩,
 ⟨some 142, false, some (138, false), iMov (.t 141)⟩,
 ⟨some 143, false, some (142, true), iMov (.t 14)⟩,
 ⟨some 144, false, some (142, true), iCmp .lss (.t 143) (.c (.int .i64 (.lit 999)))⟩,
 ⟨some 145, false, some (138, false), iPick (.t 142) (.t 144) (.c (.bool (.lit false)))⟩,
 ⟨some 146, false, some (138, false), iMov (.t 145)⟩,
 ⟨some 147, false, some (146, true), iMov (.t 11)⟩,
 ⟨some 148, false, some (146, true), iMov (.t 12)⟩,
 ⟨some 149, false, some (146, true), iCmp .geq (.t 147) (.t 148)⟩,
 ⟨some 150, false, some (138, false), iPick (.t 146) (.t 149) (.c (.bool (.lit false)))⟩,
 ⟨some 151, false, some (129, true), iPick (.t 138) (.c (.bool (.lit true))) (.t 150)⟩,
 ⟨some 152, false, none, iPick (.t 129) (.t 151) (.c (.bool (.lit false)))⟩,
 ⟨some 153, false, none, iMov (.t 152)⟩,
 ⟨some 154, false, some (153, false), iMov (.t 15)⟩,
 ⟨some 155, false, some (153, false), iCmp .neq (.t 154) (.c (.int .i64 (.lit 0)))⟩,
 ⟨some 156, false, some (153, false), iMov (.t 155)⟩,
 ⟨some 157, false, some (156, true), iMov (.t 11)⟩,
 ⟨some 158, false, some (156, true), iMov (.t 12)⟩,
 ⟨some 159, false, some (156, true), iCmp .geq (.t 157) (.t 158)⟩,
 ⟨some 160, false, some (153, false), iPick (.t 156) (.t 159) (.c (.bool (.lit false)))⟩,
 ⟨some 161, true, none, iPick (.t 153) (.c (.bool (.lit true))) (.t 160)⟩])
 (cCond (.t 161) (cSeq (cOps [⟨some 8, true, none, iMov (.c (.bool (.lit false)))⟩])
 cRet) cSkip))
 (cSeq (dOps 0 [⟨⟨some 162, false, none, iFaddr 3 (.t 4)⟩, [4], false, 0, 1, none, []⟩,
 ⟨⟨some 163, false, none, iLoadN 2 (.t 162)⟩, [162], false, 0, 1, none, []⟩,
 ⟨⟨some 164, false, none, iMov (.t 2)⟩, [2], false, 0, 0, none, []⟩,
 ⟨⟨some 165, false, none, iMov (.t 16)⟩, [16], false, 0, 0, none, []⟩,
 ⟨⟨some 166, false, none, iArith .add (.t 165) (.c (.int .i64 (.lit 1)))⟩, [165], false, 0, 0, none, []⟩,
 ⟨⟨some 167, false, none, iCall (.c (.func (.func 54) [] [])) [(.t 164), (.t 166)]⟩, [164, 166], true, 0, 0, none, []⟩,
 ⟨⟨some 168, false, none, iCall (.c (.func (.func 52) [] [])) [(.t 163), (.t 167)]⟩, [163, 167], true, 1, 0, none, []⟩,
 ⟨⟨some 21, true, none, iMov (.t 168)⟩, [168], false, 2, 2, none, []⟩])
 (cSeq (cOps [⟨some 169, false, none, iMov (.t 21)⟩,
 ⟨some 170, false, none, iMov (.t 11)⟩,
 ⟨some 171, true, none, iCmp .gtr (.t 169) (.t 170)⟩])
 (cCond (.t 171) (cOps [⟨some 11, true, none, iMov (.c (.int .i64 (.lit 0)))⟩]) (cOps [⟨some 172, false, none, iMov (.t 11)⟩,
 ⟨some 173, false, none, iMov (.t 21)⟩,
 ⟨some 174, false, none, iArith .sub (.t 172) (.t 173)⟩,
 ⟨some 11, true, none, iMov (.t 174)⟩])))))))))
 (cOps [⟨some 93, false, none, iMov (.t 16)⟩,
 ⟨some 94, false, none, iArith .add (.t 93) (.c (.int .i64 (.lit 1)))⟩,
 ⟨some 16, true, none, iMov (.t 94)⟩])))
noncomputable def tornCode (lc : C) : C := (cSeq (cOps [⟨some 4, true, none, iBox 26 (.t 0)⟩,
 ⟨some 5, true, none, iBox 54 (.t 1)⟩,
 ⟨some 8, true, none, iMov (.c (.bool (.lit false)))⟩])
 (cSeq (cSeq (cOps [⟨some 22, false, none, iLoadN 6 (.t 4)⟩,
 ⟨some 23, false, none, iCall (.c (.func (.func 43) [] [])) [(.t 22)]⟩,
 ⟨some 24, true, none, iNot (.t 23)⟩])
 (cCond (.t 24) (cSeq (cOps [⟨some 25, false, none, iCall (.c (.func (.func 25) [] [])) []⟩,
 ⟨some 8, true, none, iMov (.t 25)⟩])
 cRet) cSkip))
 (cSeq (dOps 0 [⟨⟨some 26, false, none, iIaddrA 1 2 (.t 5) (.c (.int .i64 (.lit 0)))⟩, [5], false, 0, 0, none, []⟩,
 ⟨⟨some 27, false, none, iLoad (.t 26)⟩, [26], false, 0, 0, none, []⟩,
 ⟨⟨some 28, false, none, iFaddr 0 (.t 4)⟩, [4], false, 0, 0, none, []⟩,
 ⟨⟨some 29, false, none, iLoad (.t 28)⟩, [28], false, 0, 0, none, []⟩,
 ⟨⟨some 30, false, none, iLenS (.t 29)⟩, [29], false, 0, 0, none, []⟩,
 ⟨⟨some 31, false, none, iCall (.c (.func (.func 48) [] [])) [(.t 27), (.t 30)]⟩, [27, 30], true, 0, 0, none, []⟩,
 ⟨⟨some 32, false, none, iIaddrA 1 2 (.t 5) (.c (.int .i64 (.lit 1)))⟩, [5], false, 0, 1, none, []⟩,
 ⟨⟨some 33, false, none, iLoad (.t 32)⟩, [32], false, 0, 1, none, []⟩,
 ⟨⟨some 34, false, none, iCall (.c (.func (.func 48) [] [])) [(.t 33), (.c (.int .i64 (.lit 120)))]⟩, [33], true, 1, 0, none, []⟩,
 ⟨⟨some 9, true, none, iMov (.t 31)⟩, [31], false, 2, 2, none, []⟩,
 ⟨⟨some 10, true, none, iMov (.t 34)⟩, [34], false, 2, 2, none, []⟩])
 (cSeq (dOps 0 [⟨⟨some 35, false, none, iFaddr 0 (.t 4)⟩, [4], false, 0, 1, none, []⟩,
 ⟨⟨some 36, false, none, iLoad (.t 35)⟩, [35], false, 0, 1, none, []⟩,
 ⟨⟨some 37, false, none, iMov (.t 9)⟩, [9], false, 0, 1, none, []⟩,
 ⟨⟨some 38, false, none, iIaddr 6 (.t 36) (.t 37)⟩, [36, 37], false, 0, 1, none, []⟩,
 ⟨⟨some 39, false, none, iFaddr 4 (.t 38)⟩, [38], false, 0, 1, none, []⟩,
 ⟨⟨some 40, false, none, iLoadN 2 (.t 39)⟩, [39], false, 0, 1, none, []⟩,
 ⟨⟨some 41, false, none, iMov (.t 2)⟩, [2], false, 0, 0, none, []⟩,
 ⟨⟨some 42, false, none, iCall (.c (.func (.func 54) [] [])) [(.t 41), (.c (.int .i64 (.lit 0)))]⟩, [41], true, 0, 0, none, []⟩,
 ⟨⟨some 43, false, none, iCall (.c (.func (.func 52) [] [])) [(.t 40), (.t 42)]⟩, [40, 42], true, 1, 0, none, []⟩,
 ⟨⟨some 11, true, none, iMov (.t 43)⟩, [43], false, 2, 2, none, []⟩])
 (cSeq (cOps [⟨some 44, false, none, iMov (.t 3)⟩,
 ⟨some 45, false, none, iCall (.c (.func (.func 48) [] [])) [(.t 44), (.c (.int .i64 (.lit 1200)))]⟩,
 ⟨some 46, false, none, iArith .add (.c (.int .i64 (.lit 1))) (.t 45)⟩,
 ⟨some 12, true, none, iMov (.t 46)⟩])
 (cSeq (cOps [⟨some 48, false, none, iLoadN 6 (.t 4)⟩,
 ⟨some 49, false, none, iMov (.t 9)⟩,
 ⟨some 50, false, none, iMov (.t 12)⟩,
 ⟨some 51, false, none, iCall (.c (.func (.func 32) [] [])) [(.t 48), (.t 49), (.t 50)]⟩,
 ⟨some 47, false, none, iMov (.t 51)⟩,
 ⟨some 52, false, none, iExtract 0 (.t 47)⟩,
 ⟨some 53, false, none, iExtract 1 (.t 47)⟩,
 ⟨some 54, false, none, iExtract 2 (.t 47)⟩,
 ⟨some 13, true, none, iMov (.t 52)⟩,
 ⟨some 14, true, none, iMov (.t 53)⟩,
 ⟨some 15, true, none, iMov (.t 54)⟩])
 (cSeq (cSeq (cOps [⟨some 55, false, none, iMov (.t 15)⟩,
 ⟨some 56, false, none, iCmp .neq (.t 55) (.c (.int .i64 (.lit 0)))⟩,
 ⟨some 57, false, none, iMov (.t 56)⟩,
 ⟨some 58, false, some (57, true), iMov (.t 15)⟩,
 ⟨some 59, false, some (57, true), iCmp .neq (.t 58) (.c (.int .i64 (.lit 4)))⟩,
 ⟨some 60, false, some (57, true), iMov (.t 59)⟩,
 ⟨some 61, false, some (60, false), iFaddr 0 (.t 4)⟩,
 ⟨some 62, false, some (60, false), iLoad (.t 61)⟩,
 ⟨some 63, false, some (60, false), iMov (.t 9)⟩,
 ⟨some 64, false, some (60, false), iIaddr 6 (.t 62) (.t 63)⟩,
 ⟨some 65, false, some (60, false), iFaddr 4 (.t 64)⟩,
 ⟨some 66, false, some (60, false), iFaddr 1 (.t 65)⟩,
 ⟨some 67, false, some (60, false), iLoad (.t 66)⟩,
 ⟨some 68, false, some (60, false), iMov (.t 12)⟩,
 ⟨some 69, false, some (60, false), iCmp .geq (.t 67) (.t 68)⟩,
 ⟨some 70, false, some (57, true), iPick (.t 60) (.c (.bool (.lit true))) (.t 69)⟩,
 ⟨some 71, false, none, iPick (.t 57) (.t 70) (.c (.bool (.lit false)))⟩,
 ⟨some 72, false, none, iMov (.t 71)⟩,
 ⟨some 73, false, some (72, false), iMov (.t 15)⟩,
 ⟨some 74, false, some (72, false), iCmp .eql (.t 73) (.c (.int .i64 (.lit 0)))⟩,
 ⟨some 75, false, some (72, false), iMov (.t 74)⟩,
 ⟨some 76, false, some (75, true), iMov (.t 13)⟩,
 ⟨some 77, false, some (75, true), iMov (.t 14)⟩,
 ⟨some 78, false, some (75, true), iCmp .gtr (.t 76) (.t 77)⟩,
 ⟨some 79, false, some (75, true), iMov (.t 78)⟩,
 ⟨some 80, false, some (79, false), iMov (.t 13)⟩,
 ⟨some 81, false, some (79, false), iCall (.c (.func (.func 55) [] [])) [(.t 80), (.c (.int .i64 (.lit (-1)))), (.c (.int .i64 (.lit 999)))]⟩,
 ⟨some 82, false, some (79, false), iNot (.t 81)⟩,
 ⟨some 83, false, some (75, true), iPick (.t 79) (.c (.bool (.lit true))) (.t 82)⟩,
 ⟨some 84, false, some (75, true), iMov (.t 83)⟩,
 ⟨some 85, false, some (84, false), iMov (.t 14)⟩,
 ⟨some 86, false, some (84, false), iCmp .lss (.t 85) (.c (.int .i64 (.lit 0)))⟩,
 ⟨some 87, false, some (75, true), iPick (.t 84) (.c (.bool (.lit true))) (.t 86)⟩,
 ⟨some 88, false, some (72, false), iPick (.t 75) (.t 87) (.c (.bool (.lit false)))⟩,
 ⟨some 89, true, none, iPick (.t 72) (.c (.bool (.lit true))) (.t 88)⟩])
 (cCond (.t 89) (cSeq (cOps [⟨some 8, true, none, iMov (.c (.bool (.lit false)))⟩])
 cRet) cSkip))
 (cSeq (cSeq (cOps [⟨some 16, true, none, iMov (.c (.int .i64 (.lit 0)))⟩])
 (cBlock 0 lc))
 (cSeq (cOps [⟨some 175, false, none, iCall (.c (.func (.func 25) [] [])) []⟩,
 ⟨some 8, true, none, iMov (.t 175)⟩])
 cRet)))))))))
theorem torn_compiles (lc : C) : cCodeX lc Sx.Tryd.tt.get Tryd.f11.ntmps Sx.Tryd.kp11 11 (bodyOf Tryd.f11) = some (tornCode lc) := by kernel_rfl
theorem torn_loops : (loopsOf (bodyOf Tryd.f11)).map (cCode Sx.Tryd.tt.get Tryd.f11.ntmps Sx.Tryd.kp11 11) = [some tornBody] := by kernel_rfl
theorem torn_ranges : (loopsOf (bodyOf Tryd.f11)).map ranges = [[]] := by kernel_rfl

noncomputable def lawFilm (L : Nat) : List AV := [.sliceX 1002 6 0 L, vi 0, vi 1, vi 2, vi 3, vi 4]
noncomputable def gA (k : Nat) : BE := .and (.cmp .eql (.var 99) (.lit 0)) (.and (.cmp .eql (.var 97) (servesV k 0)) (.cmp .eql (.var 98) (servesV k 1)))
noncomputable def gB (k : Nat) : BE := .and (.cmp .eql (.var 99) (.lit 4)) (.cmp .gtr (.var 90) (.var (hadV k 1)))
noncomputable def tornL (L k : Nat) : LSpec where
  sl0 := [(2, .sliceU 96), (4, .ptr 1001 0), (9, li k), (10, vi 88), (11, vi 92), (12, vi 90), (13, vi 97), (14, vi 98), (15, vi 99), (16, li 0)]
  sl := [(2, .sliceU 96), (4, .ptr 1001 0), (9, li k), (10, vi 88), (11, vi 93), (12, vi 90), (13, vi 97), (14, vi 98), (15, vi 99), (16, vi 91)]
  vs := [⟨0, none, [li 1, li 20, li 0, li 50], [li 1, li 20, li 0, li 50], []⟩, ⟨1, none, [li 0, li 99, li 0, li 99, li 1, li 1200], [li 0, li 99, li 0, li 99, li 1, li 1200], []⟩,
    ⟨1001, none, lawFilm L, lawFilm L, []⟩, ⟨1002, none, cellsUp (6 * L) 10, cellsUp (6 * L) 10, []⟩]
  nv := 2000
  dom := csL L ++ rdom k ++ [.cmp .leq (.lit 0) (.var 88), .cmp .leq (.var 88) (.lit 119), .cmp .leq (.lit 1) (.var 90), .cmp .leq (.var 90) (.lit 1200),
    .cmp .leq (.var (hadV k 0)) (.var 92), .cmp .leq (.var 92) (.var (hadV k 1)), .not (.and (.not (gA k)) (.not (gB k)))]
  out := .ret (.exit 0, [])

/-- the calls of a round -/
noncomputable def orcTorn (L k : Nat) (f : FuncId) (args : List AV) (h : Heap) : Option (T (AV × Heap)) :=
  cond (Nat.beq f 30) ((callV 30 L k (vi 89) (wornU k)).orc args h) (cond (Nat.beq f 34) ((callV 34 L k (vi 90) (seenU k)).orc args h)
    (cond (Nat.beq f 54) (pickOrc args h) (cond (Nat.beq f 52) (chooseC.orc args h) none)))
noncomputable def tbTorn (L k : Nat) : Tabs := ⟨Sx.Tryd.ft.get, lFind Sx.Tryd.rt, 2000, orcTorn L k⟩
noncomputable def cxTorn (L k : Nat) : Cx := ⟨evalN (tbTorn L k) 40 false, evalN (tbTorn L k) 40 true, 2000⟩
noncomputable def tornRound (L k : Nat) : T (Ex × St) := tornBody (cxTorn L k) ⟨11, none⟩ (tornL L k).T.st
/-- what a round's end must have: its slots, but for the feet and the round's number -/
noncomputable def keepsOk (k : Nat) (r : Ex × St) : Bool :=
  match r.1 with
  | .ret => true
  | _ => match r.2.df with
    | [] => eqAVs (lMap (fun i => optA (r.2.tm.tree.get i)) [2, 4, 9, 10, 12, 13, 14, 15]) [.tup [.sliceU 96], .tup [.ptr 1001 0], .tup [li k], .tup [vi 88], .tup [vi 90], .tup [vi 97], .tup [vi 98], .tup [vi 99]]
    | _ => false
noncomputable def endV (r : Ex × St) : AV := .tup [li (tagE r.1), optA (r.2.tm.tree.get 11), optA (r.2.tm.tree.get 16)]
noncomputable def upJ : IE := .bin .add .i64 (.var 91) (.lit 1)
noncomputable def tearE : IE := .app 7 (.var 2) (.var 3) (.app 1000 upJ (.lit 0) (.lit 0))
noncomputable def tornU : T AV := .br (.cmp .leq (.var 91) (.var 88))
  (.br (.cmp .gtr tearE (.var 93)) (.ret (.tup [li 0, .tup [li 0], .tup [.int .i64 upJ]])) (.ret (.tup [li 0, .tup [.int .i64 (.bin .sub .i64 (.var 93) tearE)], .tup [.int .i64 upJ]])))
  (.ret (.tup [li 2, .tup [vi 93], .tup [vi 91]]))
noncomputable def feetE (k m : Nat) : IE := .mx (.lit 0) (.bin .sub .i64 (.var (hadV k m)) (.bin .mul .i64 (.var 91) (.var (tornV m))))
noncomputable def seenI3 (f k : Nat) : IE := .app f (pkA k) pkB (.var 93)
noncomputable def tornK (L k : Nat) : List BE := csL L ++ rdom k ++ [.cmp .leq (.lit 0) (.var 91), .cmp .leq (.var 91) (.lit 120), .cmp .leq (.lit 0) (.var 88), .cmp .leq (.var 88) (.lit 119), .cmp .leq (.var 91) (.bin .add .i64 (.var 88) (.lit 1)), .cmp .leq (.lit 0) (.var 93), .cmp .leq (.var 93) (.lit 1200),
  .app 0 (pkA k) pkB (.var 93), .cmp .leq (feetE k 0) (.var 93), .cmp .leq (.var 93) (feetE k 1), .cmp .leq (seenI3 2 k) (.var 91), .cmp .leq (.var 91) (seenI3 3 k)]
noncomputable def tornR : Rules := [([.cmp .eql (.var 99) (.lit 0), .cmp .leq (.var 91) (.var 97), .cmp .lss (.var 93) (.var 90)], .lit false),
  ([.cmp .eql (.var 99) (.lit 0), .cmp .gtr (.var 91) (.var 98), .cmp .geq (.var 93) (.var 90)], .lit false),
  ([.cmp .neq (.var 99) (.lit 0), .cmp .geq (.var 93) (.var 90)], .lit false), ([.cmp .eql (.var 99) (.lit 0), .cmp .neq (.var 99) (.lit 0)], .lit false)]
noncomputable def tornCk1 (q : Nat × Nat × Nat) : Bool := endsT (keepsOk q.2.1) (tornRound q.1 q.2.1)
noncomputable def tornCk2 (q : Nat × Nat × Nat) : Bool := servesX tornR tornU ((tornRound q.1 q.2.1).bind fun r => .ret (endV r)) (knOf [] (tornK q.1 q.2.1))
end Go.Sx
