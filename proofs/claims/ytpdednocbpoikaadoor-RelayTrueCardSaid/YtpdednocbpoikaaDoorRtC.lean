/- RtC -/
import Derived.Test.YtpdednocbpoikaaDoorRlG
namespace Go.Sx
open Go.RowKit Go.Proofs
set_option maxRecDepth 100000
theorem turnF_in {n m : Int} (h : 1 ≤ m) : 0 ≤ turnF n m ∧ turnF n m < m := by
  unfold turnF
  rw [if_neg (by omega)]
  exact ⟨Int.emod_nonneg _ (by omega), Int.emod_lt_of_pos _ (by omega)⟩
theorem chooseF_in {l h n : Int} (k : l ≤ h) : l ≤ chooseF l h n ∧ chooseF l h n ≤ h := by
  unfold chooseF
  rw [if_neg (by omega)]
  have := turnF_in (n := n) (m := h - l + 1) (by omega)
  omega
noncomputable def chooseC : CSpec := ⟨38, [.agg [vi 80, vi 81], vi 82], [], 2000, [.cmp .leq (.lit 0) (.var 80), .cmp .leq (.var 81) (.lit 1000000)], .ret (.int .i64 (.app 7 (.var 80) (.var 81) (.var 82)))⟩
noncomputable def chooseRun : T (AV × Heap) := evalN tbTn 20 false 38 [.agg [vi 80, vi 81], vi 82] (viewHeap 2000 [])
noncomputable def manyE : IE := .bin .add .i64 (.bin .sub .i64 (.var 81) (.var 80)) (.lit 1)
noncomputable def chooseT : T AV := .br (.cmp .gtr (.var 80) (.var 81)) (.ret (vi 80)) (.br (.cmp .leq manyE big) (.ret (.int .i64 (.bin .add .i64 (.var 80) (.app 6 (.var 82) manyE (.lit 0))))) (.fail 99))
theorem choose_run : (chooseRun.bind fun r => .ret r.1) = chooseT := by kernel_rfl
theorem choose_orc {p : Par} (hP : pT.P = p.P) {args : List AV} {h : Heap} {t : T (AV × Heap)} (ho : chooseC.orc args h = some t) : CallOk p 38 args h t := by
  refine CSpec.okS (c := chooseC) (p0 := pT) (eval_ok tabsTn 20 38 [.agg [vi 80, vi 81], vi 82] _) (fun ρ hd P hP => ?_) (Nat.le_of_ble_eq_true rfl) ho hP
  have hd1 := hd _ List.mem_cons_self
  have hd2 := hd _ (List.mem_cons_of_mem _ List.mem_cons_self)
  rw [BE.t_leq] at hd1 hd2
  have hd1 : 0 ≤ ρ.iv 80 := hd1
  have hd2 : ρ.iv 81 ≤ 1000000 := hd2
  have hP : P (.int .i64 (.app 7 (.var 80) (.var 81) (.var 82))) := hP
  show ((chooseRun.bind fun r => .ret r.1) : T AV).Holds ρ _
  rw [choose_run]
  have hden : (IE.app 7 (.var 80) (.var 81) (.var 82)).den ρ = chooseF (ρ.iv 80) (ρ.iv 81) (ρ.iv 82) := rfl
  have fin : ∀ e : IE, e.den ρ = chooseF (ρ.iv 80) (ρ.iv 81) (ρ.iv 82) → ∃ b, P b ∧ pureAV b = true ∧ SameE ρ (.int .i64 e) b := fun e he =>
    ⟨_, hP, rfl, by intro E hE; simp only [conc, hE]; rw [he, hden]⟩
  unfold chooseT
  simp only [T.Holds]
  split
  · rename_i h1
    have h1 : decide (ρ.iv 80 > ρ.iv 81) = true := h1
    have h1 := of_decide_eq_true h1
    refine fin _ ?_
    show ρ.iv 80 = _
    unfold chooseF; rw [if_pos h1]
  · rename_i h1
    have h1 : ¬ decide (ρ.iv 80 > ρ.iv 81) = true := h1
    have h1 : ¬ ρ.iv 80 > ρ.iv 81 := fun h => h1 (decide_eq_true h)
    have hm : manyE.den ρ = ρ.iv 81 - ρ.iv 80 + 1 := by
      show IntKind.i64.wrap (IntKind.i64.wrap (ρ.iv 81 - ρ.iv 80) + 1) = _
      rw [IntWalk.i64_in (ρ.iv 81 - ρ.iv 80) (by omega), IntWalk.i64_in _ (by omega)]
    have ht := turnF_in (n := ρ.iv 82) (m := ρ.iv 81 - ρ.iv 80 + 1) (by omega)
    rw [if_pos (by show decide (manyE.den ρ ≤ 9223372036854775807) = true; rw [hm]; exact decide_eq_true (by omega))]
    refine fin _ ?_
    show IntKind.i64.wrap (ρ.iv 80 + turnF (ρ.iv 82) (manyE.den ρ)) = _
    rw [hm, IntWalk.i64_in _ (by omega)]
    unfold chooseF; rw [if_neg (by omega)]
theorem choose_at {p : Par} (hP : pT.P = p.P) (a b n : IE) (h : Heap) : CallOk p 38 [.agg [.int .i64 a, .int .i64 b], .int .i64 n] h (.br (.cmp .leq (.lit 0) a) (.br (.cmp .leq b (.lit 1000000)) (.ret (.int .i64 (.app 7 a b n), h)) (.fail 99)) (.fail 99)) := choose_orc hP (args := [.agg [.int .i64 a, .int .i64 b], .int .i64 n]) (h := h) rfl
noncomputable def spanUp (i0 : Nat) (n : Nat) (l : List (Nat × Nat × Nat)) : Nat → Nat → List (Nat × Nat × Nat) := @Nat.rec (fun _ => Nat → Nat → List (Nat × Nat × Nat)) (fun _ _ => l) (fun _ ih next j => (next, i0 + 4 * j, i0 + 1 + 4 * j) :: ih (next + 1) (j + 1)) n
noncomputable def chsE (plan : List Nat) : Nat → Nat → List (Nat × Nat × Nat) :=
  @List.rec Nat (fun _ => Nat → Nat → List (Nat × Nat × Nat)) (fun _ _ => []) (fun p _ ih next j => spanUp 100 p ((next + p, 61, 62) :: (next + p + 1, 63, 64) :: ih (next + p + 2) (j + p)) next j) plan
noncomputable def nxE (L : Nat) (plan : List Nat) : Nat := L + 2 * lLen plan
noncomputable def chsL (L : Nat) (plan : List Nat) : List (Nat × Nat × Nat) := lApp (chsE plan 0 0) (spanUp 102 L [] (nxE L plan) 0)
noncomputable def nameC (q : Nat × Nat × Nat) : IE := .app 7 (.var q.2.1) (.var q.2.2) (.app 1000 (.lit (Int.ofNat q.1)) (.lit 0) (.lit 0))
def OkCh (L : Nat) (plan : List Nat) (ρ : Rho) : Prop := ∀ q ∈ chsL L plan, ρ.iv (340 + q.1) = (nameC q).den ρ ∧ 0 ≤ ρ.iv q.2.1 ∧ ρ.iv q.2.1 ≤ ρ.iv q.2.2 ∧ ρ.iv q.2.2 ≤ 1000000
theorem OkCh.in {L : Nat} {plan : List Nat} {ρ : Rho} (h : OkCh L plan ρ) {q : Nat × Nat × Nat} (hq : q ∈ chsL L plan) : ρ.iv q.2.1 ≤ ρ.iv (340 + q.1) ∧ ρ.iv (340 + q.1) ≤ ρ.iv q.2.2 := by
  obtain ⟨h1, h2, h3, h4⟩ := h q hq
  rw [h1]
  exact chooseF_in h3
noncomputable def orcChoose (L : Nat) (plan : List Nat) (args : List AV) (h : Heap) : Option (T (AV × Heap)) :=
  match args with
  | [.agg [.int k1 a, .int k2 b], .int k3 n] => cond (and (isI64 k1) (and (isI64 k2) (isI64 k3))) (@List.rec (Nat × Nat × Nat) (fun _ => Option (T (AV × Heap))) none (fun q _ ih => cond (eqIE (.app 7 a b n) (nameC q)) (some (.ret (.int .i64 (.var (340 + q.1)), h))) ih) (chsL L plan)) none
  | _ => none
theorem orcChoose_ok {L : Nat} {plan : List Nat} {ok : Rho → (Nat → Obj → Prop) → Prop} (hok : ∀ ρ m, ok ρ m → OkCh L plan ρ) {args : List AV} {h : Heap} {t : T (AV × Heap)} (e : orcChoose L plan args h = some t) : CallOk (pOk ok) 38 args h t := by
  unfold orcChoose at e
  split at e
  · rename_i k1 a k2 b k3 n
    obtain ⟨i1, e⟩ := cond_some e
    simp only [Bool.and_eq_true] at i1
    rw [isI64_eq i1.1, isI64_eq i1.2.1, isI64_eq i1.2.2]
    have key : ∀ (l : List (Nat × Nat × Nat)), (@List.rec (Nat × Nat × Nat) (fun _ => Option (T (AV × Heap))) none (fun q _ ih => cond (eqIE (.app 7 a b n) (nameC q)) (some (.ret (.int .i64 (.var (340 + q.1)), h))) ih) l) = some t →
        ∃ q ∈ l, IE.app 7 a b n = nameC q ∧ t = .ret (.int .i64 (.var (340 + q.1)), h) := by
      intro l
      induction l with
      | nil => intro h; cases h
      | cons q l ih =>
        intro hh
        have hh : cond (eqIE (.app 7 a b n) (nameC q)) (some (T.ret (.int .i64 (.var (340 + q.1)), h))) (@List.rec (Nat × Nat × Nat) (fun _ => Option (T (AV × Heap))) none (fun q _ ih => cond (eqIE (.app 7 a b n) (nameC q)) (some (.ret (.int .i64 (.var (340 + q.1)), h))) ih) l) = some t := hh
        cases hc : eqIE (.app 7 a b n) (nameC q) with
        | true => rw [hc] at hh; cases hh; exact ⟨q, List.mem_cons_self, eqIE_eq _ _ hc, rfl⟩
        | false =>
          rw [hc, cond_false] at hh
          obtain ⟨q', h1, h2⟩ := ih hh
          exact ⟨q', List.mem_cons_of_mem _ h1, h2⟩
    obtain ⟨q, hq, he, rfl⟩ := key _ e
    refine CallOk.read (p0 := pOk ok) (p := pOk ok) rfl (choose_at (p := pOk ok) rfl a b n h) fun ρ c hk Q k => ⟨ρ, hk, SameL.refl _ _, ⟨rfl, fun j o g => ⟨o, g, SameA.refl o⟩⟩, ?_⟩
    obtain ⟨m, hA, _⟩ := hk
    have k : Q (.int .i64 (.var (340 + q.1)), h) := k
    obtain ⟨h1, h2, h3, h4⟩ := hok ρ m hA q hq
    have ea : a = .var q.2.1 := by unfold nameC at he; cases he; rfl
    have eb : b = .var q.2.2 := by unfold nameC at he; cases he; rfl
    simp only [T.Holds]
    rw [if_pos (by rw [BE.t_leq, ea]; exact h2), if_pos (by rw [BE.t_leq, eb]; exact h4)]
    refine ⟨_, k, SameV.int ?_, rfl, fun j o g => ⟨o, g, SameA.refl o⟩⟩
    rw [he, IE.den_var, h1]
  · cases e
noncomputable def argsOv (c : Nat) (L : Nat) (plan : List Nat) (x : IE) : List AV := [bookF L, .sliceX c 1 0 (lLen plan), iA x]
noncomputable def runOv (L : Nat) (plan : List Nat) : T (AV × Heap) := (evalN (tbTP 2006 L) 200 false 12 (argsOv 2000 L plan (.var 500)) (viewA 2001 (vP L plan))).bind fun r => graftT 2001 (vP L plan) (viewA 2001 (vP L plan)) [] r
noncomputable def ovE (e : Nat) (plan : List Nat) (x : IE) : IE := overE e (thereE e plan) 0 (tenE x)
noncomputable def endOv (L : Nat) (plan : List Nat) (_ : Kn) (q : AV × Heap) : Bool := and (eqAV q.1 (lastV (ovE 0 plan (.var 500)) (ovE 1 plan (.var 500)))) (and (allO q.2 (vP L plan)) (Nat.beq q.2.next 2001))
noncomputable def ckOv (L : Nat) (plan : List Nat) : Bool := allW [] (endOv L plan) (runOv L plan) (knOf [(500, 0, 99999)] (carryC plan))
theorem ckOv1 : lAll (ckOv 1) (plansL 1) = true := by kernel_rfl
theorem ckOv2 : lAll (ckOv 2) (plansL 2) = true := by kernel_rfl
theorem ckOv3 : lAll (ckOv 3) (plansL 3) = true := by kernel_rfl
noncomputable def vH (L : Nat) (plan : List Nat) : List (Nat × AObj) := vR L ++ [(2001, ro (litsN plan))]
noncomputable def shE (p next : Nat) (shown : IE) : IE := @Nat.rec (fun _ => Nat → IE → IE) (fun _ s => s) (fun _ ih next s => ih (next + 1) (adE s (.var (340 + next)))) p next shown
noncomputable def trueE (plan : List Nat) : Nat → IE → IE → List IE :=
  @List.rec Nat (fun _ => Nat → IE → IE → List IE) (fun _ _ _ => []) (fun p _ ih next shown boy =>
    repE (adE (.mx boy (shE p next shown)) (tenE (.var (340 + (next + p))))) p (ih (next + p + 2) (shE p next shown) (adE (adE (.mx boy (shE p next shown)) (tenE (.var (340 + (next + p))))) (tenE (.var (340 + (next + p + 1))))))) plan
noncomputable def trE (plan : List Nat) : List IE := trueE plan 0 (.lit 0) (.lit 0)
noncomputable def hapT (nx : Nat) (l : List IE) : Nat → IE → Nat → T AV :=
  @List.rec IE (fun _ => Nat → IE → Nat → T AV) (fun _ now cnt => .ret (.tup [iA now, ln cnt, tag true])) (fun a _ ih i now cnt => .br (.cmp .gtr a now) (ih (i + 1) (adE a (.var (340 + (nx + i)))) (cnt + 1)) (ih (i + 1) (adE now (.var (340 + (nx + i)))) cnt)) l
noncomputable def orcH (L : Nat) (plan : List Nat) (f : FuncId) (args : List AV) (h : Heap) : Option (T (AV × Heap)) :=
  cond (Nat.beq f 31) (pickB args h) (cond (Nat.beq f 38) (orcChoose L plan args h)
  (cond (Nat.beq f 40) (smallO 2000 [filmF L] (vK L) (.ret (foundVF L, viewA 2001 (vF L))) (fun _ => [2000]) args h)
  (cond (Nat.beq f 41) (orcLs L args h) none)))
noncomputable def tbH (L : Nat) (plan : List Nat) : Tabs := ⟨Sx.Tryd.ft.get, lFind Sx.Tryd.rt, 2000, orcH L plan⟩
noncomputable def argsH (L : Nat) (plan : List Nat) (x : IE) : List AV := [bookF L, .sliceX 2001 1 0 (lLen plan), iA x, .sliceU 96]
noncomputable def nwH (r : AV × Heap) : List Nat := match r.1 with
  | .tup [.agg [.sliceX a _ _ _, .sliceX b _ _ _, _], _] => [a, b]
  | .tup [.agg [.sliceX a _ _ _, _, _], _] => [a]
  | _ => []
noncomputable def runH (L : Nat) (plan : List Nat) : T (AV × Heap) := (evalN (tbH L plan) 100 false 13 (argsH L plan (.var 500)) (viewA 2002 (vH L plan))).bind fun r => graftT 2002 (vH L plan) (viewA 2002 (vH L plan)) (nwH r) r
noncomputable def trO (plan : List Nat) : AObj := .cells (lMap iA (trE plan)) 3 true true
noncomputable def isGrown (o : Option AObj) : Bool := match o with
  | some (.cells _ el own ext) => and (Nat.beq el 3) (and own ext)
  | _ => false
noncomputable def encW (h : Heap) (w : AV) : Option (Nat × Nat) := match w with
  | .nilslice => some (0, 2003)
  | .sliceX 2003 1 0 n => cond (and (Nat.ble 1 n) (isGrown (h.get 2003))) (some (n, 2004)) none
  | _ => none
noncomputable def encH (L : Nat) (plan : List Nat) (q : AV × Heap) : AV := match q.1 with
  | .tup [.agg [.sliceX 2002 1 0 n, w, ov], .bool (.lit true)] => (match encW q.2 w with
    | some (c, nx) => .tup [ov, ln c, tag (and (Nat.beq n L) (and (isO (q.2.get 2002) (trO plan)) (and (allO q.2 (vH L plan)) (Nat.beq q.2.next nx))))]
    | none => .bad)
  | _ => .bad
noncomputable def lastLe2 (L : Nat) : List BE := lApp (lMap (fun j => leV (100 + 4 * j) (101 + 4 * j)) (upN L 0)) (lastLe L)
noncomputable def pruneT (t : T (AV × Heap)) : Kn → T (AV × Heap) := @T.rec (AV × Heap) (fun _ => Kn → T (AV × Heap)) (fun a _ => .ret a) (fun c _ _ x y K => match decK K c with
  | some b => cond b (x K) (y K)
  | none => .br c (x K) (y K)) (fun w _ => .fail w) t
noncomputable def ckH (L : Nat) (plan : List Nat) : Bool := eqTF ((pruneT (runH L plan) (knOf (lastQ L) (lastLe2 L))).bind fun q => .ret (encH L plan q)) (hapT (nxE L plan) (trE plan) 0 (tenE (.var 500)) 0)
theorem ckH1 : lAll (ckH 1) (plansL 1) = true := by kernel_rfl
theorem ckH2 : lAll (ckH 2) (plansL 2) = true := by kernel_rfl
theorem ckH3 : lAll (ckH 3) (plansL 3) = true := by kernel_rfl
end Go.Sx
