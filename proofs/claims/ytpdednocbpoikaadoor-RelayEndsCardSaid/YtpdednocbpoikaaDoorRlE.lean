/- RlE -/
import Derived.Test.YtpdednocbpoikaaDoorRlB
namespace Go.Sx
open Go.RowKit Go.Proofs
set_option maxRecDepth 100000
noncomputable def adE (a b : IE) : IE := .bin .add .i64 a b
noncomputable def sbE (a b : IE) : IE := .bin .sub .i64 a b
noncomputable def tenE (a : IE) : IE := .bin .mul .i64 (.lit 10) a
noncomputable def aV (t e j : Nat) : IE := .var (100 + 4 * j + 2 * t + e)
noncomputable def befE (t e : Nat) (n : Nat) : IE := @Nat.rec (fun _ => IE) (.lit 0) (fun j ih => adE ih (aV t e j)) n
noncomputable def repE (a : IE) (n : Nat) (l : List IE) : List IE := @Nat.rec (fun _ => List IE) l (fun _ ih => a :: ih) n
noncomputable def atE (e next : Nat) (boy : IE) : IE := adE (.mx boy (befE 0 e next)) (tenE (.var (61 + e)))
noncomputable def atsE (e : Nat) (plan : List Nat) : Nat → IE → List IE :=
  @List.rec Nat (fun _ => Nat → IE → List IE) (fun _ _ => []) (fun p _ ih next boy => repE (atE e (next + p) boy) p (ih (next + p) (adE (atE e (next + p) boy) (tenE (.var (63 + e)))))) plan
noncomputable def lateE (e2 : Nat) (l : List IE) : Nat → IE → IE := @List.rec IE (fun _ => Nat → IE → IE) (fun _ acc => acc) (fun a _ ih i acc => ih (i + 1) (.mx acc (sbE a (befE 1 e2 i)))) l
noncomputable def secE (x : IE) : IE := .bin .quo .i64 (sbE (adE x (.lit 10)) (.lit 1)) (.lit 10)
noncomputable def overE (e : Nat) (l : List IE) : Nat → IE → IE := @List.rec IE (fun _ => Nat → IE → IE) (fun _ acc => acc) (fun a _ ih i acc => ih (i + 1) (adE (.mx acc a) (aV 1 e i))) l
noncomputable def thereE (e : Nat) (plan : List Nat) : List IE := atsE e plan 0 (.lit 0)
noncomputable def surelyE (plan : List Nat) : IE := secE (lateE 0 (thereE 1 plan) 0 (.lit 0))
noncomputable def perhapsE (plan : List Nat) : IE := secE (lateE 1 (thereE 0 plan) 0 (.lit 0))
noncomputable def zipC : List IE → List IE → List AV
  | a :: l, b :: m => iA a :: iA b :: zipC l m
  | _, _ => []
noncomputable def sumN : List Nat → Nat
  | [] => 0
  | p :: l => p + sumN l
noncomputable def plansN : Nat → Nat → List (List Nat)
  | 0, _ => []
  | _ + 1, 0 => [[]]
  | f + 1, n => (upN n 1).flatMap fun p => (plansN f (n - p)).map fun l => p :: l
noncomputable def plansL (L : Nat) : List (List Nat) := plansN (L + 1) L
noncomputable def litsN (l : List Nat) : List AV := lMap ln l
noncomputable def vP (L : Nat) (plan : List Nat) : List (Nat × AObj) := vR L ++ [(2000, ro (litsN plan))]
noncomputable def orcTP (b L : Nat) (f : FuncId) (args : List AV) (h : Heap) : Option (T (AV × Heap)) :=
  cond (Nat.beq f 42) (smallO 2000 [bookF L] (vR L) (.ret (knowVR L, viewA 2002 (vKR L false))) (fun _ => [2000, 2001]) args h)
    (cond (Nat.beq f 76) (match args with
      | [_, .agg [.int _ (.lit (.ofNat r)), _]] => cond (Nat.ble (r + 1) L) (smallO (b + 2) (argsBL b L r) (vB b L false) (.ret (valBL r, viewA (b + 2) (vB b L false))) (fun _ => []) args h) none
      | _ => none) none)
noncomputable def tbTP (b L : Nat) : Tabs := ⟨Sx.Tryd.ft.get, lFind Sx.Tryd.rt, 2000, orcTP b L⟩
theorem tabsTP {b L : Nat} (hb : b = 2004 ∨ b = 2006) (h0 : 1 ≤ L) (hL : L ≤ 6) : TabOk (pBN L) Sx.Tryd.tt.get (tbTP b L) := by
  refine Tryd.tab (orcTP b L) (fun f args h t e => ?_) 2000
  unfold orcTP at e
  cases h1 : Nat.beq f 42 with
  | true =>
    rw [h1, cond_true] at e
    rw [beq_t.1 h1]
    exact smallO_ok (CallOk.weak (ok0 := fun ρ _ => okB L ρ) (fun ρ m k => k.1) (knowR_said h0 hL)) (by omega) rfl (viewR_ok h0 hL) e
  | false =>
    rw [h1, cond_false] at e
    obtain ⟨h2, e⟩ := cond_some e
    rw [beq_t.1 h2]
    split at e
    · obtain ⟨h3, e⟩ := cond_some e
      obtain ⟨_, hv, _⟩ := ckBL_all hb h0 hL
      exact smallO_ok (lastsB_dull hb h0 hL (ble_t.1 h3)) (by omega) (by rcases hb with rfl | rfl <;> rfl) hv e
    · cases e
noncomputable def planA (plan : List Nat) : AV := .sliceX 2000 1 0 (lLen plan)
noncomputable def carryC (plan : List Nat) : List BE := lMap (fun p => .cmp .leq (.lit (Int.ofNat p)) (.var 65)) plan
noncomputable def nwTh (r : AV × Heap) : List Nat := match r.1 with
  | .tup [.slice b _ _ _, _] => [b]
  | _ => []
noncomputable def runTh (L : Nat) (plan : List Nat) : T (AV × Heap) := (evalN (tbTP 2004 L) 200 false 9 [bookF L, planA plan] (viewA 2001 (vP L plan))).bind fun r => graftT 2001 (vP L plan) (viewA 2001 (vP L plan)) (nwTh r) r
noncomputable def thereV (L : Nat) : AV := .tup [.slice 2001 0 L L, ln 0]
noncomputable def thereO (plan : List Nat) : AObj := .cells (zipC (thereE 0 plan) (thereE 1 plan)) 24 true false
noncomputable def endTh (L : Nat) (plan : List Nat) (_ : Kn) (q : AV × Heap) : Bool := and (eqAV q.1 (thereV L)) (and (isO (q.2.get 2001) (thereO plan)) (and (allO q.2 (vP L plan)) (Nat.beq q.2.next 2002)))
noncomputable def ckTh (L : Nat) (plan : List Nat) : Bool := allW [] (endTh L plan) (runTh L plan) (knOf [] (carryC plan))
noncomputable def runSt (L : Nat) (plan : List Nat) : T (AV × Heap) := (evalN (tbTP 2004 L) 200 false 10 [bookF L, planA plan] (viewA 2001 (vP L plan))).bind fun r => graftT 2001 (vP L plan) (viewA 2001 (vP L plan)) [] r
noncomputable def endSt (L : Nat) (plan : List Nat) (_ : Kn) (q : AV × Heap) : Bool := and (eqAV q.1 (.tup [iA (surelyE plan), iA (perhapsE plan), ln 0])) (and (allO q.2 (vP L plan)) (Nat.beq q.2.next 2001))
noncomputable def ckSt (L : Nat) (plan : List Nat) : Bool := allW [] (endSt L plan) (runSt L plan) (knOf [] (carryC plan))
theorem ckTh1 : lAll (ckTh 1) (plansL 1) = true := by kernel_rfl
theorem ckTh2 : lAll (ckTh 2) (plansL 2) = true := by kernel_rfl
theorem ckTh3 : lAll (ckTh 3) (plansL 3) = true := by kernel_rfl
theorem ckSt1 : lAll (ckSt 1) (plansL 1) = true := by kernel_rfl
theorem ckSt2 : lAll (ckSt 2) (plansL 2) = true := by kernel_rfl
theorem ckSt3 : lAll (ckSt 3) (plansL 3) = true := by kernel_rfl
end Go.Sx
