/- RtC -/
import Derived.Test.YtpdednocbpoikaaDoorRlG
namespace Go.Sx
open Go.RowKit Go.Proofs
set_option maxRecDepth 100000
theorem turnF_in {n m : Int} (h : 1 ≤ m) : 0 ≤ turnF n m ∧ turnF n m < m := by
  unfold turnF
  rw [if_neg (by omega)]
  exact ⟨Int.emod_nonneg _ (by omega), Int.emod_lt_of_pos _ (by omega)⟩
noncomputable def spanUp (i0 : Nat) (n : Nat) (l : List (Nat × Nat × Nat)) : Nat → Nat → List (Nat × Nat × Nat) := @Nat.rec (fun _ => Nat → Nat → List (Nat × Nat × Nat)) (fun _ _ => l) (fun _ ih next j => (next, i0 + 4 * j, i0 + 1 + 4 * j) :: ih (next + 1) (j + 1)) n
noncomputable def chsE (plan : List Nat) : Nat → Nat → List (Nat × Nat × Nat) :=
  @List.rec Nat (fun _ => Nat → Nat → List (Nat × Nat × Nat)) (fun _ _ => []) (fun p _ ih next j => spanUp 100 p ((next + p, 61, 62) :: (next + p + 1, 63, 64) :: ih (next + p + 2) (j + p)) next j) plan
noncomputable def nxE (L : Nat) (plan : List Nat) : Nat := L + 2 * lLen plan
noncomputable def chsL (L : Nat) (plan : List Nat) : List (Nat × Nat × Nat) := lApp (chsE plan 0 0) (spanUp 102 L [] (nxE L plan) 0)
noncomputable def argsOv (c : Nat) (L : Nat) (plan : List Nat) (x : IE) : List AV := [bookF L, .sliceX c 1 0 (lLen plan), iA x]
noncomputable def runOv (L : Nat) (plan : List Nat) : T (AV × Heap) := (evalN (tbTP 2006 L) 200 false 12 (argsOv 2000 L plan (.var 500)) (viewA 2001 (vP L plan))).bind fun r => graftT 2001 (vP L plan) (viewA 2001 (vP L plan)) [] r
noncomputable def ovE (e : Nat) (plan : List Nat) (x : IE) : IE := overE e (thereE e plan) 0 (tenE x)
noncomputable def endOv (L : Nat) (plan : List Nat) (_ : Kn) (q : AV × Heap) : Bool := and (eqAV q.1 (lastV (ovE 0 plan (.var 500)) (ovE 1 plan (.var 500)))) (and (allO q.2 (vP L plan)) (Nat.beq q.2.next 2001))
noncomputable def ckOv (L : Nat) (plan : List Nat) : Bool := allW [] (endOv L plan) (runOv L plan) (knOf [(500, 0, 99999)] (carryC plan))
theorem ckOv1 : lAll (ckOv 1) (plansL 1) = true := by kernel_rfl
theorem ckOv2 : lAll (ckOv 2) (plansL 2) = true := by kernel_rfl
theorem ckOv3 : lAll (ckOv 3) (plansL 3) = true := by kernel_rfl
noncomputable def shE (p next : Nat) (shown : IE) : IE := @Nat.rec (fun _ => Nat → IE → IE) (fun _ s => s) (fun _ ih next s => ih (next + 1) (adE s (.var (340 + next)))) p next shown
noncomputable def trueE (plan : List Nat) : Nat → IE → IE → List IE :=
  @List.rec Nat (fun _ => Nat → IE → IE → List IE) (fun _ _ _ => []) (fun p _ ih next shown boy =>
    repE (adE (.mx boy (shE p next shown)) (tenE (.var (340 + (next + p))))) p (ih (next + p + 2) (shE p next shown) (adE (adE (.mx boy (shE p next shown)) (tenE (.var (340 + (next + p))))) (tenE (.var (340 + (next + p + 1))))))) plan
noncomputable def trE (plan : List Nat) : List IE := trueE plan 0 (.lit 0) (.lit 0)
end Go.Sx
