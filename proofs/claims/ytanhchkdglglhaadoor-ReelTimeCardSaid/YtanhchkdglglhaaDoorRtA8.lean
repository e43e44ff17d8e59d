/- ORDERS THAT NUMBERS CHOOSE: what they depend on. -/
import Derived.Test.YtanhchkdglglhaaDoorRtB
/-! ORDERS THAT NUMBERS CHOOSE: what they depend on. -/
namespace Go.Sx
open Go.RowKit Go.Proofs
set_option maxRecDepth 100000
noncomputable def condsT {α : Type} (n : Nat) (t : T α) : Bool := @T.rec α (fun _ => Bool) (fun _ => true) (fun c _ _ x y => and (varsB n c) (and x y)) (fun _ => true) t
theorem condsT_leaf {α : Type} {n : Nat} {ρ ρ' : Rho} (h : ∀ i, i < n → ρ'.iv i = ρ.iv i) (hb : ρ'.bv = ρ.bv) (hf : ρ'.fi = ρ.fi ∧ ρ'.fb = ρ.fb) : ∀ t : T α, condsT n t = true → t.leaf ρ' = t.leaf ρ
  | .ret a, _ => rfl
  | .fail w, _ => rfl
  | .br c x y, k => by
    have k : and (varsB n c) (and (condsT n x) (condsT n y)) = true := k
    simp only [Bool.and_eq_true] at k
    simp only [T.leaf, varsB_den h hb hf c k.1, condsT_leaf h hb hf x k.2.1, condsT_leaf h hb hf y k.2.2]
theorem conds1 : condsT 110 (shufRun 1) = true := by kernel_rfl
theorem conds2 : condsT 110 (shufRun 2) = true := by kernel_rfl
theorem conds3 : condsT 110 (shufRun 3) = true := by kernel_rfl
theorem conds4 : condsT 110 (shufRun 4) = true := by kernel_rfl
theorem conds5 : condsT 110 (shufRun 5) = true := by kernel_rfl
theorem conds6 : condsT 110 (shufRun 6) = true := by kernel_rfl
end Go.Sx
