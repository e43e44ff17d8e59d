/- ORDERS THAT NUMBERS CHOOSE: what they depend on. -/
import Derived.Test.YtanhchkdglglhaaDoorSpRtB
/-! ORDERS THAT NUMBERS CHOOSE: what they depend on. -/
namespace Go.Sx
open Go.RowKit Go.Proofs
set_option maxRecDepth 100000
def vsI (p : Nat → Bool) : IE → Bool
  | .lit _ => true
  | .var i => p i
  | .bin _ _ a b => and (vsI p a) (vsI p b)
  | .conv _ a => vsI p a
  | .mx a b => and (vsI p a) (vsI p b)
  | .mn a b => and (vsI p a) (vsI p b)
  | .app _ a b c => and (vsI p a) (and (vsI p b) (vsI p c))
def vsB (p : Nat → Bool) : BE → Bool
  | .lit _ => true
  | .var _ => true
  | .not a => vsB p a
  | .and a b => and (vsB p a) (vsB p b)
  | .cmp _ a b => and (vsI p a) (vsI p b)
  | .iff a b => and (vsB p a) (vsB p b)
  | .app _ a b c => and (vsI p a) (and (vsI p b) (vsI p c))
theorem vsI_den {p : Nat → Bool} {ρ ρ' : Rho} (h : ∀ i, p i = true → ρ'.iv i = ρ.iv i) (hf : ρ'.fi = ρ.fi ∧ ρ'.fb = ρ.fb) : ∀ e : IE, vsI p e = true → e.den ρ' = e.den ρ
  | .lit _, _ => rfl
  | .var i, k => h i k
  | .bin op kd a b, k => by
    simp only [vsI, Bool.and_eq_true] at k
    simp only [IE.den, vsI_den h hf a k.1, vsI_den h hf b k.2]
  | .conv kd a, k => by
    simp only [vsI] at k
    simp only [IE.den, vsI_den h hf a k]
  | .mx a b, k => by
    simp only [vsI, Bool.and_eq_true] at k
    simp only [IE.den, vsI_den h hf a k.1, vsI_den h hf b k.2]
  | .mn a b, k => by
    simp only [vsI, Bool.and_eq_true] at k
    simp only [IE.den, vsI_den h hf a k.1, vsI_den h hf b k.2]
  | .app f a b c, k => by
    simp only [vsI, Bool.and_eq_true] at k
    simp only [IE.den, vsI_den h hf a k.1, vsI_den h hf b k.2.1, vsI_den h hf c k.2.2, hf.1]
theorem vsB_den {p : Nat → Bool} {ρ ρ' : Rho} (h : ∀ i, p i = true → ρ'.iv i = ρ.iv i) (hb : ρ'.bv = ρ.bv) (hf : ρ'.fi = ρ.fi ∧ ρ'.fb = ρ.fb) : ∀ c : BE, vsB p c = true → c.den ρ' = c.den ρ
  | .lit _, _ => rfl
  | .var i, _ => by simp only [BE.den, hb]
  | .not a, k => by
    simp only [vsB] at k
    simp only [BE.den, vsB_den h hb hf a k]
  | .and a b, k => by
    simp only [vsB, Bool.and_eq_true] at k
    simp only [BE.den, vsB_den h hb hf a k.1, vsB_den h hb hf b k.2]
  | .iff a b, k => by
    simp only [vsB, Bool.and_eq_true] at k
    simp only [BE.den, vsB_den h hb hf a k.1, vsB_den h hb hf b k.2]
  | .cmp op a b, k => by
    simp only [vsB, Bool.and_eq_true] at k
    simp only [BE.den, vsI_den h hf a k.1, vsI_den h hf b k.2]
  | .app f a b c, k => by
    simp only [vsB, Bool.and_eq_true] at k
    simp only [BE.den, vsI_den h hf a k.1, vsI_den h hf b k.2.1, vsI_den h hf c k.2.2, hf.2]


noncomputable def condsP {α : Type} (p : Nat → Bool) (t : T α) : Bool := @T.rec α (fun _ => Bool) (fun _ => true) (fun c _ _ x y => and (vsB p c) (and x y)) (fun _ => true) t
theorem condsP_leaf {α : Type} {p : Nat → Bool} {ρ ρ' : Rho} (h : ∀ i, p i = true → ρ'.iv i = ρ.iv i) (hb : ρ'.bv = ρ.bv) (hf : ρ'.fi = ρ.fi ∧ ρ'.fb = ρ.fb) : ∀ t : T α, condsP p t = true → t.leaf ρ' = t.leaf ρ
  | .ret a, _ => rfl
  | .fail w, _ => rfl
  | .br c x y, k => by
    have k : and (vsB p c) (and (condsP p x) (condsP p y)) = true := k
    simp only [Bool.and_eq_true] at k
    simp only [T.leaf, vsB_den h hb hf c k.1, condsP_leaf h hb hf x k.2.1, condsP_leaf h hb hf y k.2.2]
noncomputable def tVar (i : Nat) : Bool := and (Nat.ble 100 i) (Nat.ble i 109)
theorem conds1 : condsP tVar (shufRun 1) = true := by kernel_rfl
theorem conds2 : condsP tVar (shufRun 2) = true := by kernel_rfl
theorem conds3 : condsP tVar (shufRun 3) = true := by kernel_rfl
theorem conds4 : condsP tVar (shufRun 4) = true := by kernel_rfl
theorem conds5 : condsP tVar (shufRun 5) = true := by kernel_rfl
theorem conds6 : condsP tVar (shufRun 6) = true := by kernel_rfl
end Go.Sx
