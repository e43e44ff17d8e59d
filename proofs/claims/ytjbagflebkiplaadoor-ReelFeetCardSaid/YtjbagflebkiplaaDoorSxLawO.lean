/- THE LAW OF THE FEET: its run, for a reel that there is not. -/
import Derived.Test.YtjbagflebkiplaaDoorSxLawFeet
/-! THE LAW OF THE FEET: its run, for a reel that there is not. -/
namespace Go.Sx
open Go.RowKit Go.Proofs
set_option maxRecDepth 100000
noncomputable def errU (f : Nat) (e : Int) : AV := cond (or (Nat.beq f 32) (Nat.beq f 33)) (.tup [li 0, li 0, li e]) (.tup [.agg [li 0, li 0], li e])
noncomputable def isRef (f : Nat) : Bool := or (Nat.beq f 31) (or (Nat.beq f 33) (Nat.beq f 35))
/-- the program asks for less than how many there are, the reference for at most the last one -/
noncomputable def inReel (f L : Nat) : BE := .and (.cmp .leq (.lit 0) (.var 88)) (cond (isRef f) (.cmp .leq (.var 88) (.lit (L - 1 : Nat))) (.cmp .lss (.var 88) (.lit L)))
noncomputable def argV (f : Nat) : AV := cond (or (Nat.beq f 30) (Nat.beq f 31)) (vi 89) (vi 90)
/-- a reel that there is not -/
noncomputable def callO (f L : Nat) : CSpec := ⟨f, [filmV L, vi 88, argV f], viewV L, 2000, csL L, .br (inReel f L) (.fail 1) (.ret (errU f 11))⟩
noncomputable def six : List Nat := [30, 31, 32, 33, 34, 35]
noncomputable def specsO (L : Nat) : List CSpec := lMap (fun f => callO f L) six
noncomputable def ckO (L : Nat) : Bool := lAll (fun c : CSpec => c.chk (evalN tb0 60 false c.f c.args (viewHeap c.nv c.view))) (specsO L)
theorem ckO_all : lAll ckO [1, 2, 3, 4, 5, 6] = true := by kernel_rfl
noncomputable def orcO (L : Nat) (f : FuncId) (args : List AV) (h : Heap) : Option (T (AV × Heap)) :=
  cond (Nat.beq f 25) (closedOrc glV args h) (orcAny args h f (specsO L))
noncomputable def tbO (L : Nat) : Tabs := ⟨Sx.Tryd.ft.get, lFind Sx.Tryd.rt, 2000, orcO L⟩
noncomputable def lawO (L : Nat) : Bool :=
  allR isTrueR (evalN (tbO L) 60 false 5 [filmV L, .agg [vi 88, vi 89, vi 90]] (viewHeap 2000 (viewV L))) (⟨inReel 30 L, false⟩ :: ⟨inReel 31 L, false⟩ :: addAll (csL L) [])
theorem lawO_all : lAll lawO [1, 2, 3, 4, 5, 6] = true := by kernel_rfl
end Go.Sx
