/- THE LAW OF THE SPOOLS, run: a reel that is too long. -/
import Derived.Test.YtanhchkdglglhaaDoorSpRsS
/-! THE LAW OF THE SPOOLS, run: a reel that is too long. -/
namespace Go.Sx
open Go.RowKit Go.Proofs
set_option maxRecDepth 100000
noncomputable def eLong (L : Nat) : Ent := eSp L (.var 4) (.var 140) false 99
noncomputable def orcLong (L : Nat) (bm bk : Bool) (f : FuncId) (args : List AV) (h : Heap) : Option (T (AV × Heap)) :=
  match cond (Nat.beq f 38) (entOrc1 (eLong L) args h) none with
  | some t => some t
  | none => orcL L bm bk f args h
noncomputable def tbLong (L : Nat) (bm bk : Bool) : Tabs := ⟨Sx.Tryd.ft.get, lFind Sx.Tryd.rt, 2000, orcLong L bm bk⟩
noncomputable def longRun (L : Nat) (bm bk : Bool) : T (AV × Heap) := evalN (tbLong L bm bk) 60 false 14 (spArgs L) (viewHeap 2000 (viewV L))
noncomputable def longCk2 (L i : Nat) (bm bk : Bool) : Bool := servesX [] (.ret tT) (only (longRun L bm bk)) (knOf (ivS L) (lawK L ++ longC i))
noncomputable def longAll2 (L : Nat) : Bool := lAll (fun i => and (and (longCk2 L i true true) (longCk2 L i true false)) (and (longCk2 L i false true) (longCk2 L i false false))) (upTo L)
/-- if it hands back spools each reel fits -/
noncomputable def fitQ (L : Nat) (K : Kn) (r : AV × Heap) : Bool := cond (eqAV r.1 (.tup [.nilslice, li 4])) true (lAll (fun i => decT K (.cmp .leq (.var (130 + i)) (.var 4))) (upTo L))
noncomputable def fitCk (L : Nat) : Bool := and (stS (eLong L)) (allW [] (fitQ L) (spRun L (.var 4) (.var 140)) (knOf (ivW L 130) (xsC L)))
theorem lo1 : and (longAll2 1) (fitCk 1) = true := by kernel_rfl
theorem lo2 : and (longAll2 2) (fitCk 2) = true := by kernel_rfl
theorem lo3 : and (longAll2 3) (fitCk 3) = true := by kernel_rfl
theorem lo4 : and (longAll2 4) (fitCk 4) = true := by kernel_rfl
theorem lo5 : and (longAll2 5) (fitCk 5) = true := by kernel_rfl
theorem lo6 : and (longAll2 6) (fitCk 6) = true := by kernel_rfl
end Go.Sx
