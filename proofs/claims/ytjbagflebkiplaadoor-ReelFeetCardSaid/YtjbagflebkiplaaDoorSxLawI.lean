/- THE LAW OF THE FEET: its run, for a film that is not valid. -/
import Derived.Test.YtjbagflebkiplaaDoorSxLawFeet
/-! THE LAW OF THE FEET: its run, for a film that is not valid. -/
namespace Go.Sx
open Go.RowKit Go.Proofs
set_option maxRecDepth 100000
noncomputable def conjC : List BE → BE
  | [] => .lit true
  | c :: l => .and c (conjC l)
/-- whether a film is valid, asked of one that is not -/
noncomputable def notFilm (L : Nat) : CSpec := ⟨68, [filmV L], viewV L, 2000, [], .br (conjC (csL L)) (.fail 1) (.ret (.bool (.lit false)))⟩
noncomputable def notCheck (L : Nat) : CSpec := ⟨19, [filmV L], viewV L, 2000, [], .br (conjC (csL L)) (.fail 1) (.ret (li 10))⟩
noncomputable def ckI (L : Nat) : Bool := lAll (fun c : CSpec => c.chk (evalN tb0 60 false c.f c.args (viewHeap c.nv c.view))) [notFilm L, notCheck L]
theorem ckI_all : lAll ckI [1, 2, 3, 4, 5, 6] = true := by kernel_rfl
noncomputable def orcI (L : Nat) (f : FuncId) (args : List AV) (h : Heap) : Option (T (AV × Heap)) :=
  cond (Nat.beq f 25) (closedOrc glV args h) (orcAny args h f [notFilm L, notCheck L])
noncomputable def tbI (L : Nat) : Tabs := ⟨Sx.Tryd.ft.get, lFind Sx.Tryd.rt, 2000, orcI L⟩
noncomputable def lawI (L : Nat) : Bool :=
  allR isTrueR (evalN (tbI L) 60 false 5 [filmV L, .agg [vi 88, vi 89, vi 90]] (viewHeap 2000 (viewV L))) [⟨conjC (csL L), false⟩]
theorem lawI_all : lAll lawI [1, 2, 3, 4, 5, 6] = true := by kernel_rfl
end Go.Sx
