/- THE LAW OF WHAT IS TORN OFF: its run, for a film that is not valid. -/
import Derived.Test.YtanhchkdglglhaaDoorSxCalls2
import Derived.Test.YtanhchkdglglhaaDoorSxCSpecK
/-! THE LAW OF WHAT IS TORN OFF: its run, for a film that is not valid. -/
namespace Go.Sx
open Go.RowKit Go.Proofs
set_option maxRecDepth 100000
noncomputable def conjC : List BE → BE
  | [] => .lit true
  | c :: l => .and c (conjC l)
/-- whether a film is valid, asked of one that is not -/
noncomputable def notFilm (L : Nat) : CSpec := ⟨68, [filmV L], viewV L, 2000, [], .br (conjC (csL L)) (.fail 1) (.ret (.bool (.lit false)))⟩
noncomputable def ckI (L : Nat) : Bool := (notFilm L).chk (evalN tb0 60 false 68 (notFilm L).args (viewHeap 2000 (notFilm L).view))
theorem ckI_all : lAll ckI [1, 2, 3, 4, 5, 6] = true := by kernel_rfl
noncomputable def orcTI (L : Nat) (f : FuncId) (args : List AV) (h : Heap) : Option (T (AV × Heap)) :=
  cond (Nat.beq f 25) (closedOrc glV args h) (cond (Nat.beq f 68) ((notFilm L).orc args h) none)
noncomputable def tbTI (L : Nat) : Tabs := ⟨Sx.Tryd.ft.get, lFind Sx.Tryd.rt, 2000, orcTI L⟩
noncomputable def lawTI (L : Nat) : Bool := allK isTrueK (evalN (tbTI L) 60 false 11 [filmV L, .agg [vi 87, vi 86], .sliceU 96, vi 85] (viewHeap 2000 (viewV L))) ⟨.nil, [], [⟨conjC (csL L), false⟩]⟩
theorem lawTI_all : lAll lawTI [1, 2, 3, 4, 5, 6] = true := by kernel_rfl
/-- a list of no reel, or of too many -/
noncomputable def filmW (s : AV) : AV := .agg [s, vi 0, vi 1, vi 2, vi 3, vi 4]
noncomputable def orcTS (f : FuncId) (args : List AV) (h : Heap) : Option (T (AV × Heap)) := cond (Nat.beq f 25) (closedOrc glV args h) none
noncomputable def tbTS : Tabs := ⟨Sx.Tryd.ft.get, lFind Sx.Tryd.rt, 2000, orcTS⟩
noncomputable def lawTS (s : AV) (cs : List BE) : Bool := allK isTrueK (evalN tbTS 60 false 11 [filmW s, .agg [vi 87, vi 86], .sliceU 96, vi 85] (viewHeap 2000 glV)) (knOf [] cs)
theorem lawTS_nil : lawTS .nilslice [] = true := by kernel_rfl
theorem lawTS_few : lawTS (.sliceU 95) [.cmp .leq (.var 95) (.lit 0)] = true := by kernel_rfl
theorem lawTS_many : lawTS (.sliceU 95) [.cmp .leq (.lit 7) (.var 95)] = true := by kernel_rfl
end Go.Sx
