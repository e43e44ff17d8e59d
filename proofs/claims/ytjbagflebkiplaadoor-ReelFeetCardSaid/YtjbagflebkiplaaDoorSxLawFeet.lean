/- THE LAW OF THE FEET: its run, for a valid film and one of its reels. -/
import Derived.Test.YtjbagflebkiplaaDoorSxCalls2
import Derived.Test.YtjbagflebkiplaaDoorSxTree2
import Derived.Test.YtjbagflebkiplaaDoorSxFold
/-! THE LAW OF THE FEET: its run, for a valid film and one of its reels. -/
namespace Go.Sx
open Go.RowKit Go.Proofs
set_option maxRecDepth 100000
noncomputable def orcAny (args : List AV) (h : Heap) (f : FuncId) (l : List CSpec) : Option (T (AV × Heap)) :=
  @List.rec CSpec (fun _ => Option (T (AV × Heap))) none (fun c _ ih => cond (Nat.beq f c.f) (match c.orc args h with
    | some t => some t
    | none => ih) ih) l
noncomputable def specsV (L k : Nat) : List CSpec := rshowsC L k :: rseenC L k :: specs L k
noncomputable def orcLaw (L k : Nat) (f : FuncId) (args : List AV) (h : Heap) : Option (T (AV × Heap)) :=
  cond (Nat.beq f 25) (closedOrc glV args h) (orcAny args h f (specsV L k))
noncomputable def tbLaw (L k : Nat) : Tabs := ⟨Sx.Tryd.ft.get, lFind Sx.Tryd.rt, 2000, orcLaw L k⟩
noncomputable def lawArgs (L k : Nat) : List AV := [filmV L, .agg [li k, vi 89, vi 90]]
noncomputable def isTrueR (r : AV × Heap) : Bool :=
  match r.1 with
  | .bool b => (match b with
    | .lit b => b
    | _ => false)
  | _ => false
/-- what is so of the numbers: 'g': more feet are asked for than there are; 's': some number of showings leaves just so many -/
noncomputable def facts (k : Nat) (g s : Bool) : List Asm :=
  [canon (.cmp .gtr (.var 90) (.var (hadV k 1))) g, canon (noneC k) g] ++ cond g [canon (lessC k 1) true] [] ++
  [canon (seenB k) s, canon (.cmp .lss (seenI 4 k) (.lit 0)) (Bool.not s)] ++ cond s [canon (.cmp .eql (seenI 2 k) (seenI 4 k)) true, canon (.cmp .eql (seenI 3 k) (seenI 5 k)) true] []
noncomputable def lawCk (q : Nat × Nat × Nat) : Bool :=
  lAll (fun gs : Bool × Bool => allR isTrueR (evalN (tbLaw q.1 q.2.1) 60 false 5 (lawArgs q.1 q.2.1) (viewHeap 2000 (viewV q.1))) (facts q.2.1 gs.1 gs.2 ++ addAll (csL q.1 ++ rdom q.2.1) [])) [(true, true), (true, false), (false, true), (false, false)]
theorem law_ck1 : lAll lawCk lk1 = true := by kernel_rfl
theorem law_ck2 : lAll lawCk lk2 = true := by kernel_rfl
theorem law_ck3 : lAll lawCk lk3 = true := by kernel_rfl
theorem law_ck4 : lAll lawCk lk4 = true := by kernel_rfl
theorem law_ck5 : lAll lawCk lk5 = true := by kernel_rfl
theorem law_ck6 : lAll lawCk lk6 = true := by kernel_rfl
theorem law_cks : ∀ q ∈ lk21, lawCk q = true := lk21_of law_ck1 law_ck2 law_ck3 law_ck4 law_ck5 law_ck6
end Go.Sx
