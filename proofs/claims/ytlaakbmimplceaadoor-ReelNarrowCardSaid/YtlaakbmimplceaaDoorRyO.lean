/- HOW MANY ORDERS: what a call of the search sees that counts them, and what it leaves. -/
import Derived.Test.YtlaakbmimplceaaDoorRyC
/-! HOW MANY ORDERS: what a call of the search sees that counts them, and what it leaves. -/
namespace Go.Sx
open Go.RowKit Go.Proofs
set_option maxRecDepth 100000
noncomputable def mnyE (m : Nat) (x1 x2 o : IE) : IE := .app (9500 + m) x1 x2 o
noncomputable def manyF (ρ : Rho) : Nat → Nat → Int → Int → Int → Int
  | 0, _, _, _, o => IntKind.i64.wrap (o + 1)
  | k + 1, m, a, b, o => (rsOf m).foldl (fun o r => if aftF ρ r a b = (0, 0) then o else manyF ρ k (del m r) (aftF ρ r a b).1 (aftF ρ r a b).2 o) o
def okO (L : Nat) (ρ : Rho) : Prop := okT L ρ ∧ ∀ m, m < 2 ^ L → ∀ a b o, ρ.fi (9500 + m) a b o = manyF ρ (cnt m) m a b o
noncomputable def ptrsO : List AV := [.ptr 2012 0, .ptr 2014 0, .ptr 2009 0, .ptr 2015 0]
noncomputable def loopO (L : Nat) (st : LoopState) (x : Ex) : AObj := .loop st x 11 (treeOf [(0, filmF L), (1, .ptr 2000 0), (2, ln 0), (3, ln 0), (4, .ptr 2002 0), (5, ln 0), (6, .ptr 2003 0), (13, tag false), (16, .func (.func 75) [] [.ptr 2009 0, .ptr 2008 0])]) [17] 11017 2010
noncomputable def preO (L : Nat) : List (Nat × AObj) := [(1001, rowsA L), (2001, .umap (mU false)), (2009, ro [.func (.func 60) [filmK 2001 L] []]), (2011, loopO L .ready .norm), (2012, ro [.yieldF 2011]), (2014, ro [.slice 2013 0 6 6]), (2015, ro [.func (.func 76) [] ptrsO])]
noncomputable def oneC (o : IE) : AObj := .cells [iA o] 3 true false
noncomputable def vO (L : Nat) (xs : List IE) (o : IE) : List (Nat × AObj) := [(1001, rowsA L), (2001, .umap (mU false)), (2003, oneC o), (2009, ro [.func (.func 60) [filmK 2001 L] []]), (2011, loopO L .ready .norm), (2012, ro [.yieldF 2011]), (2013, .cells (lMap iA xs) 3 true false), (2014, ro [.slice 2013 0 6 6]), (2015, ro [.func (.func 76) [] ptrsO])]
noncomputable def argsO (L m : Nat) (x1 x2 : IE) : List AV := ln (L - cnt m) :: bitsA m :: .agg [iA x1, iA x2] :: ptrsO
noncomputable def leafO (L m : Nat) (x1 x2 : IE) (xs : List IE) (o : IE) : AV × Heap := (tag true, viewA 2016 (vO L (leftL L m (L - cnt m) x1 x2 xs) (mnyE m x1 x2 o)))
noncomputable def orcT2 (L k : Nat) (args : List AV) (h : Heap) : Option (T (AV × Heap)) :=
  match args with
  | (_ :: .agg bs :: .agg [.int _ x1, .int _ x2] :: _) => (match maskA bs 1, cellsI (h.get 2013), cellsI (h.get 2003) with
    | some m, some xs, some [o] => cond (and (and (eqAVs args (argsO L m x1 x2)) (and (ltP L m) (Nat.ble (cnt m + 1) k))) (and (and (Nat.beq (lLen xs) 6) (lessAll h (vO L xs o))) (Nat.ble 2016 h.next)))
        (some ((T.ret (leafO L m x1 x2 xs o)).bind fun r => graftT 2016 (vO L xs o) h [] r)) none
    | _, _, _ => none)
  | _ => none
noncomputable def orcL2 (L k : Nat) (f : FuncId) (args : List AV) (h : Heap) : Option (T (AV × Heap)) := cond (Nat.beq f 60) (orcA 2001 L args h) (cond (Nat.beq f 76) (orcT2 L k args h) none)
noncomputable def tbO (L k : Nat) : Tabs := ⟨Sx.Tryd.ft.get, lFind Sx.Tryd.rt, 2000, orcL2 L k⟩
noncomputable def vv : IE := .var 520
noncomputable def runO (L m : Nat) : T (AV × Heap) := (evalN (tbO L (cnt m)) 100 false 76 (argsO L m (.var 500) (.var 501)) (viewA 2016 (vO L vs6 vv))).bind fun r => graftT 2016 (vO L vs6 vv) (viewA 2016 (vO L vs6 vv)) [] r
noncomputable def encO (L : Nat) (q : AV × Heap) : AV := .tup [q.1, tag (and (allO q.2 (preO L)) (Nat.beq q.2.next 2016)), blkA (q.2.get 2013), blkA (q.2.get 2003)]
noncomputable def lfO (cs : List IE) (o : IE) : AV := .tup [tag true, tag true, cellsB cs false, cellsB [o] false]
noncomputable def tN (K m p : Nat) (x1 x2 : IE) (l : List Nat) : List IE → IE → T AV :=
  @List.rec Nat (fun _ => List IE → IE → T AV) (fun cs o => .ret (lfO cs o))
    (fun r _ ih cs o => .br (empE r x1 x2) (ih cs o) (ih (updL K (del m r) p r (af1 r x1 x2) (af2 r x1 x2) cs) (mnyE (del m r) (af1 r x1 x2) (af2 r x1 x2) o))) l
noncomputable def expO (L m : Nat) : T AV :=
  cond (Nat.beq m 0) (.ret (lfO vs6 (.bin .add .i64 vv (.lit 1)))) (tN L m (L - cnt m) (.var 500) (.var 501) (rsOf m) vs6 vv)
noncomputable def ckO (L m : Nat) : Bool := eqTF ((runO L m).bind fun q => .ret (encO L q)) (expO L m)
theorem kO1 : lAll (ckO 1) (upN 2 0) = true := by kernel_rfl
theorem kO2 : lAll (ckO 2) (upN 4 0) = true := by kernel_rfl
end Go.Sx
