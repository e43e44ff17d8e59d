/- A TOWN: what it is called with, and when the next licence can begin. -/
import Derived.Test.YtpejfdjeejdocaaDoorTabFn
import Derived.Test.YtpejfdjeejdocaaDoorSxSelfZ
import Derived.Test.YtpejfdjeejdocaaDoorSxStart
/-! A TOWN: what it is called with, and when the next licence can begin. -/
namespace Go.Sx
open Go.RowKit Go.Proofs
set_option maxRecDepth 100000
noncomputable def pT : Par := ⟨Tryd.prog, rcOf Tryd.rows, fun _ _ => True⟩
noncomputable def tb0 : Tabs := ⟨Sx.Tryd.ft.get, lFind Sx.Tryd.rt, 2000, fun _ _ _ => none⟩
theorem tabs0 : TabOk pT Sx.Tryd.tt.get tb0 := Tryd.tab (fun _ _ _ => none) (fun _ _ _ _ h => by cases h) 2000
noncomputable def vi (n : Nat) : AV := .int .i64 (.var n)
noncomputable def cellsUp : Nat → Nat → List AV
  | 0, _ => []
  | n + 1, i => vi i :: cellsUp n (i + 1)
noncomputable def le2 (a b : IE) : BE := .cmp .leq a b
/-- how many kinds, barred spans and held licences -/
abbrev Shp := Nat × Nat × Nat
noncomputable def lst0 (b s i L : Nat) : AV := match L with
  | 0 => .sliceU i
  | n + 1 => .sliceX b s 0 (n + 1)
noncomputable def townL (k b h : AV) : AV := .agg [k, vi 0, b, vi 1, vi 2, h]
noncomputable def townV (q : Shp) : AV := townL (lst0 1001 3 40 q.1) (lst0 1002 2 41 q.2.1) (lst0 1003 2 42 q.2.2)
noncomputable def glV : List (Nat × List AV) := [(0, [li 1, li 4, li 0, li 20, li 0, li 4, li 0, li 65535, li 0, li 1439, li 0, li 4]), (1, [li 1, li 30, li 0, li 1000, li 0, li 30])]
noncomputable def blk0 (b i n : Nat) (l : List (Nat × List AV)) : List (Nat × List AV) := match n with
  | 0 => l
  | k + 1 => (b, cellsUp (k + 1) i) :: l
noncomputable def viewT (q : Shp) : List (Nat × List AV) := blk0 1001 10 (3 * q.1) (blk0 1002 30 (2 * q.2.1) (blk0 1003 50 (2 * q.2.2) glV))
noncomputable def emptyC (q : Shp) : List BE := (cond (Nat.beq q.2.1 0) [.cmp .eql (.var 41) (.lit 0)] []) ++ (cond (Nat.beq q.2.2 0) [.cmp .eql (.var 42) (.lit 0)] [])
/-- the first day behind a held licence, and the pause -/
noncomputable def nextC (q : Shp) (j : Nat) : CSpec := ⟨99, [townV q, .agg [vi (50 + 2 * j), vi (51 + 2 * j)]], viewT q, 2000, [.cmp .leq (.lit 0) (.var (50 + 2 * j)), .cmp .lss (.var (50 + 2 * j)) (.lit (Int.ofNat q.1))], .fail 0⟩
noncomputable def nextRun (q : Shp) (j : Nat) : T (AV × Heap) := evalN tb0 20 false 99 (nextC q j).args (viewHeap 2000 (viewT q))
noncomputable def upTo : Nat → List Nat
  | 0 => []
  | n + 1 => upTo n ++ [n]
noncomputable def nextOrc (q : Shp) (args : List AV) (h : Heap) (js : List Nat) : Option (T (AV × Heap)) :=
  @List.rec Nat (fun _ => Option (T (AV × Heap))) none (fun j _ ih => match (nextC q j).orcY (.ret (vi (60 + j))) args h with
    | some t => some t
    | none => ih) js
noncomputable def orcN (q : Shp) (f : FuncId) (args : List AV) (h : Heap) : Option (T (AV × Heap)) := cond (Nat.beq f 99) (nextOrc q args h (upTo q.2.2)) none
noncomputable def tbN (q : Shp) : Tabs := ⟨Sx.Tryd.ft.get, lFind Sx.Tryd.rt, 2000, orcN q⟩
noncomputable def heldIn (q : Shp) (j : Nat) : List BE := [.cmp .leq (.lit 0) (.var (50 + 2 * j)), .cmp .lss (.var (50 + 2 * j)) (.lit (Int.ofNat q.1))]
noncomputable def heldIns (q : Shp) : Nat → List BE
  | 0 => []
  | n + 1 => heldIns q n ++ heldIn q n
/-- does a held licence go together with those before it? -/
noncomputable def goC (q : Shp) (j : Nat) : CSpec := ⟨98, [townV q, .agg [vi (50 + 2 * j), vi (51 + 2 * j)], .slice 1003 0 j j], viewT q, 2000, heldIns q (j + 1), .fail 0⟩
noncomputable def goRun (q : Shp) (j : Nat) : T (AV × Heap) := evalN (tbN q) 30 false 98 (goC q j).args (viewHeap 2000 (viewT q))
noncomputable def goV (j : Nat) : AV := .bool (.cmp .eql (.var (70 + j)) (.lit 1))
noncomputable def goOrc (q : Shp) (args : List AV) (h : Heap) (js : List Nat) : Option (T (AV × Heap)) :=
  @List.rec Nat (fun _ => Option (T (AV × Heap))) none (fun j _ ih => match (goC q j).orcY (.ret (goV j)) args h with
    | some t => some t
    | none => ih) js
noncomputable def orcG (q : Shp) (f : FuncId) (args : List AV) (h : Heap) : Option (T (AV × Heap)) := cond (Nat.beq f 98) (goOrc q args h (upTo q.2.2)) none
noncomputable def tbG (q : Shp) : Tabs := ⟨Sx.Tryd.ft.get, lFind Sx.Tryd.rt, 2000, orcG q⟩
noncomputable def knowRun (q : Shp) : T (AV × Heap) := evalN (tbG q) 40 false 53 [townV q] (viewHeap 2000 (viewT q))
noncomputable def only (t : T (AV × Heap)) : T AV := t.bind fun r => .ret r.1
noncomputable def intV (n : Nat) (v : AV) : Bool := match v with
  | .int .i64 e => varsI n e
  | _ => false
noncomputable def boolV (n : Nat) (v : AV) : Bool := match v with
  | .bool b => varsB n b
  | _ => false
noncomputable def nextQ (_ : Kn) (r : AV × Heap) : Bool := intV 60 r.1
noncomputable def goQ (_ : Kn) (r : AV × Heap) : Bool := boolV 70 r.1
/-- every kind of a town -/
def sh1 (a : Nat) : List Shp := [0, 1, 2, 3, 4].flatMap fun b => [0, 1, 2, 3, 4].map fun c => (a, b, c)
noncomputable def idsC (c : CSpec) : Bool := and (idsLts c.nv c.args) (lAll (fun g : Nat × List AV => and (Nat.ble (g.1 + 1) c.nv) (idsLts c.nv g.2)) c.view)
noncomputable def nextCk (q : Shp) (j : Nat) : Bool := and (idsC (nextC q j)) (and (allW [] nextQ (nextRun q j) (knOf [] (nextC q j).cs)) (varsT 60 (fun _ => true) (only (nextRun q j))))
noncomputable def goCk (q : Shp) (j : Nat) : Bool := and (idsC (goC q j)) (and (allW [] goQ (goRun q j) (knOf [] (goC q j).cs)) (varsT 70 (fun _ => true) (only (goRun q j))))
noncomputable def preCk (q : Shp) : Bool := lAll (fun j => and (nextCk q j) (goCk q j)) (upTo q.2.2)
end Go.Sx
