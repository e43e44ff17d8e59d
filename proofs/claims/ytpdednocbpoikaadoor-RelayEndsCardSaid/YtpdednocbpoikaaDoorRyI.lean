/- RyI -/
import Derived.Test.YtpdednocbpoikaaDoorRyV
namespace Go.Sx
open Go.RowKit Go.Proofs
set_option maxRecDepth 100000
noncomputable def filmF (L : Nat) : AV := .agg [.sliceX 1001 6 0 L, vj 0, vj 1, vj 2, vj 3, vj 4]
noncomputable def ltP (L m : Nat) : Bool := Nat.ble (m + 1) (Nat.pow 2 L)
noncomputable def ptrsF : List AV := [.ptr 2013 0, .ptr 2015 0, .ptr 2010 0, .ptr 2016 0]
noncomputable def loopF (L : Nat) (st : LoopState) (x : Ex) : AObj := .loop st x 40 (treeOf [(0, filmF L), (1, .ptr 2000 0), (2, .ptr 2001 0), (3, .ptr 2002 0), (4, .ptr 2004 0), (5, ln 0), (13, tag false), (16, .func (.func 89) [] [.ptr 2010 0, .ptr 2009 0])]) [17] 40017 2011
noncomputable def rwF (r : AV × Heap) : List Nat :=
  match r.2.get 2001 with
  | some (.cells [.sliceX b _ _ _] _ _ _) => [b]
  | _ => []
noncomputable def consF : Cons where
  b := 2003
  arr := 2014
  n := 2017
  ptrs := ptrsF
  pre L := [(1001, rowsA L), (2001, .cells [.nilslice] 29 true false), (2002, .cells [ln 0] 34 true false), (2003, .umap (mU false)), (2010, ro [.func (.func 79) [filmK 2003 L] []]), (2012, loopF L .ready .norm), (2013, ro [.yieldF 2012])]
  suf _ := [(2015, ro [.slice 2014 0 6 6]), (2016, ro [.func (.func 90) [] ptrsF])]
  fnd := some fun L => [(1001, rowsA L), (2001, .cells [.sliceX 2017 1 0 L] 29 true false), (2002, .cells [ln 0] 34 true false), (2003, .umap (mU false)), (2010, ro [.func (.func 79) [filmK 2003 L] []]), (2012, loopF L .done .ret), (2013, ro [.yieldF 2012]), (2015, ro [.slice 2014 0 6 6]), (2016, ro [.func (.func 90) [] ptrsF])]
  new := some 2017
  fn := 2018
  size L := L
  dom := ltP
  rw := rwF
end Go.Sx
