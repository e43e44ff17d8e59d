/- EnW -/
import Derived.Test.YtfbongdjicmegaaDoorEnT
import Derived.Test.YtfbongdjicmegaaDoorEnFi
namespace Go.Sx
open Go.RowKit Go.Proofs
set_option maxRecDepth 100000
noncomputable def leV (a b:IE):BE:=.cmp .leq a b
noncomputable def inV (j hi:Nat):List BE:=[leV (.lit 0) (.var j),leV (.var j) (.var (j + 1)),leV (.var (j + 1)) (.lit hi)]
noncomputable def bookC:List BE :=
  [leV (.lit 1) (.var 4),leV (.var 4) (.lit 99),leV (.lit 1) (.var 5),leV (.var 5) (.lit 99),leV (.lit 0) (.var 0),leV (.var 0) (.var 1),leV (.var 1) (.var 4),leV (.lit 0) (.var 2),leV (.var 2) (.var 3),leV (.var 3) (.var 5),
   leV (.lit 1) (.var 6),leV (.var 6) (.lit 20),leV (.lit 1) (.var 7),leV (.var 7) (.lit 20),leV (.lit 0) (.var 20),leV (.var 20) (.var 5),leV (.lit 0) (.var 21),leV (.var 21) (.lit 60)] ++
  (inV 8 3 ++ inV 10 3 ++ inV 12 3 ++ inV 14 3 ++ inV 16 60 ++ inV 18 60 ++ [leV (.var 18) (.var 16),leV (.var 19) (.var 17)])
noncomputable def partV (b:Nat):List BE:=[leV (.lit 1) (.var b),leV (.var b) (.var (b + 1)),leV (.var (b + 1)) (.lit 60),leV (.lit 0) (.var (b + 3)),leV (.var (b + 3)) (.lit 5)]
noncomputable def partsV:Nat→Nat→List BE
  | 0,_=>[]
  | n + 1,b=>partV b ++ partsV n (b + 4)
noncomputable def csV (m:Nat):List BE:=bookC ++ partsV m 30
noncomputable def glO:AObj:=.cells [li 1,li 99,li 1,li 99,li 1,li 20,li 1,li 20,li 0,li 60,li 1,li 5] 0 false false
noncomputable def vB (m:Nat):List (Nat × AObj):=[(0,glO),(1001,.cells (bf m 30) 0 false false)]
noncomputable def bookA (m:Nat):List AV:=[.agg (eG (.sliceX 1001 4 0 m))]
noncomputable def runBk (f m:Nat):T (AV × Heap):=(b7 tb0 60 false f (bookA m) (ah 2000 (vB m))).bind fun r=>bV 2000 (vB m) (ah 2000 (vB m)) [] r
noncomputable def ckBk (f m:Nat) (v:AV):Bool:=and (ba 2000 (vB m)) (allK (fun _=>isR v 2000 (vB m)) (runBk f m) (knOf [] (csV m)))
end Go.Sx
namespace Go.Sx
open Go.RowKit Go.Proofs
set_option maxRecDepth 100000
noncomputable def frontL:List AV→List AV→Bool
  | [],_=>true
  | _ :: _,[]=>false
  | a :: l,b :: k=>and (eqAV a b) (frontL l k)
theorem frontL_ok:∀ {l k:List AV},frontL l k=true→∃ r,k=l ++ r
  | [],k,_=>⟨k,rfl⟩
  | _ :: _,[],h=>by cases h
  | a :: l,b :: k,h=>by
    simp only [frontL,Bool.and_eq_true] at h
    obtain ⟨r,hr⟩:=frontL_ok h.2
    exact ⟨r,by rw [dZ _ _ h.1,hr]; rfl⟩
noncomputable def cellsOf (o:Option AObj):Option (List AV):=match o with
  | some (.cells cs _ _ _)=>some cs
  | _=>none
noncomputable def fe (l:List AV) (o:Option AObj):Bool:=match cellsOf o with
  | some cs=>frontL l cs
  | none=>false
theorem bH {l:List AV} {o:Option AObj} (h:fe l o=true):∃ x,o=some x∧Less (.cells l 0 false false) x:=by
  unfold fe cellsOf at h
  cases o with
  | none=>cases h
  | some x =>
    cases x <;> try cases h
    rename_i cs el own ext
    obtain ⟨r,rfl⟩:=frontL_ok (l:=l) (k:=cs) h
    exact ⟨_,rfl,.cut l r el own ext⟩
noncomputable def vC (l:List (Nat × List AV)):List (Nat × AObj):=l.map fun g=>(g.1,.cells g.2 0 false false)
noncomputable def frontGo (args0:List AV) (l:List (Nat × List AV)) (t:T (AV × Heap)) (args:List AV) (h:Heap):Option (T (AV × Heap)) :=
  cond (and (dg args args0) (and (bz (fun g:Nat × List AV=>fe g.2 (h.get g.1)) l) (Nat.ble 2000 h.next))) (some (t.bind fun r=>bV 2000 (vC l) h (nwP r) r)) none
theorem frontGo_ok {p:Par} {f:FuncId} {args0 args:List AV} {l:List (Nat × List AV)} {t u:T (AV × Heap)} {h:Heap} (hc:CallOk p f args0 (ah 2000 (vC l)) t) (hi:aW 2000 args0=true) (hv:ba 2000 (vC l)=true) (e:frontGo args0 l t args h=some u):CallOk p f args h u:=by
  unfold frontGo at e
  obtain ⟨k,e1⟩:=ak e
  clear e
  simp only [Bool.and_eq_true] at k
  obtain ⟨k1,k2,k3⟩:=k
  obtain rfl:=aZ _ _ k1
  obtain rfl:=Option.some.inj e1
  refine hc.frame (n:=2000) (l:=vC l) (by omega) hi hv (fun g hg=>?_) (aD.1 k3) nwP
  obtain ⟨g0,hg0,rfl⟩:=List.mem_map.1 hg
  exact bH (av k2 g0 hg0)
noncomputable def lS (m:Nat):List (Nat × List AV):=[(1001,bf m 30)]
noncomputable def lB (m:Nat):List (Nat × List AV):=[(0,[li 1,li 99,li 1,li 99,li 1,li 20,li 1,li 20,li 0,li 60,li 1,li 5]),(1001,bf m 30)]
noncomputable def soGo (L:Nat) (args:List AV) (h:Heap):Option (T (AV × Heap)):=frontGo (bookA L) (lB L) (.ret (.bool (.lit true),ah 2000 (vC (lB L)))) args h
end Go.Sx
