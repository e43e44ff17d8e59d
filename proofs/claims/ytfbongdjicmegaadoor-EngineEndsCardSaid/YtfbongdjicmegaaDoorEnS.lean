/- EnS -/
import Derived.Test.YtfbongdjicmegaaDoorTabFn
import Derived.Test.YtfbongdjicmegaaDoorSxPres
import Derived.Test.YtfbongdjicmegaaDoorSxTree
namespace Go.Sx
open Go.RowKit Go.Proofs
set_option maxRecDepth 100000
noncomputable def vi (n:Nat):AV:=.int .i64 (.var n)
noncomputable def viUp:Nat→Nat→List AV
  | 0,_=>[]
  | n + 1,i=>vi i :: viUp n (i + 1)
noncomputable def dV (W:Nat):Nat→Nat→Nat→List AV
  | 0,_,_=>[]
  | n + 1,b,k=>vi b :: vi (b + 1) :: .bool (.var (b + 2)) :: (match k with
    | 0=>li (Int.ofNat W)
    | _=>vi (b + 3)) :: dV W n (b + 4) (match k with
    | 0=>99
    | j + 1=>j)
noncomputable def storeV (r:Nat):List AV:=cond (Nat.beq r 0) [vi 0,vi 1,vi 4,vi 6,vi 8,vi 9,vi 10,vi 11] [vi 2,vi 3,vi 5,vi 7,vi 12,vi 13,vi 14,vi 15]
noncomputable def eG (s:AV):List AV:=cC (viUp 22 0) [s]
noncomputable def gD (s:AV):List AV:=cC (eG s) (cC (storeV 0) (storeV 1))
noncomputable def fnA (f:Nat):AV:=.func (.func f) [] []
noncomputable def endV:List AV:=[fnA 65,fnA 66]
noncomputable def parS (q:Bool) (m:Nat):AV:=cond q (.sliceX 1001 4 0 m) (.slice 1001 0 m m)
noncomputable def lookF:AV:=.func (.func 67) [] [.ptr 2006 0,.ptr 2000 0,.ptr 2003 0,.ptr 2007 0]
def mE (live:Bool) (ks:List (BE × IE × IE × IE)):MU:=⟨9499,[(true,9400),(false,9401),(false,9402),(false,9403),(false,9404),(false,9405),(false,9406),(false,9407),(false,9408)],true,3,live,⟨9498,ks,[9400,9404,9405,9406]⟩⟩
noncomputable def vE (q:Bool) (m i W:Nat) (live:Bool) (ks:List (BE × IE × IE × IE)):List (Nat × AObj) :=
  [(1001,.cells (dV W m 30 i) 0 false false),(2000,.cells (gD (parS q m)) 0 false false),(2003,.cells endV 0 false false),(2005,.umap (mE live ks)),(2006,.cells [.map 2005] 0 false false),(2007,.cells [lookF] 0 false false)]
noncomputable def apE (f:Nat) (a b c:IE):AV:=.int .i64 (.app f a b c)
noncomputable def lt (n:Nat):IE:=.lit (Int.ofNat n)
noncomputable def stepE (i:Nat) (a b:IE) (cw ww:Nat):List AV:=[li (Int.ofNat cw),li (Int.ofNat ww),li (Int.ofNat (i + 1)),apE 9300 (lt i) a (lt cw),apE 9301 (lt i) b (lt ww),apE 9302 (lt i) a (lt cw),apE 9303 (lt i) b (lt ww)]
noncomputable def pointE (i:Nat) (a b:IE):AV:=.agg [li (Int.ofNat i),.int .i64 a,.int .i64 b]
noncomputable def bh (i:Nat) (a b:IE):List AV:=[pointE i a b,.ptr 2006 0,.ptr 2000 0,.ptr 2003 0,.ptr 2007 0]
noncomputable def outE (p:IE) (a b:IE):AV:=.agg [.bool (.app 9400 p a b),apE 9401 p a b,apE 9402 p a b,apE 9403 p a b,apE 9404 p a b,apE 9405 p a b,apE 9406 p a b,apE 9407 p a b,apE 9408 p a b]
noncomputable def rowP (cw:Nat):Nat→Nat→List (Nat × Nat)
  | 0,_=>[]
  | n + 1,ww=>(cw,ww) :: rowP cw n (ww + 1)
noncomputable def pairsP (W:Nat):Nat→Nat→List (Nat × Nat)
  | 0,_=>[]
  | n + 1,cw=>cC (rowP cw (W + 1 - cw) 0) (pairsP W n (cw + 1))
noncomputable def pairs (W:Nat):List (Nat × Nat):=pairsP W (W + 1) 0
noncomputable def entOrc1 (e:Ent) (args:List AV) (h:Heap):Option (T (AV × Heap)) :=
  match e.meet args h with
  | some (.ret r)=>some (.ret r)
  | _=>none
noncomputable def stepArgs (q:Bool) (m i cw ww:Nat):List AV:=[.agg (gD (parS q m)),pointE i (.var 500) (.var 501),.agg [li (Int.ofNat cw),li (Int.ofNat ww)],.agg endV]
noncomputable def rowO (m i W:Nat):AObj:=.cells (dV W m 30 i) 0 false false
noncomputable def stepGo (q:Bool) (m i W cw ww:Nat) (args:List AV) (h:Heap):Option (T (AV × Heap)) :=
  cond (and (dg args (stepArgs q m i cw ww)) (and (lessO (rowO m i W) (h.get 1001)) (Nat.ble 2000 h.next)))
    (some ((T.ret (.agg (stepE i (.var 500) (.var 501) cw ww),ah 2000 [(1001,rowO m i W)])).bind fun r=>bV 2000 [(1001,rowO m i W)] h [] r)) none
noncomputable def stepOrc (q:Bool) (m i W:Nat) (args:List AV) (h:Heap):Option (T (AV × Heap)) :=
  match args with
  | [_,_,.agg [.int _ (.lit (.ofNat cw)),.int _ (.lit (.ofNat ww))],_]=>stepGo q m i W cw ww args h
  | _=>none
noncomputable def orcE (q:Bool) (m i W:Nat) (f:FuncId) (args:List AV) (h:Heap):Option (T (AV × Heap)):=cond (Nat.beq f 71) (stepOrc q m i W args h) none
noncomputable def tbE (q:Bool) (m i W:Nat):hI:=⟨Sx.Tryd.ft.get,aA Sx.Tryd.rt,2000,orcE q m i W⟩
end Go.Sx
namespace Go.Sx
open Go.RowKit Go.Proofs
set_option maxRecDepth 100000
section
variable {H:Type} {enc:TypeId × Value→H} {W:World}
theorem add_none (b o k:Nat):(Addr.mk b o none).add k=⟨b,o + k,none⟩:=by
  unfold Addr.add
  split
  · rename_i h; subst h; rfl
  · rfl
theorem slice_cells {t e m : Nat} (hu : Tryd.prog.underlying t = some (.slice e)) (hm : Tryd.prog.cellsOf e = m) (hm0 : 0 < m) {fuel b o len cap : Nat} {x0 : DataW H × List MemPlace}
    (f0:DataW.trod enc Tryd.prog W 0 (fun _=>true) true fuel t [Value.slice (some ⟨b,o,none⟩) len cap]=some x0) (hpos:0 < len) :
    ∃ cells el fz,W.heap[b]?=some (.cells cells el fz)∧∀ i,i < len→∃ ci n y,DataW.trod enc Tryd.prog W 0 (fun _=>true) true n e ci=some y∧ci.length=m∧∀ q,q < m→cells[o + i * m + q]?=ci[q]?:=by
  rcases DataW.trod_slice hu f0 with ⟨h,_⟩ | ⟨a,len',cap',elems,rest,n,_,he,_,_,_,_,hel,hat,_⟩
  · simp at h
  · simp at he
    obtain ⟨rfl,rfl,rfl⟩:=he
    have key:∀ i,i < len→∃ ci n y,DataW.trod enc Tryd.prog W 0 (fun _=>true) true n e ci=some y∧ci.length=m∧∀ q,q < m→W.cell? ⟨b,o + i * m + q,none⟩=ci[q]?:=fun i hi=>by
      have h1:=hat i hi
      rw [hm,add_none] at h1
      have hey:∃ y,elems[i]?=some y:=⟨elems[i]'(by omega),List.getElem?_eq_getElem _⟩
      obtain ⟨y,hy⟩:=hey
      rw [hy,Option.bind_eq_some_iff] at h1
      obtain ⟨ci,h2,h3⟩:=h1
      obtain ⟨_,h5,h6⟩:=World.cells?_some h2
      exact ⟨ci,n,y,h3,h5,fun q hq=>by have:=h6 q hq; rw [add_none] at this; exact this⟩
    obtain ⟨ci,_,_,_,hl,h0⟩:=key 0 hpos
    have hm1:=h0 0 hm0
    rw [List.getElem?_eq_getElem (by omega)] at hm1
    unfold World.cell? at hm1
    split at hm1
    · rename_i cells el fz hh
      refine ⟨cells,el,fz,hh,fun i hi=>?_⟩
      obtain ⟨ci,n,y,h1,h2,h3⟩:=key i hi
      refine ⟨ci,n,y,h1,h2,fun q hq=>?_⟩
      have h4:=h3 q hq
      unfold World.cell? at h4
      simp only [hh] at h4
      rw [← h4]; simp
    · cases hm1
theorem part_cells {fuel : Nat} {ci : List Value} {y : DataW H × List MemPlace} (h : DataW.trod enc Tryd.prog W 0 (fun _ => true) true fuel 33 ci = some y) :
    ∃ (a b:Int) (l:Bool) (w:Int),ci=[.int .i64 a,.int .i64 b,.bool l,.int .i64 w]:=by
  obtain ⟨xs,n,rfl,_,hcl,hxl,hxs⟩:=DataW.trod_struct Tryd.underlying33 h
  have c42:Tryd.prog.cellsOf 33=4:=by kernel_rfl
  have c23:Tryd.prog.cellsOf 23=2:=by kernel_rfl
  have c4:Tryd.prog.cellsOf 4=1:=by kernel_rfl
  have c3:Tryd.prog.cellsOf 3=1:=by kernel_rfl
  rw [c42] at hcl
  have hx:∀ i,i < 3→∃ x,xs[i]?=some x:=fun i hi=>⟨xs[i]'(by rw [hxl]; exact hi),List.getElem?_eq_getElem _⟩
  match ci,hcl with
  | [v0,v1,v2,v3],_ =>
    obtain ⟨x0,e0⟩:=hx 0 (by omega)
    obtain ⟨x1,e1⟩:=hx 1 (by omega)
    obtain ⟨x2,e2⟩:=hx 2 (by omega)
    have f0:=hxs 0 _ rfl
    have f1:=hxs 1 _ rfl
    have f2:=hxs 2 _ rfl
    rw [e0] at f0; rw [e1] at f1; rw [e2] at f2
    have f0:DataW.trod enc Tryd.prog W 0 (fun _=>true) true n 23 (List.take (Tryd.prog.cellsOf 23) [v0,v1,v2,v3])=some x0:=f0
    have f1:DataW.trod enc Tryd.prog W 0 (fun _=>true) true n 4 (List.take (Tryd.prog.cellsOf 4) [v2,v3])=some x1:=f1
    have f2:DataW.trod enc Tryd.prog W 0 (fun _=>true) true n 3 (List.take (Tryd.prog.cellsOf 3) [v3])=some x2:=f2
    rw [c23] at f0; rw [c4] at f1; rw [c3] at f2
    obtain ⟨_,_,g0⟩:=flat_trod 5 23 n [v0,v1] x0 (by kernel_rfl) f0
    obtain ⟨l,g1,_⟩:=DataW.trod_bool Tryd.underlying4 f1
    obtain ⟨w,g2,_⟩:=DataW.trod_int Tryd.underlying3 f2
    obtain ⟨a,rfl⟩:=g0 v0 (by simp)
    obtain ⟨b,rfl⟩:=g0 v1 (by simp)
    simp at g1 g2
    obtain rfl:=g1
    obtain rfl:=g2
    exact ⟨a,b,l,w,rfl⟩
def partAt (z:Nat→Int) (zb:Nat→Bool) (q:Nat):Value:=if q % 4=2 then .bool (zb q) else .int .i64 (z q)
def PartsIn (W:World) (s:Value):Prop :=
  s=.slice none 0 0 ∨ ∃ (b o len cap:Nat) (z:Nat→Int) (zb:Nat→Bool),s=.slice (some ⟨b,o,none⟩) len cap∧len≤cap ∧
    (0 < len→∃ cells el fz,W.heap[b]?=some (.cells cells el fz)∧∀ q,q < 4 * len→cells[o + q]?=some (partAt z zb q))
def intOf (v:Option Value):Int:=match v with
  | some (.int _ n)=>n
  | _=>0
def boolOf (v:Option Value):Bool:=match v with
  | some (.bool b)=>b
  | _=>false
theorem parts_open {fuel : Nat} {s : Value} {x0 : DataW H × List MemPlace} (hs : s = .slice none 0 0 ∨ ∃ b o len cap, s = .slice (some ⟨b, o, none⟩) len cap ∧ len ≤ cap)
    (f0:DataW.trod enc Tryd.prog W 0 (fun _=>true) true fuel 25 [s]=some x0):PartsIn W s:=by
  rcases hs with rfl | ⟨b,o,len,cap,rfl,hlc⟩
  · exact .inl rfl
  · by_cases hpos:0 < len
    · obtain ⟨cells,el,fz,hh,hi⟩:=slice_cells Tryd.underlying25 (m:=4) (by kernel_rfl) (by omega) f0 hpos
      refine .inr ⟨b,o,len,cap,fun q=>intOf cells[o + q]?,fun q=>boolOf cells[o + q]?,rfl,hlc,fun _=>⟨cells,el,fz,hh,fun q hq=>?_⟩⟩
      obtain ⟨ci,n,y,h1,h2,h3⟩:=hi (q / 4) (by omega)
      obtain ⟨a,b',l,w,rfl⟩:=part_cells h1
      have h4:=h3 (q % 4) (Nat.mod_lt _ (by omega))
      rw [show o + q / 4 * 4 + q % 4=o + q by omega] at h4
      unfold partAt
      have hm:q % 4=0 ∨ q % 4=1 ∨ q % 4=2 ∨ q % 4=3:=by omega
      rcases hm with hm | hm | hm | hm <;> rw [hm] at h4 <;> simp [h4,hm,intOf,boolOf]
    · exact .inr ⟨b,o,len,cap,fun _=>0,fun _=>false,rfl,hlc,fun h=>(hpos h).elim⟩
theorem book_open {base : Nat} {v : Value} {d : DataW H} {p : List MemPlace} (h0 : DataW.Trod enc Tryd.prog W 0 (fun _ => true) true 27 v d p) (hv : Value.okWide Tryd.prog W .any base 27 v) :
    ∃ (nb:Nat→Int) (s:Value),v=.agg ((List.range 22).map (fun i=>Value.int .i64 (nb i)) ++ [s]).toArray∧PartsIn W s:=by
  obtain ⟨cs,rfl,hl,hc⟩:=okRow (P:=Tryd.prog) (ts:=[3,3,3,3,3,3,3,3,3,3,3,3,3,3,3,3,3,3,3,3,3,3,25]) (by rw [Tryd.underlying27]) (by kernel_rfl) (by kernel_rfl) hv
  have hl:cs.length=23:=hl
  have hn:∀ i,i < 22→∃ n,cs[i]?=some (.int .i64 n):=fun i hi=>by
    have h1:cs[i]?=some (cs[i]'(by omega)):=List.getElem?_eq_getElem _
    have h2:([3,3,3,3,3,3,3,3,3,3,3,3,3,3,3,3,3,3,3,3,3,3,25]:List TypeId)[i]?=some 3:=by
      have:∀ i,i < 22→([3,3,3,3,3,3,3,3,3,3,3,3,3,3,3,3,3,3,3,3,3,3,25]:List TypeId)[i]?=some 3:=by decide
      exact this i hi
    obtain ⟨n,hn⟩:=okCell_int Tryd.underlying3 (hc i 3 _ h2 h1)
    exact ⟨n,by rw [h1,hn]⟩
  have hs1:cs[22]?=some (cs[22]'(by omega)):=List.getElem?_eq_getElem _
  generalize cs[22]'(by omega)=s at hs1
  refine ⟨fun i=>intOf cs[i]?,s,?_,?_⟩
  · congr 2
    apply List.ext_getElem?
    intro i
    by_cases hi:i < 22
    · obtain ⟨n,hn⟩:=hn i hi
      rw [hn,List.getElem?_append_left (by simpa using hi),List.getElem?_map,List.getElem?_range hi]
      simp [hn,intOf]
    · by_cases h22:i=22
      · subst h22; rw [hs1]; simp
      · rw [List.getElem?_eq_none (by omega),List.getElem?_eq_none (by simp; omega)]
  · obtain ⟨fuel,ht⟩:=h0
    obtain ⟨xs,n,rfl,_,hcl,hxl,hxs⟩:=DataW.trod_struct Tryd.underlying27 ht
    have f0:=hxs 12 _ rfl
    have hx0:∃ x0,xs[12]?=some x0:=⟨xs[12]'(by rw [hxl]; decide),List.getElem?_eq_getElem _⟩
    obtain ⟨x0,hx0⟩:=hx0
    rw [hx0] at f0
    have c25:Tryd.prog.cellsOf 25=1:=by kernel_rfl
    have f1:DataW.trod enc Tryd.prog W 0 (fun _=>true) true n 25 (List.take (Tryd.prog.cellsOf 25) (cs.drop 22))=some x0:=f0
    rw [c25] at f1
    have e:List.take 1 (cs.drop 22)=[s]:=by
      rw [List.drop_eq_getElem_cons (by omega)]
      have:cs[22]'(by omega)=s:=by
        have:=List.getElem?_eq_getElem (l:=cs) (i:=22) (by omega)
        rw [hs1] at this; exact (Option.some.inj this).symm
      simp [this]
    rw [e] at f1
    exact parts_open (okCell_slice Tryd.underlying25 (hc 22 25 s rfl hs1)) f1
end
end Go.Sx
namespace Go.Sx
open Go.RowKit Go.Proofs
set_option maxRecDepth 100000
noncomputable def triedA (i:Nat) (k:Nat):List AV:=match k with
  | 0=>[li (Int.ofNat i),vi 500,vi 501]
  | j + 1=>[vi (620 + 20 * j),vi (621 + 20 * j),vi (622 + 20 * j)]
noncomputable def bestA (k:Nat):List AV:=match k with
  | 0=>[.bool (.lit false),li 0,li 0,li 0,li 0,li 0,li 0,li 0,li 0]
  | j + 1=>[.bool (.var (623 + 20 * j)),vi (624 + 20 * j),vi (625 + 20 * j),vi (626 + 20 * j),vi (627 + 20 * j),vi (628 + 20 * j),vi (629 + 20 * j),vi (630 + 20 * j),vi (631 + 20 * j)]
noncomputable def gG (k:Nat):List (BE × IE × IE × IE):=match k with
  | 0=>[]
  | j + 1=>[(.var (623 + 20 * j),.var (627 + 20 * j),.var (628 + 20 * j),.var (629 + 20 * j))]
noncomputable def isZ (k:Nat):Bool:=match k with
  | 0=>true
  | _=>false
noncomputable def zeroO:AObj:=.cells [.bool (.lit false),li 0,li 0,li 0,li 0,li 0,li 0,li 0,li 0] 107 true false
noncomputable def pCells (i:Nat):List AV:=[li (Int.ofNat i),vi 500,vi 501]
noncomputable def loopTm (i:Nat):PT AV :=
  PT.node (some (.agg (pCells i)))
    (PT.node (some (.ptr 2006 0))
      (PT.node (some (.ptr 2003 0))
        (PT.node (some (.ptr 2010 0)) PT.nil (PT.node none (PT.node (some (.func (.func 73) [] [.ptr 2013 0,.ptr 2014 0,.ptr 2015 0])) PT.nil PT.nil) PT.nil))
        PT.nil)
      (PT.node (some (.ptr 2008 0)) (PT.node (some (.ptr 2011 0)) PT.nil PT.nil) PT.nil))
    (PT.node (some (.ptr 2000 0))
      (PT.node (some (.ptr 2007 0))
        (PT.node (some (.bool (.lit false))) PT.nil PT.nil)
        (PT.node none (PT.node (some (.bool (.lit false))) PT.nil PT.nil) (PT.node (some (.bool (.lit false))) PT.nil PT.nil)))
      (PT.node (some (.ptr 2009 0)) (PT.node (some (.ptr 2012 0)) PT.nil PT.nil) PT.nil))
noncomputable def vY (q:Bool) (m i W:Nat) (live:Bool) (tr be:List AV) (ks:List (BE × IE × IE × IE)):List (Nat × AObj) :=
  cC (vE q m i W live ks) [(2008,.cells (pCells i) 102 true false),(2009,zeroO),(2010,zeroO),(2011,.cells be 107 true false),(2012,.cells tr 102 true false),(2013,.cells (gD (parS q m)) 69 true false),(2014,.cells (pCells i) 102 true false),(2015,.cells endV 95 true false),(2016,.defd true),(2017,.loop .ready .norm 67 (loopTm i) [40] 67040 2016)]
noncomputable def hK (q:Bool) (m i W k:Nat):Heap:=ah 2018 (vY q m i W (isZ k) (triedA i k) (bestA k) (gG k))
noncomputable def x0 (i cw:Nat):IE:=.app 9300 (lt i) (.var 500) (lt cw)
noncomputable def x1 (i ww:Nat):IE:=.app 9301 (lt i) (.var 501) (lt ww)
noncomputable def xArg (i cw ww:Nat):AV:=.agg (stepE i (.var 500) (.var 501) cw ww)
noncomputable def vO (q:Bool) (m i W:Nat):List (Nat × AObj):=[(1001,.cells (dV W m 30 i) 0 false false),(2000,.cells (gD (parS q m)) 0 false false),(2003,.cells endV 0 false false),(2006,.cells [.map 2005] 0 false false),(2007,.cells [lookF] 0 false false)]
noncomputable def mapK (h:Heap):Option (Bool × List (BE × IE × IE × IE)):=match h.get 2005 with
  | some (.umap m)=>some (m.live,m.ps.keys)
  | _=>none
noncomputable def lookGo (q:Bool) (m i W:Nat) (a b:IE) (args:List AV) (h:Heap):Option (T (AV × Heap)) :=
  match mapK h with
  | some (lv, ks) => cond (and (dg args (bh (i + 1) a b)) (and (isO (h.get 2005) (.umap (mE lv ks))) (and (bz (fun g : Nat × AObj => lessO g.2 (h.get g.1)) (vO q m i W)) (Nat.ble 2008 h.next))))
      (some ((T.ret (outE (lt (i + 1)) a b,ah 2008 (vE q m i W false ((.lit true,lt (i + 1),a,b) :: ks)))).bind fun r=>bV 2008 (vE q m i W lv ks) h [] r)) none
  | none=>none
noncomputable def lookOrc (q:Bool) (m i W:Nat) (args:List AV) (h:Heap):Option (T (AV × Heap)) :=
  match args with
  | .agg [_,.int _ a,.int _ b] :: _=>lookGo q m i W a b args h
  | _=>none
noncomputable def x2 (i cw:Nat):IE:=.app 9302 (lt i) (.var 500) (lt cw)
noncomputable def x3 (i ww:Nat):IE:=.app 9303 (lt i) (.var 501) (lt ww)
noncomputable def failB (i cw ww:Nat):BE :=
  .not (.and (.and (.cmp .eql (x2 i cw) (.lit 0)) (.cmp .eql (x3 i ww) (.lit 0))) (.not (.and (.var (32 + 4 * i)) (.not (.and (.not (.and (.cmp .lss (x1 i ww) (.var 20)) (.cmp .lss (.var 18) (.var 21)))) (.not (.and (.not (.cmp .lss (x1 i ww) (.var 20))) (.cmp .lss (.var 16) (.var 21)))))))))
noncomputable def failEnt (q:Bool) (m i W cw ww:Nat):Ent:=⟨57,[.agg (gD (parS q m)),xArg i cw ww],2000,[(1001,.cells (dV W m 30 i))],.bool (failB i cw ww),[],[]⟩
noncomputable def orcB (q:Bool) (m i W cw ww:Nat) (f:FuncId) (args:List AV) (h:Heap):Option (T (AV × Heap)):=cond (Nat.beq f 67) (lookOrc q m i W args h) (cond (Nat.beq f 57) (entOrc1 (failEnt q m i W cw ww) args h) none)
noncomputable def tbB (q:Bool) (m i W cw ww:Nat):hI:=⟨Sx.Tryd.ft.get,aA Sx.Tryd.rt,2000,orcB q m i W cw ww⟩
noncomputable def runB (q:Bool) (m i W k cw ww:Nat):T (AV × Heap):=b7 (tbB q m i W cw ww) 40 true 2017 [xArg i cw ww] (hK q m i W k)
noncomputable def runG (q:Bool) (m i W k cw ww:Nat):T (AV × Heap):=(runB q m i W k cw ww).bind fun r=>bV 2018 (vY q m i W (isZ k) (triedA i k) (bestA k) (gG k)) (hK q m i W k) [] r
noncomputable def lookKey (i cw ww:Nat):BE × IE × IE × IE:=(.lit true,lt (i + 1),x0 i cw,x1 i ww)
noncomputable def kindY (i k cw ww:Nat) (h:Heap):Nat:=cond (isO (h.get 2005) (.umap (mE (isZ k) (gG k)))) 0 (cond (isO (h.get 2005) (.umap (mE false (lookKey i cw ww :: gG k)))) 1 9)
noncomputable def cellsAt (h:Heap) (b ty:Nat):AV:=match h.get b with
  | some (.cells cs t true false)=>cond (Nat.beq t ty) (.agg cs) (.bad)
  | _=>.bad
noncomputable def cy (q:Bool) (m i W:Nat):List (Nat × AObj):=cC [(1001,.cells (dV W m 30 i) 0 false false),(2000,.cells (gD (parS q m)) 0 false false),(2003,.cells endV 0 false false),(2006,.cells [.map 2005] 0 false false),(2007,.cells [lookF] 0 false false)] [(2008,.cells (pCells i) 102 true false),(2009,zeroO),(2010,zeroO),(2013,.cells (gD (parS q m)) 69 true false),(2014,.cells (pCells i) 102 true false),(2015,.cells endV 95 true false),(2016,.defd true),(2017,.loop .ready .norm 67 (loopTm i) [40] 67040 2016)]
noncomputable def encY (q:Bool) (m i W k cw ww:Nat) (r:AV × Heap):AV :=
  .tup [r.1,cellsAt r.2 2012 102,cellsAt r.2 2011 107,li (Int.ofNat (kindY i k cw ww r.2)),.bool (.lit (and (bz (fun g:Nat × AObj=>isO (r.2.get g.1) g.2) (cy q m i W)) (Nat.beq r.2.next 2018)))]
end Go.Sx
namespace Go.Sx
open Go.RowKit Go.Proofs
set_option maxRecDepth 100000
noncomputable def lvY (tr be:List AV) (kd:Nat):T AV:=.ret (.tup [.bool (.lit true),.agg tr,.agg be,li (Int.ofNat kd),.bool (.lit true)])
noncomputable def newT (i cw ww:Nat):List AV:=[li (Int.ofNat (i + 1)),.int .i64 (x0 i cw),.int .i64 (x1 i ww)]
noncomputable def manyE (i cw ww:Nat):IE:=.bin .add .i64 (lt (cw + ww)) (.app 9401 (lt (i + 1)) (x0 i cw) (x1 i ww))
noncomputable def newB (i cw ww:Nat):List AV:=[.bool (.lit true),.int .i64 (manyE i cw ww),li (Int.ofNat cw),li (Int.ofNat ww),li (Int.ofNat (i + 1)),.int .i64 (x0 i cw),.int .i64 (x1 i ww),.int .i64 (x2 i cw),.int .i64 (x3 i ww)]
noncomputable def keepL (i k:Nat):T AV:=lvY (triedA i k) (bestA k) 0
noncomputable def triL (i k cw ww:Nat):T AV:=lvY (newT i cw ww) (bestA k) 1
noncomputable def repL (i cw ww:Nat):T AV:=lvY (newT i cw ww) (newB i cw ww) 1
noncomputable def goL (i k cw ww:Nat):T AV :=
  .br (.app 9400 (lt (i + 1)) (x0 i cw) (x1 i ww)) (match k with
    | 0=>repL i cw ww
    | j + 1=>.br (.var (623 + 20 * j)) (.br (.cmp .leq (.var (624 + 20 * j)) (manyE i cw ww)) (triL i (j + 1) cw ww) (repL i cw ww)) (repL i cw ww)) (triL i k cw ww)
noncomputable def samL (i k cw ww:Nat):T AV:=match k with
  | 0=>goL i 0 cw ww
  | j + 1=>.br (.and (.cmp .eql (lt (i + 1)) (.var (620 + 20 * j))) (.and (.cmp .eql (x0 i cw) (.var (621 + 20 * j))) (.and (.cmp .eql (x1 i ww) (.var (622 + 20 * j))) (.lit true)))) (keepL i (j + 1)) (goL i (j + 1) cw ww)
noncomputable def roundT (i k cw ww:Nat):T AV:=.br (failB i cw ww) (keepL i k) (samL i k cw ww)
noncomputable def tb0:hI:=⟨Sx.Tryd.ft.get,aA Sx.Tryd.rt,2000,fun _ _ _=>none⟩
noncomputable def runM (q:Bool) (m i W cw ww:Nat):T (AV × Heap):=b7 tb0 60 false 57 (failEnt q m i W cw ww).args (fI 2000 [(1001,.cells (dV W m 30 i))])
noncomputable def isB (b:Bool):T AV:=.ret (.bool (.lit b))
noncomputable def mayT (i cw ww:Nat):T AV :=
  .br (.not (.and (.cmp .eql (x2 i cw) (.lit 0)) (.and (.cmp .eql (x3 i ww) (.lit 0)) (.lit true)))) (isB true)
    (.br (.var (32 + 4 * i)) (.br (.cmp .lss (x1 i ww) (.var 20)) (.br (.cmp .lss (.var 18) (.var 21)) (isB true) (isB false)) (.br (.cmp .lss (.var 16) (.var 21)) (isB true) (isB false))) (isB false))
noncomputable def ckM (q:Bool) (m i W cw ww:Nat):Bool:=and (and (viewUp 0 [(1001,.cells (dV W m 30 i))]) (dS 2000 [(1001,.cells (dV W m 30 i))] [])) (eqTF ((runM q m i W cw ww).bind fun r=>.ret r.1) (mayT i cw ww))
noncomputable def ckY (q:Bool) (m i W k cw ww:Nat):Bool:=and (ckM q m i W cw ww) <| and (ba 2018 (vY q m i W (isZ k) (triedA i k) (bestA k) (gG k))) <| eqTF ((runG q m i W k cw ww).bind fun r=>.ret (encY q m i W k cw ww r)) (roundT i k cw ww)
noncomputable def ckYs (q:Bool) (m i W:Nat):Nat→List (Nat × Nat)→Bool
  | _,[]=>true
  | k,p :: l=>and (ckY q m i W k p.1 p.2) (ckYs q m i W (k + 1) l)
end Go.Sx
namespace Go.Sx
open Go.RowKit Go.Proofs
set_option maxRecDepth 100000
noncomputable def pT:Par:=⟨Tryd.prog,bQ Tryd.rows,fun _ _=>True⟩
theorem tabs0:b8 pT Sx.Tryd.tt.get tb0:=Tryd.tab (fun _ _ _=>none) (fun _ _ _ _ h=>by cases h) 2000
noncomputable def gl:List (Nat × List AV):=[(0,[li 1,li 99,li 1,li 99,li 1,li 20,li 1,li 20,li 0,li 60,li 1,li 5])]
noncomputable def cl0:List (AV × AV × Nat):=[((.agg [(li 4),(li 0),(li 10)]),(.agg [(.bool (.lit true)),(li 0),(li 0),(li 0),(li 0),(li 0),(li 0),(li 0),(li 0)]),0),((.agg [(li 4),(li 0),(li 20)]),(.agg [(.bool (.lit true)),(li 0),(li 0),(li 0),(li 0),(li 0),(li 0),(li 0),(li 0)]),1),((.agg [(li 4),(li 0),(li 30)]),(.agg [(.bool (.lit true)),(li 0),(li 0),(li 0),(li 0),(li 0),(li 0),(li 0),(li 0)]),2),((.agg [(li 4),(li 6),(li 10)]),(.agg [(.bool (.lit true)),(li 0),(li 0),(li 0),(li 0),(li 0),(li 0),(li 0),(li 0)]),3),((.agg [(li 4),(li 6),(li 20)]),(.agg [(.bool (.lit true)),(li 0),(li 0),(li 0),(li 0),(li 0),(li 0),(li 0),(li 0)]),4),((.agg [(li 4),(li 12),(li 10)]),(.agg [(.bool (.lit true)),(li 0),(li 0),(li 0),(li 0),(li 0),(li 0),(li 0),(li 0)]),5),((.agg [(li 3),(li 4),(li 8)]),(.agg [(.bool (.lit true)),(li 3),(li 2),(li 1),(li 4),(li 0),(li 10),(li 0),(li 0)]),6),((.agg [(li 2),(li 2),(li 12)]),(.agg [(.bool (.lit true)),(li 4),(li 1),(li 0),(li 3),(li 4),(li 8),(li 0),(li 0)]),7),((.agg [(li 1),(li 14),(li 24)]),(.agg [(.bool (.lit true)),(li 6),(li 2),(li 0),(li 2),(li 2),(li 12),(li 0),(li 0)]),8),((.agg [(li 0),(li 20),(li 30)]),(.agg [(.bool (.lit true)),(li 6),(li 0),(li 0),(li 1),(li 14),(li 24),(li 0),(li 0)]),9)]
noncomputable def cl1:List (AV × AV × Nat):=[((.agg [(li 2),(li 2),(li 12)]),(.agg [(.bool (.lit false)),(li 0),(li 0),(li 0),(li 0),(li 0),(li 0),(li 0),(li 0)]),0),((.agg [(li 1),(li 14),(li 24)]),(.agg [(.bool (.lit false)),(li 0),(li 0),(li 0),(li 0),(li 0),(li 0),(li 0),(li 0)]),1),((.agg [(li 0),(li 20),(li 30)]),(.agg [(.bool (.lit false)),(li 0),(li 0),(li 0),(li 0),(li 0),(li 0),(li 0),(li 0)]),2)]
noncomputable def cl2:List AV:=[(li 5),(li 6),(.bool (.lit false)),(li 0),(li 10),(li 12),(.bool (.lit true)),(li 2),(li 3),(li 4),(.bool (.lit false)),(li 1),(li 8),(li 8),(.bool (.lit true)),(li 5)]
end Go.Sx
namespace Go.Sx
open Go.RowKit Go.Proofs
set_option maxRecDepth 100000
structure Out where
  en:Bool
  many:Int
  wc:Int
  ww:Int
  bp:Int
  b0:Int
  b1:Int
  k0:Int
  k1:Int
def Out.zero:Out:=⟨false,0,0,0,0,0,0,0,0⟩
def dt (ρ:Rho) (p a b:Int):Out:=⟨FB ρ.fb 9400 p a b,FI ρ.fi 9401 p a b,FI ρ.fi 9402 p a b,FI ρ.fi 9403 p a b,FI ρ.fi 9404 p a b,FI ρ.fi 9405 p a b,FI ρ.fi 9406 p a b,FI ρ.fi 9407 p a b,FI ρ.fi 9408 p a b⟩
structure Stt where
  t0:Int
  t1:Int
  t2:Int
  o:Out
def cK (ρ:Rho) (i:Nat) (l1:Int):Bool:=ρ.bv (32 + 4 * i) && (if l1 < ρ.iv 20 then decide (ρ.iv 18 < ρ.iv 21) else decide (ρ.iv 16 < ρ.iv 21))
def manyF (cw ww:Nat) (o:Out):Int:=IntKind.i64.wrap (((cw + ww:Nat):Int) + o.many)
def ee (ρ:Rho) (i:Nat) (a b:Int) (cw ww:Nat) (S:Stt):Stt :=
  if FI ρ.fi 9302 i a cw=0∧FI ρ.fi 9303 i b ww=0 then
    if cK ρ i (FI ρ.fi 9301 i b ww)=true then S
    else if (i:Int) + 1=S.t0∧FI ρ.fi 9300 i a cw=S.t1∧FI ρ.fi 9301 i b ww=S.t2 then S
    else if (dt ρ (i + 1) (FI ρ.fi 9300 i a cw) (FI ρ.fi 9301 i b ww)).en=true∧¬ (S.o.en=true∧S.o.many≤manyF cw ww (dt ρ (i + 1) (FI ρ.fi 9300 i a cw) (FI ρ.fi 9301 i b ww))) then
      ⟨i + 1,FI ρ.fi 9300 i a cw,FI ρ.fi 9301 i b ww,⟨true,manyF cw ww (dt ρ (i + 1) (FI ρ.fi 9300 i a cw) (FI ρ.fi 9301 i b ww)),cw,ww,i + 1,FI ρ.fi 9300 i a cw,FI ρ.fi 9301 i b ww,FI ρ.fi 9302 i a cw,FI ρ.fi 9303 i b ww⟩⟩
    else ⟨i + 1,FI ρ.fi 9300 i a cw,FI ρ.fi 9301 i b ww,S.o⟩
  else S
def cr (ρ:Rho) (i:Nat) (k:Nat):Stt:=match k with
  | 0=>⟨i,ρ.iv 500,ρ.iv 501,.zero⟩
  | j + 1=>⟨ρ.iv (620 + 20 * j),ρ.iv (621 + 20 * j),ρ.iv (622 + 20 * j),⟨ρ.bv (623 + 20 * j),ρ.iv (624 + 20 * j),ρ.iv (625 + 20 * j),ρ.iv (626 + 20 * j),ρ.iv (627 + 20 * j),ρ.iv (628 + 20 * j),ρ.iv (629 + 20 * j),ρ.iv (630 + 20 * j),ρ.iv (631 + 20 * j)⟩⟩
theorem tried_same {ρ:Rho} {i j:Nat} {l:List AV} {a0 a1 a2:IE} (hl:l=[.int .i64 a0,.int .i64 a1,.int .i64 a2]) (h0:a0.den ρ=(cr ρ i (j + 1)).t0) (h1:a1.den ρ=(cr ρ i (j + 1)).t1) (h2:a2.den ρ=(cr ρ i (j + 1)).t2):SameL ρ l ρ (triedA i (j + 1)):=by
  subst hl
  exact SameL.cons (SameV.int h0) (SameL.cons (SameV.int h1) (SameL.cons (SameV.int h2) SameL.nil))
theorem best_same {ρ : Rho} {i j : Nat} {l : List AV} {b : BE} {e1 e2 e3 e4 e5 e6 e7 e8 : IE} (hl : l = [.bool b, .int .i64 e1, .int .i64 e2, .int .i64 e3, .int .i64 e4, .int .i64 e5, .int .i64 e6, .int .i64 e7, .int .i64 e8])
    (h:(⟨b.den ρ,e1.den ρ,e2.den ρ,e3.den ρ,e4.den ρ,e5.den ρ,e6.den ρ,e7.den ρ,e8.den ρ⟩:Out)=(cr ρ i (j + 1)).o):SameL ρ l ρ (bestA (j + 1)):=by
  subst hl
  simp only [cr,Out.mk.injEq] at h
  obtain ⟨g0,g1,g2,g3,g4,g5,g6,g7,g8⟩:=h
  exact SameL.cons (SameV.bool g0) (SameL.cons (SameV.int g1) (SameL.cons (SameV.int g2) (SameL.cons (SameV.int g3) (SameL.cons (SameV.int g4) (SameL.cons (SameV.int g5) (SameL.cons (SameV.int g6) (SameL.cons (SameV.int g7) (SameL.cons (SameV.int g8) SameL.nil))))))))
theorem bestA_den (ρ:Rho) (i k:Nat):∃ b e1 e2 e3 e4 e5 e6 e7 e8,bestA k=[.bool b,.int .i64 e1,.int .i64 e2,.int .i64 e3,.int .i64 e4,.int .i64 e5,.int .i64 e6,.int .i64 e7,.int .i64 e8]∧(⟨b.den ρ,e1.den ρ,e2.den ρ,e3.den ρ,e4.den ρ,e5.den ρ,e6.den ρ,e7.den ρ,e8.den ρ⟩:Out)=(cr ρ i k).o:=by
  cases k with
  | zero=>exact ⟨_,_,_,_,_,_,_,_,_,rfl,rfl⟩
  | succ j=>exact ⟨_,_,_,_,_,_,_,_,_,rfl,rfl⟩
theorem triedA_den (ρ:Rho) (i k:Nat):∃ a0 a1 a2,triedA i k=[.int .i64 a0,.int .i64 a1,.int .i64 a2]∧a0.den ρ=(cr ρ i k).t0∧a1.den ρ=(cr ρ i k).t1∧a2.den ρ=(cr ρ i k).t2:=by
  cases k with
  | zero=>exact ⟨_,_,_,rfl,rfl,rfl,rfl⟩
  | succ j=>exact ⟨_,_,_,rfl,rfl,rfl,rfl⟩
theorem keysA_best {ρ:Rho} {i k:Nat} (h:(cr ρ i k).o.en=true):∃ g ∈ gG k,g.1.den ρ=true∧g.2.1.den ρ=(cr ρ i k).o.bp∧g.2.2.1.den ρ=(cr ρ i k).o.b0∧g.2.2.2.den ρ=(cr ρ i k).o.b1:=by
  cases k with
  | zero=>cases h
  | succ j=>exact ⟨_,List.mem_cons_self,h,rfl,rfl,rfl⟩
theorem keysA_mem {ρ:Rho} {i j:Nat} {f:BE × IE × IE × IE} (hf:f ∈ gG (j + 1)):f.1.den ρ=(cr ρ i (j + 1)).o.en∧f.2.1.den ρ=(cr ρ i (j + 1)).o.bp∧f.2.2.1.den ρ=(cr ρ i (j + 1)).o.b0∧f.2.2.2.den ρ=(cr ρ i (j + 1)).o.b1:=by
  rcases List.mem_singleton.1 hf with rfl
  exact ⟨rfl,rfl,rfl,rfl⟩
theorem cellsAt_some {h:Heap} {b ty:Nat} {cs:List AV} (e:cellsAt h b ty=.agg cs):h.get b=some (.cells cs ty true false):=by
  unfold cellsAt at e
  split at e
  · rename_i cs' t hg
    cases ht:Nat.beq t ty with
    | false=>rw [ht] at e; cases e
    | true=>rw [ht] at e; cases e; rw [hg,aq.1 ht]
  · cases e
theorem leaf_ok {p : Par} {ρ : Rho} {q : Bool} {m i W k cw ww : Nat} {Q : AV × Heap → Prop} (hQ : Q (.bool (.lit true), hK q m i W (k + 1))) {tr be : List AV} {kd : Nat}
    (ht:SameL ρ tr ρ (triedA i (k + 1))) (hb:SameL ρ be ρ (bestA (k + 1))) (hkd:kd=0 ∨ kd=1)
    (hs:(cr ρ i (k + 1)).o.en=true→∃ g ∈ (match kd with
      | 0=>gG k
      | _=>lookKey i cw ww :: gG k),g.1.den ρ=true∧g.2.1.den ρ=(cr ρ i (k + 1)).o.bp∧g.2.2.1.den ρ=(cr ρ i (k + 1)).o.b0∧g.2.2.2.den ρ=(cr ρ i (k + 1)).o.b1) :
    (lvY tr be kd).Holds ρ fun a=>∀ r,encY q m i W k cw ww r=a→∃ r',Q r'∧SameV ρ r.1 ρ r'.1∧SameH p p ρ r.2 ρ r'.2:=by
  intro r he
  unfold encY at he
  simp only [AV.tup.injEq,List.cons.injEq,and_true] at he
  obtain ⟨e1,e2,e3,e4,e5⟩:=he
  have g2:=cellsAt_some e2
  have g3:=cellsAt_some e3
  have e4:kindY i k cw ww r.2=kd:=by
    have:((kindY i k cw ww r.2:Nat):Int)=kd:=by simpa [li] using e4
    omega
  have e5:and (bz (fun g:Nat × AObj=>isO (r.2.get g.1) g.2) (cy q m i W)) (Nat.beq r.2.next 2018)=true:=by simpa using e5
  simp only [Bool.and_eq_true] at e5
  obtain ⟨e5,e6⟩:=e5
  refine ⟨_,hQ,by rw [e1]; exact SameV.refl _ _,(aq.1 e6).trans (aw 2018 _).symm,fun b o hg=>?_⟩
  have hm:=am _ _ _ _ hg
  have oth:(b,o) ∈ cy q m i W→∃ o0,r.2.get b=some o0∧SameA p p ρ o0 ρ o:=fun h=>⟨o,gC (av e5 _ h),SameA.refl o⟩
  simp only [vY,vE,aI,List.cons_append,List.nil_append,List.mem_cons,List.not_mem_nil,or_false,isZ] at hm
  rcases hm with h | h | h | h | h | h | h | h | h | h | h | h | h | h | h | h
  · cases h; exact oth (by simp [cy,aI])
  · cases h; exact oth (by simp [cy,aI])
  · cases h; exact oth (by simp [cy,aI])
  · cases h
    have key : ∀ m0 : MU, r.2.get 2005 = some (.umap m0) → m0.fi = (mE false []).fi → m0.ag = true → m0.nk = 3 → m0.ps.sure = 9498 → m0.ps.cl = (mE false []).ps.cl → (∀ f ∈ gG (k + 1), f.1.den ρ = true → ∃ g ∈ m0.ps.keys, g.1.den ρ = true ∧ g.2.1.den ρ = f.2.1.den ρ ∧ g.2.2.1.den ρ = f.2.2.1.den ρ ∧ g.2.2.2.den ρ = f.2.2.2.den ρ) →
        ∃ o0,r.2.get 2005=some o0∧SameA p p ρ o0 ρ (.umap (mE false (gG (k + 1)))):=fun m0 h1 h2 h3 h4 h5 h6 h7=>⟨_,h1,SameA.umapK h2.symm h3.symm h4.symm rfl (.inl h5.symm) h6.symm h7⟩
    have conv:∀ l:List (BE × IE × IE × IE),(∃ g ∈ l,g.1.den ρ=true∧g.2.1.den ρ=(cr ρ i (k + 1)).o.bp∧g.2.2.1.den ρ=(cr ρ i (k + 1)).o.b0∧g.2.2.2.den ρ=(cr ρ i (k + 1)).o.b1)→∀ f ∈ gG (k + 1),f.1.den ρ=true→∃ g ∈ l,g.1.den ρ=true∧g.2.1.den ρ=f.2.1.den ρ∧g.2.2.1.den ρ=f.2.2.1.den ρ∧g.2.2.2.den ρ=f.2.2.2.den ρ:=fun l ⟨g,g1,g2,g3,g4,g5⟩ f hf _=>by
      obtain ⟨_,f2,f3,f4⟩:=keysA_mem (ρ:=ρ) (i:=i) hf
      exact ⟨g,g1,g2,g3.trans f2.symm,g4.trans f3.symm,g5.trans f4.symm⟩
    unfold kindY at e4
    cases h0:isO (r.2.get 2005) (.umap (mE (isZ k) (gG k))) with
    | true =>
      rw [h0,cond_true] at e4
      subst e4
      refine key _ (gC h0) rfl rfl rfl rfl rfl fun f hf hd=>?_
      have hen:=(keysA_mem (ρ:=ρ) (i:=i) hf).1.symm.trans hd
      exact conv _ (hs hen) f hf hd
    | false =>
      rw [h0,cond_false] at e4
      cases h1:isO (r.2.get 2005) (.umap (mE false (lookKey i cw ww :: gG k))) with
      | true =>
        rw [h1,cond_true] at e4
        subst e4
        refine key _ (gC h1) rfl rfl rfl rfl rfl fun f hf hd=>?_
        have hen:=(keysA_mem (ρ:=ρ) (i:=i) hf).1.symm.trans hd
        exact conv _ (hs hen) f hf hd
      | false=>rw [h1,cond_false] at e4; omega
  · cases h; exact oth (by simp [cy,aI])
  · cases h; exact oth (by simp [cy,aI])
  · cases h; exact oth (by simp [cy,aI])
  · cases h; exact oth (by simp [cy,aI])
  · cases h; exact oth (by simp [cy,aI])
  · cases h; exact ⟨_,g3,SameA.cells rfl hb⟩
  · cases h; exact ⟨_,g2,SameA.cells rfl ht⟩
  · cases h; exact oth (by simp [cy,aI])
  · cases h; exact oth (by simp [cy,aI])
  · cases h; exact oth (by simp [cy,aI])
  · cases h; exact oth (by simp [cy,aI])
  · cases h; exact oth (by simp [cy,aI])
end Go.Sx
namespace Go.Sx
open Go.RowKit Go.Proofs
set_option maxRecDepth 100000
theorem failB_den {ρ:Rho} {i cw ww:Nat}:(failB i cw ww).den ρ=true ↔ ¬ (FI ρ.fi 9302 i (ρ.iv 500) cw=0∧FI ρ.fi 9303 i (ρ.iv 501) ww=0) ∨ cK ρ i (FI ρ.fi 9301 i (ρ.iv 501) ww)=true:=by
  have d1:(x1 i ww).den ρ=FI ρ.fi 9301 i (ρ.iv 501) ww:=rfl
  have d2:(x2 i cw).den ρ=FI ρ.fi 9302 i (ρ.iv 500) cw:=rfl
  have d3:(x3 i ww).den ρ=FI ρ.fi 9303 i (ρ.iv 501) ww:=rfl
  unfold failB cK
  simp only [BE.den,aS,IE.den_var,IE.den_lit,d1,d2,d3]
  generalize FI ρ.fi 9302 i (ρ.iv 500) cw=k0
  generalize FI ρ.fi 9303 i (ρ.iv 501) ww=k1
  generalize FI ρ.fi 9301 i (ρ.iv 501) ww=l1
  cases ρ.bv (32 + 4 * i) <;> by_cases h0:k0=0 <;> by_cases h1:k1=0 <;> by_cases hl:l1 < ρ.iv 20 <;> by_cases ha:ρ.iv 18 < ρ.iv 21 <;> by_cases hb:ρ.iv 16 < ρ.iv 21 <;> simp [h0,h1,hl,ha,hb]
theorem may_holds {ρ:Rho} {i cw ww:Nat}:(mayT i cw ww).Holds ρ fun a=>SameE ρ a (.bool (failB i cw ww)):=by
  have fin:∀ b:Bool,(failB i cw ww).den ρ=b→(isB b).Holds ρ fun a=>SameE ρ a (.bool (failB i cw ww)):=fun b hb E hE=>by
    subst hE; simp only [af,hb,BE.den]
  have c1:=failB_den (ρ:=ρ) (i:=i) (cw:=cw) (ww:=ww)
  have c0:(BE.not (.and (.cmp .eql (x2 i cw) (.lit 0)) (.and (.cmp .eql (x3 i ww) (.lit 0)) (.lit true)))).den ρ=true ↔ ¬ (FI ρ.fi 9302 i (ρ.iv 500) cw=0∧FI ρ.fi 9303 i (ρ.iv 501) ww=0):=by
    have d2:(x2 i cw).den ρ=FI ρ.fi 9302 i (ρ.iv 500) cw:=rfl
    have d3:(x3 i ww).den ρ=FI ρ.fi 9303 i (ρ.iv 501) ww:=rfl
    rw [← d2,← d3]
    simp [BE.den,aS,IE.den]
    omega
  have d1:(x1 i ww).den ρ=FI ρ.fi 9301 i (ρ.iv 501) ww:=rfl
  have tr:(¬ (FI ρ.fi 9302 i (ρ.iv 500) cw=0∧FI ρ.fi 9303 i (ρ.iv 501) ww=0) ∨ cK ρ i (FI ρ.fi 9301 i (ρ.iv 501) ww)=true)→(isB true).Holds ρ fun a=>SameE ρ a (.bool (failB i cw ww)):=fun h=>fin true (c1.2 h)
  have fa:¬ (¬ (FI ρ.fi 9302 i (ρ.iv 500) cw=0∧FI ρ.fi 9303 i (ρ.iv 501) ww=0) ∨ cK ρ i (FI ρ.fi 9301 i (ρ.iv 501) ww)=true)→(isB false).Holds ρ fun a=>SameE ρ a (.bool (failB i cw ww)):=fun h=>fin false (by
    cases hb:(failB i cw ww).den ρ with
    | false=>rfl
    | true=>exact absurd (c1.1 hb) h)
  have hlit:(BE.var (32 + 4 * i)).den ρ=ρ.bv (32 + 4 * i):=rfl
  unfold mayT
  simp only [T.Holds]
  split
  · rename_i h; exact tr (.inl (c0.1 h))
  · rename_i h
    have h0:¬ ¬ (FI ρ.fi 9302 i (ρ.iv 500) cw=0∧FI ρ.fi 9303 i (ρ.iv 501) ww=0):=fun k=>h (c0.2 k)
    split
    · rename_i hl
      rw [hlit] at hl
      split
      · rename_i hw
        rw [BE.t_lss,d1,IE.den_var] at hw
        split
        · rename_i hc
          rw [BE.t_lss,IE.den_var,IE.den_var] at hc
          exact tr (.inr (by unfold cK; rw [hl,if_pos hw]; simpa using hc))
        · rename_i hc
          rw [BE.t_lss,IE.den_var,IE.den_var] at hc
          exact fa (fun k=>k.elim h0 (by unfold cK; rw [hl,if_pos hw]; simpa using hc))
      · rename_i hw
        rw [BE.t_lss,d1,IE.den_var] at hw
        split
        · rename_i hc
          rw [BE.t_lss,IE.den_var,IE.den_var] at hc
          exact tr (.inr (by unfold cK; rw [hl,if_neg hw]; simpa using hc))
        · rename_i hc
          rw [BE.t_lss,IE.den_var,IE.den_var] at hc
          exact fa (fun k=>k.elim h0 (by unfold cK; rw [hl,if_neg hw]; simpa using hc))
    · rename_i hl
      rw [hlit] at hl
      exact fa (fun k=>k.elim h0 (by unfold cK; simp [hl]))
theorem round_holds {p : Par} {ρ : Rho} {q : Bool} {m i W k cw ww : Nat} {Q : AV × Heap → Prop} (hQ : Q (.bool (.lit true), hK q m i W (k + 1))) (hN : cr ρ i (k + 1) = ee ρ i (ρ.iv 500) (ρ.iv 501) cw ww (cr ρ i k)) :
    (roundT i k cw ww).Holds ρ fun a=>∀ r,encY q m i W k cw ww r=a→∃ r',Q r'∧SameV ρ r.1 ρ r'.1∧SameH p p ρ r.2 ρ r'.2:=by
  let P:AV→Prop:=fun a=>∀ r,encY q m i W k cw ww r=a→∃ r',Q r'∧SameV ρ r.1 ρ r'.1∧SameH p p ρ r.2 ρ r'.2
  have keep:cr ρ i (k + 1)=cr ρ i k→(keepL i k).Holds ρ P:=fun h=>by
    obtain ⟨b,e1,e2,e3,e4,e5,e6,e7,e8,hb,hb2⟩:=bestA_den ρ i k
    obtain ⟨a0,a1,a2,ha,h0,h1,h2⟩:=triedA_den ρ i k
    exact leaf_ok hQ (tried_same ha (by rw [h]; exact h0) (by rw [h]; exact h1) (by rw [h]; exact h2)) (best_same (i:=i) hb (by rw [h]; exact hb2)) (.inl rfl) (fun hen=>by rw [h] at hen ⊢; exact keysA_best hen)
  have tri:(cr ρ i (k + 1)).t0=i + 1→(cr ρ i (k + 1)).t1=(x0 i cw).den ρ→(cr ρ i (k + 1)).t2=(x1 i ww).den ρ→(cr ρ i (k + 1)).o=(cr ρ i k).o→(triL i k cw ww).Holds ρ P:=fun h0 h1 h2 h3=>by
    obtain ⟨b,e1,e2,e3,e4,e5,e6,e7,e8,hb,hb2⟩:=bestA_den ρ i k
    refine leaf_ok hQ (tried_same (i:=i) rfl ?_ h1.symm h2.symm) (best_same (i:=i) hb (by rw [h3]; exact hb2)) (.inr rfl) (fun hen=>?_)
    · rw [h0]; show ((i + 1:Nat):Int)=_; omega
    · rw [h3] at hen ⊢
      obtain ⟨g,g1,g2⟩:=keysA_best hen
      exact ⟨g,List.mem_cons_of_mem _ g1,g2⟩
  have rep:(cr ρ i (k + 1)).t0=i + 1→(cr ρ i (k + 1)).t1=(x0 i cw).den ρ→(cr ρ i (k + 1)).t2=(x1 i ww).den ρ→(cr ρ i (k + 1)).o=⟨true,(manyE i cw ww).den ρ,cw,ww,i + 1,(x0 i cw).den ρ,(x1 i ww).den ρ,(x2 i cw).den ρ,(x3 i ww).den ρ⟩→(repL i cw ww).Holds ρ P:=fun h0 h1 h2 h3=>by
    refine leaf_ok hQ (tried_same (i:=i) rfl ?_ h1.symm h2.symm) (best_same (i:=i) rfl (h3.symm ▸ ?_)) (.inr rfl) (fun hen=>⟨lookKey i cw ww,List.mem_cons_self,rfl,?_⟩)
    · rw [h0]; show ((i + 1:Nat):Int)=_; omega
    · simp only [Out.mk.injEq,BE.den,IE.den_lit,true_and,and_true,Int.ofNat_eq_natCast]
      omega
    · rw [h3]
      refine ⟨?_,rfl,rfl⟩
      show ((i + 1:Nat):Int)=_
      simp only []
      omega
  have d0:(x0 i cw).den ρ=FI ρ.fi 9300 i (ρ.iv 500) cw:=rfl
  have d1:(x1 i ww).den ρ=FI ρ.fi 9301 i (ρ.iv 501) ww:=rfl
  have d2:(x2 i cw).den ρ=FI ρ.fi 9302 i (ρ.iv 500) cw:=rfl
  have d3:(x3 i ww).den ρ=FI ρ.fi 9303 i (ρ.iv 501) ww:=rfl
  have dI:((i + 1:Nat):Int)=(i:Int) + 1:=by omega
  have dm:(manyE i cw ww).den ρ=manyF cw ww (dt ρ (i + 1) (FI ρ.fi 9300 i (ρ.iv 500) cw) (FI ρ.fi 9301 i (ρ.iv 501) ww)):=by
    show IntKind.i64.wrap (((cw + ww:Nat):Int) + FI ρ.fi 9401 ((i + 1:Nat):Int) ((x0 i cw).den ρ) ((x1 i ww).den ρ))=_
    rw [dI]; rfl
  have de:(BE.app 9400 (lt (i + 1)) (x0 i cw) (x1 i ww)).den ρ=(dt ρ (i + 1) (FI ρ.fi 9300 i (ρ.iv 500) cw) (FI ρ.fi 9301 i (ρ.iv 501) ww)).en:=by
    show FB ρ.fb 9400 ((i + 1:Nat):Int) ((x0 i cw).den ρ) ((x1 i ww).den ρ)=_
    rw [dI]; rfl
  unfold ee at hN
  unfold roundT
  simp only [T.Holds]
  have c1:=failB_den (ρ:=ρ) (i:=i) (cw:=cw) (ww:=ww)
  by_cases h1:FI ρ.fi 9302 i (ρ.iv 500) cw=0∧FI ρ.fi 9303 i (ρ.iv 501) ww=0
  · rw [if_pos h1] at hN
    by_cases hf:cK ρ i (FI ρ.fi 9301 i (ρ.iv 501) ww)=true
    · rw [if_pos (c1.2 (.inr hf))]
      rw [if_pos hf] at hN
      exact keep hN
    · rw [if_neg (fun h=>(c1.1 h).elim (fun k=>k h1) hf)]
      rw [if_neg hf] at hN
      have goL_ok:¬ ((i:Int) + 1=(cr ρ i k).t0∧FI ρ.fi 9300 i (ρ.iv 500) cw=(cr ρ i k).t1∧FI ρ.fi 9301 i (ρ.iv 501) ww=(cr ρ i k).t2)→(goL i k cw ww).Holds ρ P:=fun hs=>by
        rw [if_neg hs] at hN
        unfold goL
        simp only [T.Holds]
        rw [de]
        by_cases he:(dt ρ (i + 1) (FI ρ.fi 9300 i (ρ.iv 500) cw) (FI ρ.fi 9301 i (ρ.iv 501) ww)).en=true
        · rw [if_pos he]
          have isRep:¬ ((cr ρ i k).o.en=true∧(cr ρ i k).o.many≤manyF cw ww (dt ρ (i + 1) (FI ρ.fi 9300 i (ρ.iv 500) cw) (FI ρ.fi 9301 i (ρ.iv 501) ww)))→(repL i cw ww).Holds ρ P:=fun hb=>by
            rw [if_pos ⟨he,hb⟩] at hN
            exact rep (by rw [hN]) (by rw [hN]; exact d0.symm) (by rw [hN]; exact d1.symm) (by rw [hN,dm,d0,d1,d2,d3])
          cases k with
          | zero=>exact isRep (fun h=>by cases h.1)
          | succ j =>
            simp only [T.Holds]
            have cb:(BE.var (623 + 20 * j)).den ρ=(cr ρ i (j + 1)).o.en:=rfl
            rw [cb]
            by_cases hen:(cr ρ i (j + 1)).o.en=true
            · rw [if_pos hen]
              by_cases hm:(cr ρ i (j + 1)).o.many≤manyF cw ww (dt ρ (i + 1) (FI ρ.fi 9300 i (ρ.iv 500) cw) (FI ρ.fi 9301 i (ρ.iv 501) ww))
              · rw [if_pos (by rw [BE.t_leq,dm]; exact hm)]
                rw [if_neg (fun h=>h.2 ⟨hen,hm⟩)] at hN
                exact tri (by rw [hN]) (by rw [hN]; exact d0.symm) (by rw [hN]; exact d1.symm) (by rw [hN])
              · rw [if_neg (by rw [BE.t_leq,dm]; exact hm)]
                exact isRep (fun h=>hm h.2)
            · rw [if_neg hen]
              exact isRep (fun h=>hen h.1)
        · rw [if_neg he]
          rw [if_neg (fun h=>he h.1)] at hN
          exact tri (by rw [hN]) (by rw [hN]; exact d0.symm) (by rw [hN]; exact d1.symm) (by rw [hN])
      cases k with
      | zero =>
        refine goL_ok fun h=>?_
        have:(i:Int) + 1=i:=h.1
        omega
      | succ j =>
        unfold samL
        simp only [T.Holds]
        have cs:(BE.and (.cmp .eql (lt (i + 1)) (.var (620 + 20 * j))) (.and (.cmp .eql (x0 i cw) (.var (621 + 20 * j))) (.and (.cmp .eql (x1 i ww) (.var (622 + 20 * j))) (.lit true)))).den ρ=true ↔ ((i:Int) + 1=(cr ρ i (j + 1)).t0∧FI ρ.fi 9300 i (ρ.iv 500) cw=(cr ρ i (j + 1)).t1∧FI ρ.fi 9301 i (ρ.iv 501) ww=(cr ρ i (j + 1)).t2):=by
          have e0:(lt (i + 1)).den ρ=(i:Int) + 1:=dI
          simp only [BE.den,aS,e0,d0,d1,Bool.and_true,Bool.and_eq_true,beq_iff_eq]
          exact Iff.rfl
        by_cases hs:(i:Int) + 1=(cr ρ i (j + 1)).t0∧FI ρ.fi 9300 i (ρ.iv 500) cw=(cr ρ i (j + 1)).t1∧FI ρ.fi 9301 i (ρ.iv 501) ww=(cr ρ i (j + 1)).t2
        · rw [if_pos (cs.2 hs)]
          rw [if_pos hs] at hN
          exact keep hN
        · rw [if_neg (fun h=>hs (cs.1 h))]
          exact goL_ok hs
  · rw [if_pos (c1.2 (.inl h1))]
    rw [if_neg h1] at hN
    exact keep hN
theorem round_ok {p : Par} {q : Bool} {m i W k cw ww : Nat} {ty : Nat → Option TI} (B : b8 p ty (tbB q m i W cw ww)) (hck : ckY q m i W k cw ww = true) (hN : ∀ ρ b, p.ok ρ b → cr ρ i (k + 1) = ee ρ i (ρ.iv 500) (ρ.iv 501) cw ww (cr ρ i k)) :
    YieldOk p 2017 [xArg i cw ww] (hK q m i W k) (.ret (.bool (.lit true),hK q m i W (k + 1))):=by
  unfold ckY at hck
  simp only [Bool.and_eq_true] at hck
  obtain ⟨_,hv,hck⟩:=hck
  have hup:upA 0 (vY q m i W (isZ k) (triedA i k) (bestA k) (gG k))=true:=by
    unfold ba at hv
    exact (Bool.and_eq_true_iff.1 hv).1
  have base:YieldOk p 2017 [xArg i cw ww] (ah 2018 (vY q m i W (isZ k) (triedA i k) (bestA k) (gG k))) (runB q m i W k cw ww):=yield_ok B 40 2017 [xArg i cw ww] (hK q m i W k)
  have fr:=base.frame (by omega) (by omega) rfl hv (h:=hK q m i W k) (fun g hg=>⟨g.2,aC 2018 _ 0 hup g hg,.refl _⟩) (by show 2018≤(ah 2018 _).next; rw [aw]; exact Nat.le_refl _) (fun _=>[])
  refine fr.read fun ρ b hok Q hQ=>?_
  obtain ⟨m',hm,_⟩:=hok
  exact T.holds_enc (t:=runG q m i W k cw ww) (ea _ _ hck) (round_holds hQ (hN ρ m' hm))
end Go.Sx
namespace Go.Sx
open Go.RowKit Go.Proofs
set_option maxRecDepth 100000
noncomputable def eqPTO:PT AObj→PT AObj→Bool
  | .nil,.nil=>true
  | .node none l r,.node none l' r'=>and (eqPTO l l') (eqPTO r r')
  | .node (some a) l r,.node (some b) l' r'=>and (eqO a b) (and (eqPTO l l') (eqPTO r r'))
  | _,_=>false
theorem eqPTO_eq:∀ (t u:PT AObj),eqPTO t u=true→t=u
  | .nil,u,h=>by cases u with | nil=>rfl | node v l r=>simp [eqPTO] at h
  | .node none l r,u,h=>by
    cases u with
    | nil=>simp [eqPTO] at h
    | node v l' r'=>cases v with
      | none =>
        simp only [eqPTO,Bool.and_eq_true] at h
        rw [eqPTO_eq l l' h.1,eqPTO_eq r r' h.2]
      | some b=>simp [eqPTO] at h
  | .node (some a) l r,u,h=>by
    cases u with
    | nil=>simp [eqPTO] at h
    | node v l' r'=>cases v with
      | none=>simp [eqPTO] at h
      | some b =>
        simp only [eqPTO,Bool.and_eq_true] at h
        rw [eqO_eq h.1,eqPTO_eq l l' h.2.1,eqPTO_eq r r' h.2.2]
noncomputable def eqHp (h h':Heap):Bool:=and (Nat.beq h.next h'.next) (eqPTO h.objs h'.objs)
theorem eqHp_eq {h h':Heap} (e:eqHp h h'=true):h=h':=by
  simp only [eqHp,Bool.and_eq_true] at e
  cases h; cases h'
  simp only at e
  rw [aq.1 e.1,eqPTO_eq _ _ e.2]
noncomputable def yoGo (q:Bool) (m i W:Nat) (args:List AV) (h:Heap):Nat→List (Nat × Nat)→Option (T (AV × Heap))
  | _,[]=>none
  | k,p :: l=>cond (dg args [xArg i p.1 p.2]) (cond (eqHp h (hK q m i W k)) (some (.ret (.bool (.lit true),hK q m i W (k + 1)))) none) (yoGo q m i W args h (k + 1) l)
noncomputable def yoE (q:Bool) (m i W:Nat) (l:Nat) (args:List AV) (h:Heap):Option (T (AV × Heap)):=cond (Nat.beq l 2017) (yoGo q m i W args h 0 (pairs W)) none
theorem yoGo_ok {p:Par} {q:Bool} {m i W:Nat} {args:List AV} {h:Heap} {t:T (AV × Heap)}:∀ (l:List (Nat × Nat)) (k:Nat),(∀ j x,l[j]?=some x→YieldOk p 2017 [xArg i x.1 x.2] (hK q m i W (k + j)) (.ret (.bool (.lit true),hK q m i W (k + j + 1))))→yoGo q m i W args h k l=some t→YieldOk p 2017 args h t
  | [],k,_,e=>by cases e
  | x :: l,k,H,e=>by
    simp only [yoGo] at e
    cases h1:dg args [xArg i x.1 x.2] with
    | true =>
      rw [h1,cond_true] at e
      obtain ⟨h2,e⟩:=ak e
      cases e
      rw [aZ _ _ h1,eqHp_eq h2]
      exact H 0 x rfl
    | false =>
      rw [h1,cond_false] at e
      refine yoGo_ok l (k + 1) (fun j y hy=>?_) e
      have:=H (j + 1) y (by simpa using hy)
      rw [show k + 1 + j=k + (j + 1) by omega]; exact this
theorem yoE_ok {p:Par} {q:Bool} {m i W:Nat} (H:∀ j x,(pairs W)[j]?=some x→YieldOk p 2017 [xArg i x.1 x.2] (hK q m i W j) (.ret (.bool (.lit true),hK q m i W (j + 1)))):∀ l args h t,yoE q m i W l args h=some t→YieldOk p l args h t:=by
  intro l args h t e
  unfold yoE at e
  obtain ⟨hl,e⟩:=ak e
  have:=aq.1 hl; subst this
  exact yoGo_ok _ 0 (fun j x hx=>by rw [Nat.zero_add]; exact H j x hx) e
noncomputable def lenP (W:Nat):Nat:=(pairs W).length
noncomputable def keyP (i:Nat):BE × IE × IE × IE:=(.lit true,lt i,.var 500,.var 501)
noncomputable def outP (i:Nat):AV:=outE (lt i) (.var 500) (.var 501)
noncomputable def apB (i:Nat):BE:=.app 9400 (lt i) (.var 500) (.var 501)
noncomputable def apI (f i:Nat):IE:=.app f (lt i) (.var 500) (.var 501)
noncomputable def runL (q:Bool) (m i W:Nat):T (AV × Heap):=evalY (tbE q m i W) (yoE q m i W) 60 false 67 (bh i (.var 500) (.var 501)) (ah 2008 (vE q m i W true []))
noncomputable def runLg (q:Bool) (m i W:Nat):T (AV × Heap):=(runL q m i W).bind fun r=>bV 2008 (vE q m i W true []) (ah 2008 (vE q m i W true [])) [] r
noncomputable def encL (q:Bool) (m i W:Nat) (ks:List (BE × IE × IE × IE)) (r:AV × Heap):AV :=
  .tup [r.1,li (Int.ofNat (cond (isO (r.2.get 2005) (.umap (mE true []))) 0 (cond (isO (r.2.get 2005) (.umap (mE false (keyP i :: ks)))) 1 9))),.bool (.lit (and (bz (fun g:Nat × AObj=>isO (r.2.get g.1) g.2) (vO q m i W)) (Nat.beq r.2.next 2008)))]
noncomputable def lvL (v:AV) (kd:Nat):T AV:=.ret (.tup [v,li (Int.ofNat kd),.bool (.lit true)])
noncomputable def laidT (i:Nat) (b:BE) (e1 e2 e3 e4 e5 e6 e7 e8:IE) (t:T AV):T AV :=
  dD t [.iff b (apB i),.cmp .eql e1 (apI 9401 i),.cmp .eql e2 (apI 9402 i),.cmp .eql e3 (apI 9403 i),.cmp .eql e4 (apI 9404 i),.cmp .eql e5 (apI 9405 i),.cmp .eql e6 (apI 9406 i),.cmp .eql e7 (apI 9407 i),.cmp .eql e8 (apI 9408 i)]
noncomputable def nextB (i:Nat):BE:=.and (apB i) (.cmp .leq (.lit 1) (apI 9404 i))
noncomputable def lookT (i J:Nat):T AV :=
  .br (.app 9499 (lt i) (.var 500) (.var 501)) (lvL (outP i) 0) (match J with
    | 0=>.fail 0
    | j + 1=>laidT i (.var (623 + 20 * j)) (.var (624 + 20 * j)) (.var (625 + 20 * j)) (.var (626 + 20 * j)) (.var (627 + 20 * j)) (.var (628 + 20 * j)) (.var (629 + 20 * j)) (.var (630 + 20 * j)) (.var (631 + 20 * j))
      (.br (nextB i) (dD (lvL (.agg (bestA (j + 1))) 1) [.var (623 + 20 * j),.cmp .eql (.var (627 + 20 * j)) (apI 9404 i),.cmp .eql (.var (628 + 20 * j)) (apI 9405 i),.cmp .eql (.var (629 + 20 * j)) (apI 9406 i)]) (lvL (.agg (bestA (j + 1))) 1)))
noncomputable def ckL (q:Bool) (m i W:Nat):Bool:=and (ba 2008 (vE q m i W true [])) (eqTF ((runLg q m i W).bind fun r=>.ret (encL q m i W (gG (lenP W)) r)) (lookT i (lenP W)))
noncomputable def runN (q:Bool) (m:Nat):T (AV × Heap):=(b7 tb0 60 false 67 (bh m (.var 500) (.var 501)) (ah 2008 (vE q m m 0 true []))).bind fun r=>bV 2008 (vE q m m 0 true []) (ah 2008 (vE q m m 0 true [])) [] r
noncomputable def lastT (i:Nat):T AV :=
  .br (.app 9499 (lt i) (.var 500) (.var 501)) (lvL (outP i) 0) (laidT i (.lit true) (.lit 0) (.lit 0) (.lit 0) (.lit 0) (.lit 0) (.lit 0) (.lit 0) (.lit 0) (.br (nextB i) (.fail 22) (dD (lvL (outP i) 1) [.lit true])))
noncomputable def ckN (q:Bool) (m:Nat):Bool:=and (ba 2008 (vE q m m 0 true [])) (eqTF ((runN q m).bind fun r=>.ret (encL q m m 0 [] r)) (lastT m))
end Go.Sx
namespace Go.Sx
open Go.RowKit Go.Proofs
set_option maxRecDepth 100000
theorem SameH.refl {p:Par} {ρ:Rho} (h:Heap):SameH p p ρ h ρ h:=⟨rfl,fun _ o g=>⟨o,g,SameA.refl o⟩⟩
theorem outP_den (ρ : Rho) (i : Nat) : outP i = .agg [.bool (apB i), .int .i64 (apI 9401 i), .int .i64 (apI 9402 i), .int .i64 (apI 9403 i), .int .i64 (apI 9404 i), .int .i64 (apI 9405 i), .int .i64 (apI 9406 i), .int .i64 (apI 9407 i), .int .i64 (apI 9408 i)] ∧
    (⟨(apB i).den ρ,(apI 9401 i).den ρ,(apI 9402 i).den ρ,(apI 9403 i).den ρ,(apI 9404 i).den ρ,(apI 9405 i).den ρ,(apI 9406 i).den ρ,(apI 9407 i).den ρ,(apI 9408 i).den ρ⟩:Out)=dt ρ i (ρ.iv 500) (ρ.iv 501):=⟨rfl,rfl⟩
theorem out_same {ρ : Rho} {i : Nat} {b : BE} {e1 e2 e3 e4 e5 e6 e7 e8 : IE} (h : (⟨b.den ρ, e1.den ρ, e2.den ρ, e3.den ρ, e4.den ρ, e5.den ρ, e6.den ρ, e7.den ρ, e8.den ρ⟩ : Out) = dt ρ i (ρ.iv 500) (ρ.iv 501)) :
    SameV ρ (.agg [.bool b,.int .i64 e1,.int .i64 e2,.int .i64 e3,.int .i64 e4,.int .i64 e5,.int .i64 e6,.int .i64 e7,.int .i64 e8]) ρ (outP i):=by
  rw [← (outP_den ρ i).2] at h
  simp only [Out.mk.injEq] at h
  obtain ⟨g0,g1,g2,g3,g4,g5,g6,g7,g8⟩:=h
  rw [(outP_den ρ i).1]
  exact SameV.agg (SameL.cons (SameV.bool g0) (SameL.cons (SameV.int g1) (SameL.cons (SameV.int g2) (SameL.cons (SameV.int g3) (SameL.cons (SameV.int g4) (SameL.cons (SameV.int g5) (SameL.cons (SameV.int g6) (SameL.cons (SameV.int g7) (SameL.cons (SameV.int g8) SameL.nil)))))))))
theorem laid_holds {ρ:Rho} {i:Nat} {b:BE} {e1 e2 e3 e4 e5 e6 e7 e8:IE} {t:T AV} {P:AV→Prop} (h:(⟨b.den ρ,e1.den ρ,e2.den ρ,e3.den ρ,e4.den ρ,e5.den ρ,e6.den ρ,e7.den ρ,e8.den ρ⟩:Out)=dt ρ i (ρ.iv 500) (ρ.iv 501)) (ht:t.Holds ρ P):(laidT i b e1 e2 e3 e4 e5 e6 e7 e8 t).Holds ρ P:=by
  rw [← (outP_den ρ i).2] at h
  simp only [Out.mk.injEq] at h
  obtain ⟨g0,g1,g2,g3,g4,g5,g6,g7,g8⟩:=h
  have all:∀ l:List BE,(∀ c ∈ l,c.den ρ=true)→(dD t l).Holds ρ P:=by
    intro l
    induction l with
    | nil=>intro _; exact ht
    | cons c l ih =>
      intro hl
      simp only [dD,T.Holds]
      rw [if_pos (hl c List.mem_cons_self)]
      exact ih fun d hd=>hl d (List.mem_cons_of_mem _ hd)
  have eq:∀ {a b:IE},a.den ρ=b.den ρ→(BE.cmp .eql a b).den ρ=true:=fun h=>BE.t_eql.2 h
  refine all _ fun c hc=>?_
  simp only [List.mem_cons,List.not_mem_nil,or_false] at hc
  rcases hc with rfl | rfl | rfl | rfl | rfl | rfl | rfl | rfl | rfl
  · simp only [BE.den,g0,beq_self_eq_true]
  · exact eq g1
  · exact eq g2
  · exact eq g3
  · exact eq g4
  · exact eq g5
  · exact eq g6
  · exact eq g7
  · exact eq g8
theorem needs_hold {ρ:Rho} {t:T AV} {P:AV→Prop} (ht:t.Holds ρ P):∀ l:List BE,(∀ c ∈ l,c.den ρ=true)→(dD t l).Holds ρ P
  | [],_=>ht
  | c :: l,hl=>by
    simp only [dD,T.Holds]
    rw [if_pos (hl c List.mem_cons_self)]
    exact needs_hold ht l fun d hd=>hl d (List.mem_cons_of_mem _ hd)
theorem leafL_ok {p : Par} {ρ : Rho} {q : Bool} {m i W : Nat} {ks : List (BE × IE × IE × IE)} {Q : AV × Heap → Prop} (hQ : Q (outP i, ah 2008 (vE q m i W false [keyP i]))) {v : AV} {kd : Nat} (hv : SameV ρ v ρ (outP i)) (hkd : kd = 1 ∨ (kd = 0 ∧ FB ρ.fb 9499 i (ρ.iv 500) (ρ.iv 501) = true)) :
    (lvL v kd).Holds ρ fun a=>∀ r,encL q m i W ks r=a→∃ r',Q r'∧SameV ρ r.1 ρ r'.1∧SameH p p ρ r.2 ρ r'.2:=by
  intro r he
  unfold encL at he
  simp only [AV.tup.injEq,List.cons.injEq,and_true] at he
  obtain ⟨e1,e4,e5⟩:=he
  have e4:(cond (isO (r.2.get 2005) (.umap (mE true []))) 0 (cond (isO (r.2.get 2005) (.umap (mE false (keyP i :: ks)))) 1 9):Nat)=kd:=by
    have:((cond (isO (r.2.get 2005) (.umap (mE true []))) 0 (cond (isO (r.2.get 2005) (.umap (mE false (keyP i :: ks)))) 1 9):Nat):Int)=kd:=by simpa [li] using e4
    omega
  have e5:and (bz (fun g:Nat × AObj=>isO (r.2.get g.1) g.2) (vO q m i W)) (Nat.beq r.2.next 2008)=true:=by simpa using e5
  simp only [Bool.and_eq_true] at e5
  obtain ⟨e5,e6⟩:=e5
  refine ⟨_,hQ,by rw [e1]; exact hv,(aq.1 e6).trans (aw 2008 _).symm,fun b o hg=>?_⟩
  have hm:=am _ _ _ _ hg
  have oth:(b,o) ∈ vO q m i W→∃ o0,r.2.get b=some o0∧SameA p p ρ o0 ρ o:=fun h=>⟨o,gC (av e5 _ h),SameA.refl o⟩
  simp only [vE,List.mem_cons,List.not_mem_nil,or_false] at hm
  rcases hm with h | h | h | h | h | h
  · cases h; exact oth (by simp [vO])
  · cases h; exact oth (by simp [vO])
  · cases h; exact oth (by simp [vO])
  · cases h
    cases h0:isO (r.2.get 2005) (.umap (mE true [])) with
    | true =>
      rw [h0,cond_true] at e4
      rcases hkd with h | ⟨_,hfb⟩
      · omega
      · refine ⟨_,gC h0,SameA.umapL rfl rfl rfl rfl rfl rfl rfl rfl fun f hf _=>?_⟩
        rcases List.mem_singleton.1 hf with rfl
        exact hfb
    | false =>
      rw [h0,cond_false] at e4
      cases h1:isO (r.2.get 2005) (.umap (mE false (keyP i :: ks))) with
      | true =>
        refine ⟨_,gC h1,SameA.umapK rfl rfl rfl rfl (.inl rfl) rfl fun f hf hd=>?_⟩
        rcases List.mem_singleton.1 hf with rfl
        exact ⟨keyP i,List.mem_cons_self,rfl,rfl,rfl,rfl⟩
      | false=>rw [h1,cond_false] at e4; omega
  · cases h; exact oth (by simp [vO])
  · cases h; exact oth (by simp [vO])
theorem lenP_pos (W:Nat):∃ j,lenP W=j + 1:=by
  refine ⟨lenP W - 1,?_⟩
  have:0 < lenP W:=by
    unfold lenP pairs pairsP
    rw [show W + 1 - 0=W + 1 from rfl]
    simp [rowP,aI]
  omega
theorem look_var {p : Par} {q : Bool} {m i W : Nat} {ty : Nat → Option TI} (B : b8 p ty (tbE q m i W)) (BB : ∀ k cw ww, ckY q m i W k cw ww = true → b8 p ty (tbB q m i W cw ww)) (hck : ckL q m i W = true) (hcy : ckYs q m i W 0 (pairs W) = true)
    (hN:∀ ρ b,p.ok ρ b→∀ j x,(pairs W)[j]?=some x→cr ρ i (j + 1)=ee ρ i (ρ.iv 500) (ρ.iv 501) x.1 x.2 (cr ρ i j)) (hO:∀ ρ b,p.ok ρ b→(cr ρ i (lenP W)).o=dt ρ i (ρ.iv 500) (ρ.iv 501)) :
    CallOk p 67 (bh i (.var 500) (.var 501)) (ah 2008 (vE q m i W true [])) (.ret (outP i,ah 2008 (vE q m i W false [keyP i]))):=by
  have hY:∀ (l:List (Nat × Nat)) (k:Nat),ckYs q m i W k l=true→∀ j x,l[j]?=some x→ckY q m i W (k + j) x.1 x.2=true:=by
    intro l
    induction l with
    | nil=>intro k _ j x hx; simp at hx
    | cons y l ih =>
      intro k h j x hx
      simp only [ckYs,Bool.and_eq_true] at h
      cases j with
      | zero=>simp at hx; subst hx; exact h.1
      | succ j =>
        have:=ih (k + 1) h.2 j x (by simpa using hx)
        rw [show k + (j + 1)=k + 1 + j by omega]; exact this
  have Y:=yoE_ok (p:=p) (q:=q) (m:=m) (i:=i) (W:=W) fun j x hx=>round_ok (BB j x.1 x.2 (by have:=hY _ 0 hcy j x hx; rwa [Nat.zero_add] at this)) (by have:=hY _ 0 hcy j x hx; rwa [Nat.zero_add] at this) fun ρ b hb=>hN ρ b hb j x hx
  unfold ckL at hck
  simp only [Bool.and_eq_true] at hck
  obtain ⟨hv,hck⟩:=hck
  have hup:upA 0 (vE q m i W true [])=true:=by
    unfold ba at hv
    exact (Bool.and_eq_true_iff.1 hv).1
  have base:=callY_ok B Y 60 67 (bh i (.var 500) (.var 501)) (ah 2008 (vE q m i W true []))
  have fr:CallOk p 67 (bh i (.var 500) (.var 501)) (ah 2008 (vE q m i W true [])) (runLg q m i W):=base.frame (n:=2008) (l:=vE q m i W true []) (by omega) rfl hv (fun g hg=>⟨g.2,aC 2008 _ 0 hup g hg,.refl _⟩) (by rw [aw]; exact Nat.le_refl _) (fun _=>[])
  refine CallOk.read rfl fr fun ρ b hok Q hQ=>⟨ρ,hok,SameL.refl _ _,SameH.refl _,T.holds_enc (ea _ _ hck) ?_⟩
  have hQ:Q (outP i,ah 2008 (vE q m i W false [keyP i])):=hQ
  obtain ⟨m',hm,_⟩:=hok
  have ho:=hO ρ m' hm
  obtain ⟨j,hj⟩:=lenP_pos W
  rw [hj] at ho ⊢
  unfold lookT
  simp only [T.Holds]
  split
  · rename_i hc
    exact leafL_ok hQ (SameV.refl _ _) (.inr ⟨rfl,hc⟩)
  · refine laid_holds (i:=i) (by rw [← ho]; rfl) ?_
    have hb:SameV ρ (.agg (bestA (j + 1))) ρ (outP i):=out_same (i:=i) (by rw [← ho]; rfl)
    simp only [T.Holds]
    have hx:=(outP_den ρ i).2.trans ho.symm
    simp only [cr,Out.mk.injEq] at hx
    obtain ⟨g0,g1,g2,g3,g4,g5,g6,g7,g8⟩:=hx
    split
    · rename_i hc
      refine needs_hold (leafL_ok hQ hb (.inl rfl)) _ fun c hc'=>?_
      simp only [List.mem_cons,List.not_mem_nil,or_false] at hc'
      have hen:(apB i).den ρ=true:=by
        simp only [nextB,BE.den,Bool.and_eq_true] at hc
        exact hc.1
      rcases hc' with rfl | rfl | rfl | rfl
      · show ρ.bv (623 + 20 * j)=true
        rw [← g0]; exact hen
      · exact BE.t_eql.2 g4.symm
      · exact BE.t_eql.2 g5.symm
      · exact BE.t_eql.2 g6.symm
    · exact leafL_ok hQ hb (.inl rfl)
theorem last_var {p : Par} {q : Bool} {m : Nat} {ty : Nat → Option TI} (B : b8 p ty tb0) (hck : ckN q m = true) (hO : ∀ ρ b, p.ok ρ b → dt ρ m (ρ.iv 500) (ρ.iv 501) = ⟨true, 0, 0, 0, 0, 0, 0, 0, 0⟩) :
    CallOk p 67 (bh m (.var 500) (.var 501)) (ah 2008 (vE q m m 0 true [])) (.ret (outP m,ah 2008 (vE q m m 0 false [keyP m]))):=by
  unfold ckN at hck
  simp only [Bool.and_eq_true] at hck
  obtain ⟨hv,hck⟩:=hck
  have hup:upA 0 (vE q m m 0 true [])=true:=by
    unfold ba at hv
    exact (Bool.and_eq_true_iff.1 hv).1
  have base:=bL B 60 67 (bh m (.var 500) (.var 501)) (ah 2008 (vE q m m 0 true []))
  have fr:CallOk p 67 (bh m (.var 500) (.var 501)) (ah 2008 (vE q m m 0 true [])) (runN q m):=base.frame (n:=2008) (l:=vE q m m 0 true []) (by omega) rfl hv (fun g hg=>⟨g.2,aC 2008 _ 0 hup g hg,.refl _⟩) (by rw [aw]; exact Nat.le_refl _) (fun _=>[])
  refine CallOk.read rfl fr fun ρ b hok Q hQ=>⟨ρ,hok,SameL.refl _ _,SameH.refl _,T.holds_enc (ea _ _ hck) ?_⟩
  have hQ:Q (outP m,ah 2008 (vE q m m 0 false [keyP m])):=hQ
  obtain ⟨m',hm,_⟩:=hok
  have ho:=hO ρ m' hm
  unfold lastT
  simp only [T.Holds]
  split
  · rename_i hc
    exact leafL_ok hQ (SameV.refl _ _) (.inr ⟨rfl,hc⟩)
  · refine laid_holds (i:=m) (by rw [ho]; rfl) ?_
    simp only [T.Holds]
    have hx:=(outP_den ρ m).2.trans ho
    simp only [Out.mk.injEq] at hx
    split
    · rename_i hc
      simp only [nextB,BE.den,Bool.and_eq_true,aS,hx.2.2.2.2.1,IE.den] at hc
      exact absurd (of_decide_eq_true hc.2) (by omega)
    · exact needs_hold (leafL_ok hQ (SameV.refl _ _) (.inl rfl)) _ fun c hc'=>by rcases List.mem_singleton.1 hc' with rfl; rfl
end Go.Sx
namespace Go.Sx
open Go.RowKit Go.Proofs
set_option maxRecDepth 100000
noncomputable def bf:Nat→Nat→List AV
  | 0,_=>[]
  | n + 1,b=>vi b :: vi (b + 1) :: .bool (.var (b + 2)) :: vi (b + 3) :: bf n (b + 4)
noncomputable def brE (r:Nat):IE:=.bin .add .i64 (.var (500 + r)) (.bin .mul .i64 (.var (502 + r)) (.var (6 + r)))
noncomputable def tkE (i r:Nat) (lit:Bool):IE:=.bin .mul .i64 (.var (31 + 4 * i)) (.var (cond lit (11 + 4 * r) (9 + 4 * r)))
noncomputable def hasT {α:Type} (r:Nat) (k:IE→T α):T α:=.br (.cmp .lss (brE r) (.var (4 + r))) (k (brE r)) (k (.var (4 + r)))
noncomputable def takT {α:Type} (i r:Nat) (k:IE→T α):T α:=.br (.var (32 + 4 * i)) (k (tkE i r true)) (k (tkE i r false))
noncomputable def minT {α:Type} (t h:IE) (k:IE→T α):T α:=.br (.cmp .lss t h) (k t) (k h)
noncomputable def subE (a b:IE):IE:=.bin .sub .i64 a b
noncomputable def stepT (i:Nat):T AV :=
  hasT 0 fun h0=>takT i 0 fun t0=>minT t0 h0 fun n0=>hasT 1 fun h1=>takT i 1 fun t1=>minT t1 h1 fun n1 =>
    .ret (.tup [.agg [vi 502,vi 503,li (Int.ofNat (i + 1)),.int .i64 (subE h0 n0),.int .i64 (subE h1 n1),.int .i64 (subE t0 n0),.int .i64 (subE t1 n1)],.bool (.lit true)])
noncomputable def argsV (q:Bool) (m i:Nat):List AV:=[.agg (gD (parS q m)),pointE i (.var 500) (.var 501),.agg [vi 502,vi 503],.agg endV]
noncomputable def vS (m:Nat):List (Nat × AObj):=[(1001,.cells (bf m 30) 0 false false)]
noncomputable def stepV (i:Nat):AV:=.agg [vi 502,vi 503,li (Int.ofNat (i + 1)),apE 9300 (lt i) (.var 500) (.var 502),apE 9301 (lt i) (.var 501) (.var 503),apE 9302 (lt i) (.var 500) (.var 502),apE 9303 (lt i) (.var 501) (.var 503)]
noncomputable def runS (q:Bool) (m i:Nat):T (AV × Heap):=(b7 tb0 60 false 71 (argsV q m i) (ah 2000 (vS m))).bind fun r=>bV 2000 (vS m) (ah 2000 (vS m)) [] r
noncomputable def encS (m:Nat) (r:AV × Heap):AV:=.tup [r.1,.bool (.lit (and (isO (r.2.get 1001) (.cells (bf m 30) 0 false false)) (Nat.beq r.2.next 2000)))]
noncomputable def ckS (q:Bool) (m i:Nat):Bool:=and (ba 2000 (vS m)) (eqTF ((runS q m i).bind fun r=>.ret (encS m r)) (stepT i))
noncomputable def cA (ρ:Rho) (r:Nat) (a w:Int):Int:=if IntKind.i64.wrap (a + IntKind.i64.wrap (w * ρ.iv (6 + r))) < ρ.iv (4 + r) then IntKind.i64.wrap (a + IntKind.i64.wrap (w * ρ.iv (6 + r))) else ρ.iv (4 + r)
def eT (ρ:Rho) (i r:Nat):Int:=IntKind.i64.wrap (ρ.iv (31 + 4 * i) * ρ.iv (if ρ.bv (32 + 4 * i)=true then 11 + 4 * r else 9 + 4 * r))
noncomputable def aY (ρ:Rho) (i r:Nat) (a w:Int):Int:=IntKind.i64.wrap (cA ρ r a w - (if eT ρ i r < cA ρ r a w then eT ρ i r else cA ρ r a w))
noncomputable def bY (ρ:Rho) (i r:Nat) (a w:Int):Int:=IntKind.i64.wrap (eT ρ i r - (if eT ρ i r < cA ρ r a w then eT ρ i r else cA ρ r a w))
def OkS (m:Nat) (ρ:Rho):Prop:=∀ i,i < m→∀ a w:Int,FI ρ.fi 9300 i a w=aY ρ i 0 a w∧FI ρ.fi 9301 i a w=aY ρ i 1 a w∧FI ρ.fi 9302 i a w=bY ρ i 0 a w∧FI ρ.fi 9303 i a w=bY ρ i 1 a w
theorem ij {α:Type} {ρ:Rho} {P:α→Prop} {r:Nat} {k:IE→T α} (h:∀ e:IE,e.den ρ=cA ρ r (ρ.iv (500 + r)) (ρ.iv (502 + r))→(k e).Holds ρ P):(hasT r k).Holds ρ P:=by
  have e:(brE r).den ρ=IntKind.i64.wrap (ρ.iv (500 + r) + IntKind.i64.wrap (ρ.iv (502 + r) * ρ.iv (6 + r))):=rfl
  unfold hasT
  simp only [T.Holds]
  split
  · rename_i hc
    rw [BE.t_lss,e,IE.den_var] at hc
    refine h _ ?_
    unfold cA; rw [if_pos hc,e]
  · rename_i hc
    rw [BE.t_lss,e,IE.den_var] at hc
    refine h _ ?_
    unfold cA; rw [if_neg hc]; rfl
theorem takT_holds {α:Type} {ρ:Rho} {P:α→Prop} {i r:Nat} {k:IE→T α} (h:∀ e:IE,e.den ρ=eT ρ i r→(k e).Holds ρ P):(takT i r k).Holds ρ P:=by
  unfold takT
  simp only [T.Holds]
  split
  · rename_i hc
    have hc:ρ.bv (32 + 4 * i)=true:=hc
    refine h _ ?_
    unfold eT; rw [if_pos hc]; rfl
  · rename_i hc
    have hc:¬ ρ.bv (32 + 4 * i)=true:=hc
    refine h _ ?_
    unfold eT; rw [if_neg hc]; rfl
theorem il {α:Type} {ρ:Rho} {P:α→Prop} {t h:IE} {k:IE→T α} (H:∀ e:IE,e.den ρ=(if t.den ρ < h.den ρ then t.den ρ else h.den ρ)→(k e).Holds ρ P):(minT t h k).Holds ρ P:=by
  unfold minT
  simp only [T.Holds]
  split
  · rename_i hc
    rw [BE.t_lss] at hc
    exact H _ (by rw [if_pos hc])
  · rename_i hc
    rw [BE.t_lss] at hc
    exact H _ (by rw [if_neg hc])
noncomputable def pS (m:Nat):Par:=⟨Tryd.prog,bQ Tryd.rows,fun ρ _=>OkS m ρ⟩
theorem vS_up (m:Nat):upA 0 (vS m)=true:=rfl
theorem step_var {q:Bool} {m i:Nat} (hi:i < m) (hck:ckS q m i=true):CallOk (pS m) 71 (argsV q m i) (ah 2000 (vS m)) (.ret (stepV i,ah 2000 (vS m))):=by
  unfold ckS at hck
  rw [Bool.and_eq_true] at hck
  obtain ⟨hv,hck⟩:=hck
  have B:b8 (pS m) Sx.Tryd.tt.get tb0:=Tryd.tab (fun _ _ _=>none) (fun _ _ _ _ h=>by cases h) 2000
  have base:=bL B 60 71 (argsV q m i) (ah 2000 (vS m))
  have fr:CallOk (pS m) 71 (argsV q m i) (ah 2000 (vS m)) (runS q m i):=base.frame (n:=2000) (l:=vS m) (by omega) (by cases q <;> rfl) hv (fun g hg=>⟨g.2,aC 2000 _ 0 (vS_up m) g hg,.refl _⟩) (by rw [aw]; exact Nat.le_refl _) (fun _=>[])
  refine CallOk.read (p0:=pS m) (p:=pS m) rfl fr fun ρ b hok Q hQ=>⟨ρ,hok,SameL.refl _ _,SameH.refl _,T.holds_enc (ea _ _ hck) ?_⟩
  obtain ⟨m',hm,_⟩:=hok
  have hS:OkS m ρ:=hm
  obtain ⟨s0,_,s2,_⟩:=hS i hi (ρ.iv 500) (ρ.iv 502)
  obtain ⟨_,s1,_,s3⟩:=hS i hi (ρ.iv 501) (ρ.iv 503)
  unfold stepT
  refine ij fun h0 e0=>takT_holds fun t0 e1=>il fun n0 e2=>ij fun h1 e3=>takT_holds fun t1 e4=>il fun n1 e5=>?_
  rw [e0,e1] at e2
  rw [e3,e4] at e5
  intro r he
  simp only [encS,AV.tup.injEq,List.cons.injEq,and_true,AV.bool.injEq,BE.lit.injEq,Bool.and_eq_true] at he
  obtain ⟨he1,he2,he3⟩:=he
  refine ⟨_,hQ,?_,(aq.1 he3).trans (aw 2000 _).symm,fun b o hg=>?_⟩
  · rw [he1]
    have d0:(subE h0 n0).den ρ=(IE.app 9300 (lt i) (.var 500) (.var 502)).den ρ:=by
      show IntKind.i64.wrap (h0.den ρ - n0.den ρ)=FI ρ.fi 9300 i (ρ.iv 500) (ρ.iv 502)
      rw [s0,e0,e2]; rfl
    have d1:(subE h1 n1).den ρ=(IE.app 9301 (lt i) (.var 501) (.var 503)).den ρ:=by
      show IntKind.i64.wrap (h1.den ρ - n1.den ρ)=FI ρ.fi 9301 i (ρ.iv 501) (ρ.iv 503)
      rw [s1,e3,e5]; rfl
    have d2:(subE t0 n0).den ρ=(IE.app 9302 (lt i) (.var 500) (.var 502)).den ρ:=by
      show IntKind.i64.wrap (t0.den ρ - n0.den ρ)=FI ρ.fi 9302 i (ρ.iv 500) (ρ.iv 502)
      rw [s2,e1,e2]; rfl
    have d3:(subE t1 n1).den ρ=(IE.app 9303 (lt i) (.var 501) (.var 503)).den ρ:=by
      show IntKind.i64.wrap (t1.den ρ - n1.den ρ)=FI ρ.fi 9303 i (ρ.iv 501) (ρ.iv 503)
      rw [s3,e4,e5]; rfl
    exact SameV.agg (SameL.cons (SameV.int rfl) (SameL.cons (SameV.int rfl) (SameL.cons (SameV.int rfl) (SameL.cons (SameV.int d0) (SameL.cons (SameV.int d1) (SameL.cons (SameV.int d2) (SameL.cons (SameV.int d3) SameL.nil)))))))
  · have hm':=am _ _ _ _ hg
    rcases List.mem_singleton.1 hm' with h
    cases h
    exact ⟨_,gC he2,SameA.refl _⟩
theorem only_eq {t:T (AV × Heap)} {u:T AV} {ρ:Rho} {P:AV→Prop} (h:(t.bind fun r=>T.ret r.1)=u) (k:u.Holds ρ P):t.Holds ρ fun r=>P r.1:=by
  rw [← h,T.holds_bind] at k
  exact k
end Go.Sx
namespace Go.Sx
open Go.RowKit Go.Proofs
set_option maxRecDepth 100000
noncomputable def ckW (q:Bool) (m i W:Nat):Bool:=and (ckYs q m i W 0 (pairs W)) (ckL q m i W)
noncomputable def gE (q:Bool) (m i:Nat):Bool:=and (ckS q m i) (bz (ckW q m i) [0,1,2,3,4,5])
end Go.Sx
namespace Go.Sx
open Go.RowKit Go.Proofs
set_option maxRecDepth 100000
def eZ (ρ:Rho) (i:Nat) (a b:Int):List (Nat × Nat)→Stt→Stt
  | [],S=>S
  | x :: l,S=>eZ ρ i a b l (ee ρ i a b x.1 x.2 S)
structure OkG (m:Nat) (ρ:Rho):Prop where
  walks:∀ i,i < m→∃ W:Nat,W≤5∧ρ.iv (33 + 4 * i)=W
  step:OkS m ρ
  out:∀ i,i < m→∀ W:Nat,ρ.iv (33 + 4 * i)=W→∀ a b,dt ρ i a b=(eZ ρ i a b (pairs W) ⟨i,a,b,.zero⟩).o
  last:∀ a b,dt ρ m a b=⟨true,0,0,0,0,0,0,0,0⟩
noncomputable def pG (m:Nat):Par:=⟨Tryd.prog,bQ Tryd.rows,fun ρ _=>OkG m ρ⟩
structure OkW (m i W:Nat) (ρ:Rho):Prop where
  g:OkG m ρ
  w:ρ.iv (33 + 4 * i)=W
  st:∀ j x,(pairs W)[j]?=some x→cr ρ i (j + 1)=ee ρ i (ρ.iv 500) (ρ.iv 501) x.1 x.2 (cr ρ i j)
noncomputable def pW (m i W:Nat):Par:=⟨Tryd.prog,bQ Tryd.rows,fun ρ _=>OkW m i W ρ⟩
theorem stt_rounds {ρ:Rho} {i:Nat} {a b:Int}:∀ (l:List (Nat × Nat)) (k:Nat),(∀ j x,l[j]?=some x→cr ρ i (k + j + 1)=ee ρ i a b x.1 x.2 (cr ρ i (k + j)))→cr ρ i (k + l.length)=eZ ρ i a b l (cr ρ i k)
  | [],k,_=>rfl
  | x :: l,k,h=>by
    have h0:=h 0 x rfl
    have ih:=stt_rounds l (k + 1) (fun j y hy=>by
      have:=h (j + 1) y (by simpa using hy)
      rw [show k + 1 + j=k + (j + 1) by omega]; exact this)
    show _=eZ ρ i a b l (ee ρ i a b x.1 x.2 (cr ρ i k))
    rw [show k + (x :: l).length=k + 1 + l.length by simp only [List.length_cons]; omega,ih]
    exact congrArg _ h0
theorem okW_out {m i W:Nat} {ρ:Rho} (h:OkW m i W ρ) (hi:i < m):(cr ρ i (lenP W)).o=dt ρ i (ρ.iv 500) (ρ.iv 501):=by
  have:=stt_rounds (ρ:=ρ) (i:=i) (a:=ρ.iv 500) (b:=ρ.iv 501) (pairs W) 0 (fun j x hx=>by rw [Nat.zero_add]; exact h.st j x hx)
  rw [Nat.zero_add] at this
  rw [h.g.out i hi W h.w]
  exact congrArg Stt.o this
theorem rows_var (W:Nat):∀ n b k,n≤k→dV W n b k=bf n b
  | 0,_,_,_=>rfl
  | n + 1,b,0,h=>by omega
  | n + 1,b,k + 1,h=>by
    show vi b :: vi (b + 1) :: .bool (.var (b + 2)) :: vi (b + 3) :: dV W n (b + 4) k=vi b :: vi (b + 1) :: .bool (.var (b + 2)) :: vi (b + 3) :: bf n (b + 4)
    rw [rows_var W n (b + 4) k (by omega)]
theorem im {ρ ρ':Rho} {W:Nat}:∀ n b k,n≤90→(∀ j,b≤j→j < b + 4 * n→ρ.iv j=ρ'.iv j∧ρ.bv j=ρ'.bv j)→(k < n→ρ'.iv (b + 4 * k + 3)=W)→SameL ρ (dV W n b k) ρ' (bf n b)
  | 0,_,_,_,_,_=>SameL.nil
  | n + 1,b,0,h9,h,hW=>by
    show SameL ρ (vi b :: vi (b + 1) :: .bool (.var (b + 2)) :: li (Int.ofNat W) :: dV W n (b + 4) 99) ρ' (vi b :: vi (b + 1) :: .bool (.var (b + 2)) :: vi (b + 3) :: bf n (b + 4))
    rw [rows_var W n (b + 4) 99 (by omega),← rows_var W n (b + 4) n (Nat.le_refl _)]
    have hW:=hW (by omega)
    refine SameL.cons (SameV.int (h b (by omega) (by omega)).1) (SameL.cons (SameV.int (h (b + 1) (by omega) (by omega)).1) (SameL.cons (SameV.bool (h (b + 2) (by omega) (by omega)).2) (SameL.cons (SameV.int ?_) ?_)))
    · show ((W:Nat):Int)=ρ'.iv (b + 3)
      rw [← hW]
    · have:=im (ρ:=ρ) (ρ':=ρ') (W:=W) n (b + 4) n (by omega) (fun j h1 h2=>h j (by omega) (by omega)) (fun h=>by omega)
      rw [← rows_var W n (b + 4) n (Nat.le_refl _)] at this
      exact this
  | n + 1,b,k + 1,h9,h,hW=>by
    show SameL ρ (vi b :: vi (b + 1) :: .bool (.var (b + 2)) :: vi (b + 3) :: dV W n (b + 4) k) ρ' (vi b :: vi (b + 1) :: .bool (.var (b + 2)) :: vi (b + 3) :: bf n (b + 4))
    refine SameL.cons (SameV.int (h b (by omega) (by omega)).1) (SameL.cons (SameV.int (h (b + 1) (by omega) (by omega)).1) (SameL.cons (SameV.bool (h (b + 2) (by omega) (by omega)).2) (SameL.cons (SameV.int (h (b + 3) (by omega) (by omega)).1) ?_)))
    exact im n (b + 4) k (by omega) (fun j h1 h2=>h j (by omega) (by omega)) (fun hk=>by
      have:=hW (by omega)
      rw [show b + 4 + 4 * k + 3=b + 4 * (k + 1) + 3 by omega]; exact this)
theorem SameL.symm {ρ ρ':Rho} {l l':List AV} (h:SameL ρ l ρ' l'):SameL ρ' l' ρ l:=fun σ κ n m rc rc'=>(h σ κ m n rc' rc).symm
theorem gH {ρ ρ':Rho} (h:∀ j,j < 500→ρ.iv j=ρ'.iv j) (q:Bool) (m:Nat):SameL ρ (gD (parS q m)) ρ' (gD (parS q m)):=by
  have hp:SameV ρ (parS q m) ρ' (parS q m):=by cases q <;> exact fun _ _ _ _ _ _=>rfl
  intro σ κ n m' rc rc'
  have hp:=hp σ κ n m' rc rc'
  simp only [gD,eG,viUp,storeV,aI,vi,Nat.beq_refl,cond_true,List.cons_append,List.nil_append,ad,af,IE.den]
  rw [hp]
  have e:∀ j,j < 500→ρ.iv j=ρ'.iv j:=h
  rw [show (Nat.beq 1 0)=false from rfl]
  simp only [cond_false,ad,af,IE.den,e 0 (by omega),e 1 (by omega),e 2 (by omega),e 3 (by omega),e 4 (by omega),e 5 (by omega),e 6 (by omega),e 7 (by omega),e 8 (by omega),e 9 (by omega),e 10 (by omega),e 11 (by omega),e 12 (by omega),e 13 (by omega),e 14 (by omega),e 15 (by omega),e 16 (by omega),e 17 (by omega),e 18 (by omega),e 19 (by omega),e 20 (by omega),e 21 (by omega)]
end Go.Sx
namespace Go.Sx
open Go.RowKit Go.Proofs
set_option maxRecDepth 100000
def fj (ρ:Rho) (st:Nat→Stt) (a b:Int) (B:Int→Int→Int→Bool):Rho :=
  ⟨fun j=>if j < 500 then ρ.iv j else if j=500 then a else if j=501 then b else
    (match (j - 620) % 20 with
    | 0=>(st ((j - 620) / 20 + 1)).t0
    | 1=>(st ((j - 620) / 20 + 1)).t1
    | 2=>(st ((j - 620) / 20 + 1)).t2
    | 4=>(st ((j - 620) / 20 + 1)).o.many
    | 5=>(st ((j - 620) / 20 + 1)).o.wc
    | 6=>(st ((j - 620) / 20 + 1)).o.ww
    | 7=>(st ((j - 620) / 20 + 1)).o.bp
    | 8=>(st ((j - 620) / 20 + 1)).o.b0
    | 9=>(st ((j - 620) / 20 + 1)).o.b1
    | 10=>(st ((j - 620) / 20 + 1)).o.k0
    | _=>(st ((j - 620) / 20 + 1)).o.k1),
   fun j=>if j < 600 then ρ.bv j else (st ((j - 620) / 20 + 1)).o.en,ρ.fi,fun j=>if j=9498 then B else ρ.fb j,ρ.ov⟩
structure AlikeG (ρ ρ':Rho):Prop where
  iv:∀ j,j < 500→ρ.iv j=ρ'.iv j
  bv:∀ j,j < 600→ρ.bv j=ρ'.bv j
  fi:ρ.fi=ρ'.fi
  fb:ρ.fb 9400=ρ'.fb 9400
theorem AlikeG.symm {ρ ρ':Rho} (h:AlikeG ρ ρ'):AlikeG ρ' ρ:=⟨fun j k=>(h.iv j k).symm,fun j k=>(h.bv j k).symm,h.fi.symm,h.fb.symm⟩
theorem over_alike (ρ:Rho) (st:Nat→Stt) (a b:Int) (B:Int→Int→Int→Bool):AlikeG ρ (fj ρ st a b B) :=
  ⟨fun j hj=>by simp only [fj]; rw [if_pos hj],fun j hj=>by simp only [fj]; rw [if_pos hj],rfl,rfl⟩
theorem eu (ρ:Rho) (B:Int→Int→Int→Bool):AlikeG ρ (ρ.setB 9499 B):=⟨fun _ _=>rfl,fun _ _=>rfl,rfl,rfl⟩
section
variable {ρ ρ':Rho} (A:AlikeG ρ ρ')
include A
theorem outOf_alike (p a b:Int):dt ρ p a b=dt ρ' p a b:=by
  unfold dt FB FI; rw [A.fi,A.fb]
theorem failF_alike {i m:Nat} (hi:i < m) (hm:m≤5) (l:Int):cK ρ i l=cK ρ' i l:=by
  unfold cK
  rw [A.bv (32 + 4 * i) (by omega),A.iv 20 (by omega),A.iv 18 (by omega),A.iv 21 (by omega),A.iv 16 (by omega)]
theorem gI {i m:Nat} (hi:i < m) (hm:m≤5) (a b:Int) (cw ww:Nat) (S:Stt):ee ρ i a b cw ww S=ee ρ' i a b cw ww S:=by
  unfold ee
  simp only [failF_alike A hi hm,outOf_alike A,A.fi]
theorem rounds_alike {i m:Nat} (hi:i < m) (hm:m≤5) (a b:Int):∀ (l:List (Nat × Nat)) (S:Stt),eZ ρ i a b l S=eZ ρ' i a b l S
  | [],_=>rfl
  | x :: l,S=>by simp only [eZ]; rw [gI A hi hm,rounds_alike hi hm a b l]
theorem okS_alike {m : Nat} (hm : m ≤ 5) (h : OkS m ρ) : OkS m ρ' := fun i hi a w => by
    have h0:=h i hi a w
    have hh:∀ r,r < 2→cA ρ r a w=cA ρ' r a w:=fun r hr=>by
      unfold cA; rw [A.iv (6 + r) (by omega),A.iv (4 + r) (by omega)]
    have ht:∀ r,r < 2→eT ρ i r=eT ρ' i r:=fun r hr=>by
      unfold eT
      rw [A.iv (31 + 4 * i) (by omega),A.bv (32 + 4 * i) (by omega)]
      split
      · rw [A.iv _ (by omega)]
      · rw [A.iv _ (by omega)]
    have hl:∀ r,r < 2→aY ρ i r a w=aY ρ' i r a w:=fun r hr=>by unfold aY; rw [hh r hr,ht r hr]
    have hk:∀ r,r < 2→bY ρ i r a w=bY ρ' i r a w:=fun r hr=>by unfold bY; rw [hh r hr,ht r hr]
    rw [hl 0 (by omega),hl 1 (by omega),hk 0 (by omega),hk 1 (by omega),A.fi] at h0
    exact h0
theorem gJ {m:Nat} (hm:m≤5) (h:OkG m ρ):OkG m ρ':=by
  refine ⟨fun i hi=>?_,okS_alike A hm h.step,fun i hi W hW a b=>?_,fun a b=>?_⟩
  · obtain ⟨W,h1,h2⟩:=h.walks i hi
    exact ⟨W,h1,by rw [← A.iv _ (by omega)]; exact h2⟩
  · rw [← outOf_alike A,← rounds_alike A hi hm]
    exact h.out i hi W (by rw [A.iv _ (by omega)]; exact hW) a b
  · rw [← outOf_alike A]; exact h.last a b
end
theorem stt_over {ρ:Rho} {st:Nat→Stt} {i:Nat} {a b:Int} {B:Int→Int→Int→Bool} (h0:st 0=⟨i,a,b,.zero⟩):∀ k,cr (fj ρ st a b B) i k=st k
  | 0=>by
    rw [h0]
    show (⟨(i:Int),(fj ρ st a b B).iv 500,(fj ρ st a b B).iv 501,.zero⟩:Stt)=_
    simp [fj]
  | j + 1=>by
    have m:∀ r,r < 20→(620 + r + 20 * j - 620) / 20=j∧(620 + r + 20 * j - 620) % 20=r:=fun r hr=>by omega
    have e:∀ r,r < 12→(fj ρ st a b B).iv (620 + r + 20 * j)=(match r with
      | 0=>(st (j + 1)).t0
      | 1=>(st (j + 1)).t1
      | 2=>(st (j + 1)).t2
      | 4=>(st (j + 1)).o.many
      | 5=>(st (j + 1)).o.wc
      | 6=>(st (j + 1)).o.ww
      | 7=>(st (j + 1)).o.bp
      | 8=>(st (j + 1)).o.b0
      | 9=>(st (j + 1)).o.b1
      | 10=>(st (j + 1)).o.k0
      | _=>(st (j + 1)).o.k1):=fun r hr=>by
      simp only [fj]
      rw [if_neg (by omega),if_neg (by omega),if_neg (by omega),(m r (by omega)).1,(m r (by omega)).2]
    have eb:(fj ρ st a b B).bv (623 + 20 * j)=(st (j + 1)).o.en:=by
      simp only [fj]
      rw [if_neg (by omega),show (623 + 20 * j - 620) / 20=j by omega]
    have e0:=e 0 (by omega); have e1:=e 1 (by omega); have e2:=e 2 (by omega); have e4:=e 4 (by omega); have e5:=e 5 (by omega); have e6:=e 6 (by omega); have e7:=e 7 (by omega); have e8:=e 8 (by omega); have e9:=e 9 (by omega); have e10:=e 10 (by omega); have e11:=e 11 (by omega)
    simp only [Nat.reduceAdd] at e0 e1 e2 e4 e5 e6 e7 e8 e9 e10 e11
    simp only [cr,e0,e1,e2,eb,e4,e5,e6,e7,e8,e9,e10,e11]
theorem rounds_take {ρ:Rho} {i:Nat} {a b:Int}:∀ (l:List (Nat × Nat)) (S:Stt) (j:Nat) (x:Nat × Nat),l[j]?=some x→eZ ρ i a b (l.take (j + 1)) S=ee ρ i a b x.1 x.2 (eZ ρ i a b (l.take j) S)
  | [],_,j,x,h=>by simp at h
  | y :: l,S,0,x,h=>by simp at h; subst h; rfl
  | y :: l,S,j + 1,x,h=>by
    simp only [List.take_succ_cons,eZ]
    exact rounds_take l _ j x (by simpa using h)
def cX (q:Bool) (m i:Nat):Prop:=∀ (ks:List (BE × IE × IE × IE)) (a b:IE),CallOk (pG m) 67 (bh i a b) (ah 2008 (vE q m m 0 false ks)) (.ret (outE (lt i) a b,ah 2008 (vE q m m 0 false ((.lit true,lt i,a,b) :: ks))))
end Go.Sx
namespace Go.Sx
open Go.RowKit Go.Proofs
set_option maxRecDepth 100000
theorem SameL.trans {ρ ρ1 ρ2:Rho} {l l1 l2:List AV} (h:SameL ρ l ρ1 l1) (k:SameL ρ1 l1 ρ2 l2):SameL ρ l ρ2 l2:=fun σ κ n m rc rc'=>(h σ κ n m rc rc').trans (k σ κ m m rc' rc')
theorem rows_same2 {ρ0 ρ:Rho} (A:AlikeG ρ0 ρ) {m i0 W0 i W:Nat} (hm:m≤5) (h1:i0 < m→ρ0.iv (33 + 4 * i0)=W0) (h2:i < m→ρ.iv (33 + 4 * i)=W):SameL ρ0 (dV W0 m 30 i0) ρ (dV W m 30 i):=by
  have a:=im (ρ:=ρ0) (ρ':=ρ0) (W:=W0) m 30 i0 (by omega) (fun j _ _=>⟨rfl,rfl⟩) (fun h=>by rw [show 30 + 4 * i0 + 3=33 + 4 * i0 by omega]; exact h1 h)
  have b:=im (ρ:=ρ0) (ρ':=ρ) (W:=W) m 30 m (by omega) (fun j _ hj=>⟨A.iv j (by omega),A.bv j (by omega)⟩) (fun h=>by omega)
  rw [rows_var W m 30 m (Nat.le_refl _)] at b
  have c:=im (ρ:=ρ) (ρ':=ρ) (W:=W) m 30 i (by omega) (fun j _ _=>⟨rfl,rfl⟩) (fun h=>by rw [show 30 + 4 * i + 3=33 + 4 * i by omega]; exact h2 h)
  exact (a.trans b).trans c.symm
theorem vE_up (q:Bool) (m i W:Nat) (lv:Bool) (ks:List (BE × IE × IE × IE)):upA 0 (vE q m i W lv ks)=true:=rfl
theorem vE_same {p0 p : Par} (hP : p0.P = p.P) {ρ0 ρ : Rho} (A : AlikeG ρ0 ρ) {q : Bool} {m i0 W0 i W : Nat} {lv0 lv : Bool} {ks0 ks : List (BE × IE × IE × IE)} (hm : m ≤ 5) (h1 : i0 < m → ρ0.iv (33 + 4 * i0) = W0) (h2 : i < m → ρ.iv (33 + 4 * i) = W)
    (hmap:SameA p0 p ρ0 (.umap (mE lv0 ks0)) ρ (.umap (mE lv ks))):SameH p0 p ρ0 (ah 2008 (vE q m i0 W0 lv0 ks0)) ρ (ah 2008 (vE q m i W lv ks)):=by
  refine ⟨by rw [aw,aw],fun b o hg=>?_⟩
  have hm':=am _ _ _ _ hg
  have at_:∀ g ∈ vE q m i0 W0 lv0 ks0,(ah 2008 (vE q m i0 W0 lv0 ks0)).get g.1=some g.2:=aC 2008 _ 0 (vE_up _ _ _ _ _ _)
  simp only [vE,List.mem_cons,List.not_mem_nil,or_false] at hm'
  rcases hm' with h | h | h | h | h | h
  · cases h; exact ⟨_,at_ (1001,_) (by simp [vE]),SameA.cells hP (rows_same2 A hm h1 h2)⟩
  · cases h; exact ⟨_,at_ (2000,_) (by simp [vE]),SameA.cells hP (gH A.iv q m)⟩
  · cases h; exact ⟨_,at_ (2003,.cells endV 0 false false) (by simp [vE]),SameA.cells hP (fun _ _ _ _ _ _=>rfl)⟩
  · cases h; exact ⟨_,at_ (2005,_) (by simp [vE]),hmap⟩
  · cases h; exact ⟨_,at_ (2006,.cells [.map 2005] 0 false false) (by simp [vE]),SameA.cells hP (fun _ _ _ _ _ _=>rfl)⟩
  · cases h; exact ⟨_,at_ (2007,.cells [lookF] 0 false false) (by simp [vE]),SameA.cells hP (fun _ _ _ _ _ _=>rfl)⟩
theorem lookGo_ok {q:Bool} {m i W:Nat} (hm:m≤5) (H:cX q m (i + 1)) (hv:ba 2008 (vE q m i W true [])=true) {args:List AV} {h:Heap} {t:T (AV × Heap)} {a b:IE} (e:lookGo q m i W a b args h=some t):CallOk (pW m i W) 67 args h t:=by
  unfold lookGo at e
  split at e
  · rename_i lv ks hmk
    obtain ⟨hc,e'⟩:=ak e
    clear e
    simp only [Bool.and_eq_true] at hc
    obtain ⟨h1,h2,h3,h4⟩:=hc
    have h1:=aZ _ _ h1
    subst h1
    obtain rfl:=Option.some.inj e'
    have hc:CallOk (pW m i W) 67 (bh (i + 1) a b) (ah 2008 (vE q m i W lv ks)) (.ret (outE (lt (i + 1)) a b,ah 2008 (vE q m i W false ((.lit true,lt (i + 1),a,b) :: ks)))):=by
      refine CallOk.read (p0:=pG m) (p:=pW m i W) rfl (H ks a b) fun ρ b' hok Q hQ=>?_
      obtain ⟨m1,hw,hmh⟩:=hok
      have hw:OkW m i W ρ:=hw
      have A:AlikeG ρ ρ:=⟨fun _ _=>rfl,fun _ _=>rfl,rfl,rfl⟩
      refine ⟨ρ,⟨m1,hw.g,hmh⟩,SameL.refl _ _,vE_same rfl A hm (fun _=>hw.w) (fun h=>absurd h (Nat.lt_irrefl _)) (SameA.umapS rfl rfl rfl rfl rfl rfl (fun _ _ _=>rfl) (fun _ _=>rfl) fun a b c hk=>hk),?_⟩
      exact ⟨_,hQ,SameV.refl _ _,vE_same rfl A hm (fun h=>absurd h (Nat.lt_irrefl _)) (fun _=>hw.w) (SameA.umapS rfl rfl rfl rfl rfl rfl (fun _ _ _=>rfl) (fun _ _=>rfl) fun a b c hk=>hk)⟩
    refine hc.frame (n:=2008) (by omega) rfl (by exact hv) (fun g hg=>?_) (aD.1 h4) (fun _=>[])
    simp only [vE,List.mem_cons,List.not_mem_nil,or_false] at hg
    have oth:g ∈ vO q m i W→∃ o,h.get g.1=some o∧Less g.2 o:=fun hg=>lessO_ok (av h3 g hg)
    rcases hg with rfl | rfl | rfl | rfl | rfl | rfl
    · exact oth (by simp [vO])
    · exact oth (by simp [vO])
    · exact oth (by simp [vO])
    · exact ⟨_,gC h2,.refl _⟩
    · exact oth (by simp [vO])
    · exact oth (by simp [vO])
  · cases e
theorem ids_rows (W N:Nat):∀ n b k,aW N (dV W n b k)=true
  | 0,_,_=>rfl
  | n + 1,b,0=>ids_rows W N n (b + 4) 99
  | n + 1,b,k + 1=>ids_rows W N n (b + 4) k
theorem stepGo_ok {q:Bool} {m i W cw ww:Nat} (hm:m≤5) (hi:i < m) (hck:ckS q m i=true) {args:List AV} {h:Heap} {t:T (AV × Heap)} (e:stepGo q m i W cw ww args h=some t):CallOk (pW m i W) 71 args h t:=by
  unfold stepGo at e
  obtain ⟨hc,e'⟩:=ak e
  clear e
  simp only [Bool.and_eq_true] at hc
  obtain ⟨h1,h2,h3⟩:=hc
  have h1:=aZ _ _ h1
  subst h1
  obtain rfl:=Option.some.inj e'
  have hc:CallOk (pW m i W) 71 (stepArgs q m i cw ww) (ah 2000 [(1001,rowO m i W)]) (.ret (.agg (stepE i (.var 500) (.var 501) cw ww),ah 2000 [(1001,rowO m i W)])):=by
    refine CallOk.read (p0:=pS m) (p:=pW m i W) rfl (step_var hi hck) fun ρ b' hok Q hQ=>?_
    obtain ⟨m1,hw,hmh⟩:=hok
    have hw:OkW m i W ρ:=hw
    let ρ':Rho:=⟨fun j=>if j=502 then (cw:Int) else if j=503 then (ww:Int) else ρ.iv j,ρ.bv,ρ.fi,ρ.fb,ρ.ov⟩
    have A:AlikeG ρ ρ':=⟨fun j hj=>by show _=(if j=502 then _ else _); rw [if_neg (by omega),if_neg (by omega)],fun _ _=>rfl,rfl,rfl⟩
    have i0:ρ'.iv 500=ρ.iv 500:=rfl
    have i1:ρ'.iv 501=ρ.iv 501:=rfl
    have i2:ρ'.iv 502=cw:=rfl
    have i3:ρ'.iv 503=ww:=rfl
    have rows:SameL ρ (dV W m 30 i) ρ' (bf m 30):=im m 30 i (by omega) (fun j _ hj=>⟨A.iv j (by omega),A.bv j (by omega)⟩) (fun _=>by
      rw [show 30 + 4 * i + 3=33 + 4 * i by omega,← A.iv _ (by omega)]; exact hw.w)
    have one:∀ (o:AObj) (b:Nat) (o1:AObj),(ah 2000 [(1001,o)]).get b=some o1→b=1001∧o1=o:=fun o b o1 hg=>by
      have:=List.mem_singleton.1 (am _ _ _ _ hg)
      cases this; exact ⟨rfl,rfl⟩
    have here:∀ o:AObj,(ah 2000 [(1001,o)]).get 1001=some o:=fun o=>aC 2000 [(1001,o)] 0 rfl (1001,o) (List.mem_singleton.2 rfl)
    have d:∀ f (a a':IE) (w w':IE),a.den ρ'=a'.den ρ→w.den ρ'=w'.den ρ→(IE.app f (lt i) a w).den ρ'=(IE.app f (lt i) a' w').den ρ:=fun f a a' w w' h1 h2=>by
      show FI ρ.fi f i (a.den ρ') (w.den ρ')=FI ρ.fi f i (a'.den ρ) (w'.den ρ)
      rw [h1,h2]
    refine ⟨ρ',⟨m1,okS_alike A hm hw.g.step,hmh⟩,?_,⟨by rw [aw,aw],fun b o hg=>?_⟩,?_⟩
    · exact SameL.cons (SameV.agg (gH A.iv q m)) (SameL.cons (SameV.agg (SameL.cons (SameV.int rfl) (SameL.cons (SameV.int i0.symm) (SameL.cons (SameV.int i1.symm) SameL.nil)))) (SameL.cons (SameV.agg (SameL.cons (SameV.int i2.symm) (SameL.cons (SameV.int i3.symm) SameL.nil))) (fun _ _ _ _ _ _=>rfl)))
    · obtain ⟨rfl,rfl⟩:=one _ _ _ hg
      exact ⟨_,here _,SameA.cells rfl rows⟩
    · refine ⟨_,hQ,?_,⟨by rw [aw,aw],fun b o hg=>?_⟩⟩
      · exact SameV.agg (SameL.cons (SameV.int i2) (SameL.cons (SameV.int i3) (SameL.cons (SameV.int rfl) (SameL.cons (SameV.int (d _ _ _ _ _ i0 i2)) (SameL.cons (SameV.int (d _ _ _ _ _ i1 i3)) (SameL.cons (SameV.int (d _ _ _ _ _ i0 i2)) (SameL.cons (SameV.int (d _ _ _ _ _ i1 i3)) SameL.nil)))))))
      · obtain ⟨rfl,rfl⟩:=one _ _ _ hg
        exact ⟨_,here _,SameA.cells rfl rows.symm⟩
  refine hc.frame (n:=2000) (by omega) (by cases q <;> rfl) ?_ (fun g hg=>?_) (aD.1 h3) (fun _=>[])
  · unfold ba
    rw [Bool.and_eq_true]
    refine ⟨rfl,?_⟩
    simp only [bz,rowO,idsO,ids_rows,Bool.and_true]
    rfl
  · rcases List.mem_singleton.1 hg with rfl
    exact lessO_ok h2
theorem orcE_ok {q:Bool} {m i W:Nat} (hm:m≤5) (hi:i < m) (hck:ckS q m i=true):∀ f args h t,orcE q m i W f args h=some t→CallOk (pW m i W) f args h t:=by
  intro f args h t e
  unfold orcE at e
  obtain ⟨h1,e⟩:=ak e
  have:=aq.1 h1; subst this
  unfold stepOrc at e
  split at e
  · exact stepGo_ok hm hi hck e
  · cases e
theorem fail_ok {p:Par} {q:Bool} {m i W cw ww:Nat} {ty:Nat→Option TI} (B:b8 p ty tb0) (hck:ckM q m i W cw ww=true) {args:List AV} {h:Heap} {t:T (AV × Heap)} (e:entOrc1 (failEnt q m i W cw ww) args h=some t):CallOk p 57 args h t:=by
  unfold entOrc1 at e
  split at e
  · rename_i r hr
    cases e
    unfold ckM at hck
    rw [Bool.and_eq_true] at hck
    obtain ⟨h1,h2⟩:=hck
    refine meetN B (d:=60) (f:=57) (args0:=(failEnt q m i W cw ww).args) (n:=2000) (view:=(failEnt q m i W cw ww).view) (cs:=[]) (by rw [Bool.and_eq_true]; exact ⟨rfl,h1⟩) fun ρ b hb _=>?_
    obtain ⟨r1,hleaf,hs⟩:=T.holds_leaf _ (only_eq (ea _ _ h2) (may_holds (ρ:=ρ) (i:=i) (cw:=cw) (ww:=ww)))
    exact ⟨_,[],r1,rfl,hr,hleaf,hs,fun q hq=>(List.not_mem_nil hq).elim⟩
  · cases e
theorem orcB_ok {q:Bool} {m i W k cw ww:Nat} (hm:m≤5) (H:cX q m (i + 1)) (hv:ba 2008 (vE q m i W true [])=true) (hck:ckY q m i W k cw ww=true):∀ f args h t,orcB q m i W cw ww f args h=some t→CallOk (pW m i W) f args h t:=by
  intro f args h t e
  unfold orcB at e
  cases h64:Nat.beq f 67 with
  | true =>
    rw [h64,cond_true] at e
    have:=aq.1 h64; subst this
    unfold lookOrc at e
    split at e
    · exact lookGo_ok hm H hv e
    · cases e
  | false =>
    rw [h64,cond_false] at e
    obtain ⟨hf,e⟩:=ak e
    have:=aq.1 hf; subst this
    unfold ckY at hck
    rw [Bool.and_eq_true] at hck
    exact fail_ok (Tryd.tab (fun _ _ _=>none) (fun _ _ _ _ h=>by cases h) 2000) hck.1 e
theorem CallOk.congr {p:Par} {f:FuncId} {args:List AV} {h h':Heap} {t:T (AV × Heap)} (hc:CallOk p f args h t) (hget:∀ j,h'.get j=h.get j) (hn:h'.next=h.next):CallOk p f args h' t :=
  fun vs E w0 w Q K k HH ha P=>hc vs E w0 w Q K k (HH.congr (fun j=>(hget j).symm) hn.symm) ha P
theorem rows_id {ρ ρ':Rho} {W:Nat}:∀ n b k,(∀ j,b≤j→j < b + 4 * n→ρ.iv j=ρ'.iv j∧ρ.bv j=ρ'.bv j)→SameL ρ (dV W n b k) ρ' (dV W n b k)
  | 0,_,_,_=>SameL.nil
  | n + 1,b,0,h=>by
    show SameL ρ (vi b :: vi (b + 1) :: .bool (.var (b + 2)) :: li (Int.ofNat W) :: dV W n (b + 4) 99) ρ' (vi b :: vi (b + 1) :: .bool (.var (b + 2)) :: li (Int.ofNat W) :: dV W n (b + 4) 99)
    exact SameL.cons (SameV.int (h b (by omega) (by omega)).1) (SameL.cons (SameV.int (h (b + 1) (by omega) (by omega)).1) (SameL.cons (SameV.bool (h (b + 2) (by omega) (by omega)).2) (SameL.cons (SameV.int rfl) (rows_id n (b + 4) 99 fun j h1 h2=>h j (by omega) (by omega)))))
  | n + 1,b,k + 1,h=>by
    show SameL ρ (vi b :: vi (b + 1) :: .bool (.var (b + 2)) :: vi (b + 3) :: dV W n (b + 4) k) ρ' (vi b :: vi (b + 1) :: .bool (.var (b + 2)) :: vi (b + 3) :: dV W n (b + 4) k)
    exact SameL.cons (SameV.int (h b (by omega) (by omega)).1) (SameL.cons (SameV.int (h (b + 1) (by omega) (by omega)).1) (SameL.cons (SameV.bool (h (b + 2) (by omega) (by omega)).2) (SameL.cons (SameV.int (h (b + 3) (by omega) (by omega)).1) (rows_id n (b + 4) k fun j h1 h2=>h j (by omega) (by omega)))))
theorem vO_same {p:Par} {ρ ρ':Rho} (A:AlikeG ρ ρ') {q:Bool} {m i W:Nat} (hm:m≤5) {b:Nat} {o:AObj} (hg:(b,o) ∈ vO q m i W):SameA p p ρ o ρ' o:=by
  simp only [vO,List.mem_cons,List.not_mem_nil,or_false] at hg
  rcases hg with h | h | h | h | h
  · cases h; exact SameA.cells rfl (rows_id m 30 i fun j _ hj=>⟨A.iv j (by omega),A.bv j (by omega)⟩)
  · cases h; exact SameA.cells rfl (gH A.iv q m)
  · cases h; exact SameA.cells rfl (fun _ _ _ _ _ _=>rfl)
  · cases h; exact SameA.cells rfl (fun _ _ _ _ _ _=>rfl)
  · cases h; exact SameA.cells rfl (fun _ _ _ _ _ _=>rfl)
theorem out_read {ρ ρ':Rho} (A:AlikeG ρ ρ') {e e' a a' b b':IE} (h0:e.den ρ=e'.den ρ') (h1:a.den ρ=a'.den ρ') (h2:b.den ρ=b'.den ρ'):SameV ρ (outE e a b) ρ' (outE e' a' b'):=by
  have d:∀ f,(IE.app f e a b).den ρ=(IE.app f e' a' b').den ρ':=fun f=>by
    show FI ρ.fi f (e.den ρ) (a.den ρ) (b.den ρ)=FI ρ'.fi f (e'.den ρ') (a'.den ρ') (b'.den ρ')
    rw [h0,h1,h2,A.fi]
  have db:(BE.app 9400 e a b).den ρ=(BE.app 9400 e' a' b').den ρ':=by
    show FB ρ.fb 9400 (e.den ρ) (a.den ρ) (b.den ρ)=FB ρ'.fb 9400 (e'.den ρ') (a'.den ρ') (b'.den ρ')
    rw [h0,h1,h2]
    unfold FB; rw [A.fb]
  exact SameV.agg (SameL.cons (SameV.bool db) (SameL.cons (SameV.int (d _)) (SameL.cons (SameV.int (d _)) (SameL.cons (SameV.int (d _)) (SameL.cons (SameV.int (d _)) (SameL.cons (SameV.int (d _)) (SameL.cons (SameV.int (d _)) (SameL.cons (SameV.int (d _)) (SameL.cons (SameV.int (d _)) SameL.nil)))))))))
theorem gK {ρ ρ':Rho} {i:Nat} {a a' b b':IE} (h1:a.den ρ=a'.den ρ') (h2:b.den ρ=b'.den ρ'):SameL ρ (bh i a b) ρ' (bh i a' b') :=
  SameL.cons (SameV.agg (SameL.cons (SameV.int rfl) (SameL.cons (SameV.int h1) (SameL.cons (SameV.int h2) SameL.nil)))) (fun _ _ _ _ _ _=>rfl)
theorem look_at {q:Bool} {m i:Nat} (hm:m≤5) (hi:i < m) (hcs:ckS q m i=true) (hck:∀ W,W≤5→ckW q m i W=true) (H:cX q m (i + 1)):cX q m i:=by
  have hvar:∀ W,W≤5→CallOk (pW m i W) 67 (bh i (.var 500) (.var 501)) (ah 2008 (vE q m i W true [])) (.ret (outP i,ah 2008 (vE q m i W false [keyP i]))):=fun W hW=>by
    have hk:=hck W hW
    simp only [ckW,Bool.and_eq_true] at hk
    obtain ⟨k1,k2⟩:=hk
    have hv:ba 2008 (vE q m i W true [])=true:=by
      have k2:=k2
      simp only [ckL,Bool.and_eq_true] at k2
      exact k2.1
    exact look_var (Tryd.tab (orcE q m i W) (orcE_ok hm hi hcs) 2000) (fun k cw ww hc=>Tryd.tab (orcB q m i W cw ww) (orcB_ok hm H hv hc) 2000) k2 k1 (fun ρ b h=>h.st) (fun ρ b h=>okW_out h hi)
  have okB:∀ (W:Nat) (ρ:Rho) (B:Int→Int→Int→Bool) (c:Base),(pW m i W).okB ρ c→(pW m i W).okB (ρ.setB 9499 B) c:=fun W ρ B c ⟨m1,h1,h2⟩=>by
    have h1:OkW m i W ρ:=h1
    have A:=eu ρ B
    refine ⟨m1,⟨gJ A hm h1.g,h1.w,fun j x hx=>?_⟩,h2⟩
    have:=h1.st j x hx
    rw [gI A hi hm] at this
    exact this
  have hdull:∀ W,W≤5→CallOk (pW m i W) 67 (bh i (.var 500) (.var 501)) (ah 2008 (vE q m i W false [])) (.ret (outP i,ah 2008 (vE q m i W false [keyP i]))):=fun W hW=>by
    let h0:Heap:=ah 2008 (vO q m i W)
    have get:∀ (t:Bool) (j:Nat),(h0.put 2005 (.umap (mE t []))).get j=(ah 2008 (vE q m i W t [])).get j:=fun t j=>by
      simp only [h0,vO,vE,ah,Heap.get_put]
      by_cases h1:j=2005
      · subst h1; simp
      · simp only [if_neg h1]
    have hc:CallOk (pW m i W) 67 (bh i (.var 500) (.var 501)) (h0.put 2005 (.umap (mE true []))) (.ret (outP i,ah 2008 (vE q m i W false [keyP i]))):=CallOk.congr (hvar W hW) (get true) rfl
    have hd := CallOk.live (p := pW m i W) (b := 2005) (m := mE true []) (by simp [mE]) (by
        intro q hq
        simp only [mE,List.mem_cons,List.not_mem_nil,or_false] at hq
        rcases hq with rfl | rfl | rfl | rfl | rfl | rfl | rfl | rfl | rfl <;> simp [mE]) hc (okB W)
      (fun ρ B=>gK rfl rfl)
      (fun ρ B j o _ hg=>vO_same (eu ρ B) hm (am _ _ _ _ hg))
      (fun ρ B Q k=>by
        have A:=(eu ρ B).symm
        refine ⟨_,k,out_read A rfl rfl rfl,?_⟩
        refine ⟨rfl,fun b o hg=>⟨o,hg,?_⟩⟩
        have hm':=am _ _ _ _ hg
        simp only [vE,List.mem_cons,List.not_mem_nil,or_false] at hm'
        have oth:(b,o) ∈ vO q m i W→SameA (pW m i W) (pW m i W) (ρ.setB 9499 B) o ρ o:=vO_same A hm
        rcases hm' with h | h | h | h | h | h
        · exact oth (by rw [h]; simp [vO])
        · exact oth (by rw [h]; simp [vO])
        · exact oth (by rw [h]; simp [vO])
        · cases h
          exact SameA.umapS rfl rfl rfl rfl rfl rfl (fun q hq _=>by
            simp only [mE,List.mem_cons,List.not_mem_nil,or_false] at hq
            rcases hq with rfl | rfl | rfl | rfl | rfl | rfl | rfl | rfl | rfl <;> rfl) (fun e he=>by
            simp only [mE,List.mem_cons,List.not_mem_nil,or_false] at he
            rcases he with rfl | rfl | rfl | rfl <;> rfl) fun a b c hk=>by
              rcases hk with ⟨k1,k2⟩ | ⟨g,hg,k1,k2,k3,k4⟩
              · exact .inl ⟨k1,k2⟩
              · rcases List.mem_singleton.1 hg with rfl
                exact .inr ⟨keyP i,List.mem_cons_self,k1,k2,k3,k4⟩
        · exact oth (by rw [h]; simp [vO])
        · exact oth (by rw [h]; simp [vO]))
    exact CallOk.congr hd (fun j=>(get false j).symm) rfl
  intro ks a b
  refine CallOk.split (ι:={ W:Nat // W≤5 }) (okC:=fun W ρ _=>OkG m ρ∧ρ.iv (33 + 4 * i)=(W.1:Int)) (fun W=>?_) (fun ρ m1 h=>?_) (fun W ρ m1 h=>h.1)
  · refine CallOk.read (p0:=pW m i W.1) (p:=⟨Tryd.prog,bQ Tryd.rows,fun ρ _=>OkG m ρ∧ρ.iv (33 + 4 * i)=(W.1:Int)⟩) rfl (hdull W.1 W.2) fun ρ b' hok Q hQ=>?_
    obtain ⟨m1,⟨hG,hW⟩,hmh⟩:=hok
    classical
    let st:Nat→Stt:=fun k=>eZ ρ i (a.den ρ) (b.den ρ) ((pairs W.1).take k) ⟨i,a.den ρ,b.den ρ,.zero⟩
    let B:Int→Int→Int→Bool:=fun x y z=>decide ((mE false ks).Known ρ x y z)
    let ρ':=fj ρ st (a.den ρ) (b.den ρ) B
    have A:AlikeG ρ ρ':=over_alike ρ st _ _ B
    have i500:ρ'.iv 500=a.den ρ:=by simp [ρ',fj]
    have i501:ρ'.iv 501=b.den ρ:=by simp [ρ',fj]
    have hst:∀ k,cr ρ' i k=st k:=stt_over rfl
    have hGW:OkW m i W.1 ρ':=by
      refine ⟨gJ A hm hG,by rw [← A.iv _ (by omega)]; exact hW,fun j x hx=>?_⟩
      rw [hst,hst,i500,i501,← gI A hi hm]
      exact rounds_take _ _ j x hx
    have hfb:∀ e,e ≠ 9498→ρ'.fb e=ρ.fb e:=fun e he=>by simp [ρ',fj,he]
    have hB:∀ x y z,FB ρ'.fb 9498 x y z=B x y z:=fun x y z=>by simp [ρ',fj,FB]
    have fiO:∀ l,∀ q ∈ (mE false l).fi,q.1=true→ρ'.fb q.2=ρ.fb q.2:=fun l q hq _=>by
      simp only [mE,List.mem_cons,List.not_mem_nil,or_false] at hq
      rcases hq with rfl | rfl | rfl | rfl | rfl | rfl | rfl | rfl | rfl <;> exact hfb _ (by simp)
    have clO:∀ l,∀ e ∈ (mE false l).ps.cl,ρ'.fb e=ρ.fb e:=fun l e he=>by
      simp only [mE,List.mem_cons,List.not_mem_nil,or_false] at he
      rcases he with rfl | rfl | rfl | rfl <;> exact hfb _ (by simp)
    refine ⟨ρ',⟨m1,hGW,hmh⟩,gK i500.symm i501.symm,vE_same rfl A hm (fun h=>absurd h (Nat.lt_irrefl _)) (fun _=>hGW.w) (SameA.umapS rfl rfl rfl rfl rfl rfl (fiO ks) (clO ks) fun x y z hk=>?_),?_⟩
    · rcases hk with ⟨_,h2⟩ | ⟨g,hg,_⟩
      · have h2:FB ρ'.fb 9498 x y z=true:=h2
        rw [hB] at h2
        exact of_decide_eq_true h2
      · cases hg
    · refine ⟨_,hQ,out_read A.symm rfl i500 i501,vE_same rfl A.symm hm (fun _=>hGW.w) (fun h=>absurd h (Nat.lt_irrefl _)) (SameA.umapS rfl rfl rfl rfl rfl rfl (fun q hq h=>(fiO ks q hq h).symm) (fun e he=>(clO ks e he).symm) fun x y z hk=>?_)⟩
      have known:(mE false ks).Known ρ x y z→(mE false [keyP i]).Known ρ' x y z:=fun h=>.inl ⟨by simp [mE],by
        show FB ρ'.fb 9498 x y z=true
        rw [hB]; exact decide_eq_true h⟩
      rcases hk with ⟨h1,h2⟩ | ⟨g,hg,h1,h2,h3,h4⟩
      · exact known (.inl ⟨h1,h2⟩)
      · rcases List.mem_cons.1 hg with rfl | hg
        · exact .inr ⟨keyP i,List.mem_cons_self,rfl,h2,i500.trans h3,i501.trans h4⟩
        · exact known (.inr ⟨g,hg,h1,h2,h3,h4⟩)
  · obtain ⟨W,h1,h2⟩:=(show OkG m ρ from h).walks i hi
    exact ⟨⟨W,h1⟩,h,h2⟩
end Go.Sx
namespace Go.Sx
open Go.RowKit Go.Proofs
set_option maxRecDepth 100000
theorem look_last {q:Bool} {m:Nat} (hm:m≤5) (hck:ckN q m=true):cX q m m:=by
  have hvar:CallOk (pG m) 67 (bh m (.var 500) (.var 501)) (ah 2008 (vE q m m 0 true [])) (.ret (outP m,ah 2008 (vE q m m 0 false [keyP m]))) :=
    last_var (Tryd.tab (fun _ _ _=>none) (fun _ _ _ _ h=>by cases h) 2000) hck fun ρ b h=>OkG.last h _ _
  have okB:∀ (ρ:Rho) (B:Int→Int→Int→Bool) (c:Base),(pG m).okB ρ c→(pG m).okB (ρ.setB 9499 B) c:=fun ρ B c ⟨m1,h1,h2⟩=>⟨m1,gJ (eu ρ B) hm h1,h2⟩
  have hdull:CallOk (pG m) 67 (bh m (.var 500) (.var 501)) (ah 2008 (vE q m m 0 false [])) (.ret (outP m,ah 2008 (vE q m m 0 false [keyP m]))):=by
    let h0:Heap:=ah 2008 (vO q m m 0)
    have get:∀ (t:Bool) (j:Nat),(h0.put 2005 (.umap (mE t []))).get j=(ah 2008 (vE q m m 0 t [])).get j:=fun t j=>by
      simp only [h0,vO,vE,ah,Heap.get_put]
      by_cases h1:j=2005
      · subst h1; simp
      · simp only [if_neg h1]
    have hc:CallOk (pG m) 67 (bh m (.var 500) (.var 501)) (h0.put 2005 (.umap (mE true []))) (.ret (outP m,ah 2008 (vE q m m 0 false [keyP m]))):=CallOk.congr hvar (get true) rfl
    have hd := CallOk.live (p := pG m) (b := 2005) (m := mE true []) (by simp [mE]) (by
        intro q hq
        simp only [mE,List.mem_cons,List.not_mem_nil,or_false] at hq
        rcases hq with rfl | rfl | rfl | rfl | rfl | rfl | rfl | rfl | rfl <;> simp [mE]) hc okB
      (fun ρ B=>gK rfl rfl)
      (fun ρ B j o _ hg=>vO_same (eu ρ B) hm (am _ _ _ _ hg))
      (fun ρ B Q k=>by
        have A:=(eu ρ B).symm
        refine ⟨_,k,out_read A rfl rfl rfl,?_⟩
        refine ⟨rfl,fun b o hg=>⟨o,hg,?_⟩⟩
        have hm':=am _ _ _ _ hg
        simp only [vE,List.mem_cons,List.not_mem_nil,or_false] at hm'
        have oth:(b,o) ∈ vO q m m 0→SameA (pG m) (pG m) (ρ.setB 9499 B) o ρ o:=fun hg=>vO_same A hm hg
        rcases hm' with h | h | h | h | h | h
        · exact oth (by rw [h]; simp [vO])
        · exact oth (by rw [h]; simp [vO])
        · exact oth (by rw [h]; simp [vO])
        · cases h
          exact SameA.umapS rfl rfl rfl rfl rfl rfl (fun q hq _=>by
            simp only [mE,List.mem_cons,List.not_mem_nil,or_false] at hq
            rcases hq with rfl | rfl | rfl | rfl | rfl | rfl | rfl | rfl | rfl <;> rfl) (fun e he=>by
            simp only [mE,List.mem_cons,List.not_mem_nil,or_false] at he
            rcases he with rfl | rfl | rfl | rfl <;> rfl) fun a b c hk=>by
              rcases hk with ⟨k1,k2⟩ | ⟨g,hg,k1,k2,k3,k4⟩
              · exact .inl ⟨k1,k2⟩
              · rcases List.mem_singleton.1 hg with rfl
                exact .inr ⟨keyP m,List.mem_cons_self,k1,k2,k3,k4⟩
        · exact oth (by rw [h]; simp [vO])
        · exact oth (by rw [h]; simp [vO]))
    exact CallOk.congr hd (fun j=>(get false j).symm) rfl
  intro ks a b
  refine CallOk.read (p0:=pG m) (p:=pG m) rfl hdull fun ρ b' hok Q hQ=>?_
  obtain ⟨m1,hG,hmh⟩:=hok
  have hG:OkG m ρ:=hG
  classical
  let B:Int→Int→Int→Bool:=fun x y z=>decide ((mE false ks).Known ρ x y z)
  let ρ':=fj ρ (fun _=>⟨0,0,0,.zero⟩) (a.den ρ) (b.den ρ) B
  have A:AlikeG ρ ρ':=over_alike ρ _ _ _ B
  have i500:ρ'.iv 500=a.den ρ:=by simp [ρ',fj]
  have i501:ρ'.iv 501=b.den ρ:=by simp [ρ',fj]
  have hfb:∀ e,e ≠ 9498→ρ'.fb e=ρ.fb e:=fun e he=>by simp [ρ',fj,he]
  have hB:∀ x y z,FB ρ'.fb 9498 x y z=B x y z:=fun x y z=>by simp [ρ',fj,FB]
  have fiO:∀ l,∀ q ∈ (mE false l).fi,q.1=true→ρ'.fb q.2=ρ.fb q.2:=fun l q hq _=>by
    simp only [mE,List.mem_cons,List.not_mem_nil,or_false] at hq
    rcases hq with rfl | rfl | rfl | rfl | rfl | rfl | rfl | rfl | rfl <;> exact hfb _ (by simp)
  have clO:∀ l,∀ e ∈ (mE false l).ps.cl,ρ'.fb e=ρ.fb e:=fun l e he=>by
    simp only [mE,List.mem_cons,List.not_mem_nil,or_false] at he
    rcases he with rfl | rfl | rfl | rfl <;> exact hfb _ (by simp)
  have no:∀ {ρ:Rho} {x:Int},m < m→ρ.iv (33 + 4 * m)=x:=fun h=>absurd h (Nat.lt_irrefl _)
  refine ⟨ρ',⟨m1,gJ A hm hG,hmh⟩,gK i500.symm i501.symm,vE_same rfl A hm no no (SameA.umapS rfl rfl rfl rfl rfl rfl (fiO ks) (clO ks) fun x y z hk=>?_),?_⟩
  · rcases hk with ⟨_,h2⟩ | ⟨g,hg,_⟩
    · have h2:FB ρ'.fb 9498 x y z=true:=h2
      rw [hB] at h2
      exact of_decide_eq_true h2
    · cases hg
  · refine ⟨_,hQ,out_read A.symm rfl i500 i501,vE_same rfl A.symm hm no no (SameA.umapS rfl rfl rfl rfl rfl rfl (fun q hq h=>(fiO ks q hq h).symm) (fun e he=>(clO ks e he).symm) fun x y z hk=>?_)⟩
    have known:(mE false ks).Known ρ x y z→(mE false [keyP m]).Known ρ' x y z:=fun h=>.inl ⟨by simp [mE],by
      show FB ρ'.fb 9498 x y z=true
      rw [hB]; exact decide_eq_true h⟩
    rcases hk with ⟨h1,h2⟩ | ⟨g,hg,h1,h2,h3,h4⟩
    · exact known (.inl ⟨h1,h2⟩)
    · rcases List.mem_cons.1 hg with rfl | hg
      · exact .inr ⟨keyP m,List.mem_cons_self,rfl,h2,i500.trans h3,i501.trans h4⟩
      · exact known (.inr ⟨g,hg,h1,h2,h3,h4⟩)
theorem look_all {q:Bool} {m:Nat} (hm:m≤5) (hN:ckN q m=true) (hS:∀ i,i < m→ckS q m i=true) (hW:∀ i,i < m→∀ W,W≤5→ckW q m i W=true):∀ d i,i + d=m→cX q m i
  | 0,i,h=>by
    obtain rfl:i=m:=by omega
    exact look_last hm hN
  | d + 1,i,h=>look_at hm (by omega) (hS i (by omega)) (hW i (by omega)) (look_all hm hN hS hW d (i + 1) (by omega))
end Go.Sx
namespace Go.Sx
open Go.RowKit Go.Proofs
set_option maxRecDepth 100000
def mZ (ks:List (BE × IE × IE × IE)):MU:=⟨9499,(mE false []).fi,true,3,false,⟨0,ks,[9400,9404,9405,9406]⟩⟩
noncomputable def vW (q:Bool) (m:Nat) (o:AObj):List (Nat × AObj) :=
  [(1001,.cells (dV 0 m 30 m) 0 false false),(2000,.cells (gD (parS q m)) 0 false false),(2003,.cells endV 0 false false),(2005,o),(2006,.cells [.map 2005] 0 false false),(2007,.cells [lookF] 0 false false)]
noncomputable def key0:BE × IE × IE × IE:=(.lit true,lt 0,.var 0,.var 2)
noncomputable def out0:AV:=outE (lt 0) (.var 0) (.var 2)
theorem vW_same {p0 p:Par} (hP:p0.P=p.P) {ρ0 ρ:Rho} (A:AlikeG ρ0 ρ) {q:Bool} {m:Nat} {o0 o:AObj} (hm:m≤5) (ho:SameA p0 p ρ0 o0 ρ o):SameH p0 p ρ0 (ah 2008 (vW q m o0)) ρ (ah 2008 (vW q m o)):=by
  refine ⟨by rw [aw,aw],fun b o1 hg=>?_⟩
  have hm':=am _ _ _ _ hg
  have at_:∀ g ∈ vW q m o0,(ah 2008 (vW q m o0)).get g.1=some g.2:=aC 2008 _ 0 rfl
  simp only [vW,List.mem_cons,List.not_mem_nil,or_false] at hm'
  rcases hm' with h | h | h | h | h | h
  · cases h; exact ⟨_,at_ (1001,_) (by simp [vW]),SameA.cells hP (rows_id m 30 m fun j _ hj=>⟨A.iv j (by omega),A.bv j (by omega)⟩)⟩
  · cases h; exact ⟨_,at_ (2000,_) (by simp [vW]),SameA.cells hP (gH A.iv q m)⟩
  · cases h; exact ⟨_,at_ (2003,.cells endV 0 false false) (by simp [vW]),SameA.cells hP (fun _ _ _ _ _ _=>rfl)⟩
  · cases h; exact ⟨_,at_ (2005,_) (by simp [vW]),ho⟩
  · cases h; exact ⟨_,at_ (2006,.cells [.map 2005] 0 false false) (by simp [vW]),SameA.cells hP (fun _ _ _ _ _ _=>rfl)⟩
  · cases h; exact ⟨_,at_ (2007,.cells [lookF] 0 false false) (by simp [vW]),SameA.cells hP (fun _ _ _ _ _ _=>rfl)⟩
theorem look_new {q:Bool} {m:Nat} (hm:m≤5) (H:cX q m 0):CallOk (pG m) 67 (bh 0 (.var 0) (.var 2)) (ah 2008 (vW q m (.map [] 0))) (.ret (out0,ah 2008 (vW q m (.umap (mZ [key0]))))):=by
  refine CallOk.read (p0:=pG m) (p:=pG m) rfl (H [] (.var 0) (.var 2)) fun ρ b' hok Q hQ=>?_
  obtain ⟨m1,hG,hmh⟩:=hok
  have hG:OkG m ρ:=hG
  let ρ':Rho:=⟨ρ.iv,ρ.bv,ρ.fi,fun j=>if j=9498 then fun _ _ _=>false else ρ.fb j,ρ.ov⟩
  have A:AlikeG ρ ρ':=⟨fun _ _=>rfl,fun _ _=>rfl,rfl,rfl⟩
  have hfb:∀ e,e ≠ 9498→ρ.fb e=ρ'.fb e:=fun e he=>by simp [ρ',he]
  refine ⟨ρ',⟨m1,gJ A hm hG,hmh⟩,gK rfl rfl,vW_same rfl A hm (SameA.empty rfl rfl fun _ a b c=>by simp [mE,FB,ρ']),?_⟩
  refine ⟨_,hQ,out_read A.symm rfl rfl rfl,vW_same rfl A.symm hm (SameA.umapS rfl rfl rfl rfl rfl rfl (fun q hq _=>?_) (fun e he=>?_) fun x y z hk=>?_)⟩
  · simp only [mE,List.mem_cons,List.not_mem_nil,or_false] at hq
    rcases hq with rfl | rfl | rfl | rfl | rfl | rfl | rfl | rfl | rfl <;> exact hfb _ (by simp)
  · simp only [mE,List.mem_cons,List.not_mem_nil,or_false] at he
    rcases he with rfl | rfl | rfl | rfl <;> exact hfb _ (by simp)
  · rcases hk with ⟨h1,_⟩ | ⟨g,hg,h1,h2,h3,h4⟩
    · exact absurd rfl h1
    · rcases List.mem_singleton.1 hg with rfl
      exact .inr ⟨key0,List.mem_cons_self,rfl,h2,h3,h4⟩
noncomputable def isNew (h:Heap):Bool:=match h.get 2005 with
  | some (.map [] 0)=>true
  | _=>false
theorem isNew_ok {h:Heap} (e:isNew h=true):h.get 2005=some (.map [] 0):=by
  unfold isNew at e
  split at e
  · rename_i hg; exact hg
  · cases e
noncomputable def newGo (q:Bool) (m:Nat) (args:List AV) (h:Heap):Option (T (AV × Heap)) :=
  cond (and (dg args (bh 0 (.var 0) (.var 2))) (and (bz (fun g:Nat × AObj=>lessO g.2 (h.get g.1)) (vO q m m 0)) (and (isNew h) (Nat.ble 2008 h.next))))
    (some ((T.ret (out0,ah 2008 (vW q m (.umap (mZ [key0]))))).bind fun r=>bV 2008 (vW q m (.map [] 0)) h [] r)) none
noncomputable def orcO (q:Bool) (m:Nat) (f:FuncId) (args:List AV) (h:Heap):Option (T (AV × Heap)):=cond (Nat.beq f 67) (newGo q m args h) none
noncomputable def tbO (q:Bool) (m:Nat):hI:=⟨Sx.Tryd.ft.get,aA Sx.Tryd.rt,2000,orcO q m⟩
noncomputable def argsO (q:Bool) (m:Nat):List AV:=[.agg (gD (parS q m))]
noncomputable def runO (q:Bool) (m:Nat):T (AV × Heap):=(b7 (tbO q m) 60 false 51 (argsO q m) (ah 2000 (vS m))).bind fun r=>bV 2000 (vS m) (ah 2000 (vS m)) [2005] r
noncomputable def vP (m:Nat):List (Nat × AObj):=[(1001,.cells (bf m 30) 0 false false),(2000,.umap (mZ [key0]))]
noncomputable def encO (m:Nat) (r:AV × Heap):AV:=.tup [r.1,.bool (.lit (and (bz (fun g:Nat × AObj=>isO (r.2.get g.1) g.2) (vP m)) (Nat.beq r.2.next 2001)))]
noncomputable def ckO (q:Bool) (m:Nat):Bool:=and (and (ba 2000 (vS m)) (ba 2008 (vW q m (.map [] 0)))) (eqTF ((runO q m).bind fun r=>.ret (encO m r)) (.ret (.tup [.map 2000,.bool (.lit true)])))
theorem new_ok {q:Bool} {m:Nat} (hm:m≤5) (H:cX q m 0) (hv:ba 2008 (vW q m (.map [] 0))=true):∀ f args h t,orcO q m f args h=some t→CallOk (pG m) f args h t:=by
  intro f args h t e
  unfold orcO at e
  obtain ⟨hf,e1⟩:=ak e
  clear e
  have:=aq.1 hf; subst this
  unfold newGo at e1
  obtain ⟨hc,e'⟩:=ak e1
  clear e1
  simp only [Bool.and_eq_true] at hc
  obtain ⟨h1,h3,h2,h4⟩:=hc
  have h1:=aZ _ _ h1
  subst h1
  obtain rfl:=Option.some.inj e'
  refine (look_new hm H).frame (n:=2008) (by omega) rfl hv (fun g hg=>?_) (aD.1 h4) (fun _=>[])
  simp only [vW,List.mem_cons,List.not_mem_nil,or_false] at hg
  have oth:g ∈ vO q m m 0→∃ o,h.get g.1=some o∧Less g.2 o:=fun hg=>lessO_ok (av h3 g hg)
  rcases hg with rfl | rfl | rfl | rfl | rfl | rfl
  · exact oth (by simp [vO])
  · exact oth (by simp [vO])
  · exact oth (by simp [vO])
  · exact ⟨_,isNew_ok h2,.refl _⟩
  · exact oth (by simp [vO])
  · exact oth (by simp [vO])
theorem outlooks_ok {q:Bool} {m:Nat} (hm:m≤5) (H:cX q m 0) (hck:ckO q m=true):CallOk (pG m) 51 (argsO q m) (ah 2000 (vS m)) (.ret (.map 2000,ah 2001 (vP m))):=by
  unfold ckO at hck
  simp only [Bool.and_eq_true] at hck
  obtain ⟨⟨hv,hw⟩,hck⟩:=hck
  have B:b8 (pG m) Sx.Tryd.tt.get (tbO q m):=Tryd.tab (orcO q m) (new_ok hm H hw) 2000
  have base:=bL B 60 51 (argsO q m) (ah 2000 (vS m))
  have fr:CallOk (pG m) 51 (argsO q m) (ah 2000 (vS m)) (runO q m):=base.frame (n:=2000) (l:=vS m) (by omega) (by cases q <;> rfl) hv (fun g hg=>⟨g.2,aC 2000 _ 0 (vS_up m) g hg,.refl _⟩) (by rw [aw]; exact Nat.le_refl _) (fun _=>[2005])
  refine CallOk.read (p0:=pG m) (p:=pG m) rfl fr fun ρ b hok Q hQ=>⟨ρ,hok,SameL.refl _ _,SameH.refl _,T.holds_enc (ea _ _ hck) ?_⟩
  intro r he
  simp only [encO,AV.tup.injEq,List.cons.injEq,and_true,AV.bool.injEq,BE.lit.injEq,Bool.and_eq_true] at he
  obtain ⟨he1,he2,he3⟩:=he
  refine ⟨_,hQ,by rw [he1]; exact SameV.refl _ _,(aq.1 he3).trans (aw 2001 _).symm,fun b o hg=>⟨o,gC (av he2 (b,o) (am _ _ _ _ hg)),SameA.refl o⟩⟩
end Go.Sx
namespace Go.Sx
open Go.RowKit Go.Proofs
set_option maxRecDepth 100000
noncomputable def allGo (q:Bool) (m:Nat) (args:List AV) (h:Heap):Option (T (AV × Heap)) :=
  cond (and (dg args (argsO q m)) (and (lessO (.cells (bf m 30) 0 false false) (h.get 1001)) (Nat.ble 2000 h.next)))
    (some ((T.ret (.map 2000,ah 2001 (vP m))).bind fun r=>bV 2000 (vS m) h [2000] r)) none
noncomputable def orcP (q:Bool) (m:Nat) (f:FuncId) (args:List AV) (h:Heap):Option (T (AV × Heap)):=cond (Nat.beq f 51) (allGo q m args h) none
noncomputable def tbP (q:Bool) (m:Nat):hI:=⟨Sx.Tryd.ft.get,aA Sx.Tryd.rt,2000,orcP q m⟩
noncomputable def runP (q:Bool) (m:Nat):T (AV × Heap):=(b7 (tbP q m) 60 false 54 (argsO q m) (ah 2000 (vS m))).bind fun r=>bV 2000 (vS m) (ah 2000 (vS m)) [] r
noncomputable def enB:BE:=.app 9400 (lt 0) (.var 0) (.var 2)
noncomputable def isT (b:Bool):T AV:=.br (.lit true) (.ret (.tup [.bool (.lit b),.bool (.lit true)])) (.fail 99)
noncomputable def enT:T AV:=.br (.lit true) (.br enB (isT true) (isT false)) (.fail 99)
noncomputable def ckP (q:Bool) (m:Nat):Bool:=and (ba 2000 (vS m)) (eqTF ((runP q m).bind fun r=>.ret (encS m r)) enT)
theorem all_ok {q:Bool} {m:Nat} (hm:m≤5) (H:cX q m 0) (hck:ckO q m=true):∀ f args h t,orcP q m f args h=some t→CallOk (pG m) f args h t:=by
  intro f args h t e
  unfold orcP at e
  obtain ⟨hf,e1⟩:=ak e
  clear e
  have:=aq.1 hf; subst this
  unfold allGo at e1
  obtain ⟨hc,e'⟩:=ak e1
  clear e1
  simp only [Bool.and_eq_true] at hc
  obtain ⟨h1,h3,h4⟩:=hc
  have h1:=aZ _ _ h1
  subst h1
  obtain rfl:=Option.some.inj e'
  have hv:ba 2000 (vS m)=true:=by
    unfold ckO at hck
    simp only [Bool.and_eq_true] at hck
    exact hck.1.1
  refine (outlooks_ok hm H hck).frame (n:=2000) (by omega) (by cases q <;> rfl) hv (fun g hg=>?_) (aD.1 h4) (fun _=>[2000])
  rcases List.mem_singleton.1 hg with rfl
  exact lessO_ok h3
end Go.Sx
namespace Go.Sx
open Go.RowKit Go.Proofs
set_option maxRecDepth 100000
noncomputable def roundG (ρ:Rho) (nx:Int→Int→Out) (i:Nat) (a b:Int) (cw ww:Nat) (S:Stt):Stt :=
  if bY ρ i 0 a cw=0∧bY ρ i 1 b ww=0 then
    if cK ρ i (aY ρ i 1 b ww)=true then S
    else if (i:Int) + 1=S.t0∧aY ρ i 0 a cw=S.t1∧aY ρ i 1 b ww=S.t2 then S
    else if (nx (aY ρ i 0 a cw) (aY ρ i 1 b ww)).en=true∧¬ (S.o.en=true∧S.o.many≤manyF cw ww (nx (aY ρ i 0 a cw) (aY ρ i 1 b ww))) then
      ⟨i + 1,aY ρ i 0 a cw,aY ρ i 1 b ww,⟨true,manyF cw ww (nx (aY ρ i 0 a cw) (aY ρ i 1 b ww)),cw,ww,i + 1,aY ρ i 0 a cw,aY ρ i 1 b ww,bY ρ i 0 a cw,bY ρ i 1 b ww⟩⟩
    else ⟨i + 1,aY ρ i 0 a cw,aY ρ i 1 b ww,S.o⟩
  else S
noncomputable def fk (ρ:Rho) (nx:Int→Int→Out) (i:Nat) (a b:Int):List (Nat × Nat)→Stt→Stt
  | [],S=>S
  | x :: l,S=>fk ρ nx i a b l (roundG ρ nx i a b x.1 x.2 S)
noncomputable def outD (ρ:Rho):Nat→Nat→Int→Int→Out
  | 0,_,_,_=>⟨true,0,0,0,0,0,0,0,0⟩
  | d + 1,i,a,b=>(fk ρ (outD ρ d (i + 1)) i a b (pairs (ρ.iv (33 + 4 * i)).toNat) ⟨i,a,b,.zero⟩).o
noncomputable def fy (ρ:Rho) (m:Nat):Rho :=
  ⟨ρ.iv,ρ.bv,fun f p a b=>if f=9300 then aY ρ p.toNat 0 a b else if f=9301 then aY ρ p.toNat 1 a b else if f=9302 then bY ρ p.toNat 0 a b else if f=9303 then bY ρ p.toNat 1 a b else
    if f=9401 then (outD ρ (m - p.toNat) p.toNat a b).many else if f=9402 then (outD ρ (m - p.toNat) p.toNat a b).wc else if f=9403 then (outD ρ (m - p.toNat) p.toNat a b).ww else if f=9404 then (outD ρ (m - p.toNat) p.toNat a b).bp else
    if f=9405 then (outD ρ (m - p.toNat) p.toNat a b).b0 else if f=9406 then (outD ρ (m - p.toNat) p.toNat a b).b1 else if f=9407 then (outD ρ (m - p.toNat) p.toNat a b).k0 else if f=9408 then (outD ρ (m - p.toNat) p.toNat a b).k1 else ρ.fi f p a b,
   fun f p a b=>if f=9400 then (outD ρ (m - p.toNat) p.toNat a b).en else ρ.fb f p a b,ρ.ov⟩
theorem outOf_E (ρ:Rho) (m:Nat) (p a b:Int):dt (fy ρ m) p a b=outD ρ (m - p.toNat) p.toNat a b:=by
  simp [dt,FB,FI,fy]
theorem step_E (ρ:Rho) (m i:Nat) (a w:Int):FI (fy ρ m).fi 9300 i a w=aY ρ i 0 a w∧FI (fy ρ m).fi 9301 i a w=aY ρ i 1 a w∧FI (fy ρ m).fi 9302 i a w=bY ρ i 0 a w∧FI (fy ρ m).fi 9303 i a w=bY ρ i 1 a w:=by
  simp [FI,fy]
theorem round_E (ρ:Rho) (m i:Nat) (a b:Int) (cw ww:Nat) (S:Stt):ee (fy ρ m) i a b cw ww S=roundG ρ (outD ρ (m - (i + 1)) (i + 1)) i a b cw ww S:=by
  have e:((i:Int) + 1).toNat=i + 1:=by omega
  have hf:∀ l,cK (fy ρ m) i l=cK ρ i l:=fun l=>rfl
  unfold ee roundG
  simp only [(step_E ρ m i a cw).1,(step_E ρ m i b ww).2.1,(step_E ρ m i a cw).2.2.1,(step_E ρ m i b ww).2.2.2,outOf_E,e,hf]
theorem rounds_E (ρ:Rho) (m i:Nat) (a b:Int):∀ (l:List (Nat × Nat)) (S:Stt),eZ (fy ρ m) i a b l S=fk ρ (outD ρ (m - (i + 1)) (i + 1)) i a b l S
  | [],_=>rfl
  | x :: l,S=>by simp only [eZ,fk]; rw [round_E,rounds_E ρ m i a b l]
theorem okG_E {ρ:Rho} {m:Nat} (hw:∀ i,i < m→∃ W:Nat,W≤5∧ρ.iv (33 + 4 * i)=W):OkG m (fy ρ m):=by
  refine ⟨hw,fun i hi a w=>step_E ρ m i a w,fun i hi W hW a b=>?_,fun a b=>?_⟩
  · rw [outOf_E,rounds_E]
    have e:((i:Nat):Int).toNat=i:=by omega
    rw [e,show m - i=(m - (i + 1)) + 1 by omega]
    have hW:ρ.iv (33 + 4 * i)=W:=hW
    simp only [outD]
    rw [hW,show ((W:Nat):Int).toNat=W by omega]
  · rw [outOf_E]
    have e:((m:Nat):Int).toNat=m:=by omega
    rw [e,Nat.sub_self]; rfl
noncomputable def enD (ρ:Rho) (m:Nat):Bool:=(outD ρ m 0 (ρ.iv 0) (ρ.iv 2)).en
theorem enB_E (ρ:Rho) (m:Nat):enB.den (fy ρ m)=enD ρ m:=by
  show FB (fy ρ m).fb 9400 0 (ρ.iv 0) (ρ.iv 2)=_
  simp [FB,fy,enD]
end Go.Sx
namespace Go.Sx
open Go.RowKit Go.Proofs
set_option maxRecDepth 100000
structure Bds (ρ:Rho) (m:Nat):Prop where
  room:∀ r,r < 2→0≤ρ.iv (4 + r)∧ρ.iv (4 + r)≤99
  load:∀ r,r < 2→0≤ρ.iv (6 + r)∧ρ.iv (6 + r)≤20
  tak:∀ i,i < m→∀ r,r < 2→0≤eT ρ i r∧eT ρ i r≤400
theorem mul_bd {w:Nat} {l:Int} (hw:w≤5) (h:0≤l∧l≤20):0≤(w:Int) * l∧(w:Int) * l≤100:=by
  constructor
  · exact Int.mul_nonneg (by omega) h.1
  · have:(w:Int) * l≤5 * 20:=Int.mul_le_mul (by omega) h.2 h.1 (by omega)
    omega
section
variable {ρ:Rho} {m r w:Nat} {a:Int} (B:Bds ρ m) (hr:r < 2) (ha:0≤a∧a≤99) (hw:w≤5)
include B hr ha hw
theorem has_eq:cA ρ r a w=(if a + w * ρ.iv (6 + r) < ρ.iv (4 + r) then a + w * ρ.iv (6 + r) else ρ.iv (4 + r)):=by
  have h1:=mul_bd hw (B.load r hr)
  unfold cA
  rw [IntWalk.i64_in ((w:Int) * ρ.iv (6 + r)) (by omega)]
  generalize (w:Int) * ρ.iv (6 + r)=p at *
  rw [IntWalk.i64_in (a + p) (by omega)]
theorem has_bd:0≤cA ρ r a w∧cA ρ r a w≤99:=by
  have h1:=mul_bd hw (B.load r hr)
  have h2:=B.room r hr
  rw [has_eq B hr ha hw]
  generalize (w:Int) * ρ.iv (6 + r)=p at *
  split <;> omega
theorem left_eq {i:Nat} (hi:i < m):aY ρ i r a w=cA ρ r a w - (if eT ρ i r < cA ρ r a w then eT ρ i r else cA ρ r a w)∧bY ρ i r a w=eT ρ i r - (if eT ρ i r < cA ρ r a w then eT ρ i r else cA ρ r a w):=by
  have h1:=has_bd B hr ha hw
  have h2:=B.tak i hi r hr
  unfold aY bY
  generalize cA ρ r a w=h at *
  generalize eT ρ i r=t at *
  constructor <;> split <;> exact IntWalk.i64_in _ (by omega)
end
end Go.Sx
namespace Go.Sx
open Go.RowKit Go.Proofs
set_option maxRecDepth 100000
noncomputable def aQ (ok:Rho→(Nat→Obj→Prop)→Prop):Par:=⟨Tryd.prog,bQ Tryd.rows,ok⟩
theorem rowsV_same {ρ ρ':Rho} (hi:ρ.iv=ρ'.iv) (hb:ρ.bv=ρ'.bv):∀ n b,SameL ρ (bf n b) ρ' (bf n b)
  | 0,_=>SameL.nil
  | n + 1,b=>by
    show SameL ρ (vi b :: vi (b + 1) :: .bool (.var (b + 2)) :: vi (b + 3) :: bf n (b + 4)) ρ' (vi b :: vi (b + 1) :: .bool (.var (b + 2)) :: vi (b + 3) :: bf n (b + 4))
    exact SameL.cons (SameV.int (congrFun hi b)) (SameL.cons (SameV.int (congrFun hi (b + 1))) (SameL.cons (SameV.bool (congrFun hb (b + 2))) (SameL.cons (SameV.int (congrFun hi (b + 3))) (rowsV_same hi hb n (b + 4)))))
theorem vS_same {ρ1 ρ2:Rho} (e1:ρ1.iv=ρ2.iv) (e2:ρ1.bv=ρ2.bv) {p1 p2:Par} (hP:p1.P=p2.P) (m:Nat):SameH p1 p2 ρ1 (ah 2000 (vS m)) ρ2 (ah 2000 (vS m)) :=
  ⟨rfl,fun b o hg=>by
    rcases List.mem_singleton.1 (am _ _ _ _ hg) with h
    cases h
    exact ⟨_,hg,SameA.cells hP (rowsV_same e1 e2 _ _)⟩⟩
theorem rowsV_ids:∀ n b,aW 0 (bf n b)=true
  | 0,_=>rfl
  | n + 1,b=>by simp only [bf,aW,cP,vi,rowsV_ids n (b + 4),Bool.and_self]
end Go.Sx
