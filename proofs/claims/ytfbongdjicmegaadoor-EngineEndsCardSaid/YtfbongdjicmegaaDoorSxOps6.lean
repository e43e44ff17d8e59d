/- SxOps6 -/
import GoSem.Machine.Exec
import Derived.RangeFuncLeaves
import Derived.RangeFuncCalls
import Derived.OrdersIn
import Derived.LoopNIn
import Derived.Below
import Derived.Laws.Cells
import Derived.Laws.CopyRow
import Derived.Laws.Entries
import Derived.ChangeKeysEq
import Derived.IntWalk
import Derived.Laws.Tables
import Derived.Laws.StructEq
namespace Go.Sx
inductive PT (α:Type) where
  | nil
  | node (v:Option α) (l r:PT α)
noncomputable def PT.get {α:Type} (t:PT α):Nat→Option α :=
  @PT.rec α (fun _=>Nat→Option α) (fun _=>none)
    (fun v _ _ ihl ihr k=>cond (Nat.beq k 0) v (cond (Nat.beq (Nat.mod k 2) 1) (ihl (Nat.div (Nat.pred k) 2)) (ihr (Nat.div (Nat.pred k) 2)))) t
noncomputable def PT.setF {α:Type} (a:α) (n:Nat):PT α→Nat→PT α :=
  @Nat.rec (fun _=>PT α→Nat→PT α) (fun t _=>t)
    (fun _ ih t k=>@PT.rec α (fun _=>PT α)
      (cond (Nat.beq k 0) (.node (some a) .nil .nil)
        (cond (Nat.beq (Nat.mod k 2) 1) (.node none (ih .nil (Nat.div (Nat.pred k) 2)) .nil) (.node none .nil (ih .nil (Nat.div (Nat.pred k) 2)))))
      (fun v l r _ _=>cond (Nat.beq k 0) (.node (some a) l r)
        (cond (Nat.beq (Nat.mod k 2) 1) (.node v (ih l (Nat.div (Nat.pred k) 2)) r) (.node v l (ih r (Nat.div (Nat.pred k) 2))))) t) n
noncomputable def da {α:Type} (l:List α):Nat→Option α :=
  @List.rec α (fun _=>Nat→Option α) (fun _=>none) (fun a _ ih k=>cond (Nat.beq k 0) (some a) (ih (Nat.pred k))) l
noncomputable def lLen {α:Type} (l:List α):Nat:=@List.rec α (fun _=>Nat) 0 (fun _ _ ih=>Nat.succ ih) l
noncomputable def cC {α:Type} (l m:List α):List α:=@List.rec α (fun _=>List α) m (fun a _ ih=>a :: ih) l
noncomputable def lDrop {α:Type} (l:List α):Nat→List α :=
  @List.rec α (fun _=>Nat→List α) (fun _=>[]) (fun a l ih k=>cond (Nat.beq k 0) (a :: l) (ih (Nat.pred k))) l
noncomputable def lTake {α:Type} (l:List α):Nat→List α :=
  @List.rec α (fun _=>Nat→List α) (fun _=>[]) (fun a _ ih k=>cond (Nat.beq k 0) [] (a :: ih (Nat.pred k))) l
noncomputable def bz {α:Type} (p:α→Bool) (l:List α):Bool:=@List.rec α (fun _=>Bool) true (fun a _ ih=>cond (p a) ih false) l
noncomputable def lMap {α β:Type} (f:α→β) (l:List α):List β:=@List.rec α (fun _=>List β) [] (fun a _ ih=>f a :: ih) l
noncomputable def aA {α:Type} (l:List (Nat × α)) (k:Nat):Option α :=
  @List.rec (Nat × α) (fun _=>Option α) none (fun p _ ih=>cond (Nat.beq p.1 k) (some p.2) ih) l
noncomputable def PT.set {α:Type} (t:PT α) (k:Nat) (a:α):PT α:=PT.setF a (Nat.succ k) t k
inductive IE where
  | lit (n:Int)
  | var (i:Nat)
  | bin (op:BinOp) (k:IntKind) (a b:IE)
  | conv (k:IntKind) (a:IE)
  | mx (a b:IE)
  | mn (a b:IE)
  | app (f:Nat) (a b c:IE)
inductive BE where
  | lit (b:Bool)
  | var (i:Nat)
  | not (a:BE)
  | and (a b:BE)
  | cmp (op:BinOp) (a b:IE)
  | iff (a b:BE)
  | app (f:Nat) (a b c:IE)
noncomputable def inI64 (n:Int):Bool :=
  match n with
  | .ofNat m=>Nat.ble m 9223372036854775807
  | .negSucc m=>Nat.ble m 9223372036854775807
noncomputable def isI64 (k:IntKind):Bool :=
  match k with
  | .i64=>true
  | _=>false
noncomputable def wrapL (k:IntKind) (n:Int):Int:=cond (and (isI64 k) (inI64 n)) n (k.wrap n)
noncomputable def ilt (x y:Int):Bool :=
  match x,y with
  | .ofNat m,.ofNat n=>Nat.ble (Nat.succ m) n
  | .ofNat _,.negSucc _=>false
  | .negSucc _,.ofNat _=>true
  | .negSucc m,.negSucc n=>Nat.ble (Nat.succ n) m
noncomputable def ieq (x y:Int):Bool :=
  match x,y with
  | .ofNat m,.ofNat n=>Nat.beq m n
  | .negSucc m,.negSucc n=>Nat.beq m n
  | _,_=>false
noncomputable def litBits (op:BinOp) (k:IntKind) (x y:Int):Option Int :=
  match op with
  | .and=>some (k.wrap (BitVec.ofInt k.bits x &&& BitVec.ofInt k.bits y).toNat)
  | .or=>some (k.wrap (BitVec.ofInt k.bits x ||| BitVec.ofInt k.bits y).toNat)
  | .xor=>some (k.wrap (BitVec.ofInt k.bits x ^^^ BitVec.ofInt k.bits y).toNat)
  | .andNot=>some (k.wrap (BitVec.ofInt k.bits x &&& ~~~(BitVec.ofInt k.bits y)).toNat)
  | _=>none
noncomputable def litBin (op:BinOp) (k:IntKind) (x y:Int):Option Int :=
  match op with
  | .add=>some (wrapL k (Int.add x y))
  | .sub=>some (wrapL k (Int.sub x y))
  | .mul=>some (wrapL k (Int.mul x y))
  | .quo=>cond (ieq y 0) none (some (wrapL k (x.tdiv y)))
  | .rem=>cond (ieq y 0) none (some (x.tmod y))
  | op=>litBits op k x y
noncomputable def litShift (op:BinOp) (k:IntKind) (x y:Int):Option Int :=
  cond (ilt y 0) none
  (match op with
  | .shl=>some (k.wrap (x * 2 ^ (min y.toNat k.bits)))
  | .shr=>some (x.fdiv (2 ^ (min y.toNat k.bits)))
  | _=>none)
noncomputable def litCmp (op:BinOp) (x y:Int):Option Bool :=
  match op with
  | .eql=>some (ieq x y)
  | .neq=>some (Bool.not (ieq x y))
  | .lss=>some (ilt x y)
  | .leq=>some (Bool.not (ilt y x))
  | .gtr=>some (ilt y x)
  | .geq=>some (Bool.not (ilt x y))
  | _=>none
noncomputable def isCmp (op:BinOp):Bool :=
  match op with
  | .eql=>true
  | .neq=>true
  | .lss=>true
  | .leq=>true
  | .gtr=>true
  | .geq=>true
  | _=>false
noncomputable def isArith (op:BinOp):Bool :=
  match op with
  | .add=>true
  | .sub=>true
  | .mul=>true
  | _=>false
noncomputable def isDiv (op:BinOp):Bool :=
  match op with
  | .quo=>true
  | .rem=>true
  | _=>false
noncomputable def nonZero (b:IE):Bool :=
  match b with
  | .lit y=>Bool.not (ieq y 0)
  | _=>false
noncomputable def mkCmp (op:BinOp) (a b:IE):Option BE :=
  match a,b with
  | .lit x,.lit y=>(litCmp op x y).map .lit
  | a,b=>cond (isCmp op) (some (.cmp op a b)) none
noncomputable def mkBin (op:BinOp) (k:IntKind) (a b:IE):Option IE :=
  match a,b with
  | .lit x,.lit y=>(litBin op k x y).map .lit
  | a,b=>cond (isArith op) (some (.bin op k a b)) (cond (and (isDiv op) (nonZero b)) (some (.bin op k a b)) none)
noncomputable def mkConv (k:IntKind) (a:IE):IE :=
  match a with
  | .lit n=>.lit (wrapL k n)
  | a=>.conv k a
noncomputable def mkMax (a b:IE):IE :=
  match a,b with
  | .lit x,.lit y=>.lit (cond (ilt x y) y x)
  | a,b=>.mx a b
noncomputable def mkMin (a b:IE):IE :=
  match a,b with
  | .lit x,.lit y=>.lit (cond (ilt y x) y x)
  | a,b=>.mn a b
noncomputable def BE.mkNot (a:BE):BE :=
  match a with
  | .lit b=>.lit (Bool.not b)
  | b=>.not b
noncomputable def BE.mkIff (a b:BE):BE :=
  match a,b with
  | .lit x,.lit y=>.lit (x == y)
  | a,b=>.iff a b
inductive AV where
  | bool (b:BE)
  | int (k:IntKind) (e:IE)
  | ptr (b off:Nat)
  | nilptr
  | slice (b off len cap:Nat)
  | sliceX (b size lo len:Nat)
  | sliceU (i:Nat)
  | sliceV (b i:Nat)
  | ptrV (b i size off:Nat) (e:IE)
  | nilslice
  | map (b:Nat)
  | nilmap
  | func (fn:Fn) (first captured:List AV)
  | yieldF (l:Nat)
  | nilFunc
  | agg (cs:List AV)
  | tup (vs:List AV)
  | opq (i:Nat)
  | bad
noncomputable def gz:AV:=.tup []
inductive Opd where
  | t (n:Nat)
  | c (v:AV)
inductive Leaf where
  | int | bool | nilS | nilM | nilP | nilF
inductive Ex where
  | norm
  | exit (id:Nat)
  | ret
structure Pres where
  sure:Nat
  keys:List (BE × IE × IE × IE)
  cl:List Nat
structure MU where
  fb:Nat
  fi:List (Bool × Nat)
  ag:Bool
  nk:Nat
  live:Bool
  ps:Pres
inductive AObj where
  | umap (m:MU)
  | cells (cs:List AV) (elem:TypeId) (own ext:Bool)
  | map (es:List (AV × AV × Nat)) (clock:Nat)
  | rmap (es:List (AV × AV × Nat)) (clock:Nat)
  | ucells (i:Nat) (ks:List Bool)
  | loop (st:LoopState) (pend:Ex) (fn:FuncId) (tmps:PT AV) (params:List Nat) (code:Nat) (defers:Nat)
  | defd (there:Bool)
  | resv
  | dead
structure Heap where
  objs:PT AObj
  next:Nat
noncomputable def Heap.get (h:Heap) (b:Nat):Option AObj:=h.objs.get b
noncomputable def Heap.put (h:Heap) (b:Nat) (o:AObj):Heap:=⟨h.objs.set b o,h.next⟩
noncomputable def Heap.new (h:Heap) (o:AObj):Heap:=⟨h.objs.set h.next o,Nat.succ h.next⟩
inductive T (α:Type) where
  | ret (a:α)
  | br (c:BE) (t f:T α)
  | fail (why:Nat)
noncomputable def T.bind {α β:Type} (t:T α) (k:α→T β):T β :=
  @T.rec α (fun _=>T β) k (fun c _ _ x y=>.br c x y) (fun w=>.fail w) t
noncomputable def T.ite {α:Type} (c:BE) (t f:T α):T α :=
  match c with
  | .lit b=>cond b t f
  | c=>.br c t f
noncomputable def T.of {α:Type} (why:Nat) (o:Option α):T α :=
  match o with
  | some a=>.ret a
  | none=>.fail why
noncomputable def mk2 (h:Heap) (why:Nat) (o:Option AV):T (AV × Heap) :=
  match o with
  | some v=>.ret (v,h)
  | none=>.fail why
structure Tm where
  loc:List (Nat × AV)
  tree:PT AV
noncomputable def Tm.look (tm:Tm) (n:Nat):Option AV :=
  match aA tm.loc n with
  | some v=>some v
  | none=>tm.tree.get n
noncomputable def ev (tm:Tm) (x:Opd):AV :=
  match x with
  | .t n=>(match tm.look n with
    | some v=>v
    | none=>.bad)
  | .c v=>v
noncomputable def AV.cellsOf (v:AV):List AV :=
  match v with
  | .agg cs=>cs
  | v=>[v]
noncomputable def okCell (v:AV):Bool :=
  match v with
  | .agg _=>false
  | .tup _=>false
  | .opq _=>false
  | .bad=>false
  | _=>true
noncomputable def aT (v:AV):Bool :=
  match v with
  | .bad=>false
  | _=>true
noncomputable def fp {α:Type} (l:List α) (off n:Nat):Option (List α) :=
  cond (Nat.ble (Nat.add off n) (lLen l)) (some (lTake (lDrop l off) n)) none
noncomputable def gh {α:Type} (l:List α) (off:Nat) (xs:List α):Option (List α) :=
  cond (Nat.ble (Nat.add off (lLen xs)) (lLen l)) (some (cC (lTake l off) (cC xs (lDrop l (Nat.add off (lLen xs)))))) none
noncomputable def Heap.cells (h:Heap) (b:Nat):Option (List AV) :=
  match h.get b with
  | some (.cells cs _ _ _)=>some cs
  | _=>none
noncomputable def cellU (i off:Nat) (e:IE) (k:Bool):AV:=cond k (.bool (.app (Nat.add 1000 i) e (.lit (Int.ofNat off)) (.lit 0))) (.int .i64 (.app (Nat.add 1000 i) e (.lit (Int.ofNat off)) (.lit 0)))
noncomputable def cellsU (i:Nat) (e:IE):List Bool→Nat→List AV
  | [],_=>[]
  | k :: ks,off=>cellU i off e k :: cellsU i e ks (Nat.succ off)
noncomputable def aload (h:Heap) (a:AV):Option AV :=
  match a with
  | .ptr b off=>(match h.cells b with
    | some cs=>da cs off
    | none=>none)
  | .ptrV b i size off e=>(match h.get b with
    | some (.ucells i' ks)=>cond (and (Nat.beq i i') (Nat.beq size (lLen ks))) (match da ks off with
      | some k=>some (cellU i off e k)
      | none=>none) none
    | _=>none)
  | _=>none
noncomputable def aloadN (n:Nat) (h:Heap) (a:AV):Option AV :=
  match a with
  | .ptr b off=>(match h.cells b with
    | some cs=>(fp cs off n).map .agg
    | none=>none)
  | .ptrV b i size off e=>(match h.get b with
    | some (.ucells i' ks)=>cond (and (Nat.beq i i') (Nat.beq size (lLen ks))) (match fp ks off n with
      | some l=>some (.agg (cellsU i e l off))
      | none=>none) none
    | _=>none)
  | _=>none
noncomputable def dc (l:List AV):Bool:=bz okCell l
noncomputable def astoreC (n:Nat) (h:Heap) (b off:Nat) (vs:List AV):Option Heap :=
  match h.get b with
  | some (.cells cs e own x) =>
    cond (and own (and (Nat.beq (lLen vs) n) (dc vs)))
      (match gh cs off vs with
      | some cs'=>some (h.put b (.cells cs' e true x))
      | none=>none) none
  | _=>none
noncomputable def astore (n:Nat) (h:Heap) (a v:AV):Option Heap :=
  match a with
  | .ptr b off=>astoreC n h b off v.cellsOf
  | _=>none
noncomputable def asNat (v:AV):Option Nat :=
  match v with
  | .int _ (.lit (.ofNat n))=>some n
  | _=>none
noncomputable def dv (j k:IntKind):Bool :=
  match j,k with
  | .i8,.i8=>true
  | .i16,.i16=>true
  | .i32,.i32=>true
  | .i64,.i64=>true
  | .u8,.u8=>true
  | .u16,.u16=>true
  | .u32,.u32=>true
  | .u64,.u64=>true
  | _,_=>false
noncomputable def eO (l:Leaf) (x y:AV):Option BE :=
  match l with
  | .int=>(match x,y with
    | .int k a,.int k' b=>cond (dv k k') (mkCmp .eql a b) none
    | _,_=>none)
  | .bool=>(match x,y with
    | .bool a,.bool b=>some (a.mkIff b)
    | _,_=>none)
  | .nilS=>(match x,y with
    | .nilslice,.nilslice=>some (.lit true)
    | .nilslice,.slice _ _ _ _=>some (.lit false)
    | .nilslice,.sliceX _ _ _ _=>some (.lit false)
    | .slice _ _ _ _,.nilslice=>some (.lit false)
    | .sliceX _ _ _ _,.nilslice=>some (.lit false)
    | _,_=>none)
  | .nilM=>(match x,y with
    | .nilmap,.nilmap=>some (.lit true)
    | .nilmap,.map _=>some (.lit false)
    | .map _,.nilmap=>some (.lit false)
    | _,_=>none)
  | .nilP=>(match x,y with
    | .nilptr,.nilptr=>some (.lit true)
    | .nilptr,.ptr _ _=>some (.lit false)
    | .ptr _ _,.nilptr=>some (.lit false)
    | _,_=>none)
  | .nilF=>(match x,y with
    | .nilFunc,.nilFunc=>some (.lit true)
    | .nilFunc,.func _ _ _=>some (.lit false)
    | .func _ _ _,.nilFunc=>some (.lit false)
    | .nilFunc,.yieldF _=>some (.lit false)
    | .yieldF _,.nilFunc=>some (.lit false)
    | _,_=>none)
noncomputable def bA (xs ys:List AV) (ls:List (Nat × Leaf)):Option BE :=
  @List.rec (Nat × Leaf) (fun _=>Option BE) (some (.lit true))
    (fun p _ ih=>match da xs p.1,da ys p.1 with
      | some x,some y=>(match eO p.2 x y with
        | some (.lit c)=>cond c ih (some (.lit false))
        | some c=>(match ih with
          | some d=>some (.and c d)
          | none=>none)
        | none=>none)
      | _,_=>none) ls
noncomputable def eqV (whole:Bool) (n:Nat) (ls:List (Nat × Leaf)) (x y:AV):Option BE :=
  cond whole
    (match x,y with
    | .agg xs,.agg ys=>cond (and (Nat.beq (lLen xs) n) (Nat.beq (lLen ys) n)) (bA xs ys ls) none
    | _,_=>none)
    (match x,y with
    | .agg _,_=>none
    | _,.agg _=>none
    | x,y=>bA [x] [y] ls)
noncomputable def aarith (op:BinOp) (x y:AV):Option AV :=
  match x,y with
  | .int k a,.int k' b=>cond (dv k k') (match mkBin op k a b with
    | some e=>some (.int k e)
    | none=>none) none
  | _,_=>none
noncomputable def acmp (op:BinOp) (x y:AV):Option AV :=
  match x,y with
  | .int k a,.int k' b=>cond (dv k k') (match mkCmp op a b with
    | some e=>some (.bool e)
    | none=>none) none
  | _,_=>none
noncomputable def ashift (op:BinOp) (x y:AV):Option AV :=
  match x,y with
  | .int k (.lit a),.int _ (.lit b)=>(match litShift op k a b with
    | some n=>some (.int k (.lit n))
    | none=>none)
  | _,_=>none
noncomputable def aeq (ng whole:Bool) (n:Nat) (ls:List (Nat × Leaf)) (x y:AV):Option AV :=
  match eqV whole n ls x y with
  | some b=>some (.bool (cond ng b.mkNot b))
  | none=>none
noncomputable def anot (x:AV):Option AV :=
  match x with
  | .bool b=>some (.bool b.mkNot)
  | _=>none
noncomputable def aneg (x:AV):Option AV :=
  match x with
  | .int k a=>(match mkBin .sub k (.lit 0) a with
    | some e=>some (.int k e)
    | none=>none)
  | _=>none
noncomputable def aconv (k:IntKind) (x:AV):Option AV :=
  match x with
  | .int _ e=>some (.int k (mkConv k e))
  | _=>none
noncomputable def fillA (ps:List (Nat × Nat × AV)):List AV→Option (List AV) :=
  @List.rec (Nat × Nat × AV) (fun _=>List AV→Option (List AV)) (fun cs=>some cs)
    (fun p _ ih cs=>cond (and (Nat.beq (lLen p.2.2.cellsOf) p.2.1) (dc p.2.2.cellsOf))
      (match gh cs p.1 p.2.2.cellsOf with
      | some cs'=>ih cs'
      | none=>none) none) ps
noncomputable def rep {α:Type} (l:List α):Nat→List α
  | 0=>[]
  | n + 1=>l ++ rep l n
noncomputable def aiaddr (size:Nat) (x ix:AV):Option AV :=
  match asNat ix with
  | some n=>(match x with
    | .slice b off len _=>cond (Nat.ble (Nat.succ n) len) (some (.ptr b (off + n * size))) none
    | .sliceX b s lo len=>cond (and (Nat.ble (Nat.succ n) len) (Nat.beq s size)) (some (.ptr b (lo * size + n * size))) none
    | _=>none)
  | none=>none
noncomputable def aiaddrA (size len:Nat) (x ix:AV):Option AV :=
  match asNat ix with
  | some n=>(match x with
    | .ptr b off=>cond (Nat.ble (Nat.succ n) len) (some (.ptr b (off + n * size))) none
    | _=>none)
  | none=>none
noncomputable def partA (whole:Bool) (cs:List AV) (off n:Nat):Option AV :=
  cond whole ((fp cs off n).map .agg) (da cs off)
noncomputable def aindex (whole:Bool) (size len:Nat) (x ix:AV):Option AV :=
  match asNat ix with
  | some n=>(match x with
    | .agg cs=>cond (Nat.ble (Nat.succ n) len) (partA whole cs (n * size) size) none
    | _=>none)
  | none=>none
noncomputable def gi (d:Nat) (x:Option AV):Option Nat :=
  match x with
  | none=>some d
  | some v=>asNat v
noncomputable def sliceIn (b off size len cap:Nat) (lo hi mx:Option AV):Option AV :=
  match gi cap mx,gi len hi,gi 0 lo with
  | some m,some h,some l =>
    cond (and (Nat.ble m cap) (and (Nat.ble h m) (Nat.ble l h)))
      (some (.slice b (cond (Nat.beq m l) off (off + l * size)) (h - l) (m - l))) none
  | _,_,_=>none
noncomputable def aslice (size:Nat) (x:AV) (lo hi mx:Option AV):Option AV :=
  match x with
  | .slice b off len cap=>sliceIn b off size len cap lo hi mx
  | .sliceX b s z len =>
    cond (and (Nat.beq s size) (Nat.beq z 0))
      (match mx with
      | none=>(match gi len hi,gi 0 lo with
        | some h,some l=>cond (and (Nat.ble h len) (Nat.ble l h)) (some (.sliceX b size l (h - l))) none
        | _,_=>none)
      | some m=>sliceIn b 0 size len len lo hi (some m)) none
  | .nilslice=>(match gi 0 mx,gi 0 hi,gi 0 lo with
    | some m,some h,some l=>cond (and (Nat.beq m 0) (and (Nat.beq h 0) (Nat.beq l 0))) (some .nilslice) none
    | _,_,_=>none)
  | _=>none
noncomputable def asliceA (size n:Nat) (x:AV) (lo hi mx:Option AV):Option AV :=
  match x with
  | .ptr b off=>sliceIn b off size n n lo hi mx
  | _=>none
noncomputable def bn (whole:Bool) (n:Nat) (ls:List (Nat × Leaf)) (k:AV) (es:List (AV × AV × Nat)):Nat→Option (Option (Nat × AV)) :=
  @List.rec (AV × AV × Nat) (fun _=>Nat→Option (Option (Nat × AV))) (fun _=>some none)
    (fun e _ ih i=>match eqV whole n ls k e.1 with
      | some (.lit c)=>cond c (some (some (i,e.2.1))) (ih (Nat.succ i))
      | _=>none) es
noncomputable def Heap.entries (h:Heap) (x:AV):Option (List (AV × AV × Nat)) :=
  match x with
  | .nilmap=>some []
  | .map b=>(match h.get b with
    | some (.map es _)=>some es
    | some (.rmap es _)=>some es
    | _=>none)
  | _=>none
noncomputable def keyOk (whole:Bool) (n:Nat) (ls:List (Nat × Leaf)) (k:AV):Bool :=
  match eqV whole n ls k k with
  | some _=>true
  | none=>false
noncomputable def alookup (h:Heap) (zero:AV) (whole:Bool) (n:Nat) (ls:List (Nat × Leaf)) (ok:Bool) (x k:AV):Option AV :=
  cond (keyOk whole n ls k) (match h.entries x with
  | some es=>(match bn whole n ls k es 0 with
    | some (some p)=>some (cond ok (.tup [p.2,.bool (.lit true)]) p.2)
    | some none=>some (cond ok (.tup [zero,.bool (.lit false)]) zero)
    | none=>none)
  | none=>none) none
noncomputable def eg {α:Type} (f:α→α):List α→Nat→List α
  | [],_=>[]
  | a :: l,0=>f a :: l
  | a :: l,n + 1=>a :: eg f l n
noncomputable def amapset (h:Heap) (whole:Bool) (n:Nat) (ls:List (Nat × Leaf)) (m k v:AV):Option Heap :=
  match m with
  | .map b=>cond (and (keyOk whole n ls k) (aT v)) (match h.get b with
    | some (.map es clock)=>(match bn whole n ls k es 0 with
      | some (some p)=>some (h.put b (.map (eg (fun e=>(k,v,e.2.2)) es p.1) clock))
      | some none=>some (h.put b (.map (cC es [(k,v,clock)]) (Nat.succ clock)))
      | none=>none)
    | _=>none) none
  | _=>none
noncomputable def alenS (x:AV):Option AV :=
  match x with
  | .slice _ _ n _=>some (.int .i64 (.lit (Int.ofNat n)))
  | .sliceX _ _ _ n=>some (.int .i64 (.lit (Int.ofNat n)))
  | .sliceU i=>some (.int .i64 (.var i))
  | .sliceV _ i=>some (.int .i64 (.var i))
  | .nilslice=>some (.int .i64 (.lit (Int.ofNat 0)))
  | _=>none
noncomputable def alenM (h:Heap) (x:AV):Option AV :=
  match x with
  | .nilmap=>some (.int .i64 (.lit (Int.ofNat 0)))
  | .map b=>(match h.get b with
    | some (.map es _)=>some (.int .i64 (.lit (Int.ofNat (lLen es))))
    | some (.rmap es _)=>some (.int .i64 (.lit (Int.ofNat (lLen es))))
    | _=>none)
  | _=>none
noncomputable def max2 (a b:AV):Option AV :=
  match a,b with
  | .int k x,.int _ y=>some (.int k (mkMax x y))
  | _,_=>none
noncomputable def min2 (a b:AV):Option AV :=
  match a,b with
  | .int k x,.int _ y=>some (.int k (mkMin x y))
  | _,_=>none
noncomputable def foldA (f:AV→AV→Option AV):AV→List AV→Option AV
  | x,[]=>some x
  | x,y :: l=>match f x y with
    | some z=>foldA f z l
    | none=>none
noncomputable def foldL (f:AV→AV→Option AV) (l:List AV):Option AV :=
  match l with
  | x :: l=>foldA f x l
  | []=>none
noncomputable def firstA (h:Heap) (size n:Nat) (x:AV):Option (List AV) :=
  match x with
  | .slice b off len _=>cond (Nat.ble n len) (match h.cells b with
    | some cs=>fp cs off (n * size)
    | none=>none) none
  | .sliceX b s lo len=>cond (and (Nat.ble n len) (Nat.beq s size)) (cond (Nat.beq n 0) (some []) (match h.cells b with
    | some cs=>fp cs (lo * size) (n * size)
    | none=>none)) none
  | .nilslice=>cond (Nat.beq n 0) (some []) none
  | _=>none
noncomputable def lenA (x:AV):Option Nat :=
  match x with
  | .slice _ _ n _=>some n
  | .sliceX _ _ _ n=>some n
  | .nilslice=>some 0
  | _=>none
noncomputable def grow (h:Heap) (elem size n len:Nat) (old new:List AV):AV × Heap :=
  (.sliceX h.next size 0 (len + n),h.new (.cells (cC old new) elem true true))
noncomputable def appendTo (h:Heap) (elem size n:Nat) (s:AV) (new:List AV):Option (AV × Heap) :=
  match s with
  | .nilslice=>cond (Nat.beq n 0) (some (.nilslice,h)) (some (grow h elem size n 0 [] new))
  | .slice b off len cap =>
    cond (Nat.ble (len + n) cap)
      (cond (Nat.beq n 0) (some (.slice b off len cap,h))
        (match astoreC (n * size) h b (off + len * size) new with
        | some h'=>some (.slice b off (len + n) cap,h')
        | none=>none))
      (match firstA h size len s with
      | some old=>cond (Nat.ble len 1000000) (some (grow h elem size n len old new)) none
      | none=>none)
  | .sliceX b sz z len =>
    cond (Nat.beq n 0) (some (s,h))
      (match firstA h size len s,h.get b with
      | some old,some (.cells _ e own ext) =>
        cond (and (and own ext) (and (Nat.ble len 1000000) (and (Nat.beq e elem) (and (Nat.beq sz size) (Nat.beq z 0)))))
          (some (grow (h.put b .dead) elem size n len old new)) none
      | _,_=>none)
  | _=>none
noncomputable def aappend (h:Heap) (elem size bytes:Nat) (s x:AV):Option (AV × Heap) :=
  match lenA x with
  | some n=>(match firstA h size n x with
    | some new=>cond (and (Nat.ble n 1000000) (and (Nat.ble bytes 1000000) (and (Nat.ble 1 size) (dc new)))) (appendTo h elem size n s new) none
    | none=>none)
  | none=>none
noncomputable def acopy (h:Heap) (size:Nat) (d s:AV):Option (AV × Heap) :=
  match d with
  | .slice b off len _=>(match lenA s with
    | some m=>(match firstA h size (cond (Nat.ble m len) m len) s with
      | some new=>cond (dc new) (match astoreC ((cond (Nat.ble m len) m len) * size) h b off new with
        | some h'=>some (.int .i64 (.lit (Int.ofNat (cond (Nat.ble m len) m len))),h')
        | none=>none) none
      | none=>none)
    | none=>none)
  | _=>none
structure St where
  tm:Tm
  df:List Nat
  h:Heap
structure Wh where
  fn:FuncId
  rd:Option Nat
structure Cx where
  call:FuncId→List AV→Heap→T (AV × Heap)
  yield:Nat→List AV→Heap→T (AV × Heap)
  loops:Nat
abbrev Ins:=Cx→Tm→Heap→T (AV × Heap)
noncomputable def callA (cx:Cx) (f:AV) (args:List AV) (h:Heap):T (AV × Heap) :=
  match f with
  | .func fn first captured=>(match fn with
    | .func f=>cx.call f (cC first (cC args captured)) h
    | _=>.fail 30)
  | .yieldF l=>cx.yield l args h
  | _=>.fail 30
noncomputable def pure1 (why:Nat) (f:AV→Option AV) (x:Opd):Ins:=fun _ tm h=>mk2 h why (f (ev tm x))
noncomputable def pure2 (why:Nat) (f:AV→AV→Option AV) (x y:Opd):Ins:=fun _ tm h=>mk2 h why (f (ev tm x) (ev tm y))
noncomputable def rMov (h:Heap) (v:AV):T (AV × Heap):=cond (aT v) (.ret (v,h)) (.fail 1)
noncomputable def ab (x:Opd):Ins:=fun _ tm h=>rMov h (ev tm x)
noncomputable def rPick (h:Heap) (c a b:AV):T (AV × Heap) :=
  match c with
  | .bool c=>T.ite c (rMov h a) (rMov h b)
  | _=>.fail 2
noncomputable def aR (c a b:Opd):Ins:=fun _ tm h=>rPick h (ev tm c) (ev tm a) (ev tm b)
noncomputable def rNew (h:Heap) (t:Nat) (cs:List AV):T (AV × Heap) :=
  cond (dc cs) (.ret (.ptr h.next 0,h.new (.cells cs t true false))) (.fail 3)
noncomputable def ay (t:Nat) (z:List AV):Ins:=fun _ _ h=>rNew h t z
noncomputable def cT (t:Nat) (x:Opd):Ins:=fun _ tm h=>rNew h t (ev tm x).cellsOf
noncomputable def evp (tm:Tm) (l:List (Nat × Nat × Opd)):List (Nat × Nat × AV):=lMap (fun p=>(p.1,p.2.1,ev tm p.2.2)) l
noncomputable def evs (tm:Tm) (l:List Opd):List AV:=lMap (ev tm) l
noncomputable def evo (tm:Tm) (x:Option Opd):Option AV :=
  match x with
  | some x=>some (ev tm x)
  | none=>none
noncomputable def rBuild (h:Heap) (z:List AV) (ps:List (Nat × Nat × AV)):T (AV × Heap) :=
  match fillA ps z with
  | some cs=>.ret (.agg cs,h)
  | none=>.fail 5
noncomputable def aK (z:List AV) (ps:List (Nat × Nat × Opd)):Ins:=fun _ tm h=>rBuild h z (evp tm ps)
noncomputable def rBslice (h:Heap) (elem:Nat) (cs:List AV) (len:Nat) (ps:List (Nat × Nat × AV)):T (AV × Heap) :=
  match fillA ps cs with
  | some cs=>.ret (.slice h.next 0 len len,h.new (.cells cs elem true false))
  | none=>.fail 6
noncomputable def cN (elem:Nat) (z:List AV) (len:Nat) (ps:List (Nat × Nat × Opd)):Ins:=fun _ tm h=>rBslice h elem (rep z len) len (evp tm ps)
noncomputable def au (x:Opd):Ins:=fun _ tm h=>mk2 h 7 (aload h (ev tm x))
noncomputable def ac (n:Nat) (x:Opd):Ins:=fun _ tm h=>mk2 h 7 (aloadN n h (ev tm x))
noncomputable def rStore (h:Heap) (n:Nat) (a x:AV):T (AV × Heap) :=
  match astore n h a x with
  | some h'=>.ret (gz,h')
  | none=>.fail 8
noncomputable def aj (n:Nat) (a x:Opd):Ins:=fun _ tm h=>rStore h n (ev tm a) (ev tm x)
noncomputable def rFunc (h:Heap) (fn:Fn) (first captured:List AV):T (AV × Heap) :=
  cond (and (bz aT first) (bz aT captured)) (.ret (.func fn first captured,h)) (.fail 13)
noncomputable def iFunc (fn:Fn) (first captured:List Opd):Ins:=fun _ tm h=>rFunc h fn (evs tm first) (evs tm captured)
noncomputable def iMkmap:Ins:=fun _ _ h=>.ret (.map h.next,h.new (.map [] 0))
noncomputable def rMkslice (h:Heap) (elem:Nat) (z:List AV) (bytes:Nat) (l c:AV):T (AV × Heap) :=
  match asNat l,asNat c with
  | some l, some c => cond (and (Nat.ble c 1000000) (and (Nat.ble bytes 1000000) (Nat.ble l c)))
      (.ret (.slice h.next 0 l c,h.new (.cells (rep z c) elem true false))) (.fail 14)
  | _,_=>.fail 14
noncomputable def iMkslice (elem:Nat) (z:List AV) (bytes:Nat) (l c:Opd):Ins:=fun _ tm h=>rMkslice h elem z bytes (ev tm l) (ev tm c)
noncomputable def iSlice (size:Nat) (x:Opd) (lo hi mx:Option Opd):Ins:=fun _ tm h=>mk2 h 15 (aslice size (ev tm x) (evo tm lo) (evo tm hi) (evo tm mx))
noncomputable def iSliceA (size n:Nat) (x:Opd) (lo hi mx:Option Opd):Ins:=fun _ tm h=>mk2 h 15 (asliceA size n (ev tm x) (evo tm lo) (evo tm hi) (evo tm mx))
noncomputable def faddrA (off:Nat) (x:AV):Option AV :=
  match x with
  | .ptr b o=>some (.ptr b (o + off))
  | .ptrV b i s o e=>some (.ptrV b i s (o + off) e)
  | _=>none
noncomputable def fieldA (whole:Bool) (off n:Nat) (x:AV):Option AV :=
  match x with
  | .agg cs=>partA whole cs off n
  | _=>none
noncomputable def umKey (nk:Nat) (k:AV):Option (IE × IE × IE) :=
  match k with
  | .agg cs=>(match cs with
    | [.int k1 a]=>cond (and (isI64 k1) (Nat.beq nk 1)) (some (a,.lit 0,.lit 0)) none
    | [.int k1 a,.int k2 b]=>cond (and (isI64 k1) (and (isI64 k2) (Nat.beq nk 2))) (some (a,b,.lit 0)) none
    | [.int k1 a,.int k2 b,.int k3 c]=>cond (and (isI64 k1) (and (isI64 k2) (and (isI64 k3) (Nat.beq nk 3)))) (some (a,b,c)) none
    | _=>none)
  | _=>none
noncomputable def isIntL (l:Leaf):Bool :=
  match l with
  | .int=>true
  | _=>false
noncomputable def lvInts (ls:List (Nat × Leaf)) (n:Nat):Bool :=
  match ls with
  | [p]=>and (Nat.beq n 1) (and (Nat.beq p.1 0) (isIntL p.2))
  | [p,q]=>and (Nat.beq n 2) (and (and (Nat.beq p.1 0) (isIntL p.2)) (and (Nat.beq q.1 1) (isIntL q.2)))
  | [p,q,r]=>and (Nat.beq n 3) (and (and (Nat.beq p.1 0) (isIntL p.2)) (and (and (Nat.beq q.1 1) (isIntL q.2)) (and (Nat.beq r.1 2) (isIntL r.2))))
  | _=>false
noncomputable def umCell (q:IE × IE × IE) (p:Bool × Nat):AV:=cond p.1 (.bool (.app p.2 q.1 q.2.1 q.2.2)) (.int .i64 (.app p.2 q.1 q.2.1 q.2.2))
noncomputable def umVal (m:MU) (q:IE × IE × IE):AV :=
  cond m.ag (.agg (lMap (umCell q) m.fi)) (match m.fi with
  | [p]=>umCell q p
  | _=>.bad)
noncomputable def umOk (m:MU):Bool :=
  cond m.ag true (match m.fi with
  | [_]=>true
  | _=>false)
noncomputable def umAt (h:Heap) (x:AV):Option (Nat × MU) :=
  match x with
  | .map b=>(match h.get b with
    | some (.umap m)=>some (b,m)
    | _=>none)
  | _=>none
noncomputable def opEq (a b:BinOp):Bool :=
  match a,b with
  | .add,.add=>true
  | .sub,.sub=>true
  | .mul,.mul=>true
  | .quo,.quo=>true
  | .rem,.rem=>true
  | _,_=>false
noncomputable def gX:IE→IE→Bool
  | .lit a,.lit b=>ieq a b
  | .var i,.var j=>Nat.beq i j
  | .bin o k a b,.bin o' k' a' b'=>and (and (opEq o o') (dv k k')) (and (gX a a') (gX b b'))
  | .conv k a,.conv k' a'=>and (dv k k') (gX a a')
  | .mx a b,.mx a' b'=>and (gX a a') (gX b b')
  | .mn a b,.mn a' b'=>and (gX a a') (gX b b')
  | .app f a b c,.app f' a' b' c'=>and (Nat.beq f f') (and (gX a a') (and (gX b b') (gX c c')))
  | _,_=>false
noncomputable def keyEq (a b:IE × IE × IE):Bool:=and (gX a.1 b.1) (and (gX a.2.1 b.2.1) (gX a.2.2 b.2.2))
noncomputable def presK (q:IE × IE × IE):List (BE × IE × IE × IE)→Option BE
  | []=>none
  | f :: l=>cond (keyEq f.2 q) (some f.1) (presK q l)
noncomputable def nextOf (cl:List Nat) (q:IE × IE × IE):Option (IE × IE × IE) :=
  match cl,q with
  | [_,p,x,y],(.app p' a b c,.app x' a' b' c',.app y' a'' b'' c'')=>cond (and (and (Nat.beq p p') (and (Nat.beq x x') (Nat.beq y y'))) (and (keyEq (a,b,c) (a',b',c')) (keyEq (a,b,c) (a'',b'',c'')))) (some (a,b,c)) none
  | _,_=>none
noncomputable def pres (s:Pres) (nk:Nat):Nat→IE × IE × IE→Option (List BE)
  | 0,_=>none
  | n + 1,q=>match presK q s.keys with
    | some c=>some [c]
    | none=>(match nextOf s.cl q with
      | some q0=>(match pres s nk n q0,s.cl with
        | some cs,e :: p :: _=>cond (Nat.beq nk 3) (some (.app e q0.1 q0.2.1 q0.2.2 :: .cmp .leq (.lit 1) (.app p q0.1 q0.2.1 q0.2.2) :: cs)) none
        | _,_=>none)
      | none=>cond (Nat.beq s.sure 0) none (some [.app s.sure q.1 q.2.1 q.2.2]))
noncomputable def dD {α:Type} (t:T α):List BE→T α
  | []=>t
  | c :: l=>.br c (dD t l) (.fail 99)
noncomputable def rLookupU (h:Heap) (m:MU) (zero:AV) (whole:Bool) (n:Nat) (ls:List (Nat × Leaf)) (ok:Bool) (k:AV):T (AV × Heap) :=
  match umKey m.nk k with
  | some q => cond (and (umOk m) (and whole (and (Nat.beq n m.nk) (lvInts ls n)))) (cond m.live (.br (.app m.fb q.1 q.2.1 q.2.2) (.ret (cond ok (.tup [umVal m q, .bool (.lit true)]) (umVal m q), h)) (.ret (cond ok (.tup [zero, .bool (.lit false)]) zero, h)))
      (match pres m.ps m.nk 8 q with
      | some cs=>dD (.ret (cond ok (.tup [umVal m q,.bool (.lit true)]) (umVal m q),h)) cs
      | none=>.fail 20)) (.fail 20)
  | none=>.fail 20
noncomputable def rLookup (h:Heap) (zero:AV) (whole:Bool) (n:Nat) (ls:List (Nat × Leaf)) (ok:Bool) (x k:AV):T (AV × Heap) :=
  match umAt h x with
  | some p=>rLookupU h p.2 zero whole n ls ok k
  | none=>mk2 h 20 (alookup h zero whole n ls ok x k)
noncomputable def dX (zero:AV) (whole:Bool) (n:Nat) (ls:List (Nat × Leaf)) (ok:Bool) (x k:Opd):Ins:=fun _ tm h=>rLookup h zero whole n ls ok (ev tm x) (ev tm k)
noncomputable def umNeed (q:IE × IE × IE):List (Bool × Nat)→List AV→Option (List BE)
  | [],[]=>some []
  | p :: l,v :: vs=>(match umNeed q l vs with
    | none=>none
    | some cs=>(match v with
      | .int k e=>cond (and (isI64 k) (Bool.not p.1)) (some (.cmp .eql e (.app p.2 q.1 q.2.1 q.2.2) :: cs)) none
      | .bool c=>cond p.1 (some (.iff c (.app p.2 q.1 q.2.1 q.2.2) :: cs)) none
      | _=>none))
  | _,_=>none
noncomputable def isAggV (v:AV):Bool :=
  match v with
  | .agg _=>true
  | _=>false
noncomputable def eqBool (a b:Bool):Bool:=cond a b (Bool.not b)
noncomputable def MU.dull (m:MU):MU:=⟨m.fb,m.fi,m.ag,m.nk,false,m.ps⟩
noncomputable def MU.set (m:MU) (q:IE × IE × IE):MU:=⟨m.fb,m.fi,m.ag,m.nk,false,⟨m.ps.sure,(.lit true,q) :: m.ps.keys,m.ps.cl⟩⟩
noncomputable def clT {α:Type} (s:Pres) (q:IE × IE × IE) (t:T α):T α :=
  match s.cl with
  | [e,p,x,y]=>.br (.and (.app e q.1 q.2.1 q.2.2) (.cmp .leq (.lit 1) (.app p q.1 q.2.1 q.2.2))) (match s.keys with
    | f :: _=>dD t [f.1,.cmp .eql f.2.1 (.app p q.1 q.2.1 q.2.2),.cmp .eql f.2.2.1 (.app x q.1 q.2.1 q.2.2),.cmp .eql f.2.2.2 (.app y q.1 q.2.1 q.2.2)]
    | []=>.fail 22) t
  | _=>t
noncomputable def rMapsetU (h:Heap) (b:Nat) (m:MU) (whole:Bool) (n:Nat) (ls:List (Nat × Leaf)) (k v:AV):T (AV × Heap) :=
  match umKey m.nk k with
  | some q=>(match umNeed q m.fi v.cellsOf with
    | some cs=>cond (and (and (umOk m) (eqBool (isAggV v) m.ag)) (and whole (and (Nat.beq n m.nk) (lvInts ls n)))) (dD (clT m.ps q (.ret (gz,h.put b (.umap (m.set q))))) cs) (.fail 21)
    | none=>.fail 21)
  | none=>.fail 21
noncomputable def rMapset (h:Heap) (whole:Bool) (n:Nat) (ls:List (Nat × Leaf)) (m k v:AV):T (AV × Heap) :=
  match umAt h m with
  | some p=>rMapsetU h p.1 p.2 whole n ls k v
  | none=>(match amapset h whole n ls m k v with
    | some h'=>.ret (gz,h')
    | none=>.fail 21)
noncomputable def iMapset (whole:Bool) (n:Nat) (ls:List (Nat × Leaf)) (m k v:Opd):Ins:=fun _ tm h=>rMapset h whole n ls (ev tm m) (ev tm k) (ev tm v)
noncomputable def entA (es:List (AV × AV × Nat)) (p:Nat × AV) (k:AV) (h:Heap) (b clock:Nat):Option (AV × Heap) :=
  match da es p.1 with
  | some e=>some (.tup [p.2,.int .i64 (.lit (Int.ofNat e.2.2))],h.put b (.map (eg (fun e=>(k,e.2.1,e.2.2)) es p.1) clock))
  | none=>none
noncomputable def amapent (h:Heap) (zero:AV) (whole:Bool) (n:Nat) (ls:List (Nat × Leaf)) (m k:AV):Option (AV × Heap) :=
  match m with
  | .map b=>cond (keyOk whole n ls k) (match h.get b with
    | some (.map es clock)=>(match bn whole n ls k es 0 with
      | some (some p)=>entA es p k h b clock
      | some none=>some (.tup [zero,.int .i64 (.lit (Int.ofNat clock))],h.put b (.map (cC es [(k,zero,clock)]) (Nat.succ clock)))
      | none=>none)
    | _=>none) none
  | _=>none
noncomputable def iMapent (zero:AV) (whole:Bool) (n:Nat) (ls:List (Nat × Leaf)) (m k:Opd):Ins:=fun _ tm h=>T.of 29 (amapent h zero whole n ls (ev tm m) (ev tm k))
noncomputable def bornAt (n:Nat) (es:List (AV × AV × Nat)):Nat→Option Nat :=
  @List.rec (AV × AV × Nat) (fun _=>Nat→Option Nat) (fun _=>none) (fun e _ ih i=>cond (Nat.beq e.2.2 n) (some i) (ih (Nat.succ i))) es
noncomputable def aentset (h:Heap) (m s v:AV):Option Heap :=
  match m with
  | .map b=>(match asNat s with
    | some n=>cond (aT v) (match h.get b with
      | some (.map es clock)=>(match bornAt n es 0 with
        | some i=>some (h.put b (.map (eg (fun e=>(e.1,v,e.2.2)) es i) clock))
        | none=>none)
      | _=>none) none
    | none=>none)
  | _=>none
noncomputable def rEntset (h:Heap) (m s v:AV):T (AV × Heap) :=
  match aentset h m s v with
  | some h'=>.ret (gz,h')
  | none=>.fail 30
noncomputable def iEntset (m s v:Opd):Ins:=fun _ tm h=>rEntset h (ev tm m) (ev tm s) (ev tm v)
noncomputable def extractA (i:Nat) (x:AV):Option AV :=
  match x with
  | .tup vs=>da vs i
  | _=>none
noncomputable def rCall (cx:Cx) (f:AV) (args:List AV) (h:Heap):T (AV × Heap):=cond (bz aT args) (callA cx f args h) (.fail 23)
noncomputable def ar (f:Opd) (args:List Opd):Ins:=fun cx tm h=>rCall cx (ev tm f) (evs tm args) h
noncomputable def cO (x:Opd):Ins:=pure1 25 alenS x
noncomputable def iLenM (x:Opd):Ins:=fun _ tm h=>mk2 h 25 (alenM h (ev tm x))
noncomputable def iLenA (n:Nat):Ins:=fun _ _ h=>.ret (.int .i64 (.lit (Int.ofNat n)),h)
noncomputable def iMax (xs:List Opd):Ins:=fun _ tm h=>mk2 h 26 (foldL max2 (evs tm xs))
noncomputable def iMin (xs:List Opd):Ins:=fun _ tm h=>mk2 h 26 (foldL min2 (evs tm xs))
noncomputable def gj (elem size bytes:Nat) (s x:Opd):Ins:=fun _ tm h=>T.of 27 (aappend h elem size bytes (ev tm s) (ev tm x))
noncomputable def iCopy (size:Nat) (d s:Opd):Ins:=fun _ tm h=>T.of 28 (acopy h size (ev tm d) (ev tm s))
noncomputable def rDiv (h:Heap) (op:BinOp) (x y:AV):T (AV × Heap) :=
  match x,y with
  | .int k a,.int k' b=>cond (and (dv k k') (isDiv op)) (.br (.cmp .neq b (.lit 0)) (.ret (.int k (.bin op k a b),h)) (.fail 10)) (.fail 10)
  | _,_=>.fail 10
noncomputable def rArith (h:Heap) (op:BinOp) (x y:AV):T (AV × Heap) :=
  match aarith op x y with
  | some v=>.ret (v,h)
  | none=>rDiv h op x y
noncomputable def aF (op:BinOp) (x y:Opd):Ins:=fun _ tm h=>rArith h op (ev tm x) (ev tm y)
noncomputable def bF (op:BinOp) (x y:Opd):Ins:=pure2 10 (acmp op) x y
noncomputable def iShift (op:BinOp) (x y:Opd):Ins:=pure2 10 (ashift op) x y
noncomputable def iEq (ng whole:Bool) (n:Nat) (ls:List (Nat × Leaf)) (x y:Opd):Ins:=pure2 10 (aeq ng whole n ls) x y
noncomputable def iNot (x:Opd):Ins:=pure1 11 anot x
noncomputable def iNeg (x:Opd):Ins:=pure1 11 aneg x
noncomputable def iConv (k:IntKind) (x:Opd):Ins:=pure1 12 (aconv k) x
noncomputable def aa (off:Nat) (x:Opd):Ins:=pure1 16 (faddrA off) x
noncomputable def iField (whole:Bool) (off n:Nat) (x:Opd):Ins:=pure1 17 (fieldA whole off n) x
noncomputable def rIaddrV (h:Heap) (size b i:Nat) (ix:AV):T (AV × Heap) :=
  match ix with
  | .int _ e=>.br (.and (.cmp .leq (.lit 0) e) (.cmp .lss e (.var i))) (.ret (.ptrV b i size 0 e,h)) (.fail 18)
  | _=>.fail 18
noncomputable def cntA (x:AV):Nat :=
  match x with
  | .slice _ _ n _=>n
  | .sliceX _ _ _ n=>n
  | _=>0
noncomputable def rIaddrC (h:Heap) (size:Nat) (x:AV) (k:IntKind) (e:IE) (n:Nat):T (AV × Heap) :=
  @Nat.rec (fun _=>T (AV × Heap)) (.fail 18) (fun m ih=>.br (.cmp .leq (.lit (Int.ofNat m)) e) (mk2 h 18 (aiaddr size x (.int k (.lit (Int.ofNat m))))) ih) n
noncomputable def rIaddrS (h:Heap) (size:Nat) (x ix:AV):T (AV × Heap) :=
  match aiaddr size x ix with
  | some v=>.ret (v,h)
  | none=>(match ix with
    | .int k e=>.br (.and (.cmp .leq (.lit 0) e) (.cmp .lss e (.lit (Int.ofNat (cntA x))))) (rIaddrC h size x k e (cntA x)) (.fail 18)
    | _=>.fail 18)
noncomputable def rIaddr (h:Heap) (size:Nat) (x ix:AV):T (AV × Heap) :=
  match x with
  | .sliceV b i=>rIaddrV h size b i ix
  | x=>rIaddrS h size x ix
noncomputable def bw (size:Nat) (x ix:Opd):Ins:=fun _ tm h=>rIaddr h size (ev tm x) (ev tm ix)
noncomputable def rCaseC (h:Heap) (why:Nat) (g:AV→Option AV) (k:IntKind) (e:IE) (n:Nat):T (AV × Heap) :=
  @Nat.rec (fun _=>T (AV × Heap)) (.fail why) (fun m ih=>.br (.cmp .leq (.lit (Int.ofNat m)) e) (mk2 h why (g (.int k (.lit (Int.ofNat m))))) ih) n
noncomputable def rCase (h:Heap) (why n:Nat) (g:AV→Option AV) (ix:AV):T (AV × Heap) :=
  match g ix with
  | some v=>.ret (v,h)
  | none=>(match ix with
    | .int k e=>.br (.and (.cmp .leq (.lit 0) e) (.cmp .lss e (.lit (Int.ofNat n)))) (rCaseC h why g k e n) (.fail why)
    | _=>.fail why)
noncomputable def bB (size len:Nat) (x ix:Opd):Ins:=fun _ tm h=>rCase h 18 len (aiaddrA size len (ev tm x)) (ev tm ix)
noncomputable def iIndex (whole:Bool) (size len:Nat) (x ix:Opd):Ins:=fun _ tm h=>rCase h 19 len (aindex whole size len (ev tm x)) (ev tm ix)
noncomputable def ao (i:Nat) (x:Opd):Ins:=pure1 22 (extractA i) x
structure CI where
  dst:Option Nat
  keep:Bool
  guard:Option (Nat × Bool)
  f:Ins
noncomputable def Tm.put (tm:Tm) (d:Nat) (keep:Bool) (v:AV):Tm :=
  ⟨(d,v) :: tm.loc,cond keep (PT.set tm.tree d v) tm.tree⟩
noncomputable def setDst (tm:Tm) (d:Option Nat) (keep:Bool) (v:AV):Tm :=
  match d with
  | some d=>tm.put d keep v
  | none=>tm
noncomputable def guardOf (tm:Tm) (p:Nat × Bool):Option BE :=
  match tm.look p.1 with
  | some (.bool b)=>some (cond p.2 b b.mkNot)
  | some (.tup [])=>some (.lit false)
  | _=>none
noncomputable def runC (cx:Cx) (tm:Tm) (h:Heap) (o:CI):T (AV × Heap) :=
  match o.guard with
  | none=>o.f cx tm h
  | some g=>(match guardOf tm g with
    | some c=>T.ite c (o.f cx tm h) (.ret (gz,h))
    | none=>.fail 40)
noncomputable def fork {β:Type} (v:AV) (k:AV→T β):T β :=
  match v with
  | .bool c=>(match c with
    | .lit b=>k (.bool (.lit b))
    | c=>.br c (k (.bool (.lit true))) (k (.bool (.lit false))))
  | v=>k v
noncomputable def runOps (cx:Cx) (l:List CI):Tm→Heap→T (Tm × Heap) :=
  @List.rec CI (fun _=>Tm→Heap→T (Tm × Heap)) (fun tm h=>.ret (tm,h))
    (fun o _ ih tm h=>(runC cx tm h o).bind fun r=>fork r.1 fun v=>ih (setDst tm o.dst o.keep v) r.2) l
abbrev FIns:=Tm→Option (List AV)
inductive FK where
  | ptr
  | sl (len:Nat)
noncomputable def FK.val (k:FK) (b:Nat):AV :=
  match k with
  | .ptr=>.ptr b 0
  | .sl n=>.slice b 0 n n
structure DI where
  ci:CI
  reads:List Nat
  eff:Bool
  lo:Nat
  hi:Nat
  fl:Option (FIns × FK × Nat)
  due:List Nat
noncomputable def restrL (tm:Tm) (l:List Nat):List (Nat × AV):=@List.rec Nat (fun _=>List (Nat × AV)) [] (fun t _ ih=>match tm.look t with | some v=>(t,v) :: ih | none=>ih) l
noncomputable def eh (tm:Tm) (l:List Nat):Tm:=⟨restrL tm l,.nil⟩
noncomputable def gY (z:List AV):FIns:=fun _=>cond (dc z) (some z) none
noncomputable def flBox (y:Opd):FIns:=fun tm=>cond (dc (ev tm y).cellsOf) (some (ev tm y).cellsOf) none
noncomputable def flRep (z:List AV) (len:Nat):FIns:=fun _=>some (rep z len)
noncomputable def flSlice (z:List AV) (len:Nat) (q:List (Nat × Nat × Opd)):FIns:=fun tm=>fillA (evp tm q) (rep z len)
noncomputable def runFl (tm:Tm) (g:Option (Nat × Bool)) (f:FIns):Option (Option (List AV)) :=
  match g with
  | none=>(match f tm with
    | some cs=>some (some cs)
    | none=>none)
  | some p=>(match guardOf tm p with
    | some c=>(match c with
      | .lit b=>cond b (match f tm with
        | some cs=>some (some cs)
        | none=>none) (some none)
      | _=>none)
    | none=>none)
noncomputable def conv (base:Nat) (pend:List (Nat × List AV)):List Nat→Heap→Option Heap
  | [],h=>some h
  | j :: l,h=>match aA pend j with
    | none=>conv base pend l h
    | some cs=>(match h.get (base + j) with
      | some o=>(match o with
        | .resv=>conv base pend l (h.put (base + j) (.cells cs 0 true false))
        | .cells _ _ _ _=>conv base pend l h
        | _=>none)
      | none=>none)
noncomputable def resvN:Nat→Heap→Heap
  | 0,h=>h
  | m + 1,h=>resvN m (h.new .resv)
noncomputable def upN:Nat→Nat→List Nat
  | 0,_=>[]
  | m + 1,k=>k :: upN m (k + 1)
abbrev DR:=Tm × List Heap × List (Tm × AV) × List (Nat × List AV)
noncomputable def stepD (cx:Cx) (base:Nat) (o:DI) (k:Tm→Heap→List Heap→List (Tm × AV)→List (Nat × List AV)→T DR) (tm:Tm) (h:Heap) (hs:List Heap) (vs:List (Tm × AV)) (pend:List (Nat × List AV)):T DR :=
  match o.fl with
  | none=>(match conv base pend o.due h with
    | none=>.fail 94
    | some h1=>(runC cx (eh tm o.reads) h1 o.ci).bind fun r=>fork r.1 fun v=>k (setDst tm o.ci.dst o.ci.keep v) r.2 (cond o.eff (h :: hs) hs) ((eh tm o.reads,r.1) :: vs) pend)
  | some fl=>(match runFl (eh tm o.reads) o.ci.guard fl.1 with
    | none=>.fail 93
    | some none=>k (setDst tm o.ci.dst o.ci.keep gz) h hs ((eh tm o.reads,gz) :: vs) pend
    | some (some cs)=>k (setDst tm o.ci.dst o.ci.keep (fl.2.1.val (base + fl.2.2))) h hs ((eh tm o.reads,fl.2.1.val (base + fl.2.2)) :: vs) ((fl.2.2,cs) :: pend))
noncomputable def runD (cx:Cx) (base:Nat) (l:List DI):Tm→Heap→List Heap→List (Tm × AV)→List (Nat × List AV)→T DR :=
  @List.rec DI (fun _=>Tm→Heap→List Heap→List (Tm × AV)→List (Nat × List AV)→T DR) (fun tm h hs vs pend=>.ret (tm,h :: hs,vs,pend))
    (fun o _ ih tm h hs vs pend=>stepD cx base o ih tm h hs vs pend) l
noncomputable def cmpEq (a b:BinOp):Bool :=
  match a,b with
  | .eql,.eql=>true
  | .neq,.neq=>true
  | .lss,.lss=>true
  | .leq,.leq=>true
  | .gtr,.gtr=>true
  | .geq,.geq=>true
  | _,_=>false
noncomputable def eqBE:BE→BE→Bool
  | .lit a,.lit b=>a == b
  | .var i,.var j=>Nat.beq i j
  | .not a,.not b=>eqBE a b
  | .and a b,.and a' b'=>and (eqBE a a') (eqBE b b')
  | .cmp o a b,.cmp o' a' b'=>and (cmpEq o o') (and (gX a a') (gX b b'))
  | .iff a b,.iff a' b'=>and (eqBE a a') (eqBE b b')
  | .app f a b c,.app f' a' b' c'=>and (Nat.beq f f') (and (gX a a') (and (gX b b') (gX c c')))
  | _,_=>false
mutual
noncomputable def eqAV:AV→AV→Bool
  | .bool a,.bool b=>eqBE a b
  | .int k a,.int k' b=>and (dv k k') (gX a b)
  | .ptr b o,.ptr b' o'=>and (Nat.beq b b') (Nat.beq o o')
  | .nilptr,.nilptr=>true
  | .slice b o l c,.slice b' o' l' c'=>and (and (Nat.beq b b') (Nat.beq o o')) (and (Nat.beq l l') (Nat.beq c c'))
  | .sliceU i,.sliceU j=>Nat.beq i j
  | .sliceV b i,.sliceV b' i'=>and (Nat.beq b b') (Nat.beq i i')
  | .ptrV b i s o e,.ptrV b' i' s' o' e'=>and (and (Nat.beq b b') (Nat.beq i i')) (and (and (Nat.beq s s') (Nat.beq o o')) (gX e e'))
  | .sliceX b o l c,.sliceX b' o' l' c'=>and (and (Nat.beq b b') (Nat.beq o o')) (and (Nat.beq l l') (Nat.beq c c'))
  | .nilslice,.nilslice=>true
  | .map b,.map b'=>Nat.beq b b'
  | .nilmap,.nilmap=>true
  | .nilFunc,.nilFunc=>true
  | .yieldF b,.yieldF b'=>Nat.beq b b'
  | .func (.func f) x y,.func (.func f') x' y'=>and (Nat.beq f f') (and (dg x x') (dg y y'))
  | .agg x,.agg y=>dg x y
  | .tup x,.tup y=>dg x y
  | _,_=>false
noncomputable def dg:List AV→List AV→Bool
  | [],[]=>true
  | a :: l,b :: m=>and (eqAV a b) (dg l m)
  | _,_=>false
end
noncomputable def gZ (cx:Cx) (hs:List Heap) (v:Tm × AV) (o:DI) (j:Nat):T Bool :=
  match da hs j with
  | none=>.ret false
  | some h=>(runC cx v.1 h o.ci).bind fun r=>.ret (match o.ci.dst with
    | none=>true
    | some _=>eqAV r.1 v.2)
noncomputable def uptoT (f:Nat→T Bool) (n:Nat):Nat→T Bool:=@Nat.rec (fun _=>Nat→T Bool) (fun k=>f k) (fun _ ih k=>(f k).bind fun b=>cond b (ih (Nat.succ k)) (.ret false)) n
noncomputable def lRev {α:Type} (l:List α):List α:=@List.rec α (fun _=>List α→List α) (fun m=>m) (fun a _ ih m=>ih (a :: m)) l []
noncomputable def stableT (cx:Cx) (hs:List Heap) (v:Tm × AV) (o:DI):T Bool:=cond (or o.eff o.fl.isSome) (.ret true) (uptoT (gZ cx hs v o) (o.hi - o.lo) o.lo)
noncomputable def stablesT (cx:Cx) (hs:List Heap):List DI→List (Tm × AV)→T Bool
  | [],[]=>.ret true
  | o :: l,v :: vs=>(stableT cx hs v o).bind fun b=>cond b (stablesT cx hs l vs) (.ret false)
  | _,_=>.ret false
abbrev C:=Cx→Wh→St→T (Ex × St)
noncomputable def Tm.shut (tm:Tm):Tm:=⟨[],tm.tree⟩
noncomputable def endD (base m:Nat) (df:List Nat) (r:DR):T (Ex × St) :=
  match r.2.1 with
  | h :: _=>(match conv base r.2.2.2 (upN m 0) h with
    | some h2=>.ret (.norm,⟨r.1.shut,df,h2⟩)
    | none=>.fail 95)
  | []=>.fail 91
noncomputable def loopN (body:St→T (Ex × St)) (n:Nat):St→T (Ex × St) :=
  @Nat.rec (fun _=>St→T (Ex × St)) (fun _=>.fail 50)
    (fun _ ih s=>(body s).bind fun r=>match r.1 with
      | .norm=>ih r.2
      | x=>.ret (x,r.2)) n
noncomputable def endRange (l:Nat) (tm:Tm) (df:List Nat) (h:Heap):T (Ex × St) :=
  match h.get l with
  | some (.loop st pend f' tm' ps c d')=>(match st with
    | .busy=>.fail 53
    | _=>.ret (pend,⟨tm,df,h.put l (.loop .exhausted pend f' tm' ps c d')⟩))
  | _=>.fail 55
noncomputable def callF (cx:Cx) (f:AV) (args:List AV) (h:Heap):T (AV × Heap) :=
  match f with
  | .func fn first captured=>(match fn with
    | .func f=>cx.call f (cC first (cC args captured)) h
    | _=>.fail 31)
  | _=>.fail 31
noncomputable def rangeGo (cx:Cx) (wh:Wh) (fv:AV) (params:List Nat) (code:Nat) (tm:Tm) (d:Nat) (df:List Nat) (h:Heap):T (Ex × St) :=
  (callF cx fv [.yieldF h.next] (h.new (.loop .ready .norm wh.fn tm.tree params code d))).bind fun r=>endRange h.next tm df r.2
noncomputable def rangeF (cx:Cx) (wh:Wh) (fv:AV) (params:List Nat) (code:Nat) (s:St):T (Ex × St) :=
  match wh.rd with
  | none=>rangeGo cx wh fv params code s.tm s.h.next (s.h.next :: s.df) (s.h.new (.defd true))
  | some l=>(match s.h.get l with
    | some (.loop _ _ _ _ _ _ d)=>rangeGo cx wh fv params code s.tm d s.df s.h
    | _=>.fail 52)
noncomputable def afterSeq (k:St→T (Ex × St)) (r:Ex × St):T (Ex × St) :=
  match r.1 with
  | .norm=>k r.2
  | x=>.ret (x,r.2)
noncomputable def afterBlock (id:Nat) (r:Ex × St):T (Ex × St) :=
  match r.1 with
  | .exit id'=>cond (Nat.beq id' id) (.ret (.norm,r.2)) (.ret (.exit id',r.2))
  | x=>.ret (x,r.2)
noncomputable def condA {α:Type} (c:AV) (a b:T α):T α :=
  match c with
  | .bool c=>T.ite c a b
  | _=>.fail 56
noncomputable def aM:C:=fun _ _ s=>.ret (.norm,s)
noncomputable def dOps (m:Nat) (l:List DI):C:=fun cx _ s=>(runD cx s.h.next l s.tm (resvN m s.h) [] [] []).bind fun r=>(stablesT cx (lRev r.2.1) l (lRev r.2.2.1)).bind fun b=>cond b (endD s.h.next m s.df r) (.fail 92)
noncomputable def al (l:List CI):C:=fun cx _ s=>(runOps cx l s.tm s.h).bind fun r=>.ret (.norm,⟨r.1.shut,s.df,r.2⟩)
noncomputable def ae (a b:C):C:=fun cx wh s=>(a cx wh s).bind (afterSeq (b cx wh))
noncomputable def aO (c:Opd) (a b:C):C:=fun cx wh s=>condA (ev s.tm c) (a cx wh s) (b cx wh s)
noncomputable def aL (id:Nat) (a:C):C:=fun cx wh s=>(a cx wh s).bind (afterBlock id)
noncomputable def eP (a:C):C:=fun cx wh s=>loopN (a cx wh) cx.loops s
noncomputable def cRange (f:Opd) (params:List Nat) (code:Nat):C:=fun cx wh s=>rangeF cx wh (ev s.tm f) params code s
noncomputable def dE (id:Nat):C:=fun _ _ s=>.ret (.exit id,s)
noncomputable def bg:C:=fun _ _ s=>.ret (.ret,s)
inductive RV where
  | t (n:Nat)
  | cell (a:Nat) (whole:Bool) (n:Nat)
structure CF where
  nargs:Nat
  code:C
  results:List RV
noncomputable def undefer:List Nat→Heap→T Heap
  | [],h=>.ret h
  | b :: l,h=>match h.get b with
    | some (.defd true)=>undefer l (h.put b (.defd false))
    | _=>.fail 60
noncomputable def resultA (tm:Tm) (h:Heap) (r:RV):Option AV :=
  match r with
  | .t n=>tm.look n
  | .cell a whole n=>(match tm.look a with
    | some p=>cond whole (aloadN n h p) (aload h p)
    | none=>none)
noncomputable def dh (tm:Tm) (h:Heap):List RV→Option (List AV)
  | []=>some []
  | r :: l=>match resultA tm h r,dh tm h l with
    | some v,some vs=>some (v :: vs)
    | _,_=>none
noncomputable def tmOf (l:List AV):Nat→PT AV→PT AV :=
  @List.rec AV (fun _=>Nat→PT AV→PT AV) (fun _ tm=>tm) (fun a _ ih n tm=>ih (Nat.succ n) (PT.set tm n a)) l
noncomputable def one (vs:List AV):AV :=
  match vs with
  | [v]=>v
  | vs=>.tup vs
noncomputable def finish (fn:CF) (r:Ex × St):T (AV × Heap) :=
  match r.1 with
  | .exit _=>.fail 63
  | _=>(undefer r.2.df r.2.h).bind fun h2=>match dh r.2.tm h2 fn.results with
    | some vs=>.ret (one vs,h2)
    | none=>.fail 64
structure hI where
  F:Nat→Option CF
  R:Nat→Option (C × C)
  loops:Nat
  orc:FuncId→List AV→Heap→Option (T (AV × Heap))
noncomputable def callBody (tb:hI) (cx:Cx) (f:FuncId) (args:List AV) (h:Heap):T (AV × Heap) :=
  match tb.F f with
  | none=>.fail 61
  | some fn=>cond (Nat.ble (lLen args) fn.nargs) ((fn.code cx ⟨f,none⟩ ⟨⟨[],tmOf args 0 .nil⟩,[],h⟩).bind (finish fn)) (.fail 62)
noncomputable def eQ:List Nat→List AV→PT AV→Option (PT AV)
  | [],[],tm=>some tm
  | t :: ts,v :: vs,tm=>eQ ts vs (PT.set tm t v)
  | _,_,_=>none
noncomputable def endState (x:Ex):LoopState :=
  match x with
  | .norm=>.ready
  | _=>.done
noncomputable def goesOn (x:Ex):Bool :=
  match x with
  | .norm=>true
  | _=>false
noncomputable def endRound (l:Nat) (r:Ex × St):T (AV × Heap) :=
  match r.2.df with
  | []=>(match r.2.h.get l with
    | some (.loop _ _ f' tm' ps c d')=>.ret (.bool (.lit (goesOn r.1)),r.2.h.put l (.loop (endState r.1) r.1 f' tm' ps c d'))
    | _=>.fail 71)
  | _=>.fail 71
noncomputable def midRound (cx:Cx) (wh:Wh) (l:Nat) (body:C) (r:Ex × St):T (AV × Heap) :=
  match r.1 with
  | .norm=>(match r.2.h.get l with
    | some (.loop st p f' tm' ps c d')=>(match st with
      | .ready=>(body cx wh ⟨r.2.tm,r.2.df,r.2.h.put l (.loop .busy p f' tm' ps c d')⟩).bind (endRound l)
      | _=>.fail 72)
    | _=>.fail 72)
  | _=>.fail 73
noncomputable def fK (tb:hI) (cx:Cx) (l:Nat) (args:List AV) (h:Heap):T (AV × Heap) :=
  match h.get l with
  | some (.loop _ _ fn tm params code _)=>(match eQ params args tm,tb.R code with
    | some tm,some c=>(c.1 cx ⟨fn,some l⟩ ⟨⟨[],tm⟩,[],h⟩).bind (midRound cx ⟨fn,some l⟩ l c.2)
    | _,_=>.fail 70)
  | _=>.fail 74
noncomputable def b7 (tb:hI) (d:Nat):Bool→Nat→List AV→Heap→T (AV × Heap) :=
  @Nat.rec (fun _=>Bool→Nat→List AV→Heap→T (AV × Heap)) (fun _ _ _ _=>.fail 80)
    (fun _ ih isYield f args h =>
      cond isYield (fK tb ⟨ih false,ih true,tb.loops⟩ f args h)
        (match tb.orc f args h with
        | some t=>t
        | none=>callBody tb ⟨ih false,ih true,tb.loops⟩ f args h)) d
end Go.Sx
namespace Go.Sx
def feetAt (had torn:Int) (n:Nat):Int:=max 0 (had - n * torn)
def firstAt (P:Nat→Bool):Nat→Nat→Nat
  | 0,i=>i
  | k + 1,i=>if P i then i else firstAt P k (i + 1)
def servesF (had torn need:Int):Int:=(firstAt (fun n=>decide (feetAt had torn n < need)) 1000 0:Nat) - 1
def seenF (P:Nat→Bool):Nat→Bool × Nat × Nat
  | 0=>(false,0,0)
  | i + 1=>if P i then (true,if (seenF P i).1 then (seenF P i).2.1 else i,i) else seenF P i
def holdsAt (low high tl th feet:Int) (n:Nat):Bool:=decide (feetAt low th n≤feet) && decide (feet≤feetAt high tl n)
def pack (a b:Int):Int:=a * 4096 + b
def fst4 (p:Int):Int:=p / 4096
def snd4 (p:Int):Int:=p % 4096
def seenP (a b c:Int):Bool × Nat × Nat:=seenF (holdsAt (fst4 a) (snd4 a) (fst4 b) (snd4 b) c) 1000
def bO (n many:Int):Int:=if many < 1 then 0 else n % many
def chooseF (low high n:Int):Int:=if high < low then low else low + bO n (high - low + 1)
def FI (l:Nat→Int→Int→Int→Int) (f:Nat) (a b c:Int):Int :=
  if 1000≤f then l f a b c else
  if f=0 then servesF a b c
  else if f=1 then pack a b
  else if f=2 then (seenP a b c).2.1
  else if f=3 then (seenP a b c).2.2
  else if f=4 then (if (seenP a b c).1 then (seenP a b c).2.1 else -1)
  else if f=5 then (if (seenP a b c).1 then (seenP a b c).2.2 else -1)
  else if f=6 then bO a b
  else if f=7 then chooseF a b c
  else 0
def FB (l:Nat→Int→Int→Int→Bool) (f:Nat) (a b c:Int):Bool :=
  if 1000≤f then l f a b c else
  if f=0 then (seenP a b c).1
  else false
end Go.Sx
namespace Go.Sx
structure TI where
  desc:TypeDesc
  size:Nat
  bytes:Nat
  zero:Option AV
  eqOk:Bool
noncomputable def TI.isAgg (t:TI):Bool :=
  match t.desc with
  | .struct _=>true
  | .array _ _=>true
  | _=>false
mutual
noncomputable def ofV:Value→Option AV
  | .bool b=>some (.bool (.lit b))
  | .int k n=>some (.int k (.lit n))
  | .pointer none=>some .nilptr
  | .slice none 0 0=>some .nilslice
  | .map none=>some .nilmap
  | .nilFunc=>some .nilFunc
  | .agg ⟨cs⟩=>(ofVs cs).map .agg
  | _=>none
noncomputable def ofVs:List Value→Option (List AV)
  | []=>some []
  | v :: vs=>match ofV v,ofVs vs with
    | some a,some as=>some (a :: as)
    | _,_=>none
end
noncomputable def bk (x:Operand):Option Opd :=
  match x with
  | .tmp t=>some (.t t)
  | .const v=>(ofV v).map .c
  | .global g=>cond (Nat.ble (Nat.succ g) 1000) (some (.c (.ptr g 0))) none
  | .func f=>some (.c (.func (.func f) [] []))
noncomputable def eK:List Operand→Option (List Opd)
  | []=>some []
  | x :: l=>match bk x,eK l with
    | some a,some as=>some (a :: as)
    | _,_=>none
noncomputable def cOpt (x:Option Operand):Option (Option Opd) :=
  match x with
  | none=>some none
  | some x=>(bk x).map some
noncomputable def gd (ty:Nat→Option TI) (g:TypeId→Nat→Option (List (Nat × Leaf))) (off size:Nat):List Field→Option (List (Nat × Leaf))
  | []=>some []
  | f :: fs=>match ty f.type with
    | some j=>cond (and (and (Bool.not (f.name == "_")) (Nat.ble 1 j.size)) (Nat.ble (f.offset + j.size) size)) (match g f.type (off + f.offset),gd ty g off size fs with
      | some a,some b=>some (a ++ b)
      | _,_=>none) none
    | none=>none
noncomputable def gf (g:Nat→Option (List (Nat × Leaf))) (size:Nat):Nat→Nat→Option (List (Nat × Leaf))
  | 0,_=>some []
  | n + 1,off=>match g off,gf g size n (off + size) with
    | some a,some b=>some (a ++ b)
    | _,_=>none
noncomputable def bI (ty:Nat→Option TI):Nat→TypeId→Nat→Option (List (Nat × Leaf))
  | 0,_,_=>none
  | d + 1,t,off=>match ty t with
    | none=>none
    | some i=>match i.desc with
      | .bool=>some [(off,.bool)]
      | .int _=>some [(off,.int)]
      | .slice _=>some [(off,.nilS)]
      | .map _ _=>some [(off,.nilM)]
      | .pointer _=>some [(off,.nilP)]
      | .func _ _ _=>some [(off,.nilF)]
      | .struct fs=>cond i.eqOk (gd ty (bI ty d) off i.size fs.toList) none
      | .array n e=>cond i.eqOk (match ty e with
        | some j=>cond (and (Nat.ble 1 j.size) (Nat.ble (n * j.size) i.size)) (gf (bI ty d e) j.size n off) none
        | none=>none) none
      | _=>none
noncomputable def eL (place:Nat→Option (Nat × Nat)):List (Nat × Operand)→Option (List (Nat × Nat × Opd))
  | []=>some []
  | p :: l=>match place p.1,bk p.2,eL place l with
    | some q,some x,some r=>some ((q.1,q.2,x) :: r)
    | _,_,_=>none
noncomputable def placeF (ty:Nat→Option TI) (fs:List Field) (i:Nat):Option (Nat × Nat) :=
  match fs[i]? with
  | some f=>(match ty f.type with
    | some j=>some (f.offset,j.size)
    | none=>none)
  | none=>none
noncomputable def du (i:TI):Option (List AV) :=
  match i.zero with
  | some z=>cond (and (dc z.cellsOf) (Nat.beq (lLen z.cellsOf) i.size)) (some z.cellsOf) none
  | none=>none
noncomputable def isInt (i:TI):Bool :=
  match i.desc with
  | .int _=>true
  | _=>false
noncomputable def cBin (ty:Nat→Option TI) (op:BinOp) (t:TypeId) (x y:Opd):Option Ins :=
  match op with
  | .shl=>some (iShift op x y)
  | .shr=>some (iShift op x y)
  | .lss=>some (bF op x y)
  | .leq=>some (bF op x y)
  | .gtr=>some (bF op x y)
  | .geq=>some (bF op x y)
  | .eql=>(match ty t with
    | some i=>cond (isInt i) (some (bF op x y)) (match bI ty 12 t 0 with
      | some ls=>some (iEq false i.isAgg i.size ls x y)
      | none=>none)
    | none=>none)
  | .neq=>(match ty t with
    | some i=>cond (isInt i) (some (bF op x y)) (match bI ty 12 t 0 with
      | some ls=>some (iEq true i.isAgg i.size ls x y)
      | none=>none)
    | none=>none)
  | op=>some (aF op x y)
noncomputable def cCall (ty:Nat→Option TI) (c:Call):Option Ins :=
  match eK c.args.toList with
  | none=>none
  | some args=>match c.callee with
    | .value f=>(match bk f with
      | some f=>some (ar f args)
      | none=>none)
    | .invoke _ _=>none
    | .builtin b=>(match b with
      | .len=>(match c.argTypes.toList,args with
        | t :: _,[x]=>(match ty t with
          | some i=>(match i.desc with
            | .array n _=>some (iLenA n)
            | .slice _=>some (cO x)
            | .map _ _=>some (iLenM x)
            | _=>none)
          | none=>none)
        | _,_=>none)
      | .max=>cond (Nat.ble 2 args.length) (some (iMax args)) none
      | .min=>cond (Nat.ble 2 args.length) (some (iMin args)) none
      | .append=>(match c.argTypes.toList,args with
        | [t,u],[s,x]=>(match ty t,ty u with
          | some i,some iu=>(match i.desc,iu.desc with
            | .slice e,.slice _=>(match ty e with
              | some j=>(match du j with
                | some _=>some (gj e j.size j.bytes s x)
                | none=>none)
              | none=>none)
            | _,_=>none)
          | _,_=>none)
        | _,_=>none)
      | .copy=>(match c.argTypes.toList,args with
        | [t,_],[d,x]=>(match ty t with
          | some i=>(match i.desc with
            | .slice e=>(match ty e with
              | some j=>some (iCopy j.size d x)
              | none=>none)
            | _=>none)
          | none=>none)
        | _,_=>none)
      | _=>none)
noncomputable def cSlice (ty:Nat→Option TI) (t:TypeId) (x:Opd) (lo hi mx:Option Opd):Option Ins :=
  cond (or mx.isNone hi.isSome)
  (match ty t with
  | some i=>(match i.desc with
    | .slice e=>(match ty e with
      | some j=>cond (Nat.ble 1 j.size) (some (iSlice j.size x lo hi mx)) none
      | none=>none)
    | .array n e=>(match ty e with
      | some j=>some (iSliceA j.size n x lo hi mx)
      | none=>none)
    | _=>none)
  | none=>none) none
noncomputable def cField (ty:Nat→Option TI) (t:TypeId) (f:Nat):Option (Field × TI) :=
  match ty t with
  | some i=>(match i.desc with
    | .struct fs=>(match fs.toList[f]? with
      | some f=>(match ty f.type with
        | some j=>some (f,j)
        | none=>none)
      | none=>none)
    | _=>none)
  | none=>none
noncomputable def cIaddr (ty:Nat→Option TI) (t:TypeId) (x ix:Opd):Option Ins :=
  match ty t with
  | some i=>(match i.desc with
    | .slice e=>(match ty e with
      | some j=>some (bw j.size x ix)
      | none=>none)
    | .array n e=>(match ty e with
      | some j=>some (bB j.size n x ix)
      | none=>none)
    | _=>none)
  | none=>none
noncomputable def cIndex (ty:Nat→Option TI) (t:TypeId) (x ix:Opd):Option Ins :=
  match ty t with
  | some i=>(match i.desc with
    | .array n e=>(match ty e with
      | some j=>some (iIndex j.isAgg j.size n x ix)
      | none=>none)
    | _=>none)
  | none=>none
noncomputable def keyLeaf (l:Leaf):Bool :=
  match l with
  | .int=>true
  | .bool=>true
  | .nilP=>true
  | _=>false
noncomputable def coversB (n:Nat) (ls:List (Nat × Leaf)):Bool:=and (ls.all fun p=>keyLeaf p.2) (and (Nat.beq ls.length n) ((List.range n).all fun k=>match da ls k with | some p=>Nat.beq p.1 k | none=>false))
noncomputable def cMap (ty:Nat→Option TI) (t:TypeId):Option (TI × List (Nat × Leaf) × TI) :=
  match ty t with
  | some i=>(match i.desc with
    | .map k e=>(match ty k,bI ty 12 k 0,ty e with
      | some ik,some ls,some ie=>cond (coversB ik.size ls) (some (ik,ls,ie)) none
      | _,_,_=>none)
    | _=>none)
  | none=>none
noncomputable def cBuild (ty:Nat→Option TI) (t:TypeId) (ps:List (Nat × Operand)):Option Ins :=
  match ty t with
  | some i=>(match du i with
    | some z=>(match i.desc with
      | .struct fs=>cond (fs.toList.all fun f=>(ty f.type).isSome) ((eL (placeF ty fs.toList) ps).map (aK z)) none
      | .array _ e=>(match ty e with
        | some j=>(eL (fun n=>some (n * j.size,j.size)) ps).map (aK z)
        | none=>none)
      | _=>none)
    | none=>none)
  | none=>none
noncomputable def cBslice (ty:Nat→Option TI) (t:TypeId) (len:Nat) (ps:List (Nat × Operand)):Option Ins :=
  match ty t with
  | some i=>(match i.desc with
    | .slice e=>(match ty e with
      | some j=>(match du j with
        | some z=>cond (Nat.ble (len * j.size) 1000000) ((eL (fun n=>some (n * j.size,j.size)) ps).map (cN e z len)) none
        | none=>none)
      | none=>none)
    | _=>none)
  | none=>none
noncomputable def cMkslice (ty:Nat→Option TI) (t:TypeId) (l c:Opd):Option Ins :=
  match ty t with
  | some i=>(match i.desc with
    | .slice e=>(match ty e with
      | some j=>(match du j with
        | some z=>some (iMkslice e z j.bytes l c)
        | none=>none)
      | none=>none)
    | _=>none)
  | none=>none
noncomputable def notYield (fn:Fn):Bool :=
  match fn with
  | .yield _=>false
  | _=>true
noncomputable def convKind (ty:Nat→Option TI) (d:TypeId):Option IntKind :=
  match ty d with
  | some i=>(match i.desc with
    | .int k=>some k
    | _=>none)
  | none=>none
noncomputable def with1 (x:Operand) (k:Opd→Option Ins):Option Ins :=
  match bk x with
  | some x=>k x
  | none=>none
noncomputable def with2 (x y:Operand) (k:Opd→Opd→Option Ins):Option Ins :=
  match bk x,bk y with
  | some x,some y=>k x y
  | _,_=>none
noncomputable def with3 (x y z:Operand) (k:Opd→Opd→Opd→Option Ins):Option Ins :=
  match bk x,bk y,bk z with
  | some x,some y,some z=>k x y z
  | _,_,_=>none
noncomputable def cOp (ty:Nat→Option TI) (o:Op):Option Ins :=
  match o with
  | .move x=>with1 x fun x=>some (ab x)
  | .assign x=>with1 x fun x=>some (ab x)
  | .pick c a b=>with3 c a b fun c a b=>some (aR c a b)
  | .alloc t=>(match ty t with
    | some i=>(du i).map (ay t)
    | none=>none)
  | .box t x=>with1 x fun x=>some (cT t x)
  | .build t ps=>cBuild ty t ps.toList
  | .buildSlice t len ps=>cBslice ty t len ps.toList
  | .load t x=>with1 x fun x=>(match ty t with
    | some i=>some (cond i.isAgg (ac i.size x) (au x))
    | none=>none)
  | .store t a x=>with2 a x fun a x=>(match ty t with
    | some i=>some (aj i.size a x)
    | none=>none)
  | .binOp op t x y _=>with2 x y fun x y=>cBin ty op t x y
  | .unOp op _ x=>with1 x fun x=>(match op with
    | .not=>some (iNot x)
    | .neg=>some (iNeg x)
    | _=>none)
  | .convert s d x=>with1 x fun x=>(match ty s,convKind ty d with
    | some _,some k=>some (iConv k x)
    | _,_=>none)
  | .makeFunc fn first captured=>cond (notYield fn) (match eK first.toList,eK captured.toList with
    | some a,some b=>some (iFunc fn a b)
    | _,_=>none) none
  | .makeMap _ r=>(match r with
    | none=>some iMkmap
    | some _=>none)
  | .makeSlice t l c=>with2 l c fun l c=>cMkslice ty t l c
  | .slice t x lo hi mx=>(match bk x,cOpt lo,cOpt hi,cOpt mx with
    | some x,some lo,some hi,some mx=>cSlice ty t x lo hi mx
    | _,_,_,_=>none)
  | .fieldAddr t x f=>with1 x fun x=>(match cField ty t f with
    | some p=>cond (Nat.ble 1 p.2.size) (some (aa p.1.offset x)) none
    | none=>none)
  | .field t x f=>with1 x fun x=>(match cField ty t f with
    | some p=>some (iField p.2.isAgg p.1.offset p.2.size x)
    | none=>none)
  | .indexAddr t x ix=>with2 x ix fun x ix=>cIaddr ty t x ix
  | .index t x ix=>with2 x ix fun x ix=>cIndex ty t x ix
  | .lookup t x k ok=>with2 x k fun x k=>(match cMap ty t with
    | some p=>(match p.2.2.zero with
      | some z=>some (dX z p.1.isAgg p.1.size p.2.1 ok x k)
      | none=>none)
    | none=>none)
  | .mapUpdate t m k v=>with3 m k v fun m k v=>(match cMap ty t with
    | some p=>some (iMapset p.1.isAgg p.1.size p.2.1 m k v)
    | none=>none)
  | .mapEntry t m k=>with2 m k fun m k=>(match cMap ty t with
    | some p=>(match p.2.2.zero with
      | some z=>some (iMapent z p.1.isAgg p.1.size p.2.1 m k)
      | none=>none)
    | none=>none)
  | .entryStore _ m s v=>with3 m s v fun m s v=>some (iEntset m s v)
  | .insert t m k v=>with3 m k v fun m k v=>(match cMap ty t with
    | some p=>some (iMapset p.1.isAgg p.1.size p.2.1 m k v)
    | none=>none)
  | .extract t ix=>with1 t fun t=>some (ao ix t)
  | .call c=>cCall ty c
  | _=>none
noncomputable def cGuard (ops:List Oper) (g:Option (Nat × Bool)):Option (Option (Nat × Bool)) :=
  match g with
  | none=>some none
  | some p=>(match (ops[p.1]?).bind (·.dst) with
    | some d=>some (some (d,p.2))
    | none=>none)
noncomputable def memN (l:List Nat) (d:Option Nat):Bool :=
  match d with
  | some d=>l.any (Nat.beq d)
  | none=>false
noncomputable def okDst (n:Nat) (d:Option Nat):Bool :=
  match d with
  | some d=>Nat.ble (Nat.succ d) n
  | none=>true
noncomputable def cOper (ty:Nat→Option TI) (n:Nat) (keep:List Nat) (ops:List Oper) (o:Oper):Option CI :=
  match cOp ty o.op,cGuard ops o.guard with
  | some i,some g=>cond (okDst n o.dst) (some ⟨o.dst,memN keep o.dst,g,i⟩) none
  | _,_=>none
noncomputable def gT (ty:Nat→Option TI) (n:Nat) (keep:List Nat) (ops:List Oper):List Oper→Option (List CI)
  | []=>some []
  | o :: l=>match cOper ty n keep ops o,gT ty n keep ops l with
    | some a,some as=>some (a :: as)
    | _,_=>none
noncomputable def isEff (o:Op):Bool :=
  match o with
  | .move _=>false
  | .assign _=>false
  | .pick _ _ _=>false
  | .build _ _=>false
  | .load _ _=>false
  | .binOp _ _ _ _ _=>false
  | .unOp _ _ _=>false
  | .convert _ _ _=>false
  | .makeFunc _ _ _=>false
  | .slice _ _ _ _ _=>false
  | .fieldAddr _ _ _=>false
  | .field _ _ _=>false
  | .indexAddr _ _ _=>false
  | .index _ _ _=>false
  | .lookup _ _ _ _=>false
  | .extract _ _=>false
  | .call c=>(match c.callee with
    | .builtin b=>(match b with
      | .len=>false
      | .max=>false
      | .min=>false
      | _=>true)
    | _=>true)
  | _=>true
noncomputable def bm (l:List Nat) (i:Nat):Nat :=
  match l[i]? with
  | some m=>m
  | none=>0
noncomputable def maskOf (acc:List Nat):List Edge→Nat
  | []=>0
  | e :: l=>cond (Region.binds .any e) (Nat.lor (Nat.lor (Nat.shiftLeft 1 e.on) (bm acc e.on)) (maskOf acc l)) (maskOf acc l)
noncomputable def gU (acc:List Nat):List Oper→List Nat
  | []=>acc
  | o :: l=>gU (acc ++ [maskOf acc o.after.toList]) l
noncomputable def tmpsOf:List Operand→List Nat
  | []=>[]
  | .tmp t :: l=>t :: tmpsOf l
  | _ :: l=>tmpsOf l
noncomputable def readsOf (o:Oper) (c:CI):List Nat :=
  match c.guard with
  | none=>tmpsOf o.op.operands.toList
  | some g=>g.1 :: tmpsOf o.op.operands.toList
noncomputable def effsOf (ops:List Oper):Nat→List Nat
  | 0=>[]
  | i + 1=>match ops[i]? with
    | some o=>cond (isEff o.op) (i :: effsOf ops i) (effsOf ops i)
    | none=>effsOf ops i
noncomputable def countB (f:Nat→Bool):List Nat→Nat
  | []=>0
  | a :: l=>cond (f a) (Nat.succ (countB f l)) (countB f l)
noncomputable def cFlMk (ty:Nat→Option TI) (t:TypeId) (l c:Operand):Option (FIns × FK) :=
  match l,c with
  | .const (.int .i64 a),.const (.int .i64 b)=>cond (and (decide (a=b)) (and (decide (0≤a)) (Nat.ble a.toNat 1000000))) (match ty t with
    | some i=>(match i.desc with
      | .slice e=>(match ty e with
        | some j=>(match du j with
          | some z=>cond (and (Nat.ble j.bytes 1000000) (Nat.ble (a.toNat * j.size) 1000000)) (some (flRep z a.toNat,.sl a.toNat)) none
          | none=>none)
        | none=>none)
      | _=>none)
    | none=>none) none
  | _,_=>none
noncomputable def cFl (ty:Nat→Option TI) (o:Op):Option (FIns × FK) :=
  match o with
  | .alloc t=>(match ty t with
    | some i=>(match du i with
      | some z=>some (gY z,.ptr)
      | none=>none)
    | none=>none)
  | .box _ x=>(match bk x with
    | some y=>some (flBox y,.ptr)
    | none=>none)
  | .buildSlice t len ps=>(match ty t with
    | some i=>(match i.desc with
      | .slice e=>(match ty e with
        | some j=>(match du j with
          | some z=>cond (Nat.ble (len * j.size) 1000000) (match eL (fun n=>some (n * j.size,j.size)) ps.toList with
            | some q=>some (flSlice z len q,.sl len)
            | none=>none) none
          | none=>none)
        | none=>none)
      | _=>none)
    | none=>none)
  | .makeSlice t l c=>cFlMk ty t l c
  | _=>none
noncomputable def comparable (ms:List Nat) (i j:Nat):Bool:=or (Nat.beq i j) (or (Nat.testBit (bm ms i) j) (Nat.testBit (bm ms j) i))
noncomputable def isAlloc (o:Op):Bool :=
  match o with
  | .alloc _=>true
  | .box _ _=>true
  | .buildSlice _ _ _=>true
  | .makeSlice _ _ _=>true
  | _=>false
noncomputable def opGet (ops:List Oper) (i:Nat):Bool :=
  match ops[i]? with
  | some o=>isAlloc o.op
  | none=>false
noncomputable def floatsOf (ops:List Oper) (ms effs:List Nat):List Nat:=effs.filter fun i=>and (opGet ops i) (Bool.not (effs.all fun j=>comparable ms i j))
noncomputable def memB (l:List Nat) (i:Nat):Bool:=l.any (Nat.beq i)
noncomputable def posOf:List Nat→Nat→Nat
  | [],_=>0
  | a :: l,i=>cond (Nat.beq a i) 0 (Nat.succ (posOf l i))
noncomputable def dueOf (ms:List Nat) (i:Nat) (all:List Nat):List Nat→List Nat
  | []=>[]
  | f :: l=>cond (Nat.testBit (bm ms i) f) (posOf all f :: dueOf ms i all l) (dueOf ms i all l)
noncomputable def planAt (ty:Nat→Option TI) (effs fls ms:List Nat) (i:Nat) (o:Oper) (c:CI):Option DI :=
  cond (memB fls i) (match cFl ty o.op with
    | some q=>some ⟨c,readsOf o c,false,0,effs.length,some (q.1,q.2,posOf fls i),[]⟩
    | none=>none)
  (cond (isEff o.op) (some ⟨c,readsOf o c,true,countB (fun j=>Nat.testBit (bm ms i) j) effs,0,none,dueOf ms i fls fls⟩)
    (some ⟨c,readsOf o c,false,countB (fun j=>Nat.testBit (bm ms i) j) effs,countB (fun j=>Bool.not (Nat.testBit (bm ms j) i)) effs,none,[]⟩))
noncomputable def planOf (ty:Nat→Option TI) (effs fls ms:List Nat) (i:Nat):List Oper→List CI→Option (List DI)
  | o :: ops,c :: cs=>match planAt ty effs fls ms i o c,planOf ty effs fls ms (i + 1) ops cs with
    | some a,some l=>some (a :: l)
    | _,_=>none
  | _,_=>some []
noncomputable def pairOk (ms:List Nat) (i j:Nat) (a b:DI):Bool :=
  and (and (match b.ci.dst with
    | some t=>or (Bool.not (a.reads.any (Nat.beq t))) (or (Nat.testBit (bm ms i) j) (Nat.testBit (bm ms j) i))
    | none=>true)
   (match a.ci.dst,b.ci.dst with
    | some t,some u=>or (Bool.not (Nat.beq t u)) (Nat.beq i j)
    | _,_=>true))
   (cond b.eff (cond a.eff (or (Nat.ble b.lo a.lo) (Nat.testBit (bm ms j) i))
      (and (or (Nat.ble a.lo b.lo) (Nat.testBit (bm ms i) j)) (or (Nat.ble (Nat.succ b.lo) a.hi) (Nat.testBit (bm ms j) i)))) true)
noncomputable def rowOk (ms:List Nat) (i:Nat) (a:DI) (j:Nat):List DI→Bool
  | []=>true
  | b :: l=>and (pairOk ms i j a b) (rowOk ms i a (j + 1) l)
noncomputable def rowsOk (ms:List Nat) (all:List DI) (i:Nat):List DI→Bool
  | []=>true
  | a :: l=>and (rowOk ms i a 0 all) (rowsOk ms all (i + 1) l)
noncomputable def edgesOk (i:Nat):List Oper→Bool
  | []=>true
  | o :: l=>and (o.after.toList.all fun e=>or (Bool.not (Region.binds .any e)) (Nat.ble (Nat.succ e.on) i)) (edgesOk (i + 1) l)
noncomputable def co (k:Nat):List DI→Bool
  | []=>true
  | o :: l=>cond o.eff (and (Nat.beq o.lo k) (co (k + 1) l)) (co k l)
noncomputable def drawOk (ops:List Oper) (ms:List Nat) (l:List DI):Bool:=and (and (rowsOk ms l 0 l) (edgesOk 0 ops)) (co 0 l)
noncomputable def cPlanWith (ty:Nat→Option TI) (ops:List Oper) (cs:List CI) (ms effs fls:List Nat):Option C :=
  match planOf ty (effs.filter fun i=>Bool.not (memB fls i)) fls ms 0 ops cs with
  | some l=>cond (drawOk ops ms l) (some (dOps fls.length l)) none
  | none=>none
noncomputable def cDraw (ty:Nat→Option TI) (n:Nat) (keep:List Nat) (ops:List Oper):Option C :=
  match gT ty n keep ops ops with
  | some cs=>cPlanWith ty ops cs (gU [] ops) (effsOf ops ops.length) (floatsOf ops (gU [] ops) (effsOf ops ops.length))
  | none=>none
noncomputable def rangeId (f:FuncId) (ps:List Nat):Option Nat :=
  match ps with
  | p :: _=>some (f * 1000 + p)
  | []=>none
noncomputable def bX (ty:Nat→Option TI) (n:Nat) (keep:List Nat) (fid:FuncId):Code→Option C
  | .skip=>some aM
  | .label _=>some aM
  | .region _ ops draw=>cond draw (cDraw ty n keep ops.toList) ((gT ty n keep ops.toList ops.toList).map al)
  | .seq a b=>match bX ty n keep fid a,bX ty n keep fid b with
    | some a,some b=>some (ae a b)
    | _,_=>none
  | .cond c a b=>match bk c,bX ty n keep fid a,bX ty n keep fid b with
    | some c,some a,some b=>some (aO c a b)
    | _,_,_=>none
  | .block id a=>(bX ty n keep fid a).map (aL id)
  | .loop a=>(bX ty n keep fid a).map eP
  | .scope a=>bX ty n keep fid a
  | .rangeFunc f ps _ _=>match bk f,rangeId fid ps.toList with
    | some f,some id=>cond (ps.toList.all fun p=>and (memN keep (some p)) (okDst n (some p))) (some (cRange f ps.toList id)) none
    | _,_=>none
  | .exit id=>some (dE id)
  | .ret=>some bg
  | .goto _=>none
  | .refuse _=>none
noncomputable def cRes (ty:Nat→Option TI):List ResultVar→Option (List RV)
  | []=>some []
  | .tmp t :: l=>(cRes ty l).map (.t t :: ·)
  | .cell a t :: l=>match ty t,cRes ty l with
    | some i,some r=>some (.cell a i.isAgg i.size :: r)
    | _,_=>none
noncomputable def cFunc (ty:Nat→Option TI) (keep:List Nat) (fid:FuncId) (fn:Func):Option CF :=
  match fn.body with
  | none=>none
  | some c=>match bX ty fn.ntmps keep fid c,cRes ty fn.results.toList with
    | some c,some r=>cond ((List.range (fn.params.size + fn.nfree)).all fun i=>memN keep (some i)) (some ⟨fn.params.size + fn.nfree,c,r⟩) none
    | _,_=>none
end Go.Sx
namespace Go.Sx
abbrev Ren:=List (Nat × Nat)
noncomputable def bindR (n b b':Nat) (r:Ren):Option Ren :=
  cond (Nat.ble (Nat.succ b) 1000) (cond (Nat.beq b b') (some r) none)
    (cond (Nat.ble (Nat.succ b) n) (match aA r b with
    | some c=>cond (Nat.beq c b') (some r) none
    | none=>some ((b,b') :: r)) none)
noncomputable def eqFn (a b:Fn):Bool :=
  match a,b with
  | .func f,.func g=>Nat.beq f g
  | _,_=>false
mutual
noncomputable def mtV (n:Nat):AV→AV→Ren→Option Ren
  | .ptr b o,.ptr b' o',r=>cond (Nat.beq o o') (bindR n b b' r) none
  | .slice b o l c,.slice b' o' l' c',r=>cond (and (Nat.beq o o') (and (Nat.beq l l') (Nat.beq c c'))) (bindR n b b' r) none
  | .sliceX b o l c,.sliceX b' o' l' c',r=>cond (and (Nat.beq o o') (and (Nat.beq l l') (Nat.beq c c'))) (bindR n b b' r) none
  | .map b,.map b',r=>bindR n b b' r
  | .agg x,.agg y,r=>mtL n x y r
  | .tup x,.tup y,r=>mtL n x y r
  | .func fn x y,.func fn' x' y',r=>cond (eqFn fn fn') (match mtL n x x' r with
    | some r'=>mtL n y y' r'
    | none=>none) none
  | .bool a,.bool b,r=>cond (eqBE a b) (some r) none
  | .int k a,.int k' b,r=>cond (and (dv k k') (gX a b)) (some r) none
  | .nilptr,.nilptr,r=>some r
  | .nilslice,.nilslice,r=>some r
  | .nilmap,.nilmap,r=>some r
  | .nilFunc,.nilFunc,r=>some r
  | .sliceU i,.sliceU j,r=>cond (Nat.beq i j) (some r) none
  | _,_,_=>none
noncomputable def mtL (n:Nat):List AV→List AV→Ren→Option Ren
  | [],[],r=>some r
  | a :: l,b :: m,r=>(match mtV n a b r with
    | some r'=>mtL n l m r'
    | none=>none)
  | _,_,_=>none
end
noncomputable def mtE (n:Nat):List (AV × AV × Nat)→List (AV × AV × Nat)→Ren→Option Ren
  | [],[],r=>some r
  | a :: l,b :: m,r=>cond (Nat.beq a.2.2 b.2.2) (match mtV n a.1 b.1 r with
    | some r1=>(match mtV n a.2.1 b.2.1 r1 with
      | some r2=>mtE n l m r2
      | none=>none)
    | none=>none) none
  | _,_,_=>none
inductive VO where
  | cells (cs:List AV)
  | map (es:List (AV × AV × Nat)) (clock:Nat)
  | own (cs:List AV) (el:TypeId) (ext:Bool)
  | ownMap (es:List (AV × AV × Nat)) (clock:Nat)
noncomputable def VO.obj (v:VO):AObj :=
  match v with
  | .cells cs=>.cells cs 0 false false
  | .map es k=>.rmap es k
  | .own cs el ext=>.cells cs el true ext
  | .ownMap es k=>.map es k
noncomputable def beqB (a b:Bool):Bool:=cond a b (cond b false true)
noncomputable def mtO (n:Nat) (v:VO) (o:Option AObj) (r:Ren):Option Ren :=
  match v with
  | .cells cs=>(match o with
    | some (.cells cs' _ _ _)=>mtL n cs cs' r
    | _=>none)
  | .map es k=>(match o with
    | some (.map es' k')=>cond (Nat.beq k k') (mtE n es es' r) none
    | some (.rmap es' k')=>cond (Nat.beq k k') (mtE n es es' r) none
    | _=>none)
  | .own cs el ext=>(match o with
    | some (.cells cs' el' own ext')=>cond (and own (and (Nat.beq el el') (beqB ext ext'))) (mtL n cs cs' r) none
    | _=>none)
  | .ownMap es k=>(match o with
    | some (.map es' k')=>cond (Nat.beq k k') (mtE n es es' r) none
    | _=>none)
noncomputable def fI (n:Nat):List (Nat × VO)→Heap
  | []=>⟨.nil,n⟩
  | g :: l=>(fI n l).put g.1 g.2.obj
noncomputable def mtView (n:Nat) (h:Heap):List (Nat × VO)→Ren→Option Ren
  | [],r=>some r
  | g :: l,r=>(match cond (Nat.ble (Nat.succ g.1) 1000) (some g.1) (cond (Nat.ble (Nat.succ g.1) n) (aA r g.1) none) with
    | some b=>(match mtO n g.2 (h.get b) r with
      | some r'=>mtView n h l r'
      | none=>none)
    | none=>none)
noncomputable def blR (n:Nat) (r nb:Ren) (b:Nat):Option Nat :=
  cond (Nat.ble (Nat.succ b) 1000) (some b) (cond (Nat.ble (Nat.succ b) n) (aA r b) (aA nb b))
mutual
noncomputable def rnV (g:Nat→Option Nat):AV→Option AV
  | .ptr b o=>(match g b with
    | some b'=>some (.ptr b' o)
    | none=>none)
  | .slice b o l c=>(match g b with
    | some b'=>some (.slice b' o l c)
    | none=>none)
  | .sliceX b o l c=>(match g b with
    | some b'=>some (.sliceX b' o l c)
    | none=>none)
  | .sliceV b i=>(match g b with
    | some b'=>some (.sliceV b' i)
    | none=>none)
  | .map b=>(match g b with
    | some b'=>some (.map b')
    | none=>none)
  | .agg x=>(match rnL g x with
    | some y=>some (.agg y)
    | none=>none)
  | .tup x=>(match rnL g x with
    | some y=>some (.tup y)
    | none=>none)
  | .bool a=>some (.bool a)
  | .int k a=>some (.int k a)
  | .nilptr=>some .nilptr
  | .nilslice=>some .nilslice
  | .nilmap=>some .nilmap
  | .nilFunc=>some .nilFunc
  | _=>none
noncomputable def rnL (g:Nat→Option Nat):List AV→Option (List AV)
  | []=>some []
  | a :: l=>(match rnV g a with
    | some b=>(match rnL g l with
      | some m=>some (b :: m)
      | none=>none)
    | none=>none)
end
noncomputable def rnE (g:Nat→Option Nat):List (AV × AV × Nat)→Option (List (AV × AV × Nat))
  | []=>some []
  | a :: l=>(match rnV g a.1,rnV g a.2.1,rnE g l with
    | some k,some v,some m=>some ((k,v,a.2.2) :: m)
    | _,_,_=>none)
inductive NB where
  | cells (cs:List AV) (el:TypeId) (ext:Bool)
  | map (es:List (AV × AV × Nat)) (clock:Nat)
noncomputable def NB.raw (q:NB):AObj :=
  match q with
  | .cells cs el ext=>.cells cs el true ext
  | .map es k=>.map es k
noncomputable def NB.ren (g:Nat→Option Nat) (q:NB):Option AObj :=
  match q with
  | .cells cs el ext=>(match rnL g cs with
    | some cs'=>some (.cells cs' el true ext)
    | none=>none)
  | .map es k=>(match rnE g es with
    | some es'=>some (.map es' k)
    | none=>none)
noncomputable def newsH (g:Nat→Option Nat):List (Nat × NB)→Heap→Option Heap
  | [],h=>some h
  | q :: l,h=>(match q.2.ren g with
    | some o=>newsH g l (h.new o)
    | none=>none)
noncomputable def newsR:List (Nat × NB)→Nat→Ren
  | [],_=>[]
  | q :: l,k=>(q.1,k) :: newsR l (Nat.succ k)
noncomputable def rises:Nat→List (Nat × NB)→Bool
  | _,[]=>true
  | n,q :: l=>cond (Nat.ble n q.1) (rises (Nat.succ q.1) l) false
structure Ent where
  f:Nat
  args:List AV
  n:Nat
  view:List (Nat × VO)
  res:AV
  news:List (Nat × NB)
  outs:List (Nat × NB)
noncomputable def eqEs:List (AV × AV × Nat)→List (AV × AV × Nat)→Bool
  | [],[]=>true
  | a :: l,b :: m=>and (and (eqAV a.1 b.1) (and (eqAV a.2.1 b.2.1) (Nat.beq a.2.2 b.2.2))) (eqEs l m)
  | _,_=>false
noncomputable def newOk (h:Heap) (q:Nat × NB):Bool :=
  match q.2 with
  | .cells cs el ext=>(match h.get q.1 with
    | some (.cells cs' el' own ext')=>and own (and (dg cs' cs) (and (Nat.beq el' el) (beqB ext' ext)))
    | _=>false)
  | .map es k=>(match h.get q.1 with
    | some (.map es' k')=>and (eqEs es' es) (Nat.beq k' k)
    | _=>false)
noncomputable def putsH (g:Nat→Option Nat):List (Nat × NB)→Heap→Option Heap
  | [],h=>some h
  | q :: l,h=>(match g q.1 with
    | some b=>(match q.2.ren g with
      | some o=>putsH g l (h.put b o)
      | none=>none)
    | none=>none)
noncomputable def memR (c:Nat):Ren→Bool
  | []=>false
  | p :: l=>cond (Nat.beq p.2 c) true (memR c l)
noncomputable def injR:Ren→Bool
  | []=>true
  | p :: l=>cond (and (Nat.ble 1000 p.2) (Bool.not (memR p.2 l))) (injR l) false
noncomputable def someInj (l:List (Nat × NB)) (r:Ren):Bool :=
  match l with
  | []=>true
  | _=>injR r
noncomputable def viewUp:Nat→List (Nat × VO)→Bool
  | _,[]=>true
  | n,g :: l=>cond (Nat.ble n g.1) (viewUp (Nat.succ g.1) l) false
noncomputable def dS (n:Nat):List (Nat × VO)→List (Nat × NB)→Bool
  | [],[]=>true
  | [],_ :: _=>false
  | g :: l,m=>(match g.2 with
    | .cells _=>dS n l m
    | .map _ _=>dS n l m
    | .own _ _ _=>(match m with
      | q :: m=>cond (and (Nat.beq g.1 q.1) (and (Nat.ble 1000 q.1) (Nat.ble (Nat.succ q.1) n))) (dS n l m) false
      | []=>false)
    | .ownMap _ _=>(match m with
      | q :: m=>cond (and (Nat.beq g.1 q.1) (and (Nat.ble 1000 q.1) (Nat.ble (Nat.succ q.1) n))) (dS n l m) false
      | []=>false))
noncomputable def Ent.meet (e:Ent) (args:List AV) (h:Heap):Option (T (AV × Heap)) :=
  match mtL e.n e.args args [] with
  | some r0=>(match mtView e.n h e.view r0 with
    | some r=>cond (someInj e.outs r) (match rnV (blR e.n r (newsR e.news h.next)) e.res with
      | some v=>(match newsH (blR e.n r (newsR e.news h.next)) e.news h with
        | some h1=>(match putsH (blR e.n r (newsR e.news h.next)) e.outs h1 with
          | some h2=>some (.ret (v,h2))
          | none=>none)
        | none=>none)
      | none=>none) none
    | none=>none)
  | none=>none
noncomputable def keyI (e:IE) (k:Nat):Nat :=
  match e with
  | .lit n=>(match n with
    | .ofNat m=>Nat.add (Nat.mul (Nat.mod k 1000003) 31) (Nat.succ m)
    | .negSucc m=>Nat.add (Nat.mul (Nat.mod k 1000003) 37) (Nat.succ m))
  | _=>k
mutual
noncomputable def keyV:AV→Nat→Nat
  | .int _ e,k=>keyI e k
  | .agg l,k=>keyL l k
  | .tup l,k=>keyL l k
  | .func _ a c,k=>keyL c (keyL a k)
  | .slice _ o n _,k=>Nat.add (Nat.mul (Nat.mod k 1000003) 41) (Nat.add o n)
  | .sliceX _ _ _ n,k=>Nat.add (Nat.mul (Nat.mod k 1000003) 41) n
  | _,k=>k
noncomputable def keyL:List AV→Nat→Nat
  | [],k=>k
  | a :: l,k=>keyL l (keyV a k)
end
noncomputable def entOrc (f:FuncId) (args:List AV) (h:Heap) (l:List Ent):Option (T (AV × Heap)) :=
  @List.rec Ent (fun _=>Option (T (AV × Heap))) none (fun e _ ih=>cond (Nat.beq f e.f) (match e.meet args h with
    | some t=>some t
    | none=>ih) ih) l
noncomputable def entPT (m:Nat) (pt:PT (List Ent)) (f:FuncId) (args:List AV) (h:Heap):Option (T (AV × Heap)) :=
  match pt.get (Nat.mod (keyL args f) m) with
  | some l=>entOrc f args h l
  | none=>none
end Go.Sx
namespace Go.Sx
open Go.RowKit
theorem PT.get_nil {α:Type} (k:Nat):(PT.nil:PT α).get k=none:=rfl
theorem PT.get_node {α : Type} (v : Option α) (l r : PT α) (k : Nat) : (PT.node v l r).get k =
    cond (Nat.beq k 0) v (cond (Nat.beq (Nat.mod k 2) 1) (l.get (Nat.div (Nat.pred k) 2)) (r.get (Nat.div (Nat.pred k) 2))):=rfl
theorem PT.setF_nil {α : Type} (a : α) (n k : Nat) : PT.setF a (n + 1) .nil k =
    cond (Nat.beq k 0) (.node (some a) .nil .nil)
        (cond (Nat.beq (Nat.mod k 2) 1) (.node none (PT.setF a n .nil (Nat.div (Nat.pred k) 2)) .nil) (.node none .nil (PT.setF a n .nil (Nat.div (Nat.pred k) 2)))):=rfl
theorem PT.setF_node {α : Type} (a : α) (n k : Nat) (v : Option α) (l r : PT α) : PT.setF a (n + 1) (.node v l r) k =
    cond (Nat.beq k 0) (.node (some a) l r)
        (cond (Nat.beq (Nat.mod k 2) 1) (.node v (PT.setF a n l (Nat.div (Nat.pred k) 2)) r) (.node v l (PT.setF a n r (Nat.div (Nat.pred k) 2)))):=rfl
theorem aq {m n:Nat}:Nat.beq m n=true ↔ m=n:=by
  constructor
  · exact Nat.eq_of_beq_eq_true
  · rintro rfl; simp
theorem bW {m n:Nat}:Nat.beq m n=false ↔ m ≠ n:=by
  rw [← Bool.not_eq_true,aq]
theorem aD {m n:Nat}:Nat.ble m n=true ↔ m≤n:=⟨Nat.le_of_ble_eq_true,Nat.ble_eq_true_of_le⟩
theorem PT.get_setF {α:Type} (a:α):∀ (n:Nat) (t:PT α) (k j:Nat),k < n→(PT.setF a n t k).get j=if j=k then some a else t.get j:=by
  intro n
  induction n with
  | zero=>intro t k j h; omega
  | succ n ih =>
    intro t k j h
    have hm:∀ x:Nat,Nat.mod x 2=x % 2:=fun _=>rfl
    have hd:∀ x:Nat,Nat.div x 2=x / 2:=fun _=>rfl
    have hp:∀ x:Nat,Nat.pred x=x - 1:=fun _=>rfl
    cases t with
    | nil =>
      rw [PT.setF_nil]
      by_cases k0:k=0
      · subst k0
        rw [show Nat.beq 0 0=true from rfl,cond_true,PT.get_node]
        by_cases j0:j=0
        · subst j0; simp
        · rw [bW.2 j0,cond_false,if_neg j0]; cases Nat.beq (Nat.mod j 2) 1 <;> rfl
      · rw [bW.2 k0,cond_false]
        by_cases ko:Nat.mod k 2=1
        · rw [aq.2 ko,cond_true,PT.get_node]
          by_cases j0:j=0
          · subst j0; rw [if_neg (Ne.symm k0)]; rfl
          · rw [bW.2 j0,cond_false]
            by_cases jo:Nat.mod j 2=1
            · rw [aq.2 jo,cond_true,ih _ _ _ (by simp only [hd,hp]; omega)]
              simp only [hm,hd,hp,PT.get_nil] at *
              by_cases e:j=k
              · subst e; simp
              · rw [if_neg e,if_neg (by omega)]
            · rw [bW.2 jo,cond_false,if_neg (by rintro rfl; exact jo ko)]; rfl
        · rw [bW.2 ko,cond_false,PT.get_node]
          by_cases j0:j=0
          · subst j0; rw [if_neg (Ne.symm k0)]; rfl
          · rw [bW.2 j0,cond_false]
            by_cases jo:Nat.mod j 2=1
            · rw [aq.2 jo,cond_true,if_neg (by rintro rfl; exact ko jo)]; rfl
            · rw [bW.2 jo,cond_false,ih _ _ _ (by simp only [hd,hp]; omega)]
              simp only [hm,hd,hp,PT.get_nil] at *
              by_cases e:j=k
              · subst e; simp
              · rw [if_neg e,if_neg (by omega)]
    | node v l r =>
      rw [PT.setF_node]
      by_cases k0:k=0
      · subst k0
        rw [show Nat.beq 0 0=true from rfl,cond_true,PT.get_node]
        by_cases j0:j=0
        · subst j0; simp
        · rw [bW.2 j0,cond_false,if_neg j0,PT.get_node,bW.2 j0,cond_false]
      · rw [bW.2 k0,cond_false]
        by_cases ko:Nat.mod k 2=1
        · rw [aq.2 ko,cond_true,PT.get_node,PT.get_node]
          by_cases j0:j=0
          · subst j0; rw [if_neg (Ne.symm k0)]; rfl
          · rw [bW.2 j0,cond_false,cond_false]
            by_cases jo:Nat.mod j 2=1
            · rw [aq.2 jo,cond_true,cond_true,ih _ _ _ (by simp only [hd,hp]; omega)]
              simp only [hm,hd,hp] at *
              by_cases e:j=k
              · subst e; simp
              · rw [if_neg e,if_neg (by omega)]
            · rw [bW.2 jo,cond_false,cond_false,if_neg (by rintro rfl; exact jo ko)]
        · rw [bW.2 ko,cond_false,PT.get_node,PT.get_node]
          by_cases j0:j=0
          · subst j0; rw [if_neg (Ne.symm k0)]; rfl
          · rw [bW.2 j0,cond_false,cond_false]
            by_cases jo:Nat.mod j 2=1
            · rw [aq.2 jo,cond_true,cond_true,if_neg (by rintro rfl; exact ko jo)]
            · rw [bW.2 jo,cond_false,cond_false,ih _ _ _ (by simp only [hd,hp]; omega)]
              simp only [hm,hd,hp] at *
              by_cases e:j=k
              · subst e; simp
              · rw [if_neg e,if_neg (by omega)]
theorem PT.get_set {α:Type} (t:PT α) (k j:Nat) (a:α):(t.set k a).get j=if j=k then some a else t.get j :=
  PT.get_setF a (Nat.succ k) t k j (Nat.lt_succ_self k)
theorem bR {α:Type} (l:List α) (k:Nat):da l k=l[k]?:=by
  induction l generalizing k with
  | nil=>rfl
  | cons a l ih =>
    show cond (Nat.beq k 0) (some a) (da l (Nat.pred k))=_
    cases k with
    | zero=>rfl
    | succ k=>show da l k=_; simpa using ih k
theorem cM {α:Type} (l:List α):lLen l=l.length:=by
  induction l with
  | nil=>rfl
  | cons a l ih=>show Nat.succ (lLen l)=_; rw [ih]; rfl
theorem aI {α:Type} (l m:List α):cC l m=l ++ m:=by
  induction l with
  | nil=>rfl
  | cons a l ih=>show a :: cC l m=_; rw [ih]; rfl
theorem lDrop_eq {α:Type} (l:List α) (k:Nat):lDrop l k=l.drop k:=by
  induction l generalizing k with
  | nil=>simp [lDrop]
  | cons a l ih =>
    show cond (Nat.beq k 0) (a :: l) (lDrop l (Nat.pred k))=_
    cases k with
    | zero=>rfl
    | succ k=>show lDrop l k=_; simpa using ih k
theorem lTake_eq {α:Type} (l:List α) (k:Nat):lTake l k=l.take k:=by
  induction l generalizing k with
  | nil=>simp [lTake]
  | cons a l ih =>
    show cond (Nat.beq k 0) [] (a :: lTake l (Nat.pred k))=_
    cases k with
    | zero=>rfl
    | succ k=>show a :: lTake l k=_; rw [ih k]; rfl
theorem ga {α:Type} (p:α→Bool) (l:List α):bz p l=l.all p:=by
  induction l with
  | nil=>rfl
  | cons a l ih=>show cond (p a) (bz p l) false=_; rw [ih]; cases h:p a <;> simp [h]
theorem lMap_eq {α β:Type} (f:α→β) (l:List α):lMap f l=l.map f:=by
  induction l with
  | nil=>rfl
  | cons a l ih=>show f a :: lMap f l=_; rw [ih]; rfl
theorem aN {α:Type} (p:Nat × α) (l:List (Nat × α)) (k:Nat):aA (p :: l) k=cond (Nat.beq p.1 k) (some p.2) (aA l k):=rfl
theorem fC {α:Type} {l r:List α} {off n:Nat} (h:fp l off n=some r):off + n≤l.length∧r=(l.drop off).take n:=by
  unfold fp at h
  rw [cM] at h
  cases hb:Nat.ble (Nat.add off n) l.length with
  | false=>rw [hb] at h; cases h
  | true =>
    rw [hb,cond_true,lDrop_eq,lTake_eq] at h
    exact ⟨aD.1 hb,(Option.some.inj h).symm⟩
theorem listPut_eq {α:Type} {l r xs:List α} {off:Nat} (h:gh l off xs=some r):off + xs.length≤l.length∧r=l.take off ++ (xs ++ l.drop (off + xs.length)):=by
  unfold gh at h
  rw [cM,cM] at h
  cases hb:Nat.ble (Nat.add off xs.length) l.length with
  | false=>rw [hb] at h; cases h
  | true =>
    rw [hb,cond_true,lDrop_eq,lTake_eq,aI,aI] at h
    exact ⟨aD.1 hb,(Option.some.inj h).symm⟩
structure Rho where
  iv:Nat→Int
  bv:Nat→Bool
  fi:Nat→Int→Int→Int→Int
  fb:Nat→Int→Int→Int→Bool
  ov:Nat→Value
def binDen (op:BinOp) (k:IntKind) (x y:Int):Int :=
  match op with
  | .add=>k.wrap (x + y)
  | .sub=>k.wrap (x - y)
  | .mul=>k.wrap (x * y)
  | .quo=>k.wrap (x.tdiv y)
  | .rem=>x.tmod y
  | _=>0
def aS (op:BinOp) (x y:Int):Bool :=
  match op with
  | .eql=>x == y
  | .neq=>x != y
  | .lss=>decide (x < y)
  | .leq=>decide (x≤y)
  | .gtr=>decide (x > y)
  | .geq=>decide (x ≥ y)
  | _=>false
def IE.den (ρ:Rho):IE→Int
  | .lit n=>n
  | .var i=>ρ.iv i
  | .bin op k a b=>binDen op k (a.den ρ) (b.den ρ)
  | .conv k a=>k.wrap (a.den ρ)
  | .mx a b=>if b.den ρ > a.den ρ then b.den ρ else a.den ρ
  | .mn a b=>if b.den ρ < a.den ρ then b.den ρ else a.den ρ
  | .app f a b c=>FI ρ.fi f (a.den ρ) (b.den ρ) (c.den ρ)
def BE.den (ρ:Rho):BE→Bool
  | .lit b=>b
  | .var i=>ρ.bv i
  | .not a=>!(a.den ρ)
  | .and a b=>a.den ρ && b.den ρ
  | .cmp op a b=>aS op (a.den ρ) (b.den ρ)
  | .iff a b=>a.den ρ == b.den ρ
  | .app f a b c=>FB ρ.fb f (a.den ρ) (b.den ρ) (c.den ρ)
structure Env where
  ρ:Rho
  σ:Nat→Option (Nat × Nat)
  κ:Nat→Nat
  n:Nat
  rc:Nat→Array Value
structure Env.le0 (E E':Env):Prop where
  ρ:E'.ρ=E.ρ
  σ:∀ b p,E.σ b=some p→E'.σ b=some p
  κ:∀ b p,E.σ b=some p→E'.κ b=E.κ b
  rc:∀ b p,E.σ b=some p→E'.rc b=E.rc b
structure Env.le (E E':Env):Prop extends Env.le0 E E' where
  n:E.n≤E'.n
  none:∀ b,b < E.n→E.σ b=none→E'.σ b=none
instance {E E':Env}:Coe (E.le E') (E.le0 E'):=⟨fun h=>h.tole0⟩
theorem Env.le0.refl (E:Env):E.le0 E:=⟨rfl,fun _ _ h=>h,fun _ _ _=>rfl,fun _ _ _=>rfl⟩
theorem Env.le0.trans {E F G:Env} (h:E.le0 F) (k:F.le0 G):E.le0 G :=
  ⟨k.ρ.trans h.ρ,fun b p e=>k.σ b p (h.σ b p e),fun b p e=>(k.κ b p (h.σ b p e)).trans (h.κ b p e),fun b p e=>(k.rc b p (h.σ b p e)).trans (h.rc b p e)⟩
theorem Env.le.refl (E:Env):E.le E:=⟨Env.le0.refl E,Nat.le_refl _,fun _ _ h=>h⟩
theorem Env.le.trans {E F G:Env} (h:E.le F) (k:F.le G):E.le G :=
  ⟨h.tole0.trans k.tole0,Nat.le_trans h.n k.n,fun b hb e=>k.none b (Nat.lt_of_lt_of_le hb h.n) (h.none b hb e)⟩
mutual
def af (E:Env):AV→Option Value
  | .bool b=>some (.bool (b.den E.ρ))
  | .int k e=>some (.int k (e.den E.ρ))
  | .ptr b off=>(E.σ b).map fun p=>.pointer (some ⟨p.1,p.2 + off,none⟩)
  | .nilptr=>some (.pointer none)
  | .slice b off len cap=>(E.σ b).map fun p=>.slice (some ⟨p.1,p.2 + off,none⟩) len cap
  | .sliceX b size lo len=>if lo + len≤E.κ b then (E.σ b).map fun p=>.slice (some ⟨p.1,p.2 + (if E.κ b=lo then 0 else lo * size),none⟩) len (E.κ b - lo) else none
  | .sliceU i=>(match E.ρ.ov i with
    | .slice p n c=>if E.ρ.iv i=(n:Int) then some (.slice p n c) else none
    | _=>none)
  | .sliceV b i=>if 0≤E.ρ.iv i∧E.ρ.iv i≤E.κ b then (E.σ b).map fun p=>.slice (some ⟨p.1,p.2,none⟩) (E.ρ.iv i).toNat (E.κ b) else none
  | .ptrV b i size off e=>if 0≤e.den E.ρ∧e.den E.ρ < E.ρ.iv i then (E.σ b).map fun p=>.pointer (some ⟨p.1,p.2 + (e.den E.ρ).toNat * size + off,none⟩) else none
  | .nilslice=>some (.slice none 0 0)
  | .map b=>(E.σ b).map fun p=>.map (some p.1)
  | .nilmap=>some (.map none)
  | .func fn first captured=>match fn,ad E first,ad E captured with
    | .yield _,_,_=>none
    | fn,some a,some b=>some (.func fn a.toArray b.toArray)
    | _,_,_=>none
  | .yieldF l=>(E.σ l).map fun p=>.func (.yield p.1) #[] #[]
  | .nilFunc=>some .nilFunc
  | .agg cs=>(ad E cs).map fun l=>.agg l.toArray
  | .tup cs=>(ad E cs).map fun l=>.tuple l.toArray
  | .opq i=>some (E.ρ.ov i)
  | .bad=>none
def ad (E:Env):List AV→Option (List Value)
  | []=>some []
  | a :: l=>match af E a,ad E l with
    | some v,some vs=>some (v :: vs)
    | _,_=>none
end
theorem ap {E:Env} {a:AV} {l:List AV} {vs:List Value}:ad E (a :: l)=some vs ↔ ∃ v r,af E a=some v∧ad E l=some r∧vs=v :: r:=by
  simp only [ad]
  constructor
  · intro h
    cases ha:af E a with
    | none=>rw [ha] at h; cases h
    | some v =>
      cases hl:ad E l with
      | none=>rw [ha,hl] at h; cases h
      | some r=>rw [ha,hl] at h; exact ⟨v,r,rfl,rfl,(Option.some.inj h).symm⟩
  · rintro ⟨v,r,ha,hl,rfl⟩; rw [ha,hl]
theorem bD {E:Env} {l:List AV} {vs:List Value} (h:ad E l=some vs):vs.length=l.length:=by
  induction l generalizing vs with
  | nil=>simp only [ad] at h; cases h; rfl
  | cons a l ih=>obtain ⟨v,r,_,hr,rfl⟩:=ap.1 h; simp [ih hr]
theorem c9 {E:Env} {l:List AV} {vs:List Value} (h:ad E l=some vs) {i:Nat} {a:AV} (ha:l[i]?=some a):∃ v,af E a=some v∧vs[i]?=some v:=by
  induction l generalizing vs i with
  | nil=>simp at ha
  | cons x l ih =>
    obtain ⟨v,r,hv,hr,rfl⟩:=ap.1 h
    cases i with
    | zero=>simp at ha; subst ha; exact ⟨v,hv,rfl⟩
    | succ i=>simp at ha; simpa using ih hr ha
theorem ce {E:Env} {l m:List AV} {vs us:List Value} (h:ad E l=some vs) (k:ad E m=some us):ad E (l ++ m)=some (vs ++ us):=by
  induction l generalizing vs with
  | nil=>simp only [ad] at h; cases h; simpa using k
  | cons a l ih =>
    obtain ⟨v,r,hv,hr,rfl⟩:=ap.1 h
    exact ap.2 ⟨v,r ++ us,hv,ih hr,rfl⟩
theorem fD {E:Env} {l:List AV} {vs:List Value} (h:ad E l=some vs) (n:Nat):ad E (l.take n)=some (vs.take n):=by
  induction l generalizing vs n with
  | nil=>simp only [ad] at h; cases h; simp [ad]
  | cons a l ih =>
    obtain ⟨v,r,hv,hr,rfl⟩:=ap.1 h
    cases n with
    | zero=>simp [ad]
    | succ n=>simp only [List.take_succ_cons]; exact ap.2 ⟨v,_,hv,ih hr n,rfl⟩
theorem fE {E:Env} {l:List AV} {vs:List Value} (h:ad E l=some vs) (n:Nat):ad E (l.drop n)=some (vs.drop n):=by
  induction l generalizing vs n with
  | nil=>simp only [ad] at h; cases h; simp [ad]
  | cons a l ih =>
    obtain ⟨v,r,hv,hr,rfl⟩:=ap.1 h
    cases n with
    | zero=>simpa using ap.2 ⟨v,r,hv,hr,rfl⟩
    | succ n=>simpa using ih hr n
mutual
theorem gP {E E':Env} (h:E.le0 E'):∀ (a:AV) (v:Value),af E a=some v→af E' a=some v
  | .bool b,v,e=>by simp only [af,h.ρ] at *; exact e
  | .int k x,v,e=>by simp only [af,h.ρ] at *; exact e
  | .ptr b off,v,e=>by
    simp only [af,Option.map_eq_some_iff] at *
    obtain ⟨p,hp,e⟩:=e; exact ⟨p,h.σ _ _ hp,e⟩
  | .nilptr,v,e=>e
  | .slice b off len cap,v,e=>by
    simp only [af,Option.map_eq_some_iff] at *
    obtain ⟨p,hp,e⟩:=e; exact ⟨p,h.σ _ _ hp,e⟩
  | .sliceX b size lo len,v,e=>by
    simp only [af] at *
    split at e
    · rename_i hl
      simp only [Option.map_eq_some_iff] at e
      obtain ⟨p,hp,e⟩:=e
      have hκ:=h.κ _ _ hp
      rw [if_pos (by rw [hκ]; exact hl),h.σ _ _ hp,hκ,Option.map_some,e]
    · cases e
  | .sliceU i,v,e=>by simp only [af,h.ρ] at *; exact e
  | .sliceV b i,v,e=>by
    simp only [af,h.ρ] at *
    split at e
    · rename_i hl
      simp only [Option.map_eq_some_iff] at e
      obtain ⟨p,hp,e⟩:=e
      have hκ:=h.κ _ _ hp
      rw [if_pos (by rw [hκ]; exact hl),h.σ _ _ hp,hκ,Option.map_some,e]
    · cases e
  | .ptrV b i size off x,v,e=>by
    simp only [af,h.ρ] at *
    split at e
    · rename_i hl
      simp only [Option.map_eq_some_iff] at e
      obtain ⟨p,hp,e⟩:=e
      rw [if_pos hl,h.σ _ _ hp,Option.map_some,e]
    · cases e
  | .nilslice,v,e=>e
  | .map b,v,e=>by
    simp only [af,Option.map_eq_some_iff] at *
    obtain ⟨p,hp,e⟩:=e; exact ⟨p,h.σ _ _ hp,e⟩
  | .nilmap,v,e=>e
  | .func fn first captured,v,e=>by
    simp only [af] at *
    cases hf:ad E first with
    | none=>rw [hf] at e; cases fn <;> simp at e
    | some a =>
      cases hc:ad E captured with
      | none=>rw [hf,hc] at e; cases fn <;> simp at e
      | some b=>rw [hf,hc] at e; rw [a9 h _ _ hf,a9 h _ _ hc]; exact e
  | .yieldF l,v,e=>by
    simp only [af,Option.map_eq_some_iff] at *
    obtain ⟨p,hp,e⟩:=e; exact ⟨p,h.σ _ _ hp,e⟩
  | .nilFunc,v,e=>e
  | .agg cs,v,e=>by
    simp only [af,Option.map_eq_some_iff] at *
    obtain ⟨p,hp,e⟩:=e; exact ⟨p,a9 h _ _ hp,e⟩
  | .tup cs,v,e=>by
    simp only [af,Option.map_eq_some_iff] at *
    obtain ⟨p,hp,e⟩:=e; exact ⟨p,a9 h _ _ hp,e⟩
  | .opq i,v,e=>by simp only [af,h.ρ] at *; exact e
  | .bad,v,e=>by simp [af] at e
theorem a9 {E E':Env} (h:E.le0 E'):∀ (l:List AV) (vs:List Value),ad E l=some vs→ad E' l=some vs
  | [],vs,e=>e
  | a :: l,vs,e=>by
    obtain ⟨v,r,hv,hr,rfl⟩:=ap.1 e
    exact ap.2 ⟨v,r,gP h a v hv,a9 h l r hr,rfl⟩
end
def T.Holds {α:Type} (ρ:Rho):T α→(α→Prop)→Prop
  | .ret a,Q=>Q a
  | .br c t f,Q=>if c.den ρ then t.Holds ρ Q else f.Holds ρ Q
  | .fail _,_=>False
theorem T.bind_br {α β:Type} (c:BE) (t f:T α) (k:α→T β):(T.br c t f).bind k=.br c (t.bind k) (f.bind k):=rfl
theorem T.holds_bind {α β:Type} {ρ:Rho} {t:T α} {k:α→T β} {Q:β→Prop}:(t.bind k).Holds ρ Q ↔ t.Holds ρ fun a=>(k a).Holds ρ Q:=by
  induction t with
  | ret a=>rfl
  | br c t f iht ihf =>
    rw [T.bind_br]
    simp only [T.Holds]
    split
    · exact iht
    · exact ihf
  | fail w=>rfl
theorem T.holds_ite {α:Type} {ρ:Rho} {c:BE} {t f:T α} {Q:α→Prop}:(T.ite c t f).Holds ρ Q ↔ if c.den ρ then t.Holds ρ Q else f.Holds ρ Q:=by
  cases c with
  | lit b=>cases b <;> simp [T.ite,BE.den]
  | _=>rfl
theorem T.holds_mono {α:Type} {ρ:Rho} {t:T α} {Q Q':α→Prop} (h:∀ a,Q a→Q' a) (k:t.Holds ρ Q):t.Holds ρ Q':=by
  induction t with
  | ret a=>exact h a k
  | br c t f iht ihf =>
    simp only [T.Holds] at *
    split
    · rename_i hc; rw [if_pos hc] at k; exact iht k
    · rename_i hc; rw [if_neg hc] at k; exact ihf k
  | fail w=>exact k
theorem aV {ρ:Rho} {h:Heap} {why:Nat} {o:Option AV} {Q:AV × Heap→Prop} (k:(mk2 h why o).Holds ρ Q):∃ v,o=some v∧Q (v,h):=by
  cases o with
  | none=>exact k.elim
  | some v=>exact ⟨v,rfl,k⟩
theorem bt {E : Env} {b size lo len : Nat} {v : Value} (h : af E (.sliceX b size lo len) = some v) :
    ∃ q,E.σ b=some q∧lo + len≤E.κ b∧v=.slice (some ⟨q.1,q.2 + (if E.κ b=lo then 0 else lo * size),none⟩) len (E.κ b - lo):=by
  simp only [af] at h
  split at h
  · rename_i hl
    simp only [Option.map_eq_some_iff] at h
    obtain ⟨q,h1,h2⟩:=h
    exact ⟨q,h1,hl,h2.symm⟩
  · cases h
theorem gc {E:Env} {b i:Nat} {v:Value} (h:af E (.sliceV b i)=some v):∃ q,E.σ b=some q∧0≤E.ρ.iv i∧v=.slice (some ⟨q.1,q.2,none⟩) (E.ρ.iv i).toNat (E.κ b):=by
  simp only [af] at h
  split at h
  · rename_i hl
    simp only [Option.map_eq_some_iff] at h
    obtain ⟨q,h1,h2⟩:=h
    exact ⟨q,h1,hl.1,h2.symm⟩
  · cases h
theorem dR {E:Env} {b i size off:Nat} {e:IE} {v:Value} (h:af E (.ptrV b i size off e)=some v):∃ q,E.σ b=some q∧0≤e.den E.ρ∧e.den E.ρ < E.ρ.iv i∧v=.pointer (some ⟨q.1,q.2 + (e.den E.ρ).toNat * size + off,none⟩):=by
  simp only [af] at h
  split at h
  · rename_i hl
    simp only [Option.map_eq_some_iff] at h
    obtain ⟨q,h1,h2⟩:=h
    exact ⟨q,h1,hl.1,hl.2,h2.symm⟩
  · cases h
theorem eJ {E:Env} {i:Nat} {v:Value} (h:af E (.sliceU i)=some v):∃ p n c,v=.slice p n c∧E.ρ.iv i=(n:Int):=by
  simp only [af] at h
  split at h
  · rename_i p n c _
    split at h
    · rename_i hn; cases h; exact ⟨p,n,c,rfl,hn⟩
    · cases h
  · cases h
theorem b6 {E : Env} {b off len cap : Nat} {v : Value} (h : af E (.slice b off len cap) = some v) :
    ∃ q,E.σ b=some q∧v=.slice (some ⟨q.1,q.2 + off,none⟩) len cap:=by
  simp only [af,Option.map_eq_some_iff] at h
  obtain ⟨q,h1,h2⟩:=h
  exact ⟨q,h1,h2.symm⟩
theorem cn {E:Env} {b:Nat} {v:Value} (h:af E (.map b)=some v):∃ q,E.σ b=some q∧v=.map (some q.1):=by
  simp only [af,Option.map_eq_some_iff] at h
  obtain ⟨q,h1,h2⟩:=h
  exact ⟨q,h1,h2.symm⟩
end Go.Sx
namespace Go.Sx
open Go.RowKit
structure Kept (S:Nat→Prop) (w w':World):Prop where
  os:w'.os=w.os
  tape:w'.tape=w.tape
  output:w'.output=w.output
  size:w.heap.size≤w'.heap.size
  block:∀ k,S k→w'.heap[k]?=w.heap[k]?
theorem Kept.refl (S:Nat→Prop) (w:World):Kept S w w:=⟨rfl,rfl,rfl,Nat.le_refl _,fun _ _=>rfl⟩
theorem Kept.trans {S:Nat→Prop} {a b c:World} (h:Kept S a b) (k:Kept S b c):Kept S a c :=
  ⟨k.os.trans h.os,k.tape.trans h.tape,k.output.trans h.output,Nat.le_trans h.size k.size,fun i hi=>(k.block i hi).trans (h.block i hi)⟩
theorem Kept.of_below {S:Nat→Prop} {n:Nat} {w w':World} (h:Below n w w') (hS:∀ c,S c→c < n):Kept S w w' :=
  ⟨h.os,h.tape,h.output,h.size,fun k hk=>h.block k (hS k hk)⟩
theorem Kept.alloc {S:Nat→Prop} {a w:World} (h:Kept S a w) (hS:∀ c,S c→c < w.heap.size) (o:Obj):Kept S a (w.alloc o) :=
  h.trans ⟨rfl,rfl,rfl,by simp,fun k hk=>Below.heap_alloc _ _ _ (hS k hk)⟩
structure Base where
  w:World
  S:Nat→Prop
  lt:∀ c,S c→c < w.heap.size
def Base.has (b:Base) (c:Nat) (o:Obj):Prop:=b.S c∧b.w.heap[c]?=some o
def Base.of (w:World):Base:=⟨w,fun c=>c < w.heap.size,fun _ h=>h⟩
abbrev Base.Keeps (b:Base) (w:World):Prop:=Kept b.S b.w w
theorem Base.Keeps.lt {b:Base} {w:World} (h:b.Keeps w) {c:Nat} (hc:b.S c):c < w.heap.size:=Nat.lt_of_lt_of_le (b.lt c hc) h.size
theorem Base.Keeps.fresh {b:Base} {w:World} (h:b.Keeps w):¬ b.S w.heap.size:=fun hc=>Nat.lt_irrefl _ (h.lt hc)
theorem Base.keeps_below {w w':World} (h:(Base.of w).Keeps w'):Below w.heap.size w w':=⟨h.os,h.tape,h.output,h.size,fun k hk=>h.block k hk⟩
structure Par where
  P:Program
  RC:Nat→Nat→List Nat→Code→Code→Prop
  ok:Rho→(Nat→Obj→Prop)→Prop
def Par.okB (p:Par) (ρ:Rho) (b:Base):Prop:=∃ m:Nat→Obj→Prop,p.ok ρ m∧∀ c o,m c o→b.has c o
theorem Par.okB_all {p:Par} (h:∀ ρ m,p.ok ρ m) (ρ:Rho) (b:Base):p.okB ρ b:=⟨fun _ _=>False,h _ _,fun _ _ h=>h.elim⟩
theorem Par.okB.mono {p:Par} {ρ:Rho} {b b':Base} (h:p.okB ρ b) (hb:∀ c o,b.has c o→b'.has c o):p.okB ρ b' :=
  let ⟨m,h1,h2⟩:=h; ⟨m,h1,fun c o e=>hb c o (h2 c o e)⟩
theorem Base.Keeps.has {b:Base} {w:World} (h:b.Keeps w) {c:Nat} {o:Obj} (e:b.has c o):w.heap[c]?=some o:=(h.block c e.1).trans e.2
theorem Par.okB.of {p:Par} {ρ:Rho} {b:Base} {w:World} (h:p.okB ρ b) (hk:b.Keeps w):p.okB ρ (Base.of w) :=
  h.mono fun _ _ e=>⟨hk.lt e.1,hk.has e⟩
def good (E:Env) (arr:Array Value) (i:Nat) (a:AV):Prop:=∃ v,af E a=some v∧arr[i]?=some v
theorem good.mono {E E':Env} {arr:Array Value} {i:Nat} {a:AV} (h:good E arr i a) (l:E.le0 E'):good E' arr i a :=
  let ⟨v,h1,h2⟩:=h; ⟨v,gP l _ _ h1,h2⟩
structure TreeOk (keep:List Nat) (E:Env) (t:PT AV) (arr:Array Value):Prop where
  at_:∀ i a,t.get i=some a→memN keep (some i)=true∧good E arr i a
structure TmOk (n:Nat) (keep:List Nat) (E:Env) (tm:Tm) (arr:Array Value):Prop where
  size:n≤arr.size
  loc:∀ i a,aA tm.loc i=some a→good E arr i a
  tree:TreeOk keep E tm.tree arr
theorem TreeOk.mono {keep:List Nat} {E E':Env} {t:PT AV} {arr:Array Value} (h:TreeOk keep E t arr) (l:E.le0 E'):TreeOk keep E' t arr :=
  ⟨fun i a e=>⟨(h.at_ i a e).1,(h.at_ i a e).2.mono l⟩⟩
theorem TmOk.mono {n:Nat} {keep:List Nat} {E E':Env} {tm:Tm} {arr:Array Value} (h:TmOk n keep E tm arr) (l:E.le0 E'):TmOk n keep E' tm arr :=
  ⟨h.size,fun i a e=>(h.loc i a e).mono l,h.tree.mono l⟩
theorem TmOk.look {n:Nat} {keep:List Nat} {E:Env} {tm:Tm} {arr:Array Value} (h:TmOk n keep E tm arr) {i:Nat} {a:AV} (e:tm.look i=some a):good E arr i a:=by
  unfold Tm.look at e
  cases hl:aA tm.loc i with
  | some v=>rw [hl] at e; cases e; exact h.loc i _ hl
  | none=>rw [hl] at e; exact (h.tree.at_ i a e).2
theorem TmOk.shut {n:Nat} {keep:List Nat} {E:Env} {tm:Tm} {arr:Array Value} (h:TmOk n keep E tm arr):TmOk n keep E tm.shut arr :=
  ⟨h.size,fun i a e=>(by cases e),h.tree⟩
theorem TmOk.put {n : Nat} {keep : List Nat} {E : Env} {tm : Tm} {arr : Array Value} (h : TmOk n keep E tm arr) {d : Nat} {a : AV} {v : Value} (hd : d < n) (hv : af E a = some v) :
    TmOk n keep E (tm.put d (memN keep (some d)) a) (arr.setIfInBounds d v):=by
  have hs:=h.size
  have hnew:(arr.setIfInBounds d v)[d]?=some v:=by simp [Array.getElem?_setIfInBounds]; omega
  have hold:∀ i,i ≠ d→(arr.setIfInBounds d v)[i]?=arr[i]?:=fun i e=>by rw [Array.getElem?_setIfInBounds_ne (by omega)]
  refine ⟨by simpa using hs,fun i b e=>?_,⟨fun i b e=>?_⟩⟩
  · simp only [Tm.put,aN] at e
    by_cases c:d=i
    · subst c; rw [aq.2 rfl] at e; cases e; exact ⟨v,hv,hnew⟩
    · rw [bW.2 c] at e
      obtain ⟨u,h1,h2⟩:=h.loc i b e
      exact ⟨u,h1,by rw [hold i (Ne.symm c)]; exact h2⟩
  · simp only [Tm.put] at e
    cases hk:memN keep (some d) with
    | true =>
      rw [hk,cond_true,PT.get_set] at e
      by_cases c:i=d
      · subst c; rw [if_pos rfl] at e; cases e; exact ⟨hk,v,hv,hnew⟩
      · rw [if_neg c] at e
        obtain ⟨h0,u,h1,h2⟩:=h.tree.at_ i b e
        exact ⟨h0,u,h1,by rw [hold i c]; exact h2⟩
    | false =>
      rw [hk,cond_false] at e
      obtain ⟨h0,u,h1,h2⟩:=h.tree.at_ i b e
      have c:i ≠ d:=by rintro rfl; rw [hk] at h0; cases h0
      exact ⟨h0,u,h1,by rw [hold i c]; exact h2⟩
def bG (E:Env):List (AV × AV × Nat)→List MapEntry→Prop
  | [],[]=>True
  | e :: es,m :: ms=>af E e.1=some m.key∧af E e.2.1=some m.val∧m.born=e.2.2∧bG E es ms
  | _,_=>False
theorem concE_mono {E E':Env} (l:E.le0 E'):∀ (es:List (AV × AV × Nat)) (ms:List MapEntry),bG E es ms→bG E' es ms
  | [],[],_=>trivial
  | _ :: es,_ :: ms,⟨h1,h2,h3,h4⟩=>⟨gP l _ _ h1,gP l _ _ h2,h3,concE_mono l es ms h4⟩
def hT (x:Ex):Option Code :=
  match x with
  | .norm=>none
  | .exit id=>some (.exit id)
  | .ret=>some .ret
def bN (o:AObj):Bool :=
  match o with
  | .cells _ _ own _=>own
  | .dead=>false
  | .rmap _ _=>false
  | .ucells _ _=>false
  | _=>true
def eX (nk:Nat) (a b c:Int):AV :=
  match nk with
  | 1=>.agg [.int .i64 (.lit a)]
  | 2=>.agg [.int .i64 (.lit a),.int .i64 (.lit b)]
  | _=>.agg [.int .i64 (.lit a),.int .i64 (.lit b),.int .i64 (.lit c)]
def aU (ρ:Rho) (a b c:Int) (p:Bool × Nat):AV:=cond p.1 (.bool (.lit (FB ρ.fb p.2 a b c))) (.int .i64 (.lit (FI ρ.fi p.2 a b c)))
def bT (ρ:Rho) (m:MU) (a b c:Int):AV :=
  cond m.ag (.agg (m.fi.map (aU ρ a b c))) (match m.fi with
  | [p]=>aU ρ a b c p
  | _=>.bad)
def MU.Has (m:MU) (es:List (AV × AV × Nat)) (a b c:Int):Prop:=∃ e ∈ es,e.1=eX m.nk a b c
def PresOk (ρ:Rho) (m:MU) (es:List (AV × AV × Nat)):Prop :=
  (m.ps.sure ≠ 0→∀ a b c,FB ρ.fb m.ps.sure a b c=true→m.Has es a b c) ∧
  (∀ f ∈ m.ps.keys,f.1.den ρ=true→m.Has es (f.2.1.den ρ) (f.2.2.1.den ρ) (f.2.2.2.den ρ)) ∧
  (∀ e p x y,m.ps.cl=[e,p,x,y]→m.nk=3→∀ a b c,m.Has es a b c→FB ρ.fb e a b c=true→1≤FI ρ.fi p a b c→m.Has es (FI ρ.fi p a b c) (FI ρ.fi x a b c) (FI ρ.fi y a b c))
def UOk (ρ:Rho) (m:MU) (es:List (AV × AV × Nat)):Prop :=
  (∀ e ∈ es,∃ a b c,(m.nk < 2→b=0)∧(m.nk < 3→c=0)∧e.1=eX m.nk a b c∧e.2.1=bT ρ m a b c) ∧
  (m.live=true→∀ a b c,(m.nk < 2→b=0)→(m.nk < 3→c=0)→(FB ρ.fb m.fb a b c=true ↔ ∃ e ∈ es,e.1=eX m.nk a b c))∧PresOk ρ m es
def roO (o:AObj):Bool :=
  match o with
  | .cells _ _ own _=>!own
  | .rmap _ _=>true
  | .ucells _ _=>true
  | _=>false
noncomputable def psOk (n:Nat) (keep ps:List Nat):Bool:=ps.all fun q=>and (memN keep (some q)) (okDst n (some q))
def cellOf (ρ:Rho) (i:Nat) (n:Int) (off:Nat) (k:Bool):Value:=if k then .bool (ρ.fb (1000 + i) n off 0) else .int .i64 (ρ.fi (1000 + i) n off 0)
def objOk (p:Par) (E:Env) (b:Nat) (o:AObj) (heap:Array Obj):Prop :=
  match o with
  | .cells cs elem own ext => ∃ c base vs cells el fz, E.σ b = some (c, base) ∧ ad E cs = some vs ∧ heap[c]? = some (.cells cells el fz) ∧
      (∀ i,i < vs.length→cells[base + i]?=vs[i]?) ∧
      (own=true→base=0∧fz=(0,0)∧(ext=false→cells.size=vs.length) ∧
        (ext=true→∃ i,p.P.info? elem=some i∧cells.size=E.κ b * i.size))
  | .map es clock=>∃ c ms,E.σ b=some (c,0)∧bG E es ms∧heap[c]?=some (.map ms.toArray clock)
  | .rmap es clock=>∃ c ms,E.σ b=some (c,0)∧bG E es ms∧heap[c]?=some (.map ms.toArray clock)
  | .umap m=>∃ c es ms clock,E.σ b=some (c,0)∧bG E es ms∧heap[c]?=some (.map ms.toArray clock)∧UOk E.ρ m es
  | .ucells i ks => ∃ c base cells el fz, E.σ b = some (c, base) ∧ heap[c]? = some (.cells cells el fz) ∧
      ∀ (n off:Nat) (k:Bool),(n:Int) < E.ρ.iv i→ks[off]?=some k→cells[base + n * ks.length + off]?=some (cellOf E.ρ i n off k)
  | .loop st pend _ tm ps code d => ∃ c d' n keep r, E.σ b = some (c, 0) ∧ E.σ d = some (d', 0) ∧ heap[c]? = some (.loop r) ∧ r.state = st ∧ r.pending = hT pend ∧
      n≤r.tmps.size∧TreeOk keep E tm r.tmps∧r.params.toList=ps∧(p.RC code n keep r.assign r.body∧psOk n keep ps=true)∧r.defers=d'
  | .defd there=>∃ c,E.σ b=some (c,0)∧heap[c]?=some (.deferred (if there then some [] else none))
  | .resv=>E.σ b=none ∨ ∃ c el,E.σ b=some (c,0)∧heap[c]?=some (.cells (E.rc b) el (0,0))
  | .dead=>True
theorem objOk.mono {p : Par} {E E' : Env} {b : Nat} {o : AObj} {heap heap' : Array Obj} (h : objOk p E b o heap) (l : E.le0 E') (hb : E.σ b = none → E'.σ b = none)
    (hh:∀ c x,E.σ b=some (c,x)→bN o=true ∨ roO o=true→heap'[c]?=heap[c]?):objOk p E' b o heap':=by
  cases o with
  | cells cs elem own ext =>
    obtain ⟨c,base,vs,cells,el,fz,h1,h2,h3,h4,h5⟩:=h
    refine ⟨c,base,vs,cells,el,fz,l.σ _ _ h1,a9 l _ _ h2,?_,h4,?_⟩
    · rw [hh c base h1 (by cases own; exact .inr rfl; exact .inl rfl)]; exact h3
    · rw [l.κ _ _ h1]; exact h5
  | map es clock =>
    obtain ⟨c,ms,h1,h2,h3⟩:=h
    exact ⟨c,ms,l.σ _ _ h1,concE_mono l _ _ h2,by rw [hh c 0 h1 (.inl rfl)]; exact h3⟩
  | rmap es clock =>
    obtain ⟨c,ms,h1,h2,h3⟩:=h
    exact ⟨c,ms,l.σ _ _ h1,concE_mono l _ _ h2,by rw [hh c 0 h1 (.inr rfl)]; exact h3⟩
  | umap m =>
    obtain ⟨c,es,ms,clock,h1,h2,h3,h4⟩:=h
    exact ⟨c,es,ms,clock,l.σ _ _ h1,concE_mono l _ _ h2,by rw [hh c 0 h1 (.inl rfl)]; exact h3,by rw [l.ρ]; exact h4⟩
  | ucells i ks =>
    obtain ⟨c,base,cells,el,fz,h1,h3,h4⟩:=h
    exact ⟨c,base,cells,el,fz,l.σ _ _ h1,by rw [hh c base h1 (.inr rfl)]; exact h3,by rw [l.ρ]; exact h4⟩
  | loop st pend fn tm ps code d =>
    obtain ⟨c,d',n,keep,r,h1,h2,h3,h4,h5,hn,h6,h7,h8,h9⟩:=h
    exact ⟨c,d',n,keep,r,l.σ _ _ h1,l.σ _ _ h2,by rw [hh c 0 h1 (.inl rfl)]; exact h3,h4,h5,hn,h6.mono l,h7,h8,h9⟩
  | defd there =>
    obtain ⟨c,h1,h2⟩:=h
    exact ⟨c,l.σ _ _ h1,by rw [hh c 0 h1 (.inl rfl)]; exact h2⟩
  | resv =>
    rcases h with h | ⟨c,el,h1,h2⟩
    · exact .inl (hb h)
    · exact .inr ⟨c,el,l.σ _ _ h1,by rw [hh c 0 h1 (.inl rfl),l.rc _ _ h1]; exact h2⟩
  | dead=>trivial
structure HeapOk (p:Par) (E:Env) (h:Heap) (w0:Base) (w:World):Prop where
  obj:∀ b o,h.get b=some o→objOk p E b o w.heap
  inj:∀ b b' o o' c x y,h.get b=some o→h.get b'=some o'→bN o=true→bN o'=true→E.σ b=some (c,x)→E.σ b'=some (c,y)→b=b'
  base:∀ b o c x,h.get b=some o→bN o=true→E.σ b=some (c,x)→¬ w0.S c
  ro:∀ b o c y,h.get b=some o→roO o=true→E.σ b=some (c,y)→w0.S c
  fresh:∀ b,h.next≤b→E.σ b=none
  lt:∀ b o c x,h.get b=some o→E.σ b=some (c,x)→c < w.heap.size
  glob:∀ b,b < 1000→E.σ b=some (b,0)
  below:w0.Keeps w
  nx:E.n≤h.next
  ok:p.okB E.ρ w0
theorem HeapOk.world {p:Par} {E:Env} {h:Heap} {w0:Base} {w w':World} (k:HeapOk p E h w0 w) (hw:Below w.heap.size w w'):HeapOk p E h w0 w':=by
  have hs:∀ b o c x,h.get b=some o→E.σ b=some (c,x)→w'.heap[c]?=w.heap[c]?:=fun b o c x g e=>hw.block c (k.lt b o c x g e)
  refine ⟨fun b o e=>(k.obj b o e).mono (Env.le.refl E) (fun h=>h) (fun c x hc _=>hs b o c x e hc),k.inj,k.base,k.ro,k.fresh,fun b o c x g e=>?_,k.glob,?_,k.nx,k.ok⟩
  · exact Nat.lt_of_lt_of_le (k.lt b o c x g e) hw.size
  · exact k.below.trans (Kept.of_below hw fun c hc=>k.below.lt hc)
theorem Heap.get_put (h:Heap) (b j:Nat) (o:AObj):(h.put b o).get j=if j=b then some o else h.get j:=PT.get_set _ _ _ _
theorem Heap.get_new (h:Heap) (j:Nat) (o:AObj):(h.new o).get j=if j=h.next then some o else h.get j:=PT.get_set _ _ _ _
theorem Heap.next_put (h:Heap) (b:Nat) (o:AObj):(h.put b o).next=h.next:=rfl
theorem Heap.next_new (h:Heap) (o:AObj):(h.new o).next=h.next + 1:=rfl
def Env.with (E:Env) (b:Nat) (q:Nat × Nat) (k:Nat):Env:=⟨E.ρ,fun i=>if i=b then some q else E.σ i,fun i=>if i=b then k else E.κ i,b + 1,E.rc⟩
theorem Env.with_le {E:Env} {b:Nat} (h:E.σ b=none) (hn:E.n≤b) (q:Nat × Nat) (k:Nat):E.le (E.with b q k):=by
  refine ⟨⟨rfl,fun i p e=>?_,fun i p e=>?_,fun _ _ _=>rfl⟩,Nat.le_succ_of_le hn,fun i hi e=>by simp only [Env.with,if_neg (show i ≠ b by omega)]; exact e⟩ <;> have hne:i ≠ b:=by (rintro rfl; rw [h] at e; cases e)
  · simp only [Env.with,if_neg hne]; exact e
  · simp only [Env.with,if_neg hne]
theorem Env.with_at (E:Env) (b:Nat) (q:Nat × Nat) (k:Nat):(E.with b q k).σ b=some q:=by simp [Env.with]
theorem Env.with_κ (E:Env) (b:Nat) (q:Nat × Nat) (k:Nat):(E.with b q k).κ b=k:=by simp [Env.with]
theorem Env.with_ne (E:Env) {b i:Nat} (q:Nat × Nat) (k:Nat) (h:i ≠ b):(E.with b q k).σ i=E.σ i:=by simp [Env.with,h]
theorem gk {o:AObj} (h:bN o=true):roO o=false:=by
  cases o with
  | cells cs e own x=>cases own; cases h; rfl
  | rmap es c=>cases h
  | ucells i ks=>cases h
  | _=>rfl
theorem HeapOk.alloc {p : Par} {E : Env} {h : Heap} {w0 : Base} {w : World} (k : HeapOk p E h w0 w) {o : AObj} {O : Obj} {κ : Nat} (hown : bN o = true)
    (ho:objOk p (E.with h.next (w.heap.size,0) κ) h.next o (w.heap.push O)) :
    HeapOk p (E.with h.next (w.heap.size,0) κ) (h.new o) w0 (w.alloc O):=by
  have hf:E.σ h.next=none:=k.fresh _ (Nat.le_refl _)
  have hle:=Env.with_le hf k.nx (w.heap.size,0) κ
  have hsz:(w.alloc O).heap=w.heap.push O:=rfl
  have hold:∀ c,c < w.heap.size→(w.heap.push O)[c]?=w.heap[c]?:=fun c hc=>by rw [Array.getElem?_push,if_neg (by omega)]
  have hσ:∀ i q,i ≠ h.next→(E.with h.next (w.heap.size,0) κ).σ i=some q→E.σ i=some q:=fun i q hi e=>by rw [Env.with_ne _ _ _ hi] at e; exact e
  refine ⟨fun b o' e=>?_,fun b b' o1 o2 c x y h1 h2 w1 w2 e1 e2=>?_,fun b o' c x e ow s=>?_,fun b o' c y hg hr s=>?_,fun b hb=>?_,fun b o' c x g e=>?_,fun b hb=>?_,?_,Nat.le_refl _,k.ok⟩
  · rw [Heap.get_new] at e
    by_cases hb:b=h.next
    · rw [if_pos hb] at e; cases e; subst hb; exact ho
    · rw [if_neg hb] at e
      refine (k.obj b o' e).mono hle (fun hn=>by rw [Env.with_ne _ _ _ hb]; exact hn) (fun c x hc _=>hold c (k.lt b o' c x e hc))
  · rw [Heap.get_new] at h1 h2
    by_cases hb:b=h.next
    · by_cases hb':b'=h.next
      · rw [hb,hb']
      · rw [hb,Env.with_at] at e1; cases e1
        rw [if_neg hb'] at h2
        exact absurd (k.lt b' _ _ _ h2 (hσ b' _ hb' e2)) (Nat.lt_irrefl _)
    · by_cases hb':b'=h.next
      · rw [hb',Env.with_at] at e2; cases e2
        rw [if_neg hb] at h1
        exact absurd (k.lt b _ _ _ h1 (hσ b _ hb e1)) (Nat.lt_irrefl _)
      · rw [if_neg hb] at h1; rw [if_neg hb'] at h2
        exact k.inj b b' o1 o2 c x y h1 h2 w1 w2 (hσ b _ hb e1) (hσ b' _ hb' e2)
  · rw [Heap.get_new] at e
    by_cases hb:b=h.next
    · rw [hb,Env.with_at] at s; cases s; exact k.below.fresh
    · rw [if_neg hb] at e; exact k.base b o' c x e ow (hσ b _ hb s)
  · rw [Heap.get_new] at hg
    by_cases hb:b=h.next
    · rw [if_pos hb] at hg; cases hg; exact absurd hr (by rw [gk hown]; exact Bool.false_ne_true)
    · rw [if_neg hb] at hg; exact k.ro b o' c y hg hr (hσ b _ hb s)
  · rw [Heap.next_new] at hb
    rw [Env.with_ne _ _ _ (by omega)]; exact k.fresh b (by omega)
  · rw [hsz,Array.size_push]
    rw [Heap.get_new] at g
    by_cases hb:b=h.next
    · rw [hb,Env.with_at] at e; cases e; omega
    · rw [if_neg hb] at g; have:=k.lt b o' c x g (hσ b _ hb e); omega
  · refine hle.σ _ _ (k.glob b hb)
  · exact k.below.alloc (fun c hc=>k.below.lt hc) O
theorem HeapOk.turn {p : Par} {E : Env} {h : Heap} {w0 : Base} {w w' : World} (k : HeapOk p E h w0 w) {b c : Nat} {o o' : AObj} (hg : h.get b = some o) (hown : bN o = true) (hc : E.σ b = some (c, 0))
    (hown':bN o'=true) (ho:objOk p E b o' w'.heap) (hh:∀ i,i ≠ c→w'.heap[i]?=w.heap[i]?) (hos:w'.os=w.os) (ht:w'.tape=w.tape) (hout:w'.output=w.output)
    (hsz:w.heap.size≤w'.heap.size):HeapOk p E (h.put b o') w0 w':=by
  have hcb:=k.base b o c 0 hg hown hc
  refine ⟨fun j x e=>?_,fun j j' o1 o2 d x y h1 h2 w1 w2 e1 e2=>?_,fun j x d y e ow s=>?_,fun j x d y hj hr s=>?_,k.fresh,fun j x d y e s=>?_,k.glob,?_,k.nx,k.ok⟩
  · rw [Heap.get_put] at e
    by_cases hj:j=b
    · rw [if_pos hj] at e; cases e; subst hj; exact ho
    · rw [if_neg hj] at e
      refine (k.obj j x e).mono (Env.le.refl E) (fun hn=>hn) (fun d y hd hx=>hh d ?_)
      rintro rfl
      rcases hx with hx | hx
      · exact hj (k.inj j b x o d y 0 e hg hx hown hd hc)
      · exact absurd (k.ro j x d y e hx hd) hcb
  · rw [Heap.get_put] at h1 h2
    have f:∀ i z,(if i=b then some o' else h.get i)=some z→bN z=true→∃ z',h.get i=some z'∧bN z'=true:=fun i z e wz=>by
      by_cases hi:i=b
      · subst hi; exact ⟨o,hg,hown⟩
      · rw [if_neg hi] at e; exact ⟨z,e,wz⟩
    obtain ⟨z1,g1,v1⟩:=f j o1 h1 w1
    obtain ⟨z2,g2,v2⟩:=f j' o2 h2 w2
    exact k.inj j j' z1 z2 d x y g1 g2 v1 v2 e1 e2
  · rw [Heap.get_put] at e
    by_cases hj:j=b
    · subst hj; exact k.base j o d y hg hown s
    · rw [if_neg hj] at e; exact k.base j x d y e ow s
  · rw [Heap.get_put] at hj
    by_cases hjb:j=b
    · rw [if_pos hjb] at hj; cases hj; exact absurd hr (by rw [gk hown']; exact Bool.false_ne_true)
    · rw [if_neg hjb] at hj; exact k.ro j x d y hj hr s
  · rw [Heap.get_put] at e
    by_cases hj:j=b
    · subst hj; exact Nat.lt_of_lt_of_le (k.lt j o d y hg s) hsz
    · rw [if_neg hj] at e; exact Nat.lt_of_lt_of_le (k.lt j x d y e s) hsz
  · refine k.below.trans ⟨hos,ht,hout,hsz,fun i hi=>hh i (by rintro rfl; exact hcb hi)⟩
theorem HeapOk.kill {p:Par} {E:Env} {h:Heap} {w0:Base} {w:World} (k:HeapOk p E h w0 w) {b:Nat} {o:AObj} (hg:h.get b=some o):HeapOk p E (h.put b .dead) w0 w:=by
  have f:∀ i z,(h.put b .dead).get i=some z→(i=b∧z=.dead) ∨ (i ≠ b∧h.get i=some z):=fun i z e=>by
    rw [Heap.get_put] at e
    by_cases hi:i=b
    · rw [if_pos hi] at e; cases e; exact .inl ⟨hi,rfl⟩
    · rw [if_neg hi] at e; exact .inr ⟨hi,e⟩
  refine ⟨fun j x e=>?_,fun j j' o1 o2 d x y h1 h2 w1 w2 e1 e2=>?_,fun j x d y e ow s=>?_,fun j x d y hj hr s=>?_,k.fresh,fun j x d y e s=>?_,k.glob,k.below,k.nx,k.ok⟩
  · rcases f j x e with ⟨_,rfl⟩ | ⟨_,e⟩
    · trivial
    · exact k.obj j x e
  · rcases f j o1 h1 with ⟨_,rfl⟩ | ⟨_,g1⟩
    · cases w1
    · rcases f j' o2 h2 with ⟨_,rfl⟩ | ⟨_,g2⟩
      · cases w2
      · exact k.inj j j' o1 o2 d x y g1 g2 w1 w2 e1 e2
  · rcases f j x e with ⟨_,rfl⟩ | ⟨_,e⟩
    · cases ow
    · exact k.base j x d y e ow s
  · rcases f j _ hj with ⟨_,rfl⟩ | ⟨_,g⟩
    · cases hr
    · exact k.ro j x d y g hr s
  · rcases f j x e with ⟨rfl,_⟩ | ⟨_,e⟩
    · exact k.lt j o d y hg s
    · exact k.lt j x d y e s
end Go.Sx
namespace Go.Sx
open Go.RowKit
structure ct (P:Program) (ty:Nat→Option TI):Prop where
  und:∀ t i,ty t=some i→P.underlying t=some i.desc
  info:∀ t i,ty t=some i→∃ j,P.info? t=some j∧j.size=i.size∧j.bytes=i.bytes∧∀ z,i.zero=some z→∃ v,j.zero=some v∧ofV v=some z
  eqOk:∀ t i,ty t=some i→i.eqOk=true→P.stoodInHeld t=false∧P.eqGuardType P.depth t=false
mutual
theorem conc_ofV (E:Env):∀ (v:Value) (a:AV),ofV v=some a→af E a=some v
  | .bool b,a,h=>by simp only [ofV,Option.some.injEq] at h; subst h; rfl
  | .int k n,a,h=>by simp only [ofV,Option.some.injEq] at h; subst h; rfl
  | .pointer none,a,h=>by simp only [ofV,Option.some.injEq] at h; subst h; rfl
  | .pointer (some _),a,h=>by simp [ofV] at h
  | .slice none 0 0,a,h=>by simp only [ofV,Option.some.injEq] at h; subst h; rfl
  | .slice none (_ + 1) _,a,h=>by simp [ofV] at h
  | .slice none 0 (_ + 1),a,h=>by simp [ofV] at h
  | .slice (some _) _ _,a,h=>by simp [ofV] at h
  | .map none,a,h=>by simp only [ofV,Option.some.injEq] at h; subst h; rfl
  | .map (some _),a,h=>by simp [ofV] at h
  | .nilFunc,a,h=>by simp only [ofV,Option.some.injEq] at h; subst h; rfl
  | .agg ⟨cs⟩,a,h=>by
    simp only [ofV,Option.map_eq_some_iff] at h
    obtain ⟨l,hl,rfl⟩:=h
    simp only [af,concL_ofVs E cs l hl,Option.map_some]
  | .float ..,a,h=>by simp [ofV] at h
  | .complex ..,a,h=>by simp [ofV] at h
  | .string ..,a,h=>by simp [ofV] at h
  | .chan ..,a,h=>by simp [ofV] at h
  | .func ..,a,h=>by simp [ofV] at h
  | .iface ..,a,h=>by simp [ofV] at h
  | .nilIface,a,h=>by simp [ofV] at h
  | .tuple ..,a,h=>by simp [ofV] at h
theorem concL_ofVs (E:Env):∀ (l:List Value) (as:List AV),ofVs l=some as→ad E as=some l
  | [],as,h=>by simp only [ofVs,Option.some.injEq] at h; subst h; rfl
  | v :: vs,as,h=>by
    simp only [ofVs] at h
    cases hv:ofV v with
    | none=>rw [hv] at h; cases h
    | some a =>
      cases hl:ofVs vs with
      | none=>rw [hv,hl] at h; cases h
      | some l=>rw [hv,hl] at h; cases h; exact ap.2 ⟨v,vs,conc_ofV E v a hv,concL_ofVs E vs l hl,rfl⟩
end
theorem ia {P:Program} {ty:Nat→Option TI} (T:ct P ty) {t:Nat} {i:TI} (h:ty t=some i) (w:World):(isAgg t).run P w=.ok i.isAgg w:=by
  have hu:=T.und t i h
  unfold isAgg
  simp only [Sem.run_bind,run_underlying hu,Result.andThen_ok]
  unfold TI.isAgg
  cases i.desc <;> rfl
theorem bq {P:Program} {ty:Nat→Option TI} (T:ct P ty) {t:Nat} {i:TI} (h:ty t=some i) (w:World):(sizeOf t).run P w=.ok i.size w:=by
  obtain ⟨j,h1,h2,_,_⟩:=T.info t i h
  unfold sizeOf
  simp only [Sem.run_bind,run_typeInfo w h1,Result.andThen_ok,h2]
  rfl
theorem run_zero {P : Program} {ty : Nat → Option TI} (T : ct P ty) {t : Nat} {i : TI} (h : ty t = some i) {z : AV} (hz : i.zero = some z) (E : Env) (w : World) :
    ∃ v,af E z=some v∧(zeroValue t).run P w=.ok v w:=by
  obtain ⟨j,h1,_,_,h4⟩:=T.info t i h
  obtain ⟨v,hv,ho⟩:=h4 z hz
  refine ⟨v,conc_ofV E v z ho,?_⟩
  unfold zeroValue
  simp only [Sem.run_bind,run_typeInfo w h1,Result.andThen_ok,hv]
  rfl
theorem eval_tmp (a:Act) (t:Nat):a.eval (.tmp t)=a.tmps.getD t undef:=rfl
theorem bJ {n : Nat} {keep : List Nat} {E : Env} {tm : Tm} {a : Act} (H : TmOk n keep E tm a.tmps) {x : Operand} {y : Opd} (hx : bk x = some y) {v : Value} (hv : af E (ev tm y) = some v)
    (G:∀ b,b < 1000→E.σ b=some (b,0)):a.eval x=v:=by
  cases x with
  | tmp t =>
    simp only [bk,Option.some.injEq] at hx
    subst hx
    simp only [ev] at hv
    cases hl:tm.look t with
    | none=>rw [hl] at hv; simp [af] at hv
    | some b =>
      rw [hl] at hv
      obtain ⟨u,h1,h2⟩:=H.look hl
      rw [h1] at hv; cases hv
      rw [eval_tmp,Array.getD_eq_getD_getElem?,h2]; rfl
  | const c =>
    simp only [bk,Option.map_eq_some_iff] at hx
    obtain ⟨b,hb,rfl⟩:=hx
    simp only [ev] at hv
    rw [conc_ofV E c b hb] at hv; cases hv; rfl
  | global g =>
    simp only [bk] at hx
    cases hg:Nat.ble (Nat.succ g) 1000 with
    | false=>rw [hg] at hx; cases hx
    | true =>
      rw [hg,cond_true,Option.some.injEq] at hx
      subst hx
      simp only [ev,af,G g (by have:=aD.1 hg; omega),Option.map_some,Option.some.injEq] at hv
      subst hv; rfl
  | func f =>
    simp only [bk,Option.some.injEq] at hx
    subst hx
    simp only [ev,af,ad,Option.some.injEq] at hv
    subst hv; rfl
theorem ax {n : Nat} {keep : List Nat} {E : Env} {tm : Tm} {a : Act} (H : TmOk n keep E tm a.tmps) {x : Operand} {y : Opd} (hx : bk x = some y) (hb : aT (ev tm y) = true)
    (G:∀ b,b < 1000→E.σ b=some (b,0)):af E (ev tm y)=some (a.eval x):=by
  have key:∃ v,af E (ev tm y)=some v:=by
    cases x with
    | tmp t =>
      simp only [bk,Option.some.injEq] at hx
      subst hx
      simp only [ev] at hb ⊢
      cases hl:tm.look t with
      | none=>rw [hl] at hb; cases hb
      | some b=>obtain ⟨u,h1,h2⟩:=H.look hl; exact ⟨u,h1⟩
    | const c =>
      simp only [bk,Option.map_eq_some_iff] at hx
      obtain ⟨b,hb',rfl⟩:=hx
      exact ⟨c,conc_ofV E c b hb'⟩
    | global g =>
      simp only [bk] at hx
      cases hg:Nat.ble (Nat.succ g) 1000 with
      | false=>rw [hg] at hx; cases hx
      | true =>
        rw [hg,cond_true,Option.some.injEq] at hx
        subst hx
        exact ⟨.pointer (some ⟨g,0 + 0,none⟩),by simp only [ev,af,G g (by have:=aD.1 hg; omega),Option.map_some]⟩
    | func f =>
      simp only [bk,Option.some.injEq] at hx
      subst hx
      exact ⟨_,rfl⟩
  obtain ⟨v,hv⟩:=key
  rw [hv,bJ H hx hv G]
def Does (P:Program) (R:Result Next) (K:Value→World→Prop):Prop :=
  match R with
  | .ok (.value v) w=>K v w
  | .ok .skip w=>K undef w
  | .ok (.enter f args) w=>Calls P f args w fun e w'=>∃ v,e=.returned v∧K v w'
  | .ok (.round l f tmps assign body) w=>RoundIn Fence.wide 0 P l f tmps assign body w fun e w'=>∃ v,e=.returned v∧K v w'
  | _=>False
def ej (rd:Option Nat):Fence :=
  match rd with
  | none=>Fence.wide
  | some l=>Fence.wide.inRound l
theorem fence_fn (rd:Option Nat) (f:FuncId):(ej rd).fn f:=by cases rd <;> trivial
theorem fence_depth (rd:Option Nat):(ej rd).depth=none:=by cases rd <;> rfl
theorem Does.upon {P : Program} {R : Result Next} {o : Oper} {a : Act} {next : Act → World → Prop} {Q : Exit → Act → World → Prop} {rd : Option Nat}
    (h:Does P R fun v w=>next (a.put o.dst v) w):o.uponIn (ej rd) 0 P a next Q R:=by
  unfold Does at h
  cases R with
  | halt x w=>cases x <;> exact h.elim
  | ok x w =>
    cases x with
    | value v=>exact h
    | skip=>exact h
    | enter f args =>
      refine ⟨fun hd=>(by rw [fence_depth] at hd; cases hd),?_⟩
      have:CallsIn (ej rd) 0 P f args w fun e w'=>∃ v,e=.returned v∧next (a.put o.dst v) w':=by
        cases rd with
        | none=>exact callsIn_wide.2 h
        | some l=>exact CallsIn.inRound l (callsIn_wide.2 h)
      exact this.mono fun e w' ⟨v,he,hk⟩=>by subst he; exact hk
    | round l f tmps assign body =>
      refine ⟨fun hd=>(by rw [fence_depth] at hd; cases hd),?_⟩
      have:RoundIn (ej rd) 0 P l f tmps assign body w fun e w'=>∃ v,e=.returned v∧next (a.put o.dst v) w':=by
        cases rd with
        | none=>exact h
        | some l'=>exact h
      exact this.mono fun e w' ⟨v,he,hk⟩=>by subst he; exact hk
    | _=>exact h.elim
def Post (p:Par) (E:Env) (w0:Base) (Q:AV × Heap→Prop) (K:Value→World→Prop):Prop :=
  ∀ v h' E' w' cv,Q (v,h')→E.le E'→HeapOk p E' h' w0 w'→af E' v=some cv→K cv w'
structure CxOk (p:Par) (cx:Cx):Prop where
  call:∀ f args h vs E w0 w Q K,(cx.call f args h).Holds E.ρ Q→HeapOk p E h w0 w→ad E args=some vs→Post p E w0 Q K →
    (callFunc f vs.toArray).run p.P w=.ok (.enter f vs.toArray) w∧Calls p.P f vs.toArray w fun e w'=>∃ v,e=.returned v∧K v w'
  yield:∀ l args h vs E w0 w Q K q,(cx.yield l args h).Holds E.ρ Q→HeapOk p E h w0 w→ad E args=some vs→E.σ l=some q→Post p E w0 Q K →
    Does p.P ((Instr.yield q.1 vs.toArray).run p.P w) K
def bC (p:Par) (f:Ins) (o:Oper):Prop :=
  ∀ cx n keep E w0 tm h (a:Act) w Q K,CxOk p cx→TmOk n keep E tm a.tmps→HeapOk p E h w0 w→(f cx tm h).Holds E.ρ Q→Post p E w0 Q K →
    Does p.P ((execOp a.eval o).run p.P w) K
theorem ai {P : Program} {s : Sem Value} {w w' : World} {v : Value} {K : Value → World → Prop} (h : s.run P w = .ok v w') (k : K v w') :
    Does P ((do let x ← s; pure (Next.value x):Sem Next).run P w) K:=by
  simp only [Sem.run_bind,h,Result.andThen_ok]; exact k
theorem does_unit {P : Program} {s : Sem Unit} {w w' : World} {K : Value → World → Prop} (h : s.run P w = .ok () w') (k : K undef w') :
    Does P ((do s; pure Next.skip:Sem Next).run P w) K:=by
  simp only [Sem.run_bind,h,Result.andThen_ok]; exact k
theorem Post.same {p : Par} {E : Env} {w0 : Base} {w : World} {Q : AV × Heap → Prop} {K : Value → World → Prop} {h : Heap} {a : AV} {v : Value} (P : Post p E w0 Q K) (H : HeapOk p E h w0 w)
    (q:Q (a,h)) (hv:af E a=some v):K v w:=P a h E w v q (Env.le.refl E) H hv
theorem rMov_holds {ρ:Rho} {h:Heap} {v:AV} {Q:AV × Heap→Prop} (k:(rMov h v).Holds ρ Q):aT v=true∧Q (v,h):=by
  unfold rMov at k
  cases hb:aT v with
  | false=>rw [hb] at k; exact k.elim
  | true=>rw [hb] at k; exact ⟨rfl,k⟩
theorem aX {x:Operand} {k:Opd→Option Ins} {f:Ins} (h:with1 x k=some f):∃ y,bk x=some y∧k y=some f:=by
  unfold with1 at h
  cases hx:bk x with
  | none=>rw [hx] at h; cases h
  | some y=>rw [hx] at h; exact ⟨y,rfl,h⟩
theorem bU {x x':Operand} {k:Opd→Opd→Option Ins} {f:Ins} (h:with2 x x' k=some f):∃ y y',bk x=some y∧bk x'=some y'∧k y y'=some f:=by
  unfold with2 at h
  cases hx:bk x with
  | none=>rw [hx] at h; cases h
  | some y =>
    cases hx':bk x' with
    | none=>rw [hx,hx'] at h; cases h
    | some y'=>rw [hx,hx'] at h; exact ⟨y,y',rfl,rfl,h⟩
theorem fQ {x x' x'' : Operand} {k : Opd → Opd → Opd → Option Ins} {f : Ins} (h : with3 x x' x'' k = some f) :
    ∃ y y' y'',bk x=some y∧bk x'=some y'∧bk x''=some y''∧k y y' y''=some f:=by
  unfold with3 at h
  cases hx:bk x with
  | none=>rw [hx] at h; cases h
  | some y =>
    cases hx':bk x' with
    | none=>rw [hx,hx'] at h; cases h
    | some y' =>
      cases hx'':bk x'' with
      | none=>rw [hx,hx',hx''] at h; cases h
      | some y''=>rw [hx,hx',hx''] at h; exact ⟨y,y',y'',rfl,rfl,rfl,h⟩
theorem mov_ok {p:Par} {x:Operand} {y:Opd} (hx:bk x=some y) {o:Oper} (ho:o.op=.move x ∨ o.op=.assign x):bC p (ab y) o:=by
  intro cx n keep E w0 tm h a w Q K _ HT HH k P
  obtain ⟨hb,q⟩:=rMov_holds k
  have hv:=ax HT hx hb HH.glob
  have:execOp a.eval o=pure (.value (a.eval x)):=by unfold execOp; rcases ho with ho | ho <;> rw [ho]
  rw [this]
  exact P.same HH q hv
theorem pick_ok {p:Par} {x x1 x2:Operand} {y y1 y2:Opd} (hx:bk x=some y) (h1:bk x1=some y1) (h2:bk x2=some y2) {o:Oper} (ho:o.op=.pick x x1 x2):bC p (aR y y1 y2) o:=by
  intro cx n keep E w0 tm h a w Q K _ HT HH k P
  simp only [aR,rPick] at k
  cases hc:ev tm y with
  | bool c =>
    rw [hc] at k
    simp only [T.holds_ite] at k
    have hv:a.eval x=.bool (c.den E.ρ):=bJ HT hx (v:=.bool (c.den E.ρ)) (by rw [hc]; rfl) HH.glob
    have:(execOp a.eval o).run p.P w=.ok (.value (if c.den E.ρ then a.eval x1 else a.eval x2)) w:=by
      unfold execOp; rw [ho]
      simp only [hv,Sem.run_bind]
      cases c.den E.ρ <;> rfl
    rw [this]
    cases hd:c.den E.ρ with
    | true =>
      rw [hd] at k
      obtain ⟨hb,q⟩:=rMov_holds k
      exact P.same HH q (ax HT h1 hb HH.glob)
    | false =>
      rw [hd] at k
      obtain ⟨hb,q⟩:=rMov_holds k
      exact P.same HH q (ax HT h2 hb HH.glob)
  | _=>rw [hc] at k; exact k.elim
theorem cU {E:Env} {a:AV} {v:Value} (h:af E a=some v) (ok:dc a.cellsOf=true):ad E a.cellsOf=some v.cells.toList:=by
  cases a with
  | agg cs =>
    simp only [af,Option.map_eq_some_iff] at h
    obtain ⟨l,hl,rfl⟩:=h
    simpa [AV.cellsOf,Value.cells] using hl
  | bool b=>simp only [af,Option.some.injEq] at h; subst h; exact ap.2 ⟨_,[],rfl,rfl,rfl⟩
  | int k e=>simp only [af,Option.some.injEq] at h; subst h; exact ap.2 ⟨_,[],rfl,rfl,rfl⟩
  | nilptr=>simp only [af,Option.some.injEq] at h; subst h; exact ap.2 ⟨_,[],rfl,rfl,rfl⟩
  | nilslice=>simp only [af,Option.some.injEq] at h; subst h; exact ap.2 ⟨_,[],rfl,rfl,rfl⟩
  | nilmap=>simp only [af,Option.some.injEq] at h; subst h; exact ap.2 ⟨_,[],rfl,rfl,rfl⟩
  | nilFunc=>simp only [af,Option.some.injEq] at h; subst h; exact ap.2 ⟨_,[],rfl,rfl,rfl⟩
  | ptr b off=>have h':=h; simp only [af,Option.map_eq_some_iff] at h'; obtain ⟨q,_,rfl⟩:=h'; exact ap.2 ⟨_,[],h,rfl,rfl⟩
  | slice b off len cap=>have h':=h; simp only [af,Option.map_eq_some_iff] at h'; obtain ⟨q,_,rfl⟩:=h'; exact ap.2 ⟨_,[],h,rfl,rfl⟩
  | sliceX b s lo len=>obtain ⟨q,_,_,rfl⟩:=bt h; exact ap.2 ⟨_,[],h,rfl,rfl⟩
  | sliceU i=>obtain ⟨_,_,_,rfl,_⟩:=eJ h; exact ap.2 ⟨_,[],h,rfl,rfl⟩
  | sliceV b i=>obtain ⟨_,_,_,rfl⟩:=gc h; exact ap.2 ⟨_,[],h,rfl,rfl⟩
  | ptrV b i s o e=>obtain ⟨_,_,_,_,rfl⟩:=dR h; exact ap.2 ⟨_,[],h,rfl,rfl⟩
  | map b=>have h':=h; simp only [af,Option.map_eq_some_iff] at h'; obtain ⟨q,_,rfl⟩:=h'; exact ap.2 ⟨_,[],h,rfl,rfl⟩
  | yieldF b=>have h':=h; simp only [af,Option.map_eq_some_iff] at h'; obtain ⟨q,_,rfl⟩:=h'; exact ap.2 ⟨_,[],h,rfl,rfl⟩
  | func fn x y =>
    have h':=h
    simp only [af] at h'
    have:∃ f a b,v=.func f a b:=by
      cases hx:ad E x with
      | none=>rw [hx] at h'; cases fn <;> simp at h'
      | some l =>
        cases hy:ad E y with
        | none=>rw [hx,hy] at h'; cases fn <;> simp at h'
        | some m=>rw [hx,hy] at h'; cases fn <;> simp at h' <;> exact ⟨_,_,_,h'.symm⟩
    obtain ⟨f,l,m,rfl⟩:=this
    exact ap.2 ⟨_,[],h,rfl,rfl⟩
  | tup cs =>
    have h':=h
    simp only [af,Option.map_eq_some_iff] at h'; obtain ⟨q,_,rfl⟩:=h'; exact ap.2 ⟨_,[],h,rfl,rfl⟩
  | opq i=>simp [dc,ga,AV.cellsOf,okCell] at ok
  | bad=>simp [af] at h
theorem okCell_one {E:Env} {a:AV} {v:Value} (h:af E a=some v) (ok:okCell a=true):v.oneCell'=true:=by
  cases a with
  | agg cs=>cases ok
  | tup cs=>cases ok
  | opq i=>cases ok
  | bad=>cases ok
  | bool b=>simp only [af,Option.some.injEq] at h; subst h; rfl
  | int k e=>simp only [af,Option.some.injEq] at h; subst h; rfl
  | nilptr=>simp only [af,Option.some.injEq] at h; subst h; rfl
  | nilslice=>simp only [af,Option.some.injEq] at h; subst h; rfl
  | nilmap=>simp only [af,Option.some.injEq] at h; subst h; rfl
  | nilFunc=>simp only [af,Option.some.injEq] at h; subst h; rfl
  | ptr b off=>simp only [af,Option.map_eq_some_iff] at h; obtain ⟨q,_,rfl⟩:=h; rfl
  | slice b off len cap=>simp only [af,Option.map_eq_some_iff] at h; obtain ⟨q,_,rfl⟩:=h; rfl
  | sliceX b s lo len=>obtain ⟨q,_,_,rfl⟩:=bt h; rfl
  | sliceU i=>obtain ⟨_,_,_,rfl,_⟩:=eJ h; rfl
  | sliceV b i=>obtain ⟨_,_,_,rfl⟩:=gc h; rfl
  | ptrV b i s o e=>obtain ⟨_,_,_,_,rfl⟩:=dR h; rfl
  | map b=>simp only [af,Option.map_eq_some_iff] at h; obtain ⟨q,_,rfl⟩:=h; rfl
  | yieldF b=>simp only [af,Option.map_eq_some_iff] at h; obtain ⟨q,_,rfl⟩:=h; rfl
  | func fn x y =>
    simp only [af] at h
    cases hx:ad E x with
    | none=>rw [hx] at h; cases fn <;> simp at h
    | some l =>
      cases hy:ad E y with
      | none=>rw [hx,hy] at h; cases fn <;> simp at h
      | some m=>rw [hx,hy] at h; cases fn <;> simp at h <;> subst h <;> rfl
theorem allOk_cons {a:AV} {l:List AV}:dc (a :: l)=(okCell a && dc l):=by simp [dc,ga]
theorem allOk_one {E:Env}:∀ {l:List AV} {vs:List Value},ad E l=some vs→dc l=true→∀ v ∈ vs,v.oneCell'=true
  | [],vs,h,_=>by simp only [ad,Option.some.injEq] at h; subst h; simp
  | a :: l,vs,h,ok=>by
    obtain ⟨v,r,hv,hr,rfl⟩:=ap.1 h
    rw [allOk_cons,Bool.and_eq_true] at ok
    intro u hu
    rcases List.mem_cons.1 hu with rfl | hu
    · exact okCell_one hv ok.1
    · exact allOk_one hr ok.2 u hu
theorem cells_bad {a:AV} (ok:dc a.cellsOf=true):aT a=true:=by
  cases a <;> first | rfl | (simp [dc,ga,AV.cellsOf,okCell] at ok)
theorem HeapOk.newCells {p : Par} {E : Env} {h : Heap} {w0 : Base} {w : World} (H : HeapOk p E h w0 w) {cs : List AV} {vs : List Value} (hv : ad E cs = some vs) (t : TypeId) (κ : Nat) :
    HeapOk p (E.with h.next (w.heap.size,0) κ) (h.new (.cells cs t true false)) w0 (w.alloc (.cells vs.toArray t)):=by
  have hle:=Env.with_le (H.fresh _ (Nat.le_refl _)) H.nx (w.heap.size,0) κ
  refine H.alloc rfl ⟨w.heap.size,0,vs,vs.toArray,t,(0,0),Env.with_at _ _ _ _,a9 hle _ _ hv,by simp,fun i _=>by simp,fun _=>⟨rfl,rfl,fun _=>by simp,fun e=>by cases e⟩⟩
theorem ptr_new {E:Env} {n c κ:Nat}:af (E.with n (c,0) κ) (.ptr n 0)=some (.pointer (some ⟨c,0,none⟩)):=by
  simp [af,Env.with_at]
theorem gr {i:TI} {z:List AV} (h:du i=some z):∃ v,i.zero=some v∧z=v.cellsOf∧dc v.cellsOf=true∧v.cellsOf.length=i.size:=by
  unfold du at h
  cases hz:i.zero with
  | none=>rw [hz] at h; cases h
  | some v =>
    rw [hz] at h
    simp only at h
    cases hb:and (dc v.cellsOf) (Nat.beq (lLen v.cellsOf) i.size) with
    | false=>rw [hb] at h; cases h
    | true =>
      rw [hb] at h
      have hb':=Bool.and_eq_true_iff.1 hb
      rw [cM] at hb'
      exact ⟨v,rfl,(Option.some.inj h).symm,hb'.1,aq.1 hb'.2⟩
theorem rNew_holds {ρ:Rho} {h:Heap} {t:Nat} {cs:List AV} {Q:AV × Heap→Prop} (k:(rNew h t cs).Holds ρ Q):dc cs=true∧Q (.ptr h.next 0,h.new (.cells cs t true false)):=by
  unfold rNew at k
  cases hb:dc cs with
  | false=>rw [hb] at k; exact k.elim
  | true=>rw [hb] at k; exact ⟨rfl,k⟩
theorem alloc_ok {p:Par} {ty:Nat→Option TI} (T:ct p.P ty) {t:Nat} {i:TI} {z:List AV} (ht:ty t=some i) (hz:du i=some z) {o:Oper} (ho:o.op=.alloc t):bC p (ay t z) o:=by
  intro cx n keep E w0 tm h a w Q K _ HT HH k P
  obtain ⟨hb,q⟩:=rNew_holds k
  obtain ⟨v,hv0,rfl,hok,_⟩:=gr hz
  obtain ⟨u,hu,hrun⟩:=run_zero T ht hv0 E w
  have hcs:=cU hu hok
  have hex:execOp a.eval o=(do let x ← Instr.alloc t true (.tuple #[]); pure (Next.value x)):=by unfold execOp; rw [ho]
  rw [hex]
  refine ai (v:=.pointer (some ⟨w.heap.size,0,none⟩)) (w':=w.alloc (.cells u.cells t)) ?_ ?_
  · unfold Instr.alloc
    simp only [Sem.run_bind,hrun,Result.andThen_ok]
    rfl
  · have:=HH.newCells (p:=p) hcs t 0
    rw [show (u.cells.toList).toArray=u.cells from by simp] at this
    exact P _ _ _ _ _ q (Env.with_le (HH.fresh _ (Nat.le_refl _)) HH.nx _ _) this ptr_new
theorem box_ok {p:Par} {t:Nat} {x:Operand} {y:Opd} (hx:bk x=some y) {o:Oper} (ho:o.op=.box t x):bC p (cT t y) o:=by
  intro cx n keep E w0 tm h a w Q K _ HT HH k P
  obtain ⟨hok,q⟩:=rNew_holds k
  have hu:=ax HT hx (cells_bad hok) HH.glob
  have hcs:=cU hu hok
  have hex:execOp a.eval o=(do let x ← Instr.box t (a.eval x); pure (Next.value x)):=by unfold execOp; rw [ho]
  rw [hex]
  refine ai (v:=.pointer (some ⟨w.heap.size,0,none⟩)) (w':=w.alloc (.cells (a.eval x).cells t)) rfl ?_
  have:=HH.newCells (p:=p) hcs t 0
  rw [show ((a.eval x).cells.toList).toArray=(a.eval x).cells from by simp] at this
  exact P _ _ _ _ _ q (Env.with_le (HH.fresh _ (Nat.le_refl _)) HH.nx _ _) this ptr_new
theorem HeapOk.cell {p : Par} {E : Env} {h : Heap} {w0 : Base} {w : World} (H : HeapOk p E h w0 w) {b off : Nat} {cs : List AV} {a : AV} (hc : h.cells b = some cs) (ha : cs[off]? = some a) {q : Nat × Nat} (hq : E.σ b = some q) :
    ∃ v,af E a=some v∧w.cell? ⟨q.1,q.2 + off,none⟩=some v:=by
  unfold Heap.cells at hc
  cases hg:h.get b with
  | none=>rw [hg] at hc; cases hc
  | some o =>
    rw [hg] at hc
    cases o with
    | cells l e own ext =>
      cases hc
      obtain ⟨c,base,vs,cells,el,fz,h1,h2,h3,h4,_⟩:=H.obj b _ hg
      rw [hq] at h1; cases h1
      obtain ⟨v,hv,hi⟩:=c9 h2 ha
      refine ⟨v,hv,?_⟩
      have hlt:off < vs.length:=(List.getElem?_eq_some_iff.1 hi).1
      simp only [World.cell?,h3,Option.isSome_none,Bool.false_eq_true,if_false]
      rw [h4 off hlt,hi]
    | _=>cases hc
theorem cJ {E:Env} {b off:Nat} {v:Value} (h:af E (.ptr b off)=some v):∃ q,E.σ b=some q∧v=.pointer (some ⟨q.1,q.2 + off,none⟩):=by
  simp only [af,Option.map_eq_some_iff] at h
  obtain ⟨q,h1,h2⟩:=h
  exact ⟨q,h1,h2.symm⟩
theorem eo {P : Program} {ty : Nat → Option TI} (T : ct P ty) {t : Nat} {i : TI} (ht : ty t = some i) (hagg : i.isAgg = false) {c : Addr} {v : Value} {w : World} (hc : w.cell? c = some v) :
    (Instr.loadAt t (.pointer (some c))).run P w=.ok v w:=by
  unfold Instr.loadAt Instr.sureAddr loadVar
  simp only [Sem.run_bind,pure,Sem.run,Result.andThen_ok,ia T ht,hagg,Bool.false_eq_true,if_false]
  simp [load,Sem.run,hc]
theorem cellU_conc {E:Env} {i off:Nat} {e:IE} {n:Nat} (hn:e.den E.ρ=(n:Int)) (k:Bool):af E (cellU i off e k)=some (cellOf E.ρ i n off k):=by
  unfold cellU cellOf
  have h1:1000≤Nat.add 1000 i:=Nat.le_add_right _ _
  cases k with
  | false=>simp only [cond,af,IE.den,FI,if_pos h1,hn]; rfl
  | true=>simp only [cond,af,BE.den,IE.den,FB,if_pos h1,hn]; rfl
theorem HeapOk.ucell {p : Par} {E : Env} {h : Heap} {w0 : Base} {w : World} (H : HeapOk p E h w0 w) {b i n off : Nat} {ks : List Bool} {k : Bool} (hc : h.get b = some (.ucells i ks)) (hn : (n : Int) < E.ρ.iv i)
    (hk:ks[off]?=some k) {q:Nat × Nat} (hq:E.σ b=some q):w.cell? ⟨q.1,q.2 + n * ks.length + off,none⟩=some (cellOf E.ρ i n off k):=by
  obtain ⟨c,base,cells,el,fz,h1,h3,h4⟩:=H.obj b _ hc
  rw [hq] at h1; cases h1
  simp only [World.cell?,h3,Option.isSome_none,Bool.false_eq_true,if_false]
  exact h4 n off k hn hk
theorem cellsU_conc {E : Env} {i : Nat} {e : IE} {n : Nat} (hn : e.den E.ρ = (n : Int)) : ∀ (ks : List Bool) (off : Nat),
    ∃ vs,ad E (cellsU i e ks off)=some vs∧vs.length=ks.length∧∀ j k,ks[j]?=some k→vs[j]?=some (cellOf E.ρ i n (off + j) k)
  | [],off=>⟨[],rfl,rfl,fun j k hk=>by simp at hk⟩
  | k :: ks,off=>by
    obtain ⟨vs,h1,h2,h3⟩:=cellsU_conc (E:=E) (i:=i) hn ks (off + 1)
    refine ⟨cellOf E.ρ i n off k :: vs,by rw [show cellsU i e (k :: ks) off=cellU i off e k :: cellsU i e ks (off + 1) from rfl]; simp only [ad,cellU_conc hn,h1],by simp [h2],fun j k' hk=>?_⟩
    cases j with
    | zero=>cases hk; rfl
    | succ j=>rw [show off + (j + 1)=off + 1 + j by omega]; exact h3 j k' hk
theorem load_ok {p:Par} {ty:Nat→Option TI} (T:ct p.P ty) {t:Nat} {i:TI} (ht:ty t=some i) (hagg:i.isAgg=false) {x:Operand} {y:Opd} (hx:bk x=some y) {o:Oper} (ho:o.op=.load t x):bC p (au y) o:=by
  intro cx n keep E w0 tm h a w Q K _ HT HH k P
  obtain ⟨r,hr,q⟩:=aV k
  have hex:execOp a.eval o=(do let x ← Instr.loadAt t (a.eval x); pure (Next.value x)):=by unfold execOp; rw [ho]
  rw [hex]
  cases he:ev tm y with
  | ptr b off =>
    rw [he] at hr
    simp only [aload] at hr
    cases hcs:h.cells b with
    | none=>rw [hcs] at hr; cases hr
    | some cs =>
      rw [hcs] at hr
      simp only [bR] at hr
      have hn:=ax HT hx (by rw [he]; rfl) HH.glob
      rw [he] at hn
      obtain ⟨q',hq',hv'⟩:=cJ hn
      obtain ⟨v,hv,hcell⟩:=HH.cell hcs hr hq'
      rw [hv']
      exact ai (eo T ht hagg hcell) (P.same HH q hv)
  | ptrV b i' size off e =>
    rw [he] at hr
    simp only [aload] at hr
    split at hr
    · rename_i i2 ks hcs
      cases hb:(Nat.beq i' i2 && Nat.beq size (lLen ks)) with
      | false=>rw [hb] at hr; cases hr
      | true =>
        rw [hb] at hr
        simp only [cond] at hr
        simp only [Bool.and_eq_true] at hb
        obtain ⟨hb1,hb2⟩:=hb
        cases Nat.eq_of_beq_eq_true hb1
        have hsz:=Nat.eq_of_beq_eq_true hb2
        rw [cM] at hsz; subst hsz
        rw [bR] at hr
        cases hk:ks[off]? with
        | none=>rw [hk] at hr; cases hr
        | some k' =>
          rw [hk] at hr; cases hr
          have hn:=ax HT hx (by rw [he]; rfl) HH.glob
          rw [he] at hn
          obtain ⟨q',hq',hp,hl,hv'⟩:=dR hn
          have hnn:e.den E.ρ=((e.den E.ρ).toNat:Int):=(Int.toNat_of_nonneg hp).symm
          rw [hv']
          exact ai (eo T ht hagg (HH.ucell hcs (hnn ▸ hl) hk hq')) (P.same HH q (cellU_conc hnn k'))
    · cases hr
  | _=>rw [he] at hr; simp [aload] at hr
theorem HeapOk.cellsRange {p : Par} {E : Env} {h : Heap} {w0 : Base} {w : World} (H : HeapOk p E h w0 w) {b off n : Nat} {cs l : List AV} (hc : h.cells b = some cs) (hs : fp cs off n = some l) {q : Nat × Nat} (hq : E.σ b = some q) :
    ∃ vs,ad E l=some vs∧vs.length=n∧∀ j v,vs[j]?=some v→w.cell? ⟨q.1,q.2 + off + j,none⟩=some v:=by
  obtain ⟨hle,rfl⟩:=fC hs
  unfold Heap.cells at hc
  cases hg:h.get b with
  | none=>rw [hg] at hc; cases hc
  | some o =>
    rw [hg] at hc
    cases o with
    | cells l e own ext =>
      cases hc
      obtain ⟨c,base,vs,cells,el,fz,h1,h2,h3,h4,_⟩:=H.obj b _ hg
      rw [hq] at h1; cases h1
      have hlen:=bD h2
      refine ⟨(vs.drop off).take n,fD (fE h2 off) n,by simp; omega,fun j v hj=>?_⟩
      rw [List.getElem?_take] at hj
      split at hj
      · rename_i hjn
        rw [List.getElem?_drop] at hj
        simp only [World.cell?,h3,Option.isSome_none,Bool.false_eq_true,if_false]
        rw [Nat.add_assoc,h4 (off + j) (by omega),hj]
      · cases hj
    | _=>cases hc
theorem dk {P : Program} {w : World} {c : Nat} {o n : Nat} {vs : List Value} (hn : vs.length = n) (h : ∀ j v, vs[j]? = some v → w.cell? ⟨c, o + j, none⟩ = some v) :
    (loadCells ⟨c,o,none⟩ n).run P w=.ok vs.toArray w:=by
  subst hn
  refine run_loadCells_list (P:=P) (w:=w) ⟨c,o,none⟩ vs (fun j v hj=>?_)
  have:=h j v hj
  unfold Addr.add
  split
  · rename_i hj0; subst hj0; simpa using this
  · exact this
theorem ep {P : Program} {ty : Nat → Option TI} (T : ct P ty) {t : Nat} {i : TI} (ht : ty t = some i) (hagg : i.isAgg = true) {c o : Nat} {vs : List Value} {w : World} (hn : vs.length = i.size)
    (hc:∀ j v,vs[j]?=some v→w.cell? ⟨c,o + j,none⟩=some v):(Instr.loadAt t (.pointer (some ⟨c,o,none⟩))).run P w=.ok (.agg vs.toArray) w:=by
  unfold Instr.loadAt Instr.sureAddr loadVar
  simp only [Sem.run_bind,pure,Sem.run,Result.andThen_ok,ia T ht,hagg,if_true,bq T ht]
  rw [dk hn hc]
  rfl
theorem loadN_ok {p:Par} {ty:Nat→Option TI} (T:ct p.P ty) {t:Nat} {i:TI} (ht:ty t=some i) (hagg:i.isAgg=true) {x:Operand} {y:Opd} (hx:bk x=some y) {o:Oper} (ho:o.op=.load t x):bC p (ac i.size y) o:=by
  intro cx n keep E w0 tm h a w Q K _ HT HH k P
  obtain ⟨r,hr,q⟩:=aV k
  have hex:execOp a.eval o=(do let x ← Instr.loadAt t (a.eval x); pure (Next.value x)):=by unfold execOp; rw [ho]
  rw [hex]
  cases he:ev tm y with
  | ptr b off =>
    rw [he] at hr
    simp only [aloadN] at hr
    cases hcs:h.cells b with
    | none=>rw [hcs] at hr; cases hr
    | some cs =>
      rw [hcs] at hr
      simp only [Option.map_eq_some_iff] at hr
      obtain ⟨l,hl,rfl⟩:=hr
      have hn:=ax HT hx (by rw [he]; rfl) HH.glob
      rw [he] at hn
      obtain ⟨q',hq',hv'⟩:=cJ hn
      obtain ⟨vs,hvs,hlen,hcell⟩:=HH.cellsRange hcs hl hq'
      rw [hv']
      exact ai (ep T ht hagg hlen hcell) (P.same HH q (by simp [af,hvs]))
  | ptrV b i' size off e =>
    rw [he] at hr
    simp only [aloadN] at hr
    split at hr
    · rename_i i2 ks hcs
      cases hb:(Nat.beq i' i2 && Nat.beq size (lLen ks)) with
      | false=>rw [hb] at hr; cases hr
      | true =>
        rw [hb] at hr
        simp only [cond] at hr
        simp only [Bool.and_eq_true] at hb
        obtain ⟨hb1,hb2⟩:=hb
        cases Nat.eq_of_beq_eq_true hb1
        have hsz:=Nat.eq_of_beq_eq_true hb2
        rw [cM] at hsz; subst hsz
        cases hk:fp ks off i.size with
        | none=>rw [hk] at hr; cases hr
        | some l =>
          rw [hk] at hr; cases hr
          have hn:=ax HT hx (by rw [he]; rfl) HH.glob
          rw [he] at hn
          obtain ⟨q',hq',hp,hl,hv'⟩:=dR hn
          have hnn:e.den E.ρ=((e.den E.ρ).toNat:Int):=(Int.toNat_of_nonneg hp).symm
          obtain ⟨hle,rfl⟩:=fC hk
          obtain ⟨vs,hvs,hlen,hcell⟩:=cellsU_conc (E:=E) (i:=i') hnn ((ks.drop off).take i.size) off
          rw [hv']
          have hlen':vs.length=i.size:=by rw [hlen]; simp; omega
          refine ai (ep T ht hagg hlen' (fun j v hj=>?_)) (P.same HH q (by simp [af,hvs]))
          have hjl:j < i.size:=hlen' ▸ (List.getElem?_eq_some_iff.1 hj).1
          have hks:((ks.drop off).take i.size)[j]?=some (ks[off + j]'(by omega)):=by
            rw [List.getElem?_take,if_pos hjl,List.getElem?_drop]; exact List.getElem?_eq_getElem (by omega)
          have:=hcell j _ hks
          rw [hj] at this; cases this
          rw [show q'.2 + (e.den E.ρ).toNat * ks.length + off + j=q'.2 + (e.den E.ρ).toNat * ks.length + (off + j) by omega]
          exact HH.ucell hcs (hnn ▸ hl) (by rw [List.getElem?_eq_getElem (by omega)]) hq'
    · cases hr
  | _=>rw [he] at hr; simp [aloadN] at hr
end Go.Sx
namespace Go.Sx
open Go.RowKit
theorem HeapOk.storeCells {p : Par} {E : Env} {h : Heap} {w0 : Base} {w : World} (H : HeapOk p E h w0 w) {b off : Nat} {cs cs' as : List AV} {vs : List Value} {e : TypeId} {x : Bool}
    (hg:h.get b=some (.cells cs e true x)) (hv:ad E as=some vs) (ok:dc as=true) (hp:gh cs off as=some cs') {q:Nat × Nat} (hq:E.σ b=some q) :
    ∃ w',(storeCells ⟨q.1,q.2 + off,none⟩ vs).run p.P w=.ok () w'∧HeapOk p E (h.put b (.cells cs' e true x)) w0 w':=by
  obtain ⟨hle,rfl⟩:=listPut_eq hp
  obtain ⟨c,base,us,cells,el,fz,h1,h2,h3,h4,h5⟩:=H.obj b _ hg
  rw [hq] at h1; cases h1
  obtain ⟨rfl,rfl,h6,h7⟩:=h5 rfl
  have hlen:=bD h2
  have hal:=bD hv
  have hsize:us.length≤cells.size:=by
    by_cases hz:us.length=0
    · omega
    · have:=h4 (us.length - 1) (by omega)
      rw [List.getElem?_eq_getElem (by omega)] at this
      have:=(Array.getElem?_eq_some_iff.1 this).1
      omega
  simp only [Nat.zero_add]
  refine ⟨_,run_storeCells_at p.P c off el vs 0 cells w h3 (by omega) (allOk_one hv ok),?_⟩
  have hnew:=setRow_heap w c cells (cells.toList.take (off + 0) ++ vs ++ cells.toList.drop (off + 0 + vs.length)).toArray el (0,0) h3
  refine H.turn hg rfl hq rfl ⟨c,0,us.take off ++ (vs ++ us.drop (off + vs.length)),_,el,(0,0),hq,?_,hnew,?_,?_⟩ (fun i hi=>setRow_other w c i _ hi) rfl rfl rfl (by simp)
  · rw [hal]; exact ce (fD h2 off) (ce hv (fE h2 _))
  · intro i hi
    have hi':i < us.length:=by simp at hi; omega
    simp only [Nat.zero_add,Nat.add_zero,List.getElem?_toArray]
    have h4':∀ j,j < us.length→cells.toList[j]?=us[j]?:=fun j hj=>by have:=h4 j hj; simpa using this
    by_cases c1:i < off
    · rw [List.append_assoc,List.getElem?_append_left (by simp; omega),List.getElem?_append_left (by simp; omega),List.getElem?_take,List.getElem?_take,if_pos c1,if_pos c1,h4' i hi']
    · have lt1:(cells.toList.take off).length=off:=by simp; omega
      have lt2:(us.take off).length=off:=by simp; omega
      rw [List.append_assoc,List.getElem?_append_right (l₁:=cells.toList.take off) (by omega),lt1,List.getElem?_append_right (l₁:=us.take off) (by omega),lt2]
      by_cases c2:i - off < vs.length
      · rw [List.getElem?_append_left c2,List.getElem?_append_left c2]
      · rw [List.getElem?_append_right (l₁:=vs) (l₂:=cells.toList.drop _) (by omega),List.getElem?_append_right (l₁:=vs) (l₂:=us.drop _) (by omega),List.getElem?_drop,List.getElem?_drop]
        have:off + vs.length + (i - off - vs.length)=i:=by omega
        rw [this,h4' i hi']
  · intro _
    refine ⟨rfl,rfl,fun hx=>?_,fun hx=>?_⟩
    · have:=h6 hx
      simp; omega
    · obtain ⟨j,hj,hk⟩:=h7 hx
      refine ⟨j,hj,?_⟩
      simp; omega
theorem ib {n : Nat} {h h' : Heap} {b off : Nat} {vs : List AV} (k : astoreC n h b off vs = some h') :
    ∃ cs e x cs',h.get b=some (.cells cs e true x)∧vs.length=n∧dc vs=true∧gh cs off vs=some cs'∧h'=h.put b (.cells cs' e true x):=by
  unfold astoreC at k
  cases hg:h.get b with
  | none=>rw [hg] at k; cases k
  | some o =>
    rw [hg] at k
    cases o with
    | cells cs e own x =>
      simp only at k
      cases hc:and own (and (Nat.beq (lLen vs) n) (dc vs)) with
      | false=>rw [hc] at k; cases k
      | true =>
        rw [hc,cond_true] at k
        have hc1:=Bool.and_eq_true_iff.1 hc
        have hc2:=Bool.and_eq_true_iff.1 hc1.2
        have hown:=hc1.1
        subst hown
        rw [cM] at hc2
        cases hp:gh cs off vs with
        | none=>rw [hp] at k; cases k
        | some cs'=>rw [hp] at k; cases k; exact ⟨cs,e,x,cs',rfl,aq.1 hc2.1,hc2.2,hp,rfl⟩
    | _=>cases k
theorem store_ok {p : Par} {ty : Nat → Option TI} (T : ct p.P ty) {t : Nat} {i : TI} (ht : ty t = some i) {x1 x2 : Operand} {y1 y2 : Opd} (h1 : bk x1 = some y1) (h2 : bk x2 = some y2) {o : Oper} (ho : o.op = .store t x1 x2) :
    bC p (aj i.size y1 y2) o:=by
  intro cx n keep E w0 tm h a w Q K _ HT HH k P
  have hex:execOp a.eval o=(do Instr.storeAt t (a.eval x1) (a.eval x2); pure Next.skip):=by unfold execOp; rw [ho]
  rw [hex]
  simp only [aj,rStore] at k
  cases hst:astore i.size h (ev tm y1) (ev tm y2) with
  | none=>rw [hst] at k; exact k.elim
  | some h' =>
    rw [hst] at k
    cases he:ev tm y1 with
    | ptr b off =>
      rw [he] at hst
      simp only [astore] at hst
      obtain ⟨cs,e,x,cs',hg,hlen,hok,hp,rfl⟩:=ib hst
      have hv1:=ax HT h1 (by rw [he]; rfl) HH.glob
      rw [he] at hv1
      obtain ⟨q,hq,hv1'⟩:=cJ hv1
      have hv2:=ax HT h2 (cells_bad hok) HH.glob
      have hcs:=cU hv2 hok
      obtain ⟨w',hrun,H'⟩:=HH.storeCells hg hcs hok hp hq
      refine does_unit (w':=w') ?_ ?_
      · rw [hv1']
        unfold Instr.storeAt Instr.sureAddr storeVar
        have hsz:(a.eval x2).cells.size=i.size:=by
          have:=bD hcs
          simp at this
          omega
        simp only [Sem.run_bind,pure,Sem.run,Result.andThen_ok,bq T ht,hsz,ne_eq,not_true_eq_false,if_false]
        exact hrun
      · exact P _ _ E w' undef k (Env.le.refl E) H' rfl
    | _=>rw [he] at hst; simp [astore] at hst
theorem wrapL_eq (k:IntKind) (n:Int):wrapL k n=k.wrap n:=by
  unfold wrapL
  cases hb:and (isI64 k) (inI64 n) with
  | false=>rfl
  | true =>
    obtain ⟨hk,hn⟩:=Bool.and_eq_true_iff.1 hb
    rw [cond_true]
    cases k with
    | i64 =>
      have hb:-9223372036854775808≤n∧n≤9223372036854775807:=by
        unfold inI64 at hn
        cases n with
        | ofNat m=>have:=aD.1 hn; constructor <;> simp only [Int.ofNat_eq_natCast] <;> omega
        | negSucc m=>have:=aD.1 hn; constructor <;> omega
      rw [IntKind.wrap_i64]
      omega
    | _=>cases hk
theorem ilt_eq (x y:Int):ilt x y=decide (x < y):=by
  cases x with
  | ofNat m =>
    cases y with
    | ofNat n =>
      simp only [ilt,Int.ofNat_eq_natCast]
      by_cases h:m < n
      · rw [aD.2 (by omega),decide_eq_true (by omega)]
      · rw [show Nat.ble (Nat.succ m) n=false from Bool.eq_false_iff.2 (fun hb=>h (by have:=aD.1 hb; omega)),decide_eq_false (by omega)]
    | negSucc n=>simp only [ilt,Int.ofNat_eq_natCast]; rw [decide_eq_false (by omega)]
  | negSucc m =>
    cases y with
    | ofNat n=>simp only [ilt,Int.ofNat_eq_natCast]; rw [decide_eq_true (by omega)]
    | negSucc n =>
      simp only [ilt]
      by_cases h:n < m
      · rw [aD.2 (by omega),decide_eq_true (by omega)]
      · rw [show Nat.ble (Nat.succ n) m=false from Bool.eq_false_iff.2 (fun hb=>h (by have:=aD.1 hb; omega)),decide_eq_false (by omega)]
theorem ieq_eq (x y:Int):ieq x y=(x == y):=by
  cases x with
  | ofNat m =>
    cases y with
    | ofNat n =>
      simp only [ieq]
      by_cases h:m=n
      · subst h; simp
      · rw [bW.2 h]; symm; rw [beq_eq_false_iff_ne]; intro e; cases e; exact h rfl
    | negSucc n=>simp only [ieq]; rfl
  | negSucc m =>
    cases y with
    | ofNat n=>simp only [ieq]; rfl
    | negSucc n =>
      simp only [ieq]
      by_cases h:m=n
      · subst h; simp
      · rw [bW.2 h]; symm; rw [beq_eq_false_iff_ne]; intro e; cases e; exact h rfl
theorem cm {j k:IntKind} (h:dv j k=true):j=k:=by
  cases j <;> cases k <;> first | rfl | cases h
theorem litCmp_den {op:BinOp} {x y:Int} {b:Bool} (h:litCmp op x y=some b):isCmp op=true∧aS op x y=b:=by
  unfold litCmp at h
  cases op <;> simp only [Option.some.injEq] at h <;> first | (cases h; done) | (refine ⟨rfl,?_⟩; subst h; simp only [aS,ieq_eq,ilt_eq]; first | rfl | skip)
  all_goals (rw [Bool.eq_iff_iff]; simp; try omega)
theorem mkCmp_den {op:BinOp} {a b:IE} {c:BE} {ρ:Rho} (h:mkCmp op a b=some c):isCmp op=true∧c.den ρ=aS op (a.den ρ) (b.den ρ):=by
  unfold mkCmp at h
  split at h
  · simp only [Option.map_eq_some_iff] at h
    obtain ⟨r,hr,rfl⟩:=h
    obtain ⟨h1,h2⟩:=litCmp_den hr
    exact ⟨h1,by simp [BE.den,IE.den,h2]⟩
  · cases hc:isCmp op with
    | false=>rw [hc] at h; cases h
    | true=>rw [hc] at h; cases h; exact ⟨rfl,rfl⟩
theorem run_intCmp {P:Program} {op:BinOp} (h:isCmp op=true) (x y:Int) (w:World):(Op.intCmp op x y).run P w=.ok (.bool (aS op x y)) w:=by
  cases op <;> first | rfl | cases h
theorem run_binOp_cmp {P:Program} {op:BinOp} (h:isCmp op=true) (t:TypeId) (k:IntKind) (x y:Int) (w:World):(binOp op t (.int k x) (.int k y)).run P w=.ok (.bool (aS op x y)) w:=by
  cases op <;> first | (cases h; done) | (simp only [binOp,ne_eq,not_true_eq_false,if_false]; exact run_intCmp (by rfl) x y w)
theorem run_eqGuard_int {P:Program} (op:BinOp) (t:TypeId) (x y:Operand) (k k':IntKind) (a b:Int) (w:World):(eqGuard op t x y (.int k a) (.int k' b)).run P w=.ok () w:=by
  unfold eqGuard
  cases op <;> rfl
theorem cmp_ok {p:Par} {op:BinOp} {t t':TypeId} {x1 x2:Operand} {y1 y2:Opd} (h1:bk x1=some y1) (h2:bk x2=some y2) {o:Oper} (ho:o.op=.binOp op t x1 x2 t'):bC p (bF op y1 y2) o:=by
  intro cx n keep E w0 tm h a w Q K _ HT HH k P
  obtain ⟨r,hr,q⟩:=aV k
  have hex:execOp a.eval o=(do let x ← (do eqGuard op t x1 x2 (a.eval x1) (a.eval x2); binOp op t (a.eval x1) (a.eval x2)); pure (Next.value x)):=by unfold execOp; rw [ho]
  rw [hex]
  unfold acmp at hr
  split at hr
  · rename_i j u k' u' he1 he2
    cases hk:dv j k' with
    | false=>rw [hk] at hr; cases hr
    | true =>
      have:=cm hk
      subst this
      rw [hk,cond_true] at hr
      cases hm:mkCmp op u u' with
      | none=>rw [hm] at hr; cases hr
      | some c =>
        rw [hm] at hr; cases hr
        obtain ⟨hc,hd⟩:=mkCmp_den (ρ:=E.ρ) hm
        have e1:=bJ HT h1 (v:=.int j (u.den E.ρ)) (by rw [he1]; rfl) HH.glob
        have e2:=bJ HT h2 (v:=.int j (u'.den E.ρ)) (by rw [he2]; rfl) HH.glob
        rw [e1,e2]
        refine ai (v:=.bool (aS op (u.den E.ρ) (u'.den E.ρ))) (w':=w) ?_ (P.same HH q (by simp [af,hd]))
        simp only [Sem.run_bind,run_eqGuard_int,Result.andThen_ok,run_binOp_cmp hc]
  · cases hr
theorem litBin_den {op:BinOp} {k:IntKind} {x y n:Int} {P:Program} (h:litBin op k x y=some n) (t:TypeId) (w:World):(binOp op t (.int k x) (.int k y)).run P w=.ok (.int k n) w:=by
  unfold litBin at h
  split at h
  · cases h; rw [wrapL_eq]; simp only [binOp,ne_eq,not_true_eq_false,if_false]; rfl
  · cases h; rw [wrapL_eq]; simp only [binOp,ne_eq,not_true_eq_false,if_false]; rfl
  · cases h; rw [wrapL_eq]; simp only [binOp,ne_eq,not_true_eq_false,if_false]; rfl
  · cases hy:ieq y 0 with
    | true=>rw [hy] at h; cases h
    | false =>
      rw [hy] at h; cases h
      rw [ieq_eq] at hy
      have hy0:¬ y=0:=by simpa using hy
      rw [wrapL_eq]; simp only [binOp,ne_eq,not_true_eq_false,if_false,Op.intDiv,if_neg hy0]; rfl
  · cases hy:ieq y 0 with
    | true=>rw [hy] at h; cases h
    | false =>
      rw [hy] at h; cases h
      rw [ieq_eq] at hy
      have hy0:¬ y=0:=by simpa using hy
      simp only [binOp,ne_eq,not_true_eq_false,if_false,Op.intDiv,if_neg hy0]; rfl
  · unfold litBits at h
    split at h <;> first | (cases h; done) | (cases h; simp only [binOp,ne_eq,not_true_eq_false,if_false]; rfl)
theorem mkBin_den {op : BinOp} {k : IntKind} {a b c : IE} {P : Program} {ρ : Rho} (h : mkBin op k a b = some c) (t : TypeId) (w : World) :
    (binOp op t (.int k (a.den ρ)) (.int k (b.den ρ))).run P w=.ok (.int k (c.den ρ)) w:=by
  unfold mkBin at h
  split at h
  · simp only [Option.map_eq_some_iff] at h
    obtain ⟨r,hr,rfl⟩:=h
    exact litBin_den hr t w
  · cases ha:isArith op with
    | true =>
      rw [ha,cond_true] at h; cases h
      simp only [IE.den]
      cases op <;> first | (cases ha; done) | (simp only [binOp,ne_eq,not_true_eq_false,if_false]; rfl)
    | false =>
      rw [ha,cond_false] at h
      cases hd:and (isDiv op) (nonZero b) with
      | false=>rw [hd] at h; cases h
      | true =>
        rw [hd,cond_true] at h; cases h
        obtain ⟨h1,h2⟩:=Bool.and_eq_true_iff.1 hd
        simp only [IE.den]
        have hy0:¬ b.den ρ=0:=by
          unfold nonZero at h2
          split at h2
          · rw [ieq_eq] at h2; simpa [IE.den] using h2
          · cases h2
        cases op <;> first | (cases h1; done) | (simp only [binOp,ne_eq,not_true_eq_false,if_false,Op.intDiv,if_neg hy0]; rfl)
theorem arith_guard {P:Program} {op:BinOp} (t:TypeId) (x y:Operand) (u v:Value) (w:World) (h:isCmp op=false):(eqGuard op t x y u v).run P w=.ok () w:=by
  unfold eqGuard
  cases op <;> first | rfl | cases h
theorem div_den {op : BinOp} {k : IntKind} {a b : IE} {P : Program} {ρ : Rho} (h : isDiv op = true) (hb : ¬ b.den ρ = 0) (t : TypeId) (w : World) :
    (binOp op t (.int k (a.den ρ)) (.int k (b.den ρ))).run P w=.ok (.int k ((IE.bin op k a b).den ρ)) w:=by
  simp only [IE.den]
  cases op <;> first | (cases h; done) | (simp only [binOp,ne_eq,not_true_eq_false,if_false,Op.intDiv,if_neg hb]; rfl)
theorem arith_ok {p:Par} {op:BinOp} (hop:isCmp op=false) {t t':TypeId} {x1 x2:Operand} {y1 y2:Opd} (h1:bk x1=some y1) (h2:bk x2=some y2) {o:Oper} (ho:o.op=.binOp op t x1 x2 t'):bC p (aF op y1 y2) o:=by
  intro cx n keep E w0 tm h a w Q K _ HT HH k P
  have hex:execOp a.eval o=(do let x ← (do eqGuard op t x1 x2 (a.eval x1) (a.eval x2); binOp op t (a.eval x1) (a.eval x2)); pure (Next.value x)):=by unfold execOp; rw [ho]
  rw [hex]
  unfold aF rArith at k
  split at k
  · rename_i r hr
    have q:Q (r,h):=k
    unfold aarith at hr
    split at hr
    · rename_i j u k' u' he1 he2
      cases hk:dv j k' with
      | false=>rw [hk] at hr; cases hr
      | true =>
        have:=cm hk
        subst this
        rw [hk,cond_true] at hr
        cases hm:mkBin op j u u' with
        | none=>rw [hm] at hr; cases hr
        | some c =>
          rw [hm] at hr; cases hr
          have e1:=bJ HT h1 (v:=.int j (u.den E.ρ)) (by rw [he1]; rfl) HH.glob
          have e2:=bJ HT h2 (v:=.int j (u'.den E.ρ)) (by rw [he2]; rfl) HH.glob
          rw [e1,e2]
          refine ai (v:=.int j (c.den E.ρ)) (w':=w) ?_ (P.same HH q rfl)
          simp only [Sem.run_bind,arith_guard _ _ _ _ _ _ hop,Result.andThen_ok,mkBin_den hm]
    · cases hr
  · unfold rDiv at k
    split at k
    · rename_i j u k' u' he1 he2
      cases hk:(dv j k' && isDiv op) with
      | false=>rw [hk] at k; exact absurd k id
      | true =>
        rw [hk,cond_true] at k
        obtain ⟨hk1,hk2⟩:=Bool.and_eq_true_iff.1 hk
        have:=cm hk1
        subst this
        simp only [T.Holds] at k
        split at k
        · rename_i hb
          have hb0:¬ u'.den E.ρ=0:=by
            simp only [BE.den,aS,IE.den] at hb
            simpa using hb
          have e1:=bJ HT h1 (v:=.int j (u.den E.ρ)) (by rw [he1]; rfl) HH.glob
          have e2:=bJ HT h2 (v:=.int j (u'.den E.ρ)) (by rw [he2]; rfl) HH.glob
          rw [e1,e2]
          refine ai (v:=.int j ((IE.bin op j u u').den E.ρ)) (w':=w) ?_ (P.same HH k rfl)
          simp only [Sem.run_bind,arith_guard _ _ _ _ _ _ hop,Result.andThen_ok,div_den hk2 hb0]
        · exact absurd k id
    · exact absurd k id
theorem shift_ok {p:Par} {op:BinOp} (hop:op=.shl ∨ op=.shr) {t t':TypeId} {x1 x2:Operand} {y1 y2:Opd} (h1:bk x1=some y1) (h2:bk x2=some y2) {o:Oper} (ho:o.op=.binOp op t x1 x2 t'):bC p (iShift op y1 y2) o:=by
  intro cx n keep E w0 tm h a w Q K _ HT HH k P
  obtain ⟨r,hr,q⟩:=aV k
  have hex:execOp a.eval o=(do let x ← (do eqGuard op t x1 x2 (a.eval x1) (a.eval x2); binOp op t (a.eval x1) (a.eval x2)); pure (Next.value x)):=by unfold execOp; rw [ho]
  rw [hex]
  unfold ashift at hr
  split at hr
  · rename_i j x k' y he1 he2
    cases hm:litShift op j x y with
    | none=>rw [hm] at hr; cases hr
    | some c =>
      rw [hm] at hr; cases hr
      have e1:=bJ HT h1 (v:=.int j x) (by rw [he1]; rfl) HH.glob
      have e2:=bJ HT h2 (v:=.int k' y) (by rw [he2]; rfl) HH.glob
      rw [e1,e2]
      have hg:isCmp op=false:=by rcases hop with rfl | rfl <;> rfl
      refine ai (v:=.int j c) (w':=w) ?_ (P.same HH q rfl)
      simp only [Sem.run_bind,arith_guard _ _ _ _ _ _ hg,Result.andThen_ok]
      unfold litShift at hm
      cases hy:ilt y 0 with
      | true=>rw [hy] at hm; cases hm
      | false =>
        rw [hy,cond_false] at hm
        rw [ilt_eq] at hy
        have hy0:¬ y < 0:=by simpa using hy
        rcases hop with rfl | rfl
        · simp only [Option.some.injEq] at hm
          subst hm
          simp only [binOp,Op.shift,if_neg hy0]; rfl
        · simp only [Option.some.injEq] at hm
          subst hm
          simp only [binOp,Op.shift,if_neg hy0]; rfl
  · cases hr
theorem mkNot_den (ρ:Rho) (b:BE):b.mkNot.den ρ=!(b.den ρ):=by
  unfold BE.mkNot
  split <;> rfl
theorem not_ok {p:Par} {t:TypeId} {x:Operand} {y:Opd} (hx:bk x=some y) {o:Oper} (ho:o.op=.unOp .not t x):bC p (iNot y) o:=by
  intro cx n keep E w0 tm h a w Q K _ HT HH k P
  obtain ⟨r,hr,q⟩:=aV k
  have hex:execOp a.eval o=(do let x ← Op.unary .not (a.eval x); pure (Next.value x)):=by unfold execOp; rw [ho]
  rw [hex]
  unfold anot at hr
  split at hr
  · rename_i b he
    cases hr
    rw [bJ HT hx (v:=.bool (b.den E.ρ)) (by rw [he]; rfl) HH.glob]
    exact ai rfl (P.same HH q (by simp [af,mkNot_den]))
  · cases hr
theorem neg_ok {p:Par} {t:TypeId} {x:Operand} {y:Opd} (hx:bk x=some y) {o:Oper} (ho:o.op=.unOp .neg t x):bC p (iNeg y) o:=by
  intro cx n keep E w0 tm h a w Q K _ HT HH k P
  obtain ⟨r,hr,q⟩:=aV k
  have hex:execOp a.eval o=(do let x ← Op.unary .neg (a.eval x); pure (Next.value x)):=by unfold execOp; rw [ho]
  rw [hex]
  unfold aneg at hr
  split at hr
  · rename_i j u he
    cases hm:mkBin .sub j (.lit 0) u with
    | none=>rw [hm] at hr; cases hr
    | some c =>
      rw [hm] at hr; cases hr
      rw [bJ HT hx (v:=.int j (u.den E.ρ)) (by rw [he]; rfl) HH.glob]
      refine ai (v:=.int j (c.den E.ρ)) (w':=w) ?_ (P.same HH q rfl)
      have:=mkBin_den (P:=p.P) (ρ:=E.ρ) hm 0 w
      simp only [binOp,ne_eq,not_true_eq_false,if_false,IE.den] at this
      exact this
  · cases hr
theorem conv_ok {p:Par} {ty:Nat→Option TI} (T:ct p.P ty) {s d:TypeId} {k:IntKind} (hk:convKind ty d=some k) {x:Operand} {y:Opd} (hx:bk x=some y) (hs:∃ u,p.P.underlying s=some u) {o:Oper} (ho:o.op=.convert s d x):bC p (iConv k y) o:=by
  intro cx n keep E w0 tm h a w Q K _ HT HH kk P
  obtain ⟨r,hr,q⟩:=aV kk
  have hex:execOp a.eval o=(do let x ← convert s d (a.eval x); pure (Next.value x)):=by unfold execOp; rw [ho]
  rw [hex]
  unfold aconv at hr
  split at hr
  · rename_i j u he
    cases hr
    rw [bJ HT hx (v:=.int j (u.den E.ρ)) (by rw [he]; rfl) HH.glob]
    unfold convKind at hk
    cases hd:ty d with
    | none=>rw [hd] at hk; cases hk
    | some i =>
      rw [hd] at hk
      simp only at hk
      split at hk
      · rename_i k' hdesc
        cases hk
        have hu:=T.und d i hd
        rw [hdesc] at hu
        obtain ⟨us,hus⟩:=hs
        refine ai (v:=.int k (k.wrap (u.den E.ρ))) (w':=w) ?_ (P.same HH q ?_)
        · unfold convert
          simp only [Sem.run_bind,run_underlying hus,run_underlying hu,Result.andThen_ok]
          rfl
        · simp only [af,Option.some.injEq,Value.int.injEq,true_and]
          unfold mkConv
          split
          · simp [IE.den,wrapL_eq]
          · rfl
      · cases hk
  · cases hr
end Go.Sx
namespace Go.Sx
open Go.RowKit
theorem gA (c o n:Nat):(⟨c,o,none⟩:Addr).add n=⟨c,o + n,none⟩:=by
  unfold Addr.add
  split
  · rename_i h; subst h; rfl
  · rfl
theorem fR {n : Nat} {keep : List Nat} {E : Env} {tm : Tm} {a : Act} (H : TmOk n keep E tm a.tmps) (G : ∀ b, b < 1000 → E.σ b = some (b, 0)) :
    ∀ {xs:List Operand} {ys:List Opd},eK xs=some ys→bz aT (evs tm ys)=true→ad E (evs tm ys)=some (xs.map a.eval)
  | [],ys,h,_=>by simp only [eK,Option.some.injEq] at h; subst h; rfl
  | x :: xs,ys,h,hb=>by
    simp only [eK] at h
    cases hx:bk x with
    | none=>rw [hx] at h; cases h
    | some y =>
      cases hl:eK xs with
      | none=>rw [hx,hl] at h; cases h
      | some l =>
        rw [hx,hl] at h; cases h
        have he:evs tm (y :: l)=ev tm y :: evs tm l:=rfl
        rw [he,ga,List.all_cons,Bool.and_eq_true,← ga] at hb
        rw [he]
        exact ap.2 ⟨_,_,ax H hx hb.1 G,fR H G hl hb.2,rfl⟩
theorem func_ok {p:Par} {fn:Fn} (hf:notYield fn=true) {xs zs:Array Operand} {ys us:List Opd} (h1:eK xs.toList=some ys) (h2:eK zs.toList=some us) {o:Oper} (ho:o.op=.makeFunc fn xs zs):bC p (iFunc fn ys us) o:=by
  intro cx n keep E w0 tm h a w Q K _ HT HH k P
  simp only [iFunc,rFunc] at k
  cases hb:and (bz aT (evs tm ys)) (bz aT (evs tm us)) with
  | false=>rw [hb] at k; exact k.elim
  | true =>
    rw [hb] at k
    obtain ⟨b1,b2⟩:=Bool.and_eq_true_iff.1 hb
    have hex:execOp a.eval o=(do let x ← Instr.makeFunc fn (xs.map a.eval) (zs.map a.eval); pure (Next.value x)):=by unfold execOp; rw [ho]
    rw [hex]
    refine ai (v:=.func fn (xs.map a.eval) (zs.map a.eval)) (w':=w) rfl (P.same HH k ?_)
    have e1:=fR HT HH.glob h1 b1
    have e2:=fR HT HH.glob h2 b2
    simp only [af,e1,e2]
    have t:∀ xs:Array Operand,(xs.toList.map a.eval).toArray=xs.map a.eval:=fun xs=>by rw [← Array.toList_map]
    cases fn <;> first | (cases hf; done) | simp [t]
theorem mkmap_ok {p:Par} {t:TypeId} {o:Oper} (ho:o.op=.makeMap t none):bC p iMkmap o:=by
  intro cx n keep E w0 tm h a w Q K _ HT HH k P
  have hex:execOp a.eval o=(do let x ← Instr.makeMap t none; pure (Next.value x)):=by unfold execOp; rw [ho]; rfl
  rw [hex]
  refine ai (v:=.map (some w.heap.size)) (w':=w.alloc (.map #[] 0)) rfl ?_
  refine P _ _ (E.with h.next (w.heap.size,0) 0) _ _ k (Env.with_le (HH.fresh _ (Nat.le_refl _)) HH.nx _ _) ?_ (by simp [af,Env.with_at])
  exact HH.alloc rfl ⟨w.heap.size,[],Env.with_at _ _ _ _,trivial,by simp⟩
theorem cField_some {ty:Nat→Option TI} {t f:Nat} {q:Field × TI} (h:cField ty t f=some q):∃ i fs,ty t=some i∧i.desc=.struct fs∧fs[f]?=some q.1∧ty q.1.type=some q.2:=by
  unfold cField at h
  cases ht:ty t with
  | none=>rw [ht] at h; cases h
  | some i =>
    rw [ht] at h
    simp only at h
    split at h
    · rename_i fs hd
      split at h
      · rename_i f' hf
        split at h
        · rename_i j hj
          cases h
          exact ⟨i,fs,rfl,hd,by simpa using hf,hj⟩
        · cases h
      · cases h
    · cases h
theorem faddr_ok {p : Par} {ty : Nat → Option TI} (T : ct p.P ty) {t f : Nat} {q : Field × TI} (hq : cField ty t f = some q) (h1 : 1 ≤ q.2.size) {x : Operand} {y : Opd} (hx : bk x = some y) {o : Oper} (ho : o.op = .fieldAddr t x f) :
    bC p (aa q.1.offset y) o:=by
  intro cx n keep E w0 tm h a w Q K _ HT HH k P
  obtain ⟨r,hr,qq⟩:=aV k
  have hex:execOp a.eval o=(do let x ← Instr.fieldAt t (a.eval x) f; pure (Next.value x)):=by unfold execOp; rw [ho]
  rw [hex]
  unfold faddrA at hr
  split at hr
  · rename_i b off he
    cases hr
    obtain ⟨i,fs,ht,hd,hf,hj⟩:=cField_some hq
    have hv:=ax HT hx (by rw [he]; rfl) HH.glob
    rw [he] at hv
    obtain ⟨q',hq',hv'⟩:=cJ hv
    have hu:=T.und t i ht
    rw [hd] at hu
    rw [hv']
    refine ai (v:=.pointer (some ⟨q'.1,q'.2 + off + q.1.offset,none⟩)) (w':=w) ?_ (P.same HH qq ?_)
    · unfold Instr.fieldAt
      simp only [Sem.run_bind,run_underlying hu,Result.andThen_ok,hf]
      unfold Instr.sureAddr fieldPlace
      simp only [Sem.run_bind,pure,Sem.run,Result.andThen_ok,bq T hj]
      rw [if_neg (by omega)]
      simp only [Sem.run,Result.andThen_ok,gA]
    · simp [af,hq',Nat.add_assoc]
  · rename_i b i' sz off e he
    cases hr
    obtain ⟨i,fs,ht,hd,hf,hj⟩:=cField_some hq
    have hv:=ax HT hx (by rw [he]; rfl) HH.glob
    rw [he] at hv
    obtain ⟨q',hq',hp,hl,hv'⟩:=dR hv
    have hu:=T.und t i ht
    rw [hd] at hu
    rw [hv']
    refine ai (v:=.pointer (some ⟨q'.1,q'.2 + (e.den E.ρ).toNat * sz + off + q.1.offset,none⟩)) (w':=w) ?_ (P.same HH qq ?_)
    · unfold Instr.fieldAt
      simp only [Sem.run_bind,run_underlying hu,Result.andThen_ok,hf]
      unfold Instr.sureAddr fieldPlace
      simp only [Sem.run_bind,pure,Sem.run,Result.andThen_ok,bq T hj]
      rw [if_neg (by omega)]
      simp only [Sem.run,Result.andThen_ok,gA]
    · simp [af,hq',hp,hl,Nat.add_assoc]
  · cases hr
theorem partA_ok {P : Program} {ty : Nat → Option TI} (T : ct P ty) {t : Nat} {i : TI} (ht : ty t = some i) {E : Env} {cs : List AV} {vs : List Value} (hv : ad E cs = some vs) {off : Nat} {r : AV}
    (h:partA i.isAgg cs off i.size=some r) (w:World):∃ v,af E r=some v∧(part t vs.toArray off).run P w=.ok v w:=by
  unfold partA at h
  cases hagg:i.isAgg with
  | true =>
    rw [hagg,cond_true] at h
    simp only [Option.map_eq_some_iff] at h
    obtain ⟨l,hl,rfl⟩:=h
    obtain ⟨hle,rfl⟩:=fC hl
    refine ⟨.agg ((vs.drop off).take i.size).toArray,by simp [af,fD (fE hv off) i.size],?_⟩
    unfold part
    simp only [Sem.run_bind,ia T ht,hagg,Result.andThen_ok,if_true,bq T ht]
    simp [pure,List.extract_eq_take_drop]
  | false =>
    rw [hagg,cond_false,bR] at h
    obtain ⟨v,hc,hi⟩:=c9 hv h
    refine ⟨v,hc,?_⟩
    unfold part
    simp only [Sem.run_bind,ia T ht,hagg,Result.andThen_ok,Bool.false_eq_true,if_false]
    simp [hi,pure]
theorem er {E:Env} {cs:List AV} {v:Value} (h:af E (.agg cs)=some v):∃ vs,ad E cs=some vs∧v=.agg vs.toArray:=by
  simp only [af,Option.map_eq_some_iff] at h
  obtain ⟨l,hl,rfl⟩:=h
  exact ⟨l,hl,rfl⟩
theorem field_ok {p : Par} {ty : Nat → Option TI} (T : ct p.P ty) {t f : Nat} {q : Field × TI} (hq : cField ty t f = some q) {x : Operand} {y : Opd} (hx : bk x = some y) {o : Oper} (ho : o.op = .field t x f) :
    bC p (iField q.2.isAgg q.1.offset q.2.size y) o:=by
  intro cx n keep E w0 tm h a w Q K _ HT HH k P
  obtain ⟨r,hr,qq⟩:=aV k
  have hex:execOp a.eval o=(do let x ← Instr.field t (a.eval x) f; pure (Next.value x)):=by unfold execOp; rw [ho]
  rw [hex]
  unfold fieldA at hr
  split at hr
  · rename_i cs he
    obtain ⟨i,fs,ht,hd,hf,hj⟩:=cField_some hq
    have hv:=ax HT hx (by rw [he]; rfl) HH.glob
    rw [he] at hv
    obtain ⟨vs,hvs,hv'⟩:=er hv
    obtain ⟨u,hu,hrun⟩:=partA_ok T hj hvs hr w
    have hund:=T.und t i ht
    rw [hd] at hund
    rw [hv']
    refine ai (v:=u) (w':=w) ?_ (P.same HH qq hu)
    unfold Instr.field
    simp only [Sem.run_bind,run_underlying hund,Result.andThen_ok,hf]
    unfold asAgg
    simp only [pure,Sem.run,Result.andThen_ok,hrun]
  · cases hr
theorem dK {v:AV} {n:Nat} (h:asNat v=some n):∃ k,v=.int k (.lit (Int.ofNat n)):=by
  unfold asNat at h
  split at h
  · cases h; exact ⟨_,rfl⟩
  · cases h
theorem rIaddrC_holds {h : Heap} {size : Nat} {x : AV} {k : IntKind} {e : IE} {ρ : Rho} {Q : AV × Heap → Prop} : ∀ n : Nat, e.den ρ < n → (rIaddrC h size x k e n).Holds ρ Q →
    ∃ m:Nat,e.den ρ=Int.ofNat m∧(mk2 h 18 (aiaddr size x (.int k (.lit (Int.ofNat m))))).Holds ρ Q
  | 0,_,h=>absurd h id
  | n + 1,hn,hh=>by
    have hh:(T.br (.cmp .leq (.lit (Int.ofNat n)) e) (mk2 h 18 (aiaddr size x (.int k (.lit (Int.ofNat n))))) (rIaddrC h size x k e n)).Holds ρ Q:=hh
    simp only [Sx.T.Holds] at hh
    split at hh
    · rename_i hc
      have hc:decide (Int.ofNat n≤e.den ρ)=true:=hc
      have hc:=of_decide_eq_true hc
      refine ⟨n,?_,hh⟩
      simp only [Int.ofNat_eq_natCast] at hc ⊢
      omega
    · rename_i hc
      have hc:¬ decide (Int.ofNat n≤e.den ρ)=true:=hc
      have hc:¬ Int.ofNat n≤e.den ρ:=fun h=>hc (decide_eq_true h)
      simp only [Int.ofNat_eq_natCast] at hc
      exact rIaddrC_holds n (by omega) hh
theorem rIaddrS_holds {h : Heap} {size : Nat} {x : AV} {k : IntKind} {e : IE} {ρ : Rho} {Q : AV × Heap → Prop} {n : Nat} (hh : (T.br (.and (.cmp .leq (.lit 0) e) (.cmp .lss e (.lit (Int.ofNat n)))) (rIaddrC h size x k e n) (.fail 18)).Holds ρ Q) :
    ∃ m:Nat,e.den ρ=Int.ofNat m∧(mk2 h 18 (aiaddr size x (.int k (.lit (Int.ofNat m))))).Holds ρ Q:=by
  simp only [Sx.T.Holds] at hh
  split at hh
  · rename_i hc
    refine rIaddrC_holds n ?_ hh
    simp only [BE.den,aS,IE.den,Bool.and_eq_true] at hc
    have:=of_decide_eq_true hc.2
    simpa using this
  · exact hh.elim
theorem iaddr_ok {p : Par} {ty : Nat → Option TI} (T : ct p.P ty) {t e : Nat} {i j : TI} (ht : ty t = some i) (hd : i.desc = .slice e) (he : ty e = some j) {x1 x2 : Operand} {y1 y2 : Opd} (h1 : bk x1 = some y1) (h2 : bk x2 = some y2)
    {o:Oper} (ho:o.op=.indexAddr t x1 x2):bC p (bw j.size y1 y2) o:=by
  intro cx n keep E w0 tm h a w Q K _ HT HH k P
  have hex:execOp a.eval o=(do let x ← Instr.indexAt t (a.eval x1) (a.eval x2); pure (Next.value x)):=by unfold execOp; rw [ho]
  rw [hex]
  by_cases hV:∃ b i,ev tm y1=.sliceV b i
  · obtain ⟨b,iv,hb⟩:=hV
    unfold bw rIaddr at k
    rw [hb] at k
    simp only [rIaddrV] at k
    split at k
    · rename_i kk e hm
      simp only [Sx.T.Holds] at k
      split at k
      · rename_i hc
        have hv2:a.eval x2=.int kk (e.den E.ρ):=bJ HT h2 (by rw [hm]; rfl) HH.glob
        have hu:=T.und t i ht
        rw [hd] at hu
        have hv:=ax HT h1 (by rw [hb]; rfl) HH.glob
        rw [hb] at hv
        obtain ⟨q,hq,hn,hv'⟩:=gc hv
        have hc':0≤e.den E.ρ∧e.den E.ρ < E.ρ.iv iv:=by
          simp only [BE.den,aS,IE.den,Bool.and_eq_true] at hc
          exact ⟨of_decide_eq_true hc.1,of_decide_eq_true hc.2⟩
        rw [hv',hv2]
        refine ai (v:=.pointer (some ⟨q.1,q.2 + (e.den E.ρ).toNat * j.size + 0,none⟩)) (w':=w) ?_ (P.same HH k (by simp [af,hq,hc'.1,hc'.2]))
        unfold Instr.indexAt asIntOf
        simp only [Sem.run_bind,pure,Sem.run,Result.andThen_ok,run_underlying hu]
        rw [if_pos (by constructor <;> omega)]
        simp only [Sem.run_bind,Sem.run,Result.andThen_ok,bq T he,gA]
        rfl
      · exact absurd k id
    · exact absurd k id
  have kz:∃ z,(∀ v,af E z=some v→a.eval x2=v)∧(mk2 h 18 (aiaddr j.size (ev tm y1) z)).Holds E.ρ Q:=by
    have k:(rIaddrS h j.size (ev tm y1) (ev tm y2)).Holds E.ρ Q:=by
      unfold bw rIaddr at k
      split at k
      · rename_i b i' hb; exact absurd ⟨b,i',hb⟩ hV
      · exact k
    unfold rIaddrS at k
    split at k
    · rename_i v hv
      exact ⟨ev tm y2,fun v hv=>bJ HT h2 hv HH.glob,by rw [hv]; exact k⟩
    · split at k
      · rename_i kk e hm
        obtain ⟨m,he,k⟩:=rIaddrS_holds k
        refine ⟨.int kk (.lit (Int.ofNat m)),fun v hv=>?_,k⟩
        simp only [af,Option.some.injEq] at hv
        rw [← hv]
        exact bJ HT h2 (by rw [hm]; simp only [af,he]; rfl) HH.glob
      · exact absurd k id
  obtain ⟨z,hz,k⟩:=kz
  obtain ⟨r,hr,qq⟩:=aV k
  unfold aiaddr at hr
  split at hr
  · rename_i m hm
    obtain ⟨kk,hm'⟩:=dK hm
    have hv2:a.eval x2=.int kk (Int.ofNat m):=hz _ (by rw [hm']; rfl)
    have hu:=T.und t i ht
    rw [hd] at hu
    split at hr
    · rename_i b off len cap hb
      cases hc:Nat.ble (Nat.succ m) len with
      | false=>rw [hc] at hr; cases hr
      | true =>
        rw [hc] at hr; cases hr
        have hlt:m < len:=aD.1 hc
        have hv:=ax HT h1 (by rw [hb]; rfl) HH.glob
        rw [hb] at hv
        simp only [af,Option.map_eq_some_iff] at hv
        obtain ⟨q,hq,hv⟩:=hv
        rw [← hv,hv2]
        refine ai (v:=.pointer (some ⟨q.1,q.2 + off + m * j.size,none⟩)) (w':=w) ?_ (P.same HH qq (by simp [af,hq,Nat.add_assoc]))
        unfold Instr.indexAt asIntOf
        simp only [Sem.run_bind,pure,Sem.run,Result.andThen_ok,run_underlying hu]
        rw [if_pos (by constructor <;> simp only [Int.ofNat_eq_natCast] <;> omega)]
        simp only [Sem.run_bind,Sem.run,Result.andThen_ok,bq T he,gA]
        rfl
    · rename_i b s lo len hb
      cases hc:and (Nat.ble (Nat.succ m) len) (Nat.beq s j.size) with
      | false=>rw [hc] at hr; cases hr
      | true =>
        rw [hc] at hr; cases hr
        obtain ⟨c1,c2⟩:=Bool.and_eq_true_iff.1 hc
        have hlt:m < len:=aD.1 c1
        have hs:s=j.size:=aq.1 c2
        subst hs
        have hv:=ax HT h1 (by rw [hb]; rfl) HH.glob
        rw [hb] at hv
        obtain ⟨q,hq,hle,hv'⟩:=bt hv
        rw [if_neg (by omega)] at hv'
        rw [hv',hv2]
        refine ai (v:=.pointer (some ⟨q.1,q.2 + lo * j.size + m * j.size,none⟩)) (w':=w) ?_ (P.same HH qq (by simp [af,hq,Nat.add_assoc]))
        unfold Instr.indexAt asIntOf
        simp only [Sem.run_bind,pure,Sem.run,Result.andThen_ok,run_underlying hu]
        rw [if_pos (by constructor <;> simp only [Int.ofNat_eq_natCast] <;> omega)]
        simp only [Sem.run_bind,Sem.run,Result.andThen_ok,bq T he,gA]
        rfl
    · cases hr
  · cases hr
theorem rCaseC_holds {h : Heap} {why : Nat} {g : AV → Option AV} {k : IntKind} {e : IE} {ρ : Rho} {Q : AV × Heap → Prop} : ∀ n : Nat, e.den ρ < n → (rCaseC h why g k e n).Holds ρ Q →
    ∃ m:Nat,e.den ρ=Int.ofNat m∧(mk2 h why (g (.int k (.lit (Int.ofNat m))))).Holds ρ Q
  | 0,_,h=>absurd h id
  | n + 1,hn,hh=>by
    have hh:(T.br (.cmp .leq (.lit (Int.ofNat n)) e) (mk2 h why (g (.int k (.lit (Int.ofNat n))))) (rCaseC h why g k e n)).Holds ρ Q:=hh
    simp only [Sx.T.Holds] at hh
    split at hh
    · rename_i hc
      have hc:decide (Int.ofNat n≤e.den ρ)=true:=hc
      have hc:=of_decide_eq_true hc
      refine ⟨n,?_,hh⟩
      simp only [Int.ofNat_eq_natCast] at hc ⊢
      omega
    · rename_i hc
      have hc:¬ decide (Int.ofNat n≤e.den ρ)=true:=hc
      have hc:¬ Int.ofNat n≤e.den ρ:=fun h=>hc (decide_eq_true h)
      simp only [Int.ofNat_eq_natCast] at hc
      exact rCaseC_holds n (by omega) hh
theorem rCase_holds {h:Heap} {why n:Nat} {g:AV→Option AV} {ix:AV} {ρ:Rho} {Q:AV × Heap→Prop} (k:(rCase h why n g ix).Holds ρ Q):∃ z,(∀ E:Env,E.ρ=ρ→af E z=af E ix)∧(mk2 h why (g z)).Holds ρ Q:=by
  unfold rCase at k
  split at k
  · rename_i v hv
    exact ⟨ix,fun _ _=>rfl,by rw [hv]; exact k⟩
  · split at k
    · rename_i kk e hm
      simp only [Sx.T.Holds] at k
      split at k
      · rename_i hc
        obtain ⟨m,he,k⟩:=rCaseC_holds n (by
          simp only [BE.den,aS,IE.den,Bool.and_eq_true] at hc
          have:=of_decide_eq_true hc.2
          simpa using this) k
        refine ⟨.int kk (.lit (Int.ofNat m)),fun E hE=>?_,k⟩
        simp only [af,IE.den,hE,he]
      · exact absurd k id
    · exact absurd k id
theorem iaddrA_ok {p : Par} {ty : Nat → Option TI} (T : ct p.P ty) {t e len : Nat} {i j : TI} (ht : ty t = some i) (hd : i.desc = .array len e) (he : ty e = some j) {x1 x2 : Operand} {y1 y2 : Opd} (h1 : bk x1 = some y1) (h2 : bk x2 = some y2)
    {o:Oper} (ho:o.op=.indexAddr t x1 x2):bC p (bB j.size len y1 y2) o:=by
  intro cx n keep E w0 tm h a w Q K _ HT HH k P
  obtain ⟨z,hz,k⟩:=rCase_holds k
  obtain ⟨r,hr,qq⟩:=aV k
  have hex:execOp a.eval o=(do let x ← Instr.indexAt t (a.eval x1) (a.eval x2); pure (Next.value x)):=by unfold execOp; rw [ho]
  rw [hex]
  unfold aiaddrA at hr
  split at hr
  · rename_i m hm
    obtain ⟨kk,hm'⟩:=dK hm
    have hv2:a.eval x2=.int kk (Int.ofNat m):=bJ HT h2 (by rw [← hz E rfl,hm']; rfl) HH.glob
    have hu:=T.und t i ht
    rw [hd] at hu
    split at hr
    · rename_i b off hb
      cases hc:Nat.ble (Nat.succ m) len with
      | false=>rw [hc] at hr; cases hr
      | true =>
        rw [hc] at hr; cases hr
        have hlt:m < len:=aD.1 hc
        have hv:=ax HT h1 (by rw [hb]; rfl) HH.glob
        rw [hb] at hv
        obtain ⟨q,hq,hv'⟩:=cJ hv
        rw [hv',hv2]
        refine ai (v:=.pointer (some ⟨q.1,q.2 + off + m * j.size,none⟩)) (w':=w) ?_ (P.same HH qq (by simp [af,hq,Nat.add_assoc]))
        unfold Instr.indexAt asIntOf Instr.sureAddr
        simp only [Sem.run_bind,pure,Sem.run,Result.andThen_ok,run_underlying hu]
        rw [if_pos (by constructor <;> simp only [Int.ofNat_eq_natCast] <;> omega)]
        simp only [Sem.run_bind,Sem.run,Result.andThen_ok,bq T he,gA]
        rfl
    · cases hr
  · cases hr
theorem index_ok {p : Par} {ty : Nat → Option TI} (T : ct p.P ty) {t e len : Nat} {i j : TI} (ht : ty t = some i) (hd : i.desc = .array len e) (he : ty e = some j) {x1 x2 : Operand} {y1 y2 : Opd} (h1 : bk x1 = some y1) (h2 : bk x2 = some y2)
    {o:Oper} (ho:o.op=.index t x1 x2):bC p (iIndex j.isAgg j.size len y1 y2) o:=by
  intro cx n keep E w0 tm h a w Q K _ HT HH k P
  obtain ⟨z,hz,k⟩:=rCase_holds k
  obtain ⟨r,hr,qq⟩:=aV k
  have hex:execOp a.eval o=(do let x ← Instr.index t (a.eval x1) (a.eval x2); pure (Next.value x)):=by unfold execOp; rw [ho]
  rw [hex]
  unfold aindex at hr
  split at hr
  · rename_i m hm
    obtain ⟨kk,hm'⟩:=dK hm
    have hv2:a.eval x2=.int kk (Int.ofNat m):=bJ HT h2 (by rw [← hz E rfl,hm']; rfl) HH.glob
    have hu:=T.und t i ht
    rw [hd] at hu
    split at hr
    · rename_i cs hb
      cases hc:Nat.ble (Nat.succ m) len with
      | false=>rw [hc] at hr; cases hr
      | true =>
        rw [hc,cond_true] at hr
        have hlt:m < len:=aD.1 hc
        have hv:=ax HT h1 (by rw [hb]; rfl) HH.glob
        rw [hb] at hv
        obtain ⟨vs,hvs,hv'⟩:=er hv
        obtain ⟨u,hu',hrun⟩:=partA_ok T he hvs hr w
        rw [hv',hv2]
        refine ai (v:=u) (w':=w) ?_ (P.same HH qq hu')
        unfold Instr.index asIntOf
        simp only [Sem.run_bind,pure,Sem.run,Result.andThen_ok,run_underlying hu]
        rw [if_pos (by constructor <;> simp only [Int.ofNat_eq_natCast] <;> omega)]
        simp only [Sem.run_bind,Result.andThen_ok,bq T he]
        exact hrun
    · cases hr
  · cases hr
theorem tup_conc {E:Env} {cs:List AV} {v:Value} (h:af E (.tup cs)=some v):∃ vs,ad E cs=some vs∧v=.tuple vs.toArray:=by
  simp only [af,Option.map_eq_some_iff] at h
  obtain ⟨l,hl,rfl⟩:=h
  exact ⟨l,hl,rfl⟩
theorem extract_ok {p:Par} {x:Operand} {y:Opd} {ix:Nat} (hx:bk x=some y) {o:Oper} (ho:o.op=.extract x ix):bC p (ao ix y) o:=by
  intro cx n keep E w0 tm h a w Q K _ HT HH k P
  obtain ⟨r,hr,qq⟩:=aV k
  have hex:execOp a.eval o=(do let x ← Instr.extract (a.eval x) ix; pure (Next.value x)):=by unfold execOp; rw [ho]
  rw [hex]
  unfold extractA at hr
  split at hr
  · rename_i vs he
    rw [bR] at hr
    have hv:=ax HT hx (by rw [he]; rfl) HH.glob
    rw [he] at hv
    obtain ⟨us,hus,hv'⟩:=tup_conc hv
    obtain ⟨u,hu,hi⟩:=c9 hus hr
    rw [hv']
    refine ai (v:=u) (w':=w) ?_ (P.same HH qq hu)
    unfold Instr.extract
    simp [hi,pure]
  · cases hr
theorem natOr_some {d n:Nat} {x:Option AV} (h:gi d x=some n):(x=none∧n=d) ∨ ∃ v,x=some v∧asNat v=some n:=by
  unfold gi at h
  split at h
  · cases h; exact .inl ⟨rfl,rfl⟩
  · exact .inr ⟨_,rfl,h⟩
theorem cOpt_ev {n : Nat} {keep : List Nat} {E : Env} {tm : Tm} {a : Act} (H : TmOk n keep E tm a.tmps) (G : ∀ b, b < 1000 → E.σ b = some (b, 0)) {x : Option Operand} {y : Option Opd} (h : cOpt x = some y) {d m : Nat} (hm : gi d (evo tm y) = some m) :
    (x=none∧m=d) ∨ ∃ z k,x=some z∧a.eval z=.int k (Int.ofNat m):=by
  unfold cOpt at h
  cases x with
  | none =>
    cases h
    rcases natOr_some hm with ⟨_,rfl⟩ | ⟨v,hv,_⟩
    · exact .inl ⟨rfl,rfl⟩
    · cases hv
  | some z =>
    simp only [Option.map_eq_some_iff] at h
    obtain ⟨u,hu,rfl⟩:=h
    rcases natOr_some hm with ⟨hv,_⟩ | ⟨v,hv,hn⟩
    · cases hv
    · obtain ⟨kk,hk⟩:=dK hn
      have:ev tm u=v:=by simp only [evo,Option.some.injEq] at hv; exact hv
      exact .inr ⟨z,kk,rfl,bJ H hu (by rw [this,hk]; rfl) G⟩
theorem dp {P:Program} {v:Value} {k:IntKind} {m y:Nat} (hv:v=.int k (Int.ofNat m)) (h:m≤y) (c:BoundsCode) (w:World):(Instr.sliceBound v y c).run P w=.ok m w:=by
  subst hv
  unfold Instr.sliceBound asIntOf
  simp only [Sem.run_bind,pure,Sem.run,Result.andThen_ok]
  rw [if_pos (by constructor <;> simp only [Int.ofNat_eq_natCast] <;> omega)]
  rfl
theorem fT {P : Program} {n : Nat} {keep : List Nat} {E : Env} {tm : Tm} {a : Act} (H : TmOk n keep E tm a.tmps) (G : ∀ b, b < 1000 → E.σ b = some (b, 0)) {lo hi mx : Option Operand} {ylo yhi ymx : Option Opd}
    (h1:cOpt lo=some ylo) (h2:cOpt hi=some yhi) (h3:cOpt mx=some ymx) {len cap l h m:Nat} (e1:gi 0 (evo tm ylo)=some l) (e2:gi len (evo tm yhi)=some h) (e3:gi cap (evo tm ymx)=some m)
    (hm:m≤cap) (hh:h≤m) (hl:l≤h) (hmx:mx.isSome=true→hi.isSome=true) (isS:Bool) (w:World) :
    (Instr.sliceBounds isS len cap (lo.map a.eval) (hi.map a.eval) (mx.map a.eval)).run P w=.ok (l,h,m) w:=by
  have M:=cOpt_ev H G h3 e3
  have HI:=cOpt_ev H G h2 e2
  have LO:=cOpt_ev H G h1 e1
  unfold Instr.sliceBounds
  rcases M with ⟨rfl,rfl⟩ | ⟨zm,km,rfl,hm'⟩
  · rcases HI with ⟨rfl,rfl⟩ | ⟨zh,kh,rfl,hh'⟩
    · rcases LO with ⟨rfl,rfl⟩ | ⟨zl,kl,rfl,hl'⟩
      · rfl
      · simp only [Option.map_none,Option.map_some,Sem.run_bind,pure,Sem.run,Result.andThen_ok,dp hl' hl]
    · rcases LO with ⟨rfl,rfl⟩ | ⟨zl,kl,rfl,hl'⟩
      · simp only [Option.map_none,Option.map_some,Sem.run_bind,pure,Sem.run,Result.andThen_ok,dp hh' hh]
      · simp only [Option.map_none,Option.map_some,Sem.run_bind,pure,Sem.run,Result.andThen_ok,dp hh' hh,dp hl' hl]
  · rcases HI with ⟨rfl,rfl⟩ | ⟨zh,kh,rfl,hh'⟩
    · cases hmx rfl
    · rcases LO with ⟨rfl,rfl⟩ | ⟨zl,kl,rfl,hl'⟩
      · simp only [Option.map_none,Option.map_some,Sem.run_bind,pure,Sem.run,Result.andThen_ok,dp hm' hm,dp hh' hh]
      · simp only [Option.map_some,Sem.run_bind,pure,Sem.run,Result.andThen_ok,dp hm' hm,dp hh' hh,dp hl' hl]
end Go.Sx
namespace Go.Sx
open Go.RowKit
theorem ic {b off size len cap : Nat} {lo hi mx : Option AV} {r : AV} (h : sliceIn b off size len cap lo hi mx = some r) :
    ∃ l h' m,gi 0 lo=some l∧gi len hi=some h'∧gi cap mx=some m∧m≤cap∧h'≤m∧l≤h'∧r=.slice b (if m=l then off else off + l * size) (h' - l) (m - l):=by
  unfold sliceIn at h
  split at h
  · rename_i m h' l e3 e2 e1
    cases hc:and (Nat.ble m cap) (and (Nat.ble h' m) (Nat.ble l h')) with
    | false=>rw [hc] at h; cases h
    | true =>
      rw [hc] at h
      obtain ⟨c1,c2⟩:=Bool.and_eq_true_iff.1 hc
      obtain ⟨c2,c3⟩:=Bool.and_eq_true_iff.1 c2
      refine ⟨l,h',m,e1,e2,e3,aD.1 c1,aD.1 c2,aD.1 c3,?_⟩
      simp only [cond_true,Option.some.injEq] at h
      subst h
      by_cases hml:m=l
      · subst hml; simp
      · rw [bW.2 hml,if_neg hml]; rfl
  · cases h
theorem slice_ok {p : Par} {ty : Nat → Option TI} (T : ct p.P ty) {t e : Nat} {i j : TI} (ht : ty t = some i) (hd : i.desc = .slice e) (he : ty e = some j) {x : Operand} {y : Opd} (hx : bk x = some y)
    {lo hi mx:Option Operand} {ylo yhi ymx:Option Opd} (h1:cOpt lo=some ylo) (h2:cOpt hi=some yhi) (h3:cOpt mx=some ymx) (hmx:mx.isSome=true→hi.isSome=true)
    {o:Oper} (ho:o.op=.slice t x lo hi mx):bC p (iSlice j.size y ylo yhi ymx) o:=by
  intro cx n keep E w0 tm h a w Q K _ HT HH k P
  obtain ⟨r,hr,qq⟩:=aV k
  have hex:execOp a.eval o=(do let x ← Instr.sliceAt t (a.eval x) (lo.map a.eval) (hi.map a.eval) (mx.map a.eval); pure (Next.value x)):=by unfold execOp; rw [ho]
  rw [hex]
  have hu:=T.und t i ht
  rw [hd] at hu
  have hrun : ∀ {b : Option Addr} {len cap l h' m : Nat}, a.eval x = .slice b len cap → (∀ w, (Instr.sliceBounds true len cap (lo.map a.eval) (hi.map a.eval) (mx.map a.eval)).run p.P w = .ok (l, h', m) w) →
      (Instr.sliceAt t (a.eval x) (lo.map a.eval) (hi.map a.eval) (mx.map a.eval)).run p.P w=.ok (.slice (if m=l then b else b.map (·.add (l * j.size))) (h' - l) (m - l)) w:=by
    intro b len cap l h' m hxv hb
    rw [hxv]
    unfold Instr.sliceAt
    simp only [Sem.run_bind,run_underlying hu,Result.andThen_ok]
    unfold Instr.slice
    simp only [Sem.run_bind,run_underlying hu,Result.andThen_ok,hb,bq T he]
    rfl
  unfold aslice at hr
  split at hr
  · rename_i b off len cap hb
    obtain ⟨l,h',m,e1,e2,e3,c1,c2,c3,rfl⟩:=ic hr
    have hv:=ax HT hx (by rw [hb]; rfl) HH.glob
    rw [hb] at hv
    obtain ⟨q,hq,hv'⟩:=b6 hv
    refine ai (hrun hv' (fT HT HH.glob h1 h2 h3 e1 e2 e3 c1 c2 c3 hmx true)) (P.same HH qq ?_)
    simp only [af,hq,Option.map_some,Option.some.injEq]
    by_cases hml:m=l
    · simp [hml]
    · simp [hml,gA,Nat.add_assoc]
  · rename_i b s z len hb
    cases hc:and (Nat.beq s j.size) (Nat.beq z 0) with
    | false=>rw [hc] at hr; cases hr
    | true =>
      rw [hc,cond_true] at hr
      obtain ⟨hs,hz⟩:=Bool.and_eq_true_iff.1 hc
      have hs:=aq.1 hs
      have hz:=aq.1 hz
      subst hs; subst hz
      have hv:=ax HT hx (by rw [hb]; rfl) HH.glob
      rw [hb] at hv
      obtain ⟨q,hq,hle,hv'⟩:=bt hv
      have hbase:(⟨q.1,q.2 + (if E.κ b=0 then 0 else 0 * j.size),none⟩:Addr)=⟨q.1,q.2,none⟩:=by simp
      rw [hbase,Nat.sub_zero] at hv'
      split at hr
      · rename_i hmn
        split at hr
        · rename_i h' l e2 e1
          cases hc2:and (Nat.ble h' len) (Nat.ble l h') with
          | false=>rw [hc2] at hr; cases hr
          | true =>
            rw [hc2] at hr; cases hr
            obtain ⟨c2,c3⟩:=Bool.and_eq_true_iff.1 hc2
            have c2:=aD.1 c2
            have c3:=aD.1 c3
            have e3:gi (E.κ b) (evo tm ymx)=some (E.κ b):=by rw [hmn]; rfl
            refine ai (hrun hv' (fT HT HH.glob h1 h2 h3 e1 e2 e3 (Nat.le_refl _) (by omega) c3 hmx true)) (P.same HH qq ?_)
            simp only [af]
            rw [if_pos (by omega),hq,Option.map_some,Option.some.injEq]
            by_cases hml:E.κ b=l
            · simp [hml]
            · simp [hml,gA]
        · cases hr
      · rename_i mv hmv
        obtain ⟨l,h',m,e1,e2,e3,c1,c2,c3,rfl⟩:=ic hr
        have e3':gi (E.κ b) (evo tm ymx)=some m:=by rw [hmv]; exact e3
        refine ai (hrun hv' (fT HT HH.glob h1 h2 h3 e1 e2 e3' (by omega) c2 c3 hmx true)) (P.same HH qq ?_)
        simp only [af,hq,Option.map_some,Option.some.injEq]
        by_cases hml:m=l
        · simp [hml]
        · simp [hml,gA]
  · rename_i hb
    split at hr
    · rename_i m h' l e3 e2 e1
      cases hc:and (Nat.beq m 0) (and (Nat.beq h' 0) (Nat.beq l 0)) with
      | false=>rw [hc] at hr; cases hr
      | true =>
        rw [hc] at hr; cases hr
        obtain ⟨c1,c2⟩:=Bool.and_eq_true_iff.1 hc
        obtain ⟨c2,c3⟩:=Bool.and_eq_true_iff.1 c2
        have c1:=aq.1 c1
        have c2:=aq.1 c2
        have c3:=aq.1 c3
        subst c1; subst c2; subst c3
        have hv':a.eval x=.slice none 0 0:=bJ HT hx (by rw [hb]; rfl) HH.glob
        refine ai (hrun hv' (fT HT HH.glob h1 h2 h3 e1 e2 e3 (Nat.le_refl _) (Nat.le_refl _) (Nat.le_refl _) hmx true)) (P.same HH qq ?_)
        simp [af]
    · cases hr
  · cases hr
theorem sliceA_ok {p : Par} {ty : Nat → Option TI} (T : ct p.P ty) {t e len : Nat} {i j : TI} (ht : ty t = some i) (hd : i.desc = .array len e) (he : ty e = some j) {x : Operand} {y : Opd} (hx : bk x = some y)
    {lo hi mx:Option Operand} {ylo yhi ymx:Option Opd} (h1:cOpt lo=some ylo) (h2:cOpt hi=some yhi) (h3:cOpt mx=some ymx) (hmx:mx.isSome=true→hi.isSome=true)
    {o:Oper} (ho:o.op=.slice t x lo hi mx):bC p (iSliceA j.size len y ylo yhi ymx) o:=by
  intro cx n keep E w0 tm h a w Q K _ HT HH k P
  obtain ⟨r,hr,qq⟩:=aV k
  have hex:execOp a.eval o=(do let x ← Instr.sliceAt t (a.eval x) (lo.map a.eval) (hi.map a.eval) (mx.map a.eval); pure (Next.value x)):=by unfold execOp; rw [ho]
  rw [hex]
  have hu:=T.und t i ht
  rw [hd] at hu
  unfold asliceA at hr
  split at hr
  · rename_i b off hb
    obtain ⟨l,h',m,e1,e2,e3,c1,c2,c3,rfl⟩:=ic hr
    have hv:=ax HT hx (by rw [hb]; rfl) HH.glob
    rw [hb] at hv
    obtain ⟨q,hq,hv'⟩:=cJ hv
    refine ai (v:=.slice (some (if m=l then (⟨q.1,q.2 + off,none⟩:Addr) else (⟨q.1,q.2 + off,none⟩:Addr).add (l * j.size))) (h' - l) (m - l)) (w':=w) ?_ (P.same HH qq ?_)
    · rw [hv']
      unfold Instr.sliceAt
      simp only [Sem.run_bind,run_underlying hu,Result.andThen_ok]
      unfold Instr.sureAddr
      simp only [pure,Sem.run,Result.andThen_ok,fT HT HH.glob h1 h2 h3 e1 e2 e3 c1 c2 c3 hmx false,bq T he]
    · simp only [af,hq,Option.map_some,Option.some.injEq]
      by_cases hml:m=l
      · simp [hml]
      · simp [hml,gA,Nat.add_assoc]
  · cases hr
theorem dL {P : Program} (a : Act) (o : Oper) {c : Call} {b : Builtin} (ho : o.op = .call c) (hc : c.callee = .builtin b) (w : World) :
    (execOp a.eval o).run P w=(builtin b c.argTypes o.type (c.args.map fun | .const _=>true | _=>false) (c.args.map a.eval)).run P w:=by
  unfold execOp
  rw [ho]
  simp only [Sem.run_bind]
  unfold resolve
  rw [hc]
  simp only [pure,Sem.run,Result.andThen_ok]
  rfl
theorem HeapOk.mapAt {p : Par} {E : Env} {h : Heap} {w0 : Base} {w : World} (H : HeapOk p E h w0 w) {b clock : Nat} {es : List (AV × AV × Nat)} (hg : h.get b = some (.map es clock)) {q : Nat × Nat} (hq : E.σ b = some q) :
    ∃ ms,q.2=0∧bG E es ms∧w.heap[q.1]?=some (.map ms.toArray clock):=by
  obtain ⟨c,ms,h1,h2,h3⟩:=H.obj b _ hg
  rw [hq] at h1; cases h1
  exact ⟨ms,rfl,h2,h3⟩
theorem HeapOk.rmapAt {p : Par} {E : Env} {h : Heap} {w0 : Base} {w : World} (H : HeapOk p E h w0 w) {b clock : Nat} {es : List (AV × AV × Nat)} (hg : h.get b = some (.rmap es clock)) {q : Nat × Nat} (hq : E.σ b = some q) :
    ∃ ms,q.2=0∧bG E es ms∧w.heap[q.1]?=some (.map ms.toArray clock):=by
  obtain ⟨c,ms,h1,h2,h3⟩:=H.obj b _ hg
  rw [hq] at h1; cases h1
  exact ⟨ms,rfl,h2,h3⟩
theorem concE_len {E:Env}:∀ {es:List (AV × AV × Nat)} {ms:List MapEntry},bG E es ms→ms.length=es.length
  | [],[],_=>rfl
  | _ :: es,_ :: ms,⟨_,_,_,h⟩=>by simp [concE_len h]
theorem dM {P:Program} {w:World} {c:Nat} {o:Obj} (h:w.heap[c]?=some o) (hn:∀ x y z,o ≠ .cells x y z):(getObj c).run P w=.ok o w:=by
  unfold getObj
  simp only [Sem.run,h]
theorem args_one {c:Call} {x:Operand} (h:c.args.toList=[x]) (a:Act):c.args.map a.eval=#[a.eval x]:=by
  have:c.args=#[x]:=by rw [← Array.toList_inj]; exact h
  rw [this]; simp
theorem dq {c:Call} {t:Nat} {ts:List Nat} (h:c.argTypes.toList=t :: ts):c.argTypes[0]?=some t:=by
  rw [← Array.getElem?_toList,h]; rfl
theorem run_lenS {P : Program} {ts : Array Nat} {t e : Nat} (h0 : ts[0]? = some t) (hu : P.underlying t = some (.slice e)) (ty : Nat) (b : Option Addr) (n cap : Nat) (w : World) :
    (Builtin.len_ ts ty #[.slice b n cap]).run P w=.ok (goInt n) w:=by
  unfold Builtin.len_
  simp only [h0,List.getElem?_toArray,List.getElem?_cons_zero,Sem.run_bind,run_underlying hu,Result.andThen_ok]
  rfl
theorem lenS_ok {p : Par} {ty : Nat → Option TI} (T : ct p.P ty) {c : Call} {t : Nat} {ts : List Nat} (hts : c.argTypes.toList = t :: ts) {i : TI} (ht : ty t = some i) {e : Nat} (hd : i.desc = .slice e)
    {x:Operand} (hxs:c.args.toList=[x]) {y:Opd} (hx:bk x=some y) (hb:c.callee=.builtin .len) {o:Oper} (ho:o.op=.call c):bC p (cO y) o:=by
  intro cx n keep E w0 tm h a w Q K _ HT HH k P
  obtain ⟨r,hr,qq⟩:=aV k
  rw [dL a o ho hb,args_one hxs]
  have hu:=T.und t i ht
  rw [hd] at hu
  unfold builtin
  simp only
  unfold alenS at hr
  split at hr
  · rename_i b off n' cap hb'
    cases hr
    have hv:=ax HT hx (by rw [hb']; rfl) HH.glob
    rw [hb'] at hv
    obtain ⟨q,hq,hv'⟩:=b6 hv
    rw [hv']
    exact ai (run_lenS (dq hts) hu _ _ _ _ w) (P.same HH qq rfl)
  · rename_i b s lo n' hb'
    cases hr
    have hv:=ax HT hx (by rw [hb']; rfl) HH.glob
    rw [hb'] at hv
    obtain ⟨q,hq,_,hv'⟩:=bt hv
    rw [hv']
    exact ai (run_lenS (dq hts) hu _ _ _ _ w) (P.same HH qq rfl)
  · rename_i i hb'
    cases hr
    have hv:=ax HT hx (by rw [hb']; rfl) HH.glob
    rw [hb'] at hv
    obtain ⟨p,n',c',hv',hn⟩:=eJ hv
    rw [hv']
    exact ai (run_lenS (dq hts) hu _ _ _ _ w) (P.same HH qq (by simp only [af,IE.den,hn]; rfl))
  · rename_i b i' hb'
    cases hr
    have hv:=ax HT hx (by rw [hb']; rfl) HH.glob
    rw [hb'] at hv
    obtain ⟨q,hq,h0,hv'⟩:=gc hv
    rw [hv']
    exact ai (run_lenS (dq hts) hu _ _ _ _ w) (P.same HH qq (by simp only [af,IE.den]; rw [Int.toNat_of_nonneg h0]; rfl))
  · rename_i hb'
    cases hr
    have hv:a.eval x=.slice none 0 0:=bJ HT hx (by rw [hb']; rfl) HH.glob
    rw [hv]
    exact ai (run_lenS (dq hts) hu _ _ _ _ w) (P.same HH qq rfl)
  · cases hr
theorem lenM_ok {p : Par} {ty : Nat → Option TI} (T : ct p.P ty) {c : Call} {t : Nat} {ts : List Nat} (hts : c.argTypes.toList = t :: ts) {i : TI} (ht : ty t = some i) {kt e : Nat} (hd : i.desc = .map kt e)
    {x:Operand} (hxs:c.args.toList=[x]) {y:Opd} (hx:bk x=some y) (hb:c.callee=.builtin .len) {o:Oper} (ho:o.op=.call c):bC p (iLenM y) o:=by
  intro cx n keep E w0 tm h a w Q K _ HT HH k P
  obtain ⟨r,hr,qq⟩:=aV k
  rw [dL a o ho hb,args_one hxs]
  have hu:=T.und t i ht
  rw [hd] at hu
  unfold builtin
  simp only
  unfold alenM at hr
  split at hr
  · rename_i hb'
    cases hr
    have hv:a.eval x=.map none:=bJ HT hx (by rw [hb']; rfl) HH.glob
    rw [hv]
    refine ai (v:=goInt 0) (w':=w) ?_ (P.same HH qq rfl)
    unfold Builtin.len_
    simp only [dq hts,List.getElem?_toArray,List.getElem?_cons_zero,Sem.run_bind,run_underlying hu,Result.andThen_ok]
    rfl
  · rename_i b hb'
    split at hr
    · rename_i es clock hg
      cases hr
      have hv:=ax HT hx (by rw [hb']; rfl) HH.glob
      rw [hb'] at hv
      obtain ⟨q,hq,hv'⟩:=cn hv
      obtain ⟨ms,h0,hms,hheap⟩:=HH.mapAt hg hq
      rw [hv']
      refine ai (v:=goInt es.length) (w':=w) ?_ (P.same HH qq (by rw [cM]; rfl))
      unfold Builtin.len_
      simp only [dq hts,List.getElem?_toArray,List.getElem?_cons_zero,Sem.run_bind,run_underlying hu,Result.andThen_ok]
      simp only [dM hheap (by simp),Result.andThen_ok,pure,Sem.run,List.size_toArray,concE_len hms]
    · rename_i es clock hg
      cases hr
      have hv:=ax HT hx (by rw [hb']; rfl) HH.glob
      rw [hb'] at hv
      obtain ⟨q,hq,hv'⟩:=cn hv
      obtain ⟨ms,h0,hms,hheap⟩:=HH.rmapAt hg hq
      rw [hv']
      refine ai (v:=goInt es.length) (w':=w) ?_ (P.same HH qq (by rw [cM]; rfl))
      unfold Builtin.len_
      simp only [dq hts,List.getElem?_toArray,List.getElem?_cons_zero,Sem.run_bind,run_underlying hu,Result.andThen_ok]
      simp only [dM hheap (by simp),Result.andThen_ok,pure,Sem.run,List.size_toArray,concE_len hms]
    · cases hr
  · cases hr
theorem lenA_ok {p : Par} {ty : Nat → Option TI} (T : ct p.P ty) {c : Call} {t : Nat} {ts : List Nat} (hts : c.argTypes.toList = t :: ts) {i : TI} (ht : ty t = some i) {len e : Nat} (hd : i.desc = .array len e)
    {x:Operand} (hxs:c.args.toList=[x]) (hb:c.callee=.builtin .len) {o:Oper} (ho:o.op=.call c):bC p (iLenA len) o:=by
  intro cx n keep E w0 tm h a w Q K _ HT HH k P
  rw [dL a o ho hb,args_one hxs]
  have hu:=T.und t i ht
  rw [hd] at hu
  unfold builtin
  simp only
  refine ai (v:=goInt len) (w':=w) ?_ (P.same HH k rfl)
  unfold Builtin.len_
  simp only [dq hts,List.getElem?_toArray,List.getElem?_cons_zero,Sem.run_bind,run_underlying hu,Result.andThen_ok]
  rfl
theorem max2_ok {a b c:AV} (h:max2 a b=some c) {E:Env} {u v:Value} (hu:af E a=some u) (hv:af E b=some v) (P:Program) (w:World):∃ x,af E c=some x∧(Builtin.max2 u v).run P w=.ok x w:=by
  unfold max2 at h
  split at h
  · rename_i k x k' y
    cases h
    simp only [af,Option.some.injEq] at hu hv
    subst hu; subst hv
    refine ⟨.int k (if y.den E.ρ > x.den E.ρ then y.den E.ρ else x.den E.ρ),?_,rfl⟩
    simp only [af,Option.some.injEq,Value.int.injEq,true_and]
    unfold mkMax
    split
    · rename_i m n'
      simp only [IE.den,ilt_eq]
      by_cases hc:m < n'
      · simp [hc]
      · simp [hc]
    · rfl
  · cases h
theorem min2_ok {a b c:AV} (h:min2 a b=some c) {E:Env} {u v:Value} (hu:af E a=some u) (hv:af E b=some v) (P:Program) (w:World):∃ x,af E c=some x∧(Builtin.min2 u v).run P w=.ok x w:=by
  unfold min2 at h
  split at h
  · rename_i k x k' y
    cases h
    simp only [af,Option.some.injEq] at hu hv
    subst hu; subst hv
    refine ⟨.int k (if y.den E.ρ < x.den E.ρ then y.den E.ρ else x.den E.ρ),?_,rfl⟩
    simp only [af,Option.some.injEq,Value.int.injEq,true_and]
    unfold mkMin
    split
    · rename_i m n'
      simp only [IE.den,ilt_eq]
      by_cases hc:n' < m
      · simp [hc]
      · simp [hc]
    · rfl
  · cases h
theorem foldA_ok {f : AV → AV → Option AV} {g : Value → Value → Sem Value} {P : Program} {w : World} {E : Env}
    (hf:∀ {a b c:AV},f a b=some c→∀ {u v:Value},af E a=some u→af E b=some v→∃ x,af E c=some x∧(g u v).run P w=.ok x w) :
    ∀ {l:List AV} {a c:AV} {u:Value} {vs:List Value},foldA f a l=some c→af E a=some u→ad E l=some vs→∃ x,af E c=some x∧(vs.foldlM g u).run P w=.ok x w
  | [],a,c,u,vs,h,hu,hvs=>by
    simp only [foldA,Option.some.injEq] at h
    subst h
    simp only [ad,Option.some.injEq] at hvs
    subst hvs
    exact ⟨u,hu,rfl⟩
  | b :: l,a,c,u,vs,h,hu,hvs=>by
    obtain ⟨v,r,hv,hr,rfl⟩:=ap.1 hvs
    simp only [foldA] at h
    cases hm:f a b with
    | none=>rw [hm] at h; cases h
    | some d =>
      rw [hm] at h
      obtain ⟨x,hx,hrun⟩:=hf hm hu hv
      obtain ⟨y,hy,hrun2⟩:=foldA_ok hf h hx hr
      exact ⟨y,hy,by simp only [List.foldlM_cons,Sem.run_bind,hrun,Result.andThen_ok,hrun2]⟩
theorem evs_notBad {f : AV → AV → Option AV} (hf : ∀ {a b c : AV}, f a b = some c → aT a = true ∧ aT b = true ∧ aT c = true) :
    ∀ {l:List AV} {a c:AV},foldA f a l=some c→l ≠ []→aT a=true∧bz aT l=true
  | [],a,c,_,hne=>absurd rfl hne
  | b :: l,a,c,h,_=>by
    simp only [foldA] at h
    cases hm:f a b with
    | none=>rw [hm] at h; cases h
    | some d =>
      rw [hm] at h
      obtain ⟨h1,h2,h3⟩:=hf hm
      refine ⟨h1,?_⟩
      rw [ga,List.all_cons,h2,Bool.true_and,← ga]
      cases l with
      | nil=>rfl
      | cons x l=>exact (evs_notBad hf h (by simp)).2
theorem max2_nb {a b c:AV} (h:max2 a b=some c):aT a=true∧aT b=true∧aT c=true:=by
  unfold max2 at h
  split at h
  · cases h; exact ⟨rfl,rfl,rfl⟩
  · cases h
theorem min2_nb {a b c:AV} (h:min2 a b=some c):aT a=true∧aT b=true∧aT c=true:=by
  unfold min2 at h
  split at h
  · cases h; exact ⟨rfl,rfl,rfl⟩
  · cases h
theorem fold_ok {p : Par} {f : AV → AV → Option AV} {g : Value → Value → Sem Value} {bi : Builtin} (hf : ∀ {a b c : AV}, f a b = some c → ∀ {E : Env} {u v : Value}, af E a = some u → af E b = some v → ∀ (P : Program) (w : World), ∃ x, af E c = some x ∧ (g u v).run P w = .ok x w)
    (hnb:∀ {a b c:AV},f a b=some c→aT a=true∧aT b=true∧aT c=true)
    (hbi:∀ (P:Program) ts t cs (x y:Value) (l:List Value) w,(builtin bi ts t cs (x :: y :: l).toArray).run P w=(do let v ← (y :: l).foldlM g x; pure (Next.value v):Sem Next).run P w)
    {c:Call} {ys:List Opd} (hys:eK c.args.toList=some ys) (h2:2≤ys.length) (hb:c.callee=.builtin bi) {o:Oper} (ho:o.op=.call c) :
    bC p (fun _ tm h=>mk2 h 26 (foldL f (evs tm ys))) o:=by
  intro cx n keep E w0 tm h a w Q K _ HT HH k P
  obtain ⟨r,hr,qq⟩:=aV k
  rw [dL a o ho hb]
  match ys,hys,h2,hr with
  | y1 :: y2 :: l,hys,_,hr =>
    have he:evs tm (y1 :: y2 :: l)=ev tm y1 :: ev tm y2 :: evs tm l:=rfl
    rw [he] at hr
    simp only [foldL] at hr
    obtain ⟨n1,n2⟩:=evs_notBad hnb hr (by simp)
    have hall:bz aT (evs tm (y1 :: y2 :: l))=true:=by rw [he,ga,List.all_cons,n1,← ga,n2]; rfl
    have hc:=fR HT HH.glob hys hall
    rw [he] at hc
    obtain ⟨u,r',hu,hr',e1⟩:=ap.1 hc
    obtain ⟨v,r'',hv,hr'',e2⟩:=ap.1 hr'
    obtain ⟨x,hx,hrun⟩:=foldA_ok (g:=g) (P:=p.P) (w:=w) (fun hm _ _ h1 h2=>hf hm h1 h2 p.P w) hr hu hr'
    have hargs:c.args.map a.eval=(u :: v :: r'').toArray:=by
      rw [← Array.toList_inj,Array.toList_map,e1,e2]
    rw [hargs,hbi]
    rw [e2] at hrun
    exact ai hrun (P.same HH qq hx)
theorem max_ok {p:Par} {c:Call} {ys:List Opd} (hys:eK c.args.toList=some ys) (h2:2≤ys.length) (hb:c.callee=.builtin .max) {o:Oper} (ho:o.op=.call c):bC p (iMax ys) o :=
  fold_ok (g:=Builtin.max2) (fun h _ _ _ hu hv P w=>max2_ok h hu hv P w) max2_nb (fun _ _ _ _ _ _ _ _=>rfl) hys h2 hb ho
theorem min_ok {p:Par} {c:Call} {ys:List Opd} (hys:eK c.args.toList=some ys) (h2:2≤ys.length) (hb:c.callee=.builtin .min) {o:Oper} (ho:o.op=.call c):bC p (iMin ys) o :=
  fold_ok (g:=Builtin.min2) (fun h _ _ _ hu hv P w=>min2_ok h hu hv P w) min2_nb (fun _ _ _ _ _ _ _ _=>rfl) hys h2 hb ho
end Go.Sx
namespace Go.Sx
open Go.RowKit
theorem rep_len {α:Type} (l:List α) (n:Nat):(rep l n).length=n * l.length:=by
  induction n with
  | zero=>simp [rep]
  | succ n ih=>simp [rep,ih,Nat.succ_mul,Nat.add_comm]
theorem rep_get {α:Type} (l:List α) (n i:Nat) (h:i < n * l.length):(rep l n)[i]?=l[i % l.length]?:=by
  induction n generalizing i with
  | zero=>omega
  | succ n ih =>
    simp only [rep]
    by_cases hi:i < l.length
    · rw [List.getElem?_append_left hi,Nat.mod_eq_of_lt hi]
    · rw [List.getElem?_append_right (by omega),ih (i - l.length) (by rw [Nat.succ_mul] at h; omega),Nat.mod_eq_sub_mod (a:=i) (by omega)]
theorem concL_rep {E:Env} {z:List AV} {vs:List Value} (h:ad E z=some vs) (n:Nat):ad E (rep z n)=some (rep vs n):=by
  induction n with
  | zero=>rfl
  | succ n ih=>exact ce h ih
theorem gu (zero:Array Value) (n:Nat):((Array.range (n * zero.size)).map (fun i=>zero[i % zero.size]!))=(rep zero.toList n).toArray:=by
  apply Array.ext'
  apply List.ext_getElem?
  intro i
  by_cases h:i < n * zero.size
  · have hz : 0 < zero.size := by
      rcases Nat.eq_zero_or_pos zero.size with e | e
      · rw [e] at h; omega
      · exact e
    have hm:i % zero.size < zero.size:=Nat.mod_lt _ hz
    rw [rep_get _ _ _ (by simpa using h)]
    simp [h,hm]
  · have:(rep zero.toList n)[i]?=none:=by rw [List.getElem?_eq_none]; rw [rep_len]; simpa using Nat.le_of_not_lt h
    rw [this,List.getElem?_eq_none]; simpa using Nat.le_of_not_lt h
theorem run_askRoom (P:Program) (n:Nat) (w:World):(askRoom n).run P w=.ok () w:=by
  unfold askRoom
  split <;> rfl
theorem fU {P : Program} {ty : Nat → Option TI} (T : ct P ty) {t : Nat} {i : TI} (ht : ty t = some i) {z : List AV} (hz : du i = some z) (E : Env) (w : World) :
    ∃ v,ad E z=some v.cells.toList∧(zeroValue t).run P w=.ok v w∧v.cells.size=i.size:=by
  obtain ⟨v,hv0,rfl,hok,hl⟩:=gr hz
  obtain ⟨u,hu,hrun⟩:=run_zero T ht hv0 E w
  have hc:=cU hu hok
  refine ⟨u,hc,hrun,?_⟩
  have:=bD hc
  simp at this
  omega
theorem rMkslice_holds {ρ : Rho} {h : Heap} {e bytes : Nat} {z : List AV} {l c : AV} {Q : AV × Heap → Prop} (k : (rMkslice h e z bytes l c).Holds ρ Q) :
    ∃ l' c',asNat l=some l'∧asNat c=some c'∧c'≤1000000∧bytes≤1000000∧l'≤c'∧Q (.slice h.next 0 l' c',h.new (.cells (rep z c') e true false)):=by
  unfold rMkslice at k
  split at k
  · rename_i l' c' e1 e2
    cases hc:and (Nat.ble c' 1000000) (and (Nat.ble bytes 1000000) (Nat.ble l' c')) with
    | false=>rw [hc] at k; exact k.elim
    | true =>
      rw [hc] at k
      obtain ⟨c1,c2⟩:=Bool.and_eq_true_iff.1 hc
      obtain ⟨c2,c3⟩:=Bool.and_eq_true_iff.1 c2
      exact ⟨l',c',e1,e2,aD.1 c1,aD.1 c2,aD.1 c3,k⟩
  · exact k.elim
theorem wrap_small {n:Nat} (h:n≤1000000):IntKind.i64.wrap (Int.ofNat n)=n:=by
  rw [IntKind.wrap_i64]; simp only [Int.ofNat_eq_natCast]; omega
theorem run_mkslice {P : Program} {ty : Nat → Option TI} (T : ct P ty) {t e : Nat} {i j : TI} (ht : ty t = some i) (hd : i.desc = .slice e) (he : ty e = some j) {z : List AV} (hz : du j = some z) (E : Env) (w : World) {k1 k2 : IntKind} {l c : Nat} (c1 : c ≤ 1000000) (c2 : j.bytes ≤ 1000000) (c3 : l ≤ c) :
    ∃ vs,ad E (rep z c)=some vs∧(Instr.makeSlice t (.int k1 (Int.ofNat l)) (.int k2 (Int.ofNat c))).run P w=.ok (.slice (some ⟨w.heap.size,0,none⟩) l c) (w.alloc (.cells vs.toArray e)):=by
  have hu:=T.und t i ht
  rw [hd] at hu
  obtain ⟨jj,hj1,hj2,hj3,_⟩:=T.info e j he
  obtain ⟨zv,hzv,hzrun,hzs⟩:=fU T he hz E w
  have hcells:ad E (rep z c)=some (rep zv.cells.toList c):=concL_rep hzv c
  refine ⟨_,hcells,?_⟩
  unfold Instr.makeSlice asInt asIntOf
  have hw1:=wrap_small (n:=l) (by omega)
  have hw2:=wrap_small c1
  have hb:¬ ((jj.bytes:Int) * (c:Int) > 2 ^ 48):=by
    rw [hj3]
    have h3:j.bytes * c≤1000000 * 1000000:=Nat.mul_le_mul c2 c1
    have h4:((j.bytes * c:Nat):Int)=(j.bytes:Int) * (c:Int):=Int.natCast_mul _ _
    rw [← h4]
    omega
  have hn:((decide ((c:Int) < 0) || decide ((jj.bytes:Int) * (c:Int) > 2 ^ 48)) || decide ((l:Int) < 0) || decide ((l:Int) > (c:Int)))=false:=by
    simp only [Bool.or_eq_false_iff,decide_eq_false_iff_not]
    refine ⟨⟨⟨by omega,hb⟩,by omega⟩,by omega⟩
  simp only [Sem.run_bind,pure,Sem.run,Result.andThen_ok,run_underlying hu,run_typeInfo w hj1,hw1,hw2]
  rw [if_neg (by rw [hn]; simp)]
  simp only [Sem.run_bind,Result.andThen_ok,run_askRoom,bq T he,Int.toNat_natCast]
  by_cases h0:c * j.size=0
  · rw [if_pos h0]
    simp only [Sem.run_bind,Sem.run,Result.andThen_ok]
    have hm:∀ f:Nat→Value,(Array.range 0).map f=#[]:=fun f=>by simp
    have hr:(rep zv.cells.toList c).toArray=#[]:=by
      rw [← gu,hzs,h0,hm]
    rw [hr,h0,hm]
    rfl
  · rw [if_neg h0]
    simp only [Sem.run_bind,Sem.run,Result.andThen_ok,hzrun]
    rw [← gu,hzs]
    rfl
theorem mkslice_ok {p : Par} {ty : Nat → Option TI} (T : ct p.P ty) {t e : Nat} {i j : TI} (ht : ty t = some i) (hd : i.desc = .slice e) (he : ty e = some j) {z : List AV} (hz : du j = some z) {x1 x2 : Operand} {y1 y2 : Opd}
    (h1:bk x1=some y1) (h2:bk x2=some y2) {o:Oper} (ho:o.op=.makeSlice t x1 x2):bC p (iMkslice e z j.bytes y1 y2) o:=by
  intro cx n keep E w0 tm h a w Q K _ HT HH k P
  obtain ⟨l,c,hl,hc,c1,c2,c3,qq⟩:=rMkslice_holds k
  have hex:execOp a.eval o=(do let x ← Instr.makeSlice t (a.eval x1) (a.eval x2); pure (Next.value x)):=by unfold execOp; rw [ho]
  rw [hex]
  obtain ⟨k1,hl'⟩:=dK hl
  obtain ⟨k2,hc'⟩:=dK hc
  have hv1:a.eval x1=.int k1 (Int.ofNat l):=bJ HT h1 (by rw [hl']; rfl) HH.glob
  have hv2:a.eval x2=.int k2 (Int.ofNat c):=bJ HT h2 (by rw [hc']; rfl) HH.glob
  obtain ⟨vs,hcells,hrun⟩:=run_mkslice (k1:=k1) (k2:=k2) T ht hd he hz E w c1 c2 c3
  refine ai (by rw [hv1,hv2]; exact hrun) ?_
  have:=HH.newCells (p:=p) hcells e 0
  exact P _ _ _ _ _ qq (Env.with_le (HH.fresh _ (Nat.le_refl _)) HH.nx _ _) this (by simp [af,Env.with_at])
theorem foldl_put (off : Nat) : ∀ (vs : List Value) (j : Nat) (cells : Array Value), off + j + vs.length ≤ cells.size →
    ((vs.zipIdx j).foldl (fun cs (q:Value × Nat)=>cs.setIfInBounds (off + q.2) q.1) cells).toList=cells.toList.take (off + j) ++ (vs ++ cells.toList.drop (off + j + vs.length))
  | [],j,cells,_=>by simp
  | v :: vs,j,cells,h=>by
    simp only [List.length_cons] at h
    rw [List.zipIdx_cons,List.foldl_cons,foldl_put off vs (j + 1) _ (by simp; omega)]
    have e:=list_seg_step cells.toList (off + j) v vs (by simp; omega)
    simpa [Array.toList_setIfInBounds,Nat.add_assoc,List.append_assoc] using e
theorem array_foldl_put (off : Nat) (vs : Array Value) (cells : Array Value) (h : off + vs.size ≤ cells.size) :
    (vs.zipIdx.foldl (fun cs (q:Value × Nat)=>cs.setIfInBounds (off + q.2) q.1) cells).toList=cells.toList.take off ++ (vs.toList ++ cells.toList.drop (off + vs.size)):=by
  have:=foldl_put off vs.toList 0 cells (by simpa using h)
  rw [← Array.foldl_toList,Array.toList_zipIdx]
  simpa using this
theorem fillA_cons (p : Nat × Nat × AV) (ps : List (Nat × Nat × AV)) (cs : List AV) : fillA (p :: ps) cs = cond (and (Nat.beq (lLen p.2.2.cellsOf) p.2.1) (dc p.2.2.cellsOf))
      (match gh cs p.1 p.2.2.cellsOf with
      | some cs'=>fillA ps cs'
      | none=>none) none:=rfl
theorem fill_ok {n : Nat} {keep : List Nat} {E : Env} {tm : Tm} {a : Act} (H : TmOk n keep E tm a.tmps) (G : ∀ b, b < 1000 → E.σ b = some (b, 0)) (place : Nat → Option (Nat × Nat)) :
    ∀ {l:List (Nat × Operand)} {ps:List (Nat × Nat × Opd)} {cs cs':List AV} {cl:List Value},eL place l=some ps→fillA (evp tm ps) cs=some cs'→ad E cs=some cl →
      ∃ cl',ad E cs'=some cl'∧Instr.fill place cl.toArray (l.map fun q=>(q.1,a.eval q.2))=some cl'.toArray
  | [],ps,cs,cs',cl,h,hf,hc=>by
    simp only [eL,Option.some.injEq] at h
    subst h
    have:cs'=cs:=(Option.some.inj hf).symm
    subst this
    exact ⟨cl,hc,rfl⟩
  | q :: l,ps,cs,cs',cl,h,hf,hc=>by
    simp only [eL] at h
    split at h
    · rename_i pl y r hpl hy hr
      cases h
      have he:evp tm ((pl.1,pl.2,y) :: r)=(pl.1,pl.2,ev tm y) :: evp tm r:=rfl
      rw [he,fillA_cons] at hf
      cases hb:and (Nat.beq (lLen (ev tm y).cellsOf) pl.2) (dc (ev tm y).cellsOf) with
      | false=>rw [hb] at hf; cases hf
      | true =>
        rw [hb,cond_true] at hf
        obtain ⟨b1,b2⟩:=Bool.and_eq_true_iff.1 hb
        rw [cM] at b1
        have b1:=aq.1 b1
        simp only at hf
        cases hp:gh cs pl.1 (ev tm y).cellsOf with
        | none=>rw [hp] at hf; cases hf
        | some cs1 =>
          rw [hp] at hf
          obtain ⟨hle,rfl⟩:=listPut_eq hp
          have hv:=ax H hy (cells_bad b2) G
          have hcs:=cU hv b2
          have hl1:=bD hcs
          have hl2:=bD hc
          have hc1:ad E (cs.take pl.1 ++ ((ev tm y).cellsOf ++ cs.drop (pl.1 + (ev tm y).cellsOf.length)))=some (cl.take pl.1 ++ ((a.eval q.2).cells.toList ++ cl.drop (pl.1 + (a.eval q.2).cells.size))):=by
            refine ce (fD hc _) (ce hcs ?_)
            have:(a.eval q.2).cells.size=(ev tm y).cellsOf.length:=by simpa using hl1
            rw [this]
            exact fE hc _
          obtain ⟨cl',h1,h2⟩:=fill_ok H G place hr hf hc1
          refine ⟨cl',h1,?_⟩
          have hsz:(a.eval q.2).cells.size=pl.2:=by simp at hl1; omega
          simp only [List.map_cons,Instr.fill,hpl]
          rw [if_neg (by simp only [ne_eq,hsz,not_true_eq_false,decide_false,Bool.false_or,decide_eq_true_eq,List.size_toArray]; simp at hl1; omega)]
          have e:=array_foldl_put pl.1 (a.eval q.2).cells cl.toArray (by simp at hl1 ⊢; omega)
          have e':((a.eval q.2).cells.zipIdx.foldl (fun cs (q:Value × Nat)=>cs.setIfInBounds (pl.1 + q.2) q.1) cl.toArray)=(cl.take pl.1 ++ ((a.eval q.2).cells.toList ++ cl.drop (pl.1 + (a.eval q.2).cells.size))).toArray:=by
            apply Array.ext'
            simpa using e
          rw [← h2,← e']
    · cases h
end Go.Sx
namespace Go.Sx
open Go.RowKit
theorem rBuild_holds {ρ:Rho} {h:Heap} {z:List AV} {ps:List (Nat × Nat × AV)} {Q:AV × Heap→Prop} (k:(rBuild h z ps).Holds ρ Q):∃ cs,fillA ps z=some cs∧Q (.agg cs,h):=by
  unfold rBuild at k
  cases hf:fillA ps z with
  | none=>rw [hf] at k; exact k.elim
  | some cs=>rw [hf] at k; exact ⟨cs,rfl,k⟩
theorem build_ok {p : Par} {ty : Nat → Option TI} (T : ct p.P ty) {t : Nat} {i : TI} (ht : ty t = some i) {z : List AV} (hz : du i = some z) {parts : Array (Nat × Operand)} {place : Nat → Option (Nat × Nat)} {ps : List (Nat × Nat × Opd)}
    (hp:eL place parts.toList=some ps) (hbuilt:∀ (v:Value) (l:List (Nat × Value)) (cs:Array Value),(∃ j,p.P.info? t=some j∧j.zero=some v)→Instr.fill place v.cells l=some cs→p.P.built t l=some cs)
    {o:Oper} (ho:o.op=.build t parts):bC p (aK z ps) o:=by
  intro cx n keep E w0 tm h a w Q K _ HT HH k P
  obtain ⟨cs,hf,q⟩:=rBuild_holds k
  have hex:execOp a.eval o=(do let x ← Instr.build t (parts.map fun (i,x)=>(i,a.eval x)); pure (Next.value x)):=by unfold execOp; rw [ho]
  rw [hex]
  obtain ⟨j,hj1,_,_,hj4⟩:=T.info t i ht
  obtain ⟨v,hv0,rfl,hok,_⟩:=gr hz
  obtain ⟨u,hu1,hu2⟩:=hj4 v hv0
  have hcs:=cU (conc_ofV E u v hu2) hok
  obtain ⟨cl,hcl,hfill⟩:=fill_ok HT HH.glob place hp hf hcs
  have hl:(parts.map fun (i,x)=>(i,a.eval x)).toList=parts.toList.map fun q=>(q.1,a.eval q.2):=by simp
  rw [show (u.cells.toList).toArray=u.cells from by simp] at hfill
  have hb:=hbuilt u _ _ ⟨j,hj1,hu1⟩ hfill
  rw [← hl] at hb
  exact ai (run_build w t _ _ hb) (P.same HH q (by simp [af,hcl]))
theorem rBslice_holds {ρ : Rho} {h : Heap} {e len : Nat} {cs : List AV} {ps : List (Nat × Nat × AV)} {Q : AV × Heap → Prop} (k : (rBslice h e cs len ps).Holds ρ Q) :
    ∃ cs',fillA ps cs=some cs'∧Q (.slice h.next 0 len len,h.new (.cells cs' e true false)):=by
  unfold rBslice at k
  cases hf:fillA ps cs with
  | none=>rw [hf] at k; exact k.elim
  | some cs=>rw [hf] at k; exact ⟨cs,rfl,k⟩
theorem bslice_ok {p : Par} {ty : Nat → Option TI} (T : ct p.P ty) {t e len : Nat} {i j : TI} (ht : ty t = some i) (hd : i.desc = .slice e) (he : ty e = some j) {z : List AV} (hz : du j = some z) (hlen : len * j.size ≤ 1000000)
    {parts:Array (Nat × Operand)} {ps:List (Nat × Nat × Opd)} (hp:eL (fun n=>some (n * j.size,j.size)) parts.toList=some ps) {o:Oper} (ho:o.op=.buildSlice t len parts):bC p (cN e z len ps) o:=by
  intro cx n keep E w0 tm h a w Q K _ HT HH k P
  obtain ⟨cs,hf,q⟩:=rBslice_holds k
  have hex:execOp a.eval o=(do let x ← Instr.buildSlice t len (parts.map fun (i,x)=>(i,a.eval x)); pure (Next.value x)):=by unfold execOp; rw [ho]
  rw [hex]
  have hu:=T.und t i ht
  rw [hd] at hu
  obtain ⟨zv,hzv,hzrun,hzs⟩:=fU T he hz E w
  have hcells:ad E (rep z len)=some (rep zv.cells.toList len):=concL_rep hzv len
  obtain ⟨cl,hcl,hfill⟩:=fill_ok HT HH.glob _ hp hf hcells
  have hl:(parts.map fun (i,x)=>(i,a.eval x)).toList=parts.toList.map fun q=>(q.1,a.eval q.2):=by simp
  refine ai (v:=.slice (some ⟨w.heap.size,0,none⟩) len len) (w':=w.alloc (.cells cl.toArray e)) ?_ ?_
  · unfold Instr.buildSlice
    simp only [Sem.run_bind,run_underlying hu,Result.andThen_ok,bq T he]
    rw [if_neg (by omega)]
    rw [hl]
    have hz':∀ x:Array Value,x=zv.cells ∨ (x=#[]∧len * j.size=0)→((Array.range (len * j.size)).map fun i=>x[i % x.size]!)=(rep zv.cells.toList len).toArray:=by
      rintro x (rfl | ⟨rfl,h0⟩)
      · rw [← hzs,gu]
      · rw [← gu,hzs,h0]; simp
    by_cases h0:len * j.size=0
    · rw [if_pos h0]
      simp only [Sem.run_bind,pure,Sem.run,Result.andThen_ok]
      rw [hz' #[] (.inr ⟨rfl,h0⟩),hfill]
      rfl
    · rw [if_neg h0]
      simp only [Sem.run_bind,pure,Sem.run,Result.andThen_ok,hzrun]
      rw [hz' zv.cells (.inl rfl),hfill]
      rfl
  · have:=HH.newCells (p:=p) hcl e 0
    exact P _ _ _ _ _ q (Env.with_le (HH.fresh _ (Nat.le_refl _)) HH.nx _ _) this (by simp [af,Env.with_at])
end Go.Sx
