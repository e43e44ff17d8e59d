/- A SYMBOLIC EVALUATOR OF COMPILED CODE: trees, symbolic numbers, values, heaps, instructions, code, calls. No theorem stands here. -/
import GoSem.Machine.Exec
/-! A SYMBOLIC EVALUATOR OF COMPILED CODE: trees, symbolic numbers, values, heaps, instructions, code, calls. No theorem stands here. -/
namespace Go.Sx

/-! ## Trees -/
inductive PT (α : Type) where
  | nil
  | node (v : Option α) (l r : PT α)

noncomputable def PT.get {α : Type} (t : PT α) : Nat → Option α :=
  @PT.rec α (fun _ => Nat → Option α) (fun _ => none)
    (fun v _ _ ihl ihr k => cond (Nat.beq k 0) v (cond (Nat.beq (Nat.mod k 2) 1) (ihl (Nat.div (Nat.pred k) 2)) (ihr (Nat.div (Nat.pred k) 2)))) t

noncomputable def PT.setF {α : Type} (a : α) (n : Nat) : PT α → Nat → PT α :=
  @Nat.rec (fun _ => PT α → Nat → PT α) (fun t _ => t)
    (fun _ ih t k => @PT.rec α (fun _ => PT α)
      (cond (Nat.beq k 0) (.node (some a) .nil .nil)
        (cond (Nat.beq (Nat.mod k 2) 1) (.node none (ih .nil (Nat.div (Nat.pred k) 2)) .nil) (.node none .nil (ih .nil (Nat.div (Nat.pred k) 2)))))
      (fun v l r _ _ => cond (Nat.beq k 0) (.node (some a) l r)
        (cond (Nat.beq (Nat.mod k 2) 1) (.node v (ih l (Nat.div (Nat.pred k) 2)) r) (.node v l (ih r (Nat.div (Nat.pred k) 2))))) t) n

noncomputable def listGet {α : Type} (l : List α) : Nat → Option α :=
  @List.rec α (fun _ => Nat → Option α) (fun _ => none) (fun a _ ih k => cond (Nat.beq k 0) (some a) (ih (Nat.pred k))) l

noncomputable def lLen {α : Type} (l : List α) : Nat := @List.rec α (fun _ => Nat) 0 (fun _ _ ih => Nat.succ ih) l

noncomputable def lApp {α : Type} (l m : List α) : List α := @List.rec α (fun _ => List α) m (fun a _ ih => a :: ih) l

noncomputable def lDrop {α : Type} (l : List α) : Nat → List α :=
  @List.rec α (fun _ => Nat → List α) (fun _ => []) (fun a l ih k => cond (Nat.beq k 0) (a :: l) (ih (Nat.pred k))) l

noncomputable def lTake {α : Type} (l : List α) : Nat → List α :=
  @List.rec α (fun _ => Nat → List α) (fun _ => []) (fun a _ ih k => cond (Nat.beq k 0) [] (a :: ih (Nat.pred k))) l

noncomputable def lAll {α : Type} (p : α → Bool) (l : List α) : Bool := @List.rec α (fun _ => Bool) true (fun a _ ih => cond (p a) ih false) l

noncomputable def lMap {α β : Type} (f : α → β) (l : List α) : List β := @List.rec α (fun _ => List β) [] (fun a _ ih => f a :: ih) l

noncomputable def lFind {α : Type} (l : List (Nat × α)) (k : Nat) : Option α :=
  @List.rec (Nat × α) (fun _ => Option α) none (fun p _ ih => cond (Nat.beq p.1 k) (some p.2) ih) l

noncomputable def PT.set {α : Type} (t : PT α) (k : Nat) (a : α) : PT α := PT.setF a (Nat.succ k) t k

/-! ## Symbolic numbers and truth values -/
inductive IE where
  | lit (n : Int)
  | var (i : Nat)
  | bin (op : BinOp) (k : IntKind) (a b : IE)
  | conv (k : IntKind) (a : IE)
  | mx (a b : IE)
  | mn (a b : IE)
  | app (f : Nat) (a b c : IE)

inductive BE where
  | lit (b : Bool)
  | var (i : Nat)
  | not (a : BE)
  | and (a b : BE)
  | cmp (op : BinOp) (a b : IE)
  | iff (a b : BE)
  | app (f : Nat) (a b c : IE)

noncomputable def inI64 (n : Int) : Bool :=
  match n with
  | .ofNat m => Nat.ble m 9223372036854775807
  | .negSucc m => Nat.ble m 9223372036854775807

noncomputable def isI64 (k : IntKind) : Bool :=
  match k with
  | .i64 => true
  | _ => false

noncomputable def wrapL (k : IntKind) (n : Int) : Int := cond (and (isI64 k) (inI64 n)) n (k.wrap n)

noncomputable def ilt (x y : Int) : Bool :=
  match x, y with
  | .ofNat m, .ofNat n => Nat.ble (Nat.succ m) n
  | .ofNat _, .negSucc _ => false
  | .negSucc _, .ofNat _ => true
  | .negSucc m, .negSucc n => Nat.ble (Nat.succ n) m

noncomputable def ieq (x y : Int) : Bool :=
  match x, y with
  | .ofNat m, .ofNat n => Nat.beq m n
  | .negSucc m, .negSucc n => Nat.beq m n
  | _, _ => false

noncomputable def litBits (op : BinOp) (k : IntKind) (x y : Int) : Option Int :=
  match op with
  | .and => some (k.wrap (BitVec.ofInt k.bits x &&& BitVec.ofInt k.bits y).toNat)
  | .or => some (k.wrap (BitVec.ofInt k.bits x ||| BitVec.ofInt k.bits y).toNat)
  | .xor => some (k.wrap (BitVec.ofInt k.bits x ^^^ BitVec.ofInt k.bits y).toNat)
  | .andNot => some (k.wrap (BitVec.ofInt k.bits x &&& ~~~(BitVec.ofInt k.bits y)).toNat)
  | _ => none

noncomputable def litBin (op : BinOp) (k : IntKind) (x y : Int) : Option Int :=
  match op with
  | .add => some (wrapL k (Int.add x y))
  | .sub => some (wrapL k (Int.sub x y))
  | .mul => some (wrapL k (Int.mul x y))
  | .quo => cond (ieq y 0) none (some (wrapL k (x.tdiv y)))
  | .rem => cond (ieq y 0) none (some (x.tmod y))
  | op => litBits op k x y

noncomputable def litShift (op : BinOp) (k : IntKind) (x y : Int) : Option Int :=
  cond (ilt y 0) none
  (match op with
  | .shl => some (k.wrap (x * 2 ^ (min y.toNat k.bits)))
  | .shr => some (x.fdiv (2 ^ (min y.toNat k.bits)))
  | _ => none)

noncomputable def litCmp (op : BinOp) (x y : Int) : Option Bool :=
  match op with
  | .eql => some (ieq x y)
  | .neq => some (Bool.not (ieq x y))
  | .lss => some (ilt x y)
  | .leq => some (Bool.not (ilt y x))
  | .gtr => some (ilt y x)
  | .geq => some (Bool.not (ilt x y))
  | _ => none

noncomputable def isCmp (op : BinOp) : Bool :=
  match op with
  | .eql => true
  | .neq => true
  | .lss => true
  | .leq => true
  | .gtr => true
  | .geq => true
  | _ => false

noncomputable def isArith (op : BinOp) : Bool :=
  match op with
  | .add => true
  | .sub => true
  | .mul => true
  | _ => false

noncomputable def isDiv (op : BinOp) : Bool :=
  match op with
  | .quo => true
  | .rem => true
  | _ => false

noncomputable def nonZero (b : IE) : Bool :=
  match b with
  | .lit y => Bool.not (ieq y 0)
  | _ => false

noncomputable def mkCmp (op : BinOp) (a b : IE) : Option BE :=
  match a, b with
  | .lit x, .lit y => (litCmp op x y).map .lit
  | a, b => cond (isCmp op) (some (.cmp op a b)) none

noncomputable def mkBin (op : BinOp) (k : IntKind) (a b : IE) : Option IE :=
  match a, b with
  | .lit x, .lit y => (litBin op k x y).map .lit
  | a, b => cond (isArith op) (some (.bin op k a b)) (cond (and (isDiv op) (nonZero b)) (some (.bin op k a b)) none)

noncomputable def mkConv (k : IntKind) (a : IE) : IE :=
  match a with
  | .lit n => .lit (wrapL k n)
  | a => .conv k a

noncomputable def mkMax (a b : IE) : IE :=
  match a, b with
  | .lit x, .lit y => .lit (cond (ilt x y) y x)
  | a, b => .mx a b

noncomputable def mkMin (a b : IE) : IE :=
  match a, b with
  | .lit x, .lit y => .lit (cond (ilt y x) y x)
  | a, b => .mn a b

noncomputable def BE.mkAnd (a b : BE) : BE :=
  match a with
  | .lit c => cond c b (.lit false)
  | a => .and a b

noncomputable def BE.mkNot (a : BE) : BE :=
  match a with
  | .lit b => .lit (Bool.not b)
  | b => .not b

noncomputable def BE.mkIff (a b : BE) : BE :=
  match a, b with
  | .lit x, .lit y => .lit (x == y)
  | a, b => .iff a b

/-! ## Values, objects, heaps -/
inductive AV where
  | bool (b : BE)
  | int (k : IntKind) (e : IE)
  | ptr (b off : Nat)
  | nilptr
  | slice (b off len cap : Nat)
  | sliceX (b size lo len : Nat)
  | sliceU (i : Nat)
  | sliceV (b i : Nat)
  | ptrV (b i size off : Nat) (e : IE)
  | nilslice
  | map (b : Nat)
  | nilmap
  | func (fn : Fn) (first captured : List AV)
  | yieldF (l : Nat)
  | nilFunc
  | agg (cs : List AV)
  | tup (vs : List AV)
  | opq (i : Nat)
  | bad

noncomputable def undefA : AV := .tup []

inductive Opd where
  | t (n : Nat)
  | c (v : AV)

/-- what is compared of two values: the cells from the first number on -/
inductive Leaf where
  | int | bool | nilS | nilM | nilP | nilF

inductive Ex where
  | norm
  | exit (id : Nat)
  | ret

inductive AObj where
  | cells (cs : List AV) (elem : TypeId) (own ext : Bool)
  | map (es : List (AV × AV × Nat)) (clock : Nat)
  | rmap (es : List (AV × AV × Nat)) (clock : Nat)
  | ucells (i : Nat) (ks : List Bool)
  | loop (st : LoopState) (pend : Ex) (fn : FuncId) (tmps : PT AV) (params : List Nat) (code : Nat) (defers : Nat)
  | defd (there : Bool)
  | resv
  | dead

structure Heap where
  objs : PT AObj
  next : Nat

noncomputable def Heap.get (h : Heap) (b : Nat) : Option AObj := h.objs.get b
noncomputable def Heap.put (h : Heap) (b : Nat) (o : AObj) : Heap := ⟨h.objs.set b o, h.next⟩
noncomputable def Heap.new (h : Heap) (o : AObj) : Heap := ⟨h.objs.set h.next o, Nat.succ h.next⟩

/-! ## Outcomes -/
inductive T (α : Type) where
  | ret (a : α)
  | br (c : BE) (t f : T α)
  | fail (why : Nat)

noncomputable def T.bind {α β : Type} (t : T α) (k : α → T β) : T β :=
  @T.rec α (fun _ => T β) k (fun c _ _ x y => .br c x y) (fun w => .fail w) t

noncomputable def T.ite {α : Type} (c : BE) (t f : T α) : T α :=
  match c with
  | .lit b => cond b t f
  | c => .br c t f

noncomputable def T.of {α : Type} (why : Nat) (o : Option α) : T α :=
  match o with
  | some a => .ret a
  | none => .fail why

noncomputable def mk2 (h : Heap) (why : Nat) (o : Option AV) : T (AV × Heap) :=
  match o with
  | some v => .ret (v, h)
  | none => .fail why

/-! ## Operands -/
/-- a frame's slots: those of the region that runs, the last one first; and those that are kept -/
structure Tm where
  loc : List (Nat × AV)
  tree : PT AV

noncomputable def Tm.look (tm : Tm) (n : Nat) : Option AV :=
  match lFind tm.loc n with
  | some v => some v
  | none => tm.tree.get n


noncomputable def ev (tm : Tm) (x : Opd) : AV :=
  match x with
  | .t n => (match tm.look n with
    | some v => v
    | none => .bad)
  | .c v => v

/-! ## Cells -/
noncomputable def AV.cellsOf (v : AV) : List AV :=
  match v with
  | .agg cs => cs
  | v => [v]

noncomputable def okCell (v : AV) : Bool :=
  match v with
  | .agg _ => false
  | .tup _ => false
  | .opq _ => false
  | .bad => false
  | _ => true

noncomputable def notBad (v : AV) : Bool :=
  match v with
  | .bad => false
  | _ => true

/-- 'n' cells from 'off' on; none: there are not so many. -/
noncomputable def listSub {α : Type} (l : List α) (off n : Nat) : Option (List α) :=
  cond (Nat.ble (Nat.add off n) (lLen l)) (some (lTake (lDrop l off) n)) none

/-- the cells from 'off' on overwritten; none: there are not so many. -/
noncomputable def listPut {α : Type} (l : List α) (off : Nat) (xs : List α) : Option (List α) :=
  cond (Nat.ble (Nat.add off (lLen xs)) (lLen l)) (some (lApp (lTake l off) (lApp xs (lDrop l (Nat.add off (lLen xs)))))) none

noncomputable def Heap.cells (h : Heap) (b : Nat) : Option (List AV) :=
  match h.get b with
  | some (.cells cs _ _ _) => some cs
  | _ => none

noncomputable def cellU (i off : Nat) (e : IE) (k : Bool) : AV := cond k (.bool (.app (Nat.add 1000 i) e (.lit (Int.ofNat off)) (.lit 0))) (.int .i64 (.app (Nat.add 1000 i) e (.lit (Int.ofNat off)) (.lit 0)))
noncomputable def cellsU (i : Nat) (e : IE) : List Bool → Nat → List AV
  | [], _ => []
  | k :: ks, off => cellU i off e k :: cellsU i e ks (Nat.succ off)

noncomputable def aload (h : Heap) (a : AV) : Option AV :=
  match a with
  | .ptr b off => (match h.cells b with
    | some cs => listGet cs off
    | none => none)
  | .ptrV b i size off e => (match h.get b with
    | some (.ucells i' ks) => cond (and (Nat.beq i i') (Nat.beq size (lLen ks))) (match listGet ks off with
      | some k => some (cellU i off e k)
      | none => none) none
    | _ => none)
  | _ => none

noncomputable def aloadN (n : Nat) (h : Heap) (a : AV) : Option AV :=
  match a with
  | .ptr b off => (match h.cells b with
    | some cs => (listSub cs off n).map .agg
    | none => none)
  | .ptrV b i size off e => (match h.get b with
    | some (.ucells i' ks) => cond (and (Nat.beq i i') (Nat.beq size (lLen ks))) (match listSub ks off n with
      | some l => some (.agg (cellsU i e l off))
      | none => none) none
    | _ => none)
  | _ => none

noncomputable def allOk (l : List AV) : Bool := lAll okCell l

noncomputable def astoreC (n : Nat) (h : Heap) (b off : Nat) (vs : List AV) : Option Heap :=
  match h.get b with
  | some (.cells cs e own x) =>
    cond (and own (and (Nat.beq (lLen vs) n) (allOk vs)))
      (match listPut cs off vs with
      | some cs' => some (h.put b (.cells cs' e true x))
      | none => none) none
  | _ => none

noncomputable def astore (n : Nat) (h : Heap) (a v : AV) : Option Heap :=
  match a with
  | .ptr b off => astoreC n h b off v.cellsOf
  | _ => none

noncomputable def asNat (v : AV) : Option Nat :=
  match v with
  | .int _ (.lit (.ofNat n)) => some n
  | _ => none

noncomputable def kindEq (j k : IntKind) : Bool :=
  match j, k with
  | .i8, .i8 => true
  | .i16, .i16 => true
  | .i32, .i32 => true
  | .i64, .i64 => true
  | .u8, .u8 => true
  | .u16, .u16 => true
  | .u32, .u32 => true
  | .u64, .u64 => true
  | _, _ => false

/-! ## Equality -/
noncomputable def eqLeaf (l : Leaf) (x y : AV) : Option BE :=
  match l with
  | .int => (match x, y with
    | .int k a, .int k' b => cond (kindEq k k') (mkCmp .eql a b) none
    | _, _ => none)
  | .bool => (match x, y with
    | .bool a, .bool b => some (a.mkIff b)
    | _, _ => none)
  | .nilS => (match x, y with
    | .nilslice, .nilslice => some (.lit true)
    | .nilslice, .slice _ _ _ _ => some (.lit false)
    | .nilslice, .sliceX _ _ _ _ => some (.lit false)
    | .slice _ _ _ _, .nilslice => some (.lit false)
    | .sliceX _ _ _ _, .nilslice => some (.lit false)
    | _, _ => none)
  | .nilM => (match x, y with
    | .nilmap, .nilmap => some (.lit true)
    | .nilmap, .map _ => some (.lit false)
    | .map _, .nilmap => some (.lit false)
    | _, _ => none)
  | .nilP => (match x, y with
    | .nilptr, .nilptr => some (.lit true)
    | .nilptr, .ptr _ _ => some (.lit false)
    | .ptr _ _, .nilptr => some (.lit false)
    | _, _ => none)
  | .nilF => (match x, y with
    | .nilFunc, .nilFunc => some (.lit true)
    | .nilFunc, .func _ _ _ => some (.lit false)
    | .func _ _ _, .nilFunc => some (.lit false)
    | .nilFunc, .yieldF _ => some (.lit false)
    | .yieldF _, .nilFunc => some (.lit false)
    | _, _ => none)

noncomputable def eqCells (xs ys : List AV) (ls : List (Nat × Leaf)) : Option BE :=
  @List.rec (Nat × Leaf) (fun _ => Option BE) (some (.lit true))
    (fun p _ ih => match listGet xs p.1, listGet ys p.1 with
      | some x, some y => (match eqLeaf p.2 x y with
        | some (.lit c) => cond c ih (some (.lit false))
        | some c => (match ih with
          | some d => some (.and c d)
          | none => none)
        | none => none)
      | _, _ => none) ls

/-- 'whole': both are aggregates. -/
noncomputable def eqV (whole : Bool) (n : Nat) (ls : List (Nat × Leaf)) (x y : AV) : Option BE :=
  cond whole
    (match x, y with
    | .agg xs, .agg ys => cond (and (Nat.beq (lLen xs) n) (Nat.beq (lLen ys) n)) (eqCells xs ys ls) none
    | _, _ => none)
    (match x, y with
    | .agg _, _ => none
    | _, .agg _ => none
    | x, y => eqCells [x] [y] ls)

/-! ## Operations without memory -/
noncomputable def aarith (op : BinOp) (x y : AV) : Option AV :=
  match x, y with
  | .int k a, .int k' b => cond (kindEq k k') (match mkBin op k a b with
    | some e => some (.int k e)
    | none => none) none
  | _, _ => none

noncomputable def acmp (op : BinOp) (x y : AV) : Option AV :=
  match x, y with
  | .int k a, .int k' b => cond (kindEq k k') (match mkCmp op a b with
    | some e => some (.bool e)
    | none => none) none
  | _, _ => none

noncomputable def ashift (op : BinOp) (x y : AV) : Option AV :=
  match x, y with
  | .int k (.lit a), .int _ (.lit b) => (match litShift op k a b with
    | some n => some (.int k (.lit n))
    | none => none)
  | _, _ => none

noncomputable def aeq (ng whole : Bool) (n : Nat) (ls : List (Nat × Leaf)) (x y : AV) : Option AV :=
  match eqV whole n ls x y with
  | some b => some (.bool (cond ng b.mkNot b))
  | none => none

noncomputable def anot (x : AV) : Option AV :=
  match x with
  | .bool b => some (.bool b.mkNot)
  | _ => none

noncomputable def aneg (x : AV) : Option AV :=
  match x with
  | .int k a => (match mkBin .sub k (.lit 0) a with
    | some e => some (.int k e)
    | none => none)
  | _ => none

noncomputable def aconv (k : IntKind) (x : AV) : Option AV :=
  match x with
  | .int _ e => some (.int k (mkConv k e))
  | _ => none

noncomputable def fillA (ps : List (Nat × Nat × AV)) : List AV → Option (List AV) :=
  @List.rec (Nat × Nat × AV) (fun _ => List AV → Option (List AV)) (fun cs => some cs)
    (fun p _ ih cs => cond (and (Nat.beq (lLen p.2.2.cellsOf) p.2.1) (allOk p.2.2.cellsOf))
      (match listPut cs p.1 p.2.2.cellsOf with
      | some cs' => ih cs'
      | none => none) none) ps

noncomputable def rep {α : Type} (l : List α) : Nat → List α
  | 0 => []
  | n + 1 => l ++ rep l n

noncomputable def aiaddr (size : Nat) (x ix : AV) : Option AV :=
  match asNat ix with
  | some n => (match x with
    | .slice b off len _ => cond (Nat.ble (Nat.succ n) len) (some (.ptr b (off + n * size))) none
    | .sliceX b s lo len => cond (and (Nat.ble (Nat.succ n) len) (Nat.beq s size)) (some (.ptr b (lo * size + n * size))) none
    | _ => none)
  | none => none

noncomputable def aiaddrA (size len : Nat) (x ix : AV) : Option AV :=
  match asNat ix with
  | some n => (match x with
    | .ptr b off => cond (Nat.ble (Nat.succ n) len) (some (.ptr b (off + n * size))) none
    | _ => none)
  | none => none

noncomputable def partA (whole : Bool) (cs : List AV) (off n : Nat) : Option AV :=
  cond whole ((listSub cs off n).map .agg) (listGet cs off)

noncomputable def aindex (whole : Bool) (size len : Nat) (x ix : AV) : Option AV :=
  match asNat ix with
  | some n => (match x with
    | .agg cs => cond (Nat.ble (Nat.succ n) len) (partA whole cs (n * size) size) none
    | _ => none)
  | none => none

noncomputable def natOr (d : Nat) (x : Option AV) : Option Nat :=
  match x with
  | none => some d
  | some v => asNat v

noncomputable def sliceIn (b off size len cap : Nat) (lo hi mx : Option AV) : Option AV :=
  match natOr cap mx, natOr len hi, natOr 0 lo with
  | some m, some h, some l =>
    cond (and (Nat.ble m cap) (and (Nat.ble h m) (Nat.ble l h)))
      (some (.slice b (cond (Nat.beq m l) off (off + l * size)) (h - l) (m - l))) none
  | _, _, _ => none

noncomputable def aslice (size : Nat) (x : AV) (lo hi mx : Option AV) : Option AV :=
  match x with
  | .slice b off len cap => sliceIn b off size len cap lo hi mx
  | .sliceX b s z len =>
    cond (and (Nat.beq s size) (Nat.beq z 0))
      (match mx with
      | none => (match natOr len hi, natOr 0 lo with
        | some h, some l => cond (and (Nat.ble h len) (Nat.ble l h)) (some (.sliceX b size l (h - l))) none
        | _, _ => none)
      | some m => sliceIn b 0 size len len lo hi (some m)) none
  | .nilslice => (match natOr 0 mx, natOr 0 hi, natOr 0 lo with
    | some m, some h, some l => cond (and (Nat.beq m 0) (and (Nat.beq h 0) (Nat.beq l 0))) (some .nilslice) none
    | _, _, _ => none)
  | _ => none

noncomputable def asliceA (size n : Nat) (x : AV) (lo hi mx : Option AV) : Option AV :=
  match x with
  | .ptr b off => sliceIn b off size n n lo hi mx
  | _ => none

noncomputable def findKeyA (whole : Bool) (n : Nat) (ls : List (Nat × Leaf)) (k : AV) (es : List (AV × AV × Nat)) : Nat → Option (Option (Nat × AV)) :=
  @List.rec (AV × AV × Nat) (fun _ => Nat → Option (Option (Nat × AV))) (fun _ => some none)
    (fun e _ ih i => match eqV whole n ls k e.1 with
      | some (.lit c) => cond c (some (some (i, e.2.1))) (ih (Nat.succ i))
      | _ => none) es

noncomputable def Heap.entries (h : Heap) (x : AV) : Option (List (AV × AV × Nat)) :=
  match x with
  | .nilmap => some []
  | .map b => (match h.get b with
    | some (.map es _) => some es
    | some (.rmap es _) => some es
    | _ => none)
  | _ => none

noncomputable def keyOk (whole : Bool) (n : Nat) (ls : List (Nat × Leaf)) (k : AV) : Bool :=
  match eqV whole n ls k k with
  | some _ => true
  | none => false

noncomputable def alookup (h : Heap) (zero : AV) (whole : Bool) (n : Nat) (ls : List (Nat × Leaf)) (ok : Bool) (x k : AV) : Option AV :=
  cond (keyOk whole n ls k) (match h.entries x with
  | some es => (match findKeyA whole n ls k es 0 with
    | some (some p) => some (cond ok (.tup [p.2, .bool (.lit true)]) p.2)
    | some none => some (cond ok (.tup [zero, .bool (.lit false)]) zero)
    | none => none)
  | none => none) none

noncomputable def modAt {α : Type} (f : α → α) : List α → Nat → List α
  | [], _ => []
  | a :: l, 0 => f a :: l
  | a :: l, n + 1 => a :: modAt f l n

noncomputable def amapset (h : Heap) (whole : Bool) (n : Nat) (ls : List (Nat × Leaf)) (m k v : AV) : Option Heap :=
  match m with
  | .map b => cond (and (keyOk whole n ls k) (notBad v)) (match h.get b with
    | some (.map es clock) => (match findKeyA whole n ls k es 0 with
      | some (some p) => some (h.put b (.map (modAt (fun e => (k, v, e.2.2)) es p.1) clock))
      | some none => some (h.put b (.map (lApp es [(k, v, clock)]) (Nat.succ clock)))
      | none => none)
    | _ => none) none
  | _ => none

/-! ## Builtins -/
noncomputable def alenS (x : AV) : Option AV :=
  match x with
  | .slice _ _ n _ => some (.int .i64 (.lit (Int.ofNat n)))
  | .sliceX _ _ _ n => some (.int .i64 (.lit (Int.ofNat n)))
  | .sliceU i => some (.int .i64 (.var i))
  | .sliceV _ i => some (.int .i64 (.var i))
  | .nilslice => some (.int .i64 (.lit (Int.ofNat 0)))
  | _ => none

noncomputable def alenM (h : Heap) (x : AV) : Option AV :=
  match x with
  | .nilmap => some (.int .i64 (.lit (Int.ofNat 0)))
  | .map b => (match h.get b with
    | some (.map es _) => some (.int .i64 (.lit (Int.ofNat (lLen es))))
    | some (.rmap es _) => some (.int .i64 (.lit (Int.ofNat (lLen es))))
    | _ => none)
  | _ => none

noncomputable def max2 (a b : AV) : Option AV :=
  match a, b with
  | .int k x, .int _ y => some (.int k (mkMax x y))
  | _, _ => none

noncomputable def min2 (a b : AV) : Option AV :=
  match a, b with
  | .int k x, .int _ y => some (.int k (mkMin x y))
  | _, _ => none

noncomputable def foldA (f : AV → AV → Option AV) : AV → List AV → Option AV
  | x, [] => some x
  | x, y :: l => match f x y with
    | some z => foldA f z l
    | none => none

noncomputable def foldL (f : AV → AV → Option AV) (l : List AV) : Option AV :=
  match l with
  | x :: l => foldA f x l
  | [] => none

/-- the first n cells of a slice -/
noncomputable def firstA (h : Heap) (size n : Nat) (x : AV) : Option (List AV) :=
  match x with
  | .slice b off len _ => cond (Nat.ble n len) (match h.cells b with
    | some cs => listSub cs off (n * size)
    | none => none) none
  | .sliceX b s lo len => cond (and (Nat.ble n len) (Nat.beq s size)) (cond (Nat.beq n 0) (some []) (match h.cells b with
    | some cs => listSub cs (lo * size) (n * size)
    | none => none)) none
  | .nilslice => cond (Nat.beq n 0) (some []) none
  | _ => none

noncomputable def lenA (x : AV) : Option Nat :=
  match x with
  | .slice _ _ n _ => some n
  | .sliceX _ _ _ n => some n
  | .nilslice => some 0
  | _ => none

noncomputable def grow (h : Heap) (elem size n len : Nat) (old new : List AV) : AV × Heap :=
  (.sliceX h.next size 0 (len + n), h.new (.cells (lApp old new) elem true true))

noncomputable def appendTo (h : Heap) (elem size n : Nat) (s : AV) (new : List AV) : Option (AV × Heap) :=
  match s with
  | .nilslice => cond (Nat.beq n 0) (some (.nilslice, h)) (some (grow h elem size n 0 [] new))
  | .slice b off len cap =>
    cond (Nat.ble (len + n) cap)
      (cond (Nat.beq n 0) (some (.slice b off len cap, h))
        (match astoreC (n * size) h b (off + len * size) new with
        | some h' => some (.slice b off (len + n) cap, h')
        | none => none))
      (match firstA h size len s with
      | some old => cond (Nat.ble len 1000000) (some (grow h elem size n len old new)) none
      | none => none)
  | .sliceX b sz z len =>
    cond (Nat.beq n 0) (some (s, h))
      (match firstA h size len s, h.get b with
      | some old, some (.cells _ e own ext) =>
        cond (and (and own ext) (and (Nat.ble len 1000000) (and (Nat.beq e elem) (and (Nat.beq sz size) (Nat.beq z 0)))))
          (some (grow (h.put b .dead) elem size n len old new)) none
      | _, _ => none)
  | _ => none

noncomputable def aappend (h : Heap) (elem size bytes : Nat) (s x : AV) : Option (AV × Heap) :=
  match lenA x with
  | some n => (match firstA h size n x with
    | some new => cond (and (Nat.ble n 1000000) (and (Nat.ble bytes 1000000) (and (Nat.ble 1 size) (allOk new)))) (appendTo h elem size n s new) none
    | none => none)
  | none => none

/-- copied over: as many as there are, and fit -/
noncomputable def acopy (h : Heap) (size : Nat) (d s : AV) : Option (AV × Heap) :=
  match d with
  | .slice b off len _ => (match lenA s with
    | some m => (match firstA h size (cond (Nat.ble m len) m len) s with
      | some new => cond (allOk new) (match astoreC ((cond (Nat.ble m len) m len) * size) h b off new with
        | some h' => some (.int .i64 (.lit (Int.ofNat (cond (Nat.ble m len) m len))), h')
        | none => none) none
      | none => none)
    | none => none)
  | _ => none

/-! ## Instructions: functions of what is called, of the slots, and of the heap -/
structure St where
  tm : Tm
  df : List Nat
  h : Heap

/-- where a function runs: its number, and the round in which it is -/
structure Wh where
  fn : FuncId
  rd : Option Nat

structure Cx where
  call : FuncId → List AV → Heap → T (AV × Heap)
  yield : Nat → List AV → Heap → T (AV × Heap)
  loops : Nat

abbrev Ins := Cx → Tm → Heap → T (AV × Heap)

noncomputable def callA (cx : Cx) (f : AV) (args : List AV) (h : Heap) : T (AV × Heap) :=
  match f with
  | .func fn first captured => (match fn with
    | .func f => cx.call f (lApp first (lApp args captured)) h
    | _ => .fail 30)
  | .yieldF l => cx.yield l args h
  | _ => .fail 30

noncomputable def pure1 (why : Nat) (f : AV → Option AV) (x : Opd) : Ins := fun _ tm h => mk2 h why (f (ev tm x))
noncomputable def pure2 (why : Nat) (f : AV → AV → Option AV) (x y : Opd) : Ins := fun _ tm h => mk2 h why (f (ev tm x) (ev tm y))
noncomputable def rMov (h : Heap) (v : AV) : T (AV × Heap) := cond (notBad v) (.ret (v, h)) (.fail 1)
noncomputable def iMov (x : Opd) : Ins := fun _ tm h => rMov h (ev tm x)

noncomputable def rPick (h : Heap) (c a b : AV) : T (AV × Heap) :=
  match c with
  | .bool c => T.ite c (rMov h a) (rMov h b)
  | _ => .fail 2
noncomputable def iPick (c a b : Opd) : Ins := fun _ tm h => rPick h (ev tm c) (ev tm a) (ev tm b)

noncomputable def rNew (h : Heap) (t : Nat) (cs : List AV) : T (AV × Heap) :=
  cond (allOk cs) (.ret (.ptr h.next 0, h.new (.cells cs t true false))) (.fail 3)
noncomputable def iAlloc (t : Nat) (z : List AV) : Ins := fun _ _ h => rNew h t z
noncomputable def iBox (t : Nat) (x : Opd) : Ins := fun _ tm h => rNew h t (ev tm x).cellsOf

noncomputable def evp (tm : Tm) (l : List (Nat × Nat × Opd)) : List (Nat × Nat × AV) := lMap (fun p => (p.1, p.2.1, ev tm p.2.2)) l
noncomputable def evs (tm : Tm) (l : List Opd) : List AV := lMap (ev tm) l
noncomputable def evo (tm : Tm) (x : Option Opd) : Option AV :=
  match x with
  | some x => some (ev tm x)
  | none => none

noncomputable def rBuild (h : Heap) (z : List AV) (ps : List (Nat × Nat × AV)) : T (AV × Heap) :=
  match fillA ps z with
  | some cs => .ret (.agg cs, h)
  | none => .fail 5
noncomputable def iBuild (z : List AV) (ps : List (Nat × Nat × Opd)) : Ins := fun _ tm h => rBuild h z (evp tm ps)

noncomputable def rBslice (h : Heap) (elem : Nat) (cs : List AV) (len : Nat) (ps : List (Nat × Nat × AV)) : T (AV × Heap) :=
  match fillA ps cs with
  | some cs => .ret (.slice h.next 0 len len, h.new (.cells cs elem true false))
  | none => .fail 6
noncomputable def iBslice (elem : Nat) (z : List AV) (len : Nat) (ps : List (Nat × Nat × Opd)) : Ins := fun _ tm h => rBslice h elem (rep z len) len (evp tm ps)

noncomputable def iLoad (x : Opd) : Ins := fun _ tm h => mk2 h 7 (aload h (ev tm x))
noncomputable def iLoadN (n : Nat) (x : Opd) : Ins := fun _ tm h => mk2 h 7 (aloadN n h (ev tm x))

noncomputable def rStore (h : Heap) (n : Nat) (a x : AV) : T (AV × Heap) :=
  match astore n h a x with
  | some h' => .ret (undefA, h')
  | none => .fail 8
noncomputable def iStore (n : Nat) (a x : Opd) : Ins := fun _ tm h => rStore h n (ev tm a) (ev tm x)

noncomputable def rFunc (h : Heap) (fn : Fn) (first captured : List AV) : T (AV × Heap) :=
  cond (and (lAll notBad first) (lAll notBad captured)) (.ret (.func fn first captured, h)) (.fail 13)
noncomputable def iFunc (fn : Fn) (first captured : List Opd) : Ins := fun _ tm h => rFunc h fn (evs tm first) (evs tm captured)
noncomputable def iMkmap : Ins := fun _ _ h => .ret (.map h.next, h.new (.map [] 0))

noncomputable def rMkslice (h : Heap) (elem : Nat) (z : List AV) (bytes : Nat) (l c : AV) : T (AV × Heap) :=
  match asNat l, asNat c with
  | some l, some c => cond (and (Nat.ble c 1000000) (and (Nat.ble bytes 1000000) (Nat.ble l c)))
      (.ret (.slice h.next 0 l c, h.new (.cells (rep z c) elem true false))) (.fail 14)
  | _, _ => .fail 14
noncomputable def iMkslice (elem : Nat) (z : List AV) (bytes : Nat) (l c : Opd) : Ins := fun _ tm h => rMkslice h elem z bytes (ev tm l) (ev tm c)

noncomputable def iSlice (size : Nat) (x : Opd) (lo hi mx : Option Opd) : Ins := fun _ tm h => mk2 h 15 (aslice size (ev tm x) (evo tm lo) (evo tm hi) (evo tm mx))
noncomputable def iSliceA (size n : Nat) (x : Opd) (lo hi mx : Option Opd) : Ins := fun _ tm h => mk2 h 15 (asliceA size n (ev tm x) (evo tm lo) (evo tm hi) (evo tm mx))

noncomputable def faddrA (off : Nat) (x : AV) : Option AV :=
  match x with
  | .ptr b o => some (.ptr b (o + off))
  | .ptrV b i s o e => some (.ptrV b i s (o + off) e)
  | _ => none

noncomputable def fieldA (whole : Bool) (off n : Nat) (x : AV) : Option AV :=
  match x with
  | .agg cs => partA whole cs off n
  | _ => none

noncomputable def iLookup (zero : AV) (whole : Bool) (n : Nat) (ls : List (Nat × Leaf)) (ok : Bool) (x k : Opd) : Ins := fun _ tm h => mk2 h 20 (alookup h zero whole n ls ok (ev tm x) (ev tm k))

noncomputable def rMapset (h : Heap) (whole : Bool) (n : Nat) (ls : List (Nat × Leaf)) (m k v : AV) : T (AV × Heap) :=
  match amapset h whole n ls m k v with
  | some h' => .ret (undefA, h')
  | none => .fail 21
noncomputable def iMapset (whole : Bool) (n : Nat) (ls : List (Nat × Leaf)) (m k v : Opd) : Ins := fun _ tm h => rMapset h whole n ls (ev tm m) (ev tm k) (ev tm v)

noncomputable def extractA (i : Nat) (x : AV) : Option AV :=
  match x with
  | .tup vs => listGet vs i
  | _ => none

noncomputable def rCall (cx : Cx) (f : AV) (args : List AV) (h : Heap) : T (AV × Heap) := cond (lAll notBad args) (callA cx f args h) (.fail 23)
noncomputable def iCall (f : Opd) (args : List Opd) : Ins := fun cx tm h => rCall cx (ev tm f) (evs tm args) h
noncomputable def iLenS (x : Opd) : Ins := pure1 25 alenS x
noncomputable def iLenM (x : Opd) : Ins := fun _ tm h => mk2 h 25 (alenM h (ev tm x))
noncomputable def iLenA (n : Nat) : Ins := fun _ _ h => .ret (.int .i64 (.lit (Int.ofNat n)), h)
noncomputable def iMax (xs : List Opd) : Ins := fun _ tm h => mk2 h 26 (foldL max2 (evs tm xs))
noncomputable def iMin (xs : List Opd) : Ins := fun _ tm h => mk2 h 26 (foldL min2 (evs tm xs))
noncomputable def iAppend (elem size bytes : Nat) (s x : Opd) : Ins := fun _ tm h => T.of 27 (aappend h elem size bytes (ev tm s) (ev tm x))
noncomputable def iCopy (size : Nat) (d s : Opd) : Ins := fun _ tm h => T.of 28 (acopy h size (ev tm d) (ev tm s))
/-- a division by a number that is not known: it is not 0 -/
noncomputable def rDiv (h : Heap) (op : BinOp) (x y : AV) : T (AV × Heap) :=
  match x, y with
  | .int k a, .int k' b => cond (and (kindEq k k') (isDiv op)) (.br (.cmp .neq b (.lit 0)) (.ret (.int k (.bin op k a b), h)) (.fail 10)) (.fail 10)
  | _, _ => .fail 10
noncomputable def rArith (h : Heap) (op : BinOp) (x y : AV) : T (AV × Heap) :=
  match aarith op x y with
  | some v => .ret (v, h)
  | none => rDiv h op x y
noncomputable def iArith (op : BinOp) (x y : Opd) : Ins := fun _ tm h => rArith h op (ev tm x) (ev tm y)
noncomputable def iCmp (op : BinOp) (x y : Opd) : Ins := pure2 10 (acmp op) x y
noncomputable def iShift (op : BinOp) (x y : Opd) : Ins := pure2 10 (ashift op) x y
noncomputable def iEq (ng whole : Bool) (n : Nat) (ls : List (Nat × Leaf)) (x y : Opd) : Ins := pure2 10 (aeq ng whole n ls) x y
noncomputable def iNot (x : Opd) : Ins := pure1 11 anot x
noncomputable def iNeg (x : Opd) : Ins := pure1 11 aneg x
noncomputable def iConv (k : IntKind) (x : Opd) : Ins := pure1 12 (aconv k) x
noncomputable def iFaddr (off : Nat) (x : Opd) : Ins := pure1 16 (faddrA off) x
noncomputable def iField (whole : Bool) (off n : Nat) (x : Opd) : Ins := pure1 17 (fieldA whole off n) x
/-- an element of a list that is not known: there is such a one -/
noncomputable def rIaddrV (h : Heap) (size b i : Nat) (ix : AV) : T (AV × Heap) :=
  match ix with
  | .int _ e => .br (.and (.cmp .leq (.lit 0) e) (.cmp .lss e (.var i))) (.ret (.ptrV b i size 0 e, h)) (.fail 18)
  | _ => .fail 18
/-- an element of a list of known length by a number that is not known: by cases -/
noncomputable def cntA (x : AV) : Nat :=
  match x with
  | .slice _ _ n _ => n
  | .sliceX _ _ _ n => n
  | _ => 0
noncomputable def rIaddrC (h : Heap) (size : Nat) (x : AV) (k : IntKind) (e : IE) (n : Nat) : T (AV × Heap) :=
  @Nat.rec (fun _ => T (AV × Heap)) (.fail 18) (fun m ih => .br (.cmp .leq (.lit (Int.ofNat m)) e) (mk2 h 18 (aiaddr size x (.int k (.lit (Int.ofNat m))))) ih) n
noncomputable def rIaddrS (h : Heap) (size : Nat) (x ix : AV) : T (AV × Heap) :=
  match aiaddr size x ix with
  | some v => .ret (v, h)
  | none => (match ix with
    | .int k e => .br (.and (.cmp .leq (.lit 0) e) (.cmp .lss e (.lit (Int.ofNat (cntA x))))) (rIaddrC h size x k e (cntA x)) (.fail 18)
    | _ => .fail 18)
noncomputable def rIaddr (h : Heap) (size : Nat) (x ix : AV) : T (AV × Heap) :=
  match x with
  | .sliceV b i => rIaddrV h size b i ix
  | x => rIaddrS h size x ix
noncomputable def iIaddr (size : Nat) (x ix : Opd) : Ins := fun _ tm h => rIaddr h size (ev tm x) (ev tm ix)
/-- what depends on a number that is not known: by cases -/
noncomputable def rCaseC (h : Heap) (why : Nat) (g : AV → Option AV) (k : IntKind) (e : IE) (n : Nat) : T (AV × Heap) :=
  @Nat.rec (fun _ => T (AV × Heap)) (.fail why) (fun m ih => .br (.cmp .leq (.lit (Int.ofNat m)) e) (mk2 h why (g (.int k (.lit (Int.ofNat m))))) ih) n
noncomputable def rCase (h : Heap) (why n : Nat) (g : AV → Option AV) (ix : AV) : T (AV × Heap) :=
  match g ix with
  | some v => .ret (v, h)
  | none => (match ix with
    | .int k e => .br (.and (.cmp .leq (.lit 0) e) (.cmp .lss e (.lit (Int.ofNat n)))) (rCaseC h why g k e n) (.fail why)
    | _ => .fail why)
noncomputable def iIaddrA (size len : Nat) (x ix : Opd) : Ins := fun _ tm h => rCase h 18 len (aiaddrA size len (ev tm x)) (ev tm ix)
noncomputable def iIndex (whole : Bool) (size len : Nat) (x ix : Opd) : Ins := fun _ tm h => rCase h 19 len (aindex whole size len (ev tm x)) (ev tm ix)
noncomputable def iExtract (i : Nat) (x : Opd) : Ins := pure1 22 (extractA i) x

/-! ## Regions -/
structure CI where
  dst : Option Nat
  keep : Bool
  guard : Option (Nat × Bool)
  f : Ins

noncomputable def Tm.put (tm : Tm) (d : Nat) (keep : Bool) (v : AV) : Tm :=
  ⟨(d, v) :: tm.loc, cond keep (PT.set tm.tree d v) tm.tree⟩

noncomputable def setDst (tm : Tm) (d : Option Nat) (keep : Bool) (v : AV) : Tm :=
  match d with
  | some d => tm.put d keep v
  | none => tm

noncomputable def guardOf (tm : Tm) (p : Nat × Bool) : Option BE :=
  match tm.look p.1 with
  | some (.bool b) => some (cond p.2 b b.mkNot)
  | some (.tup []) => some (.lit false)
  | _ => none

noncomputable def runC (cx : Cx) (tm : Tm) (h : Heap) (o : CI) : T (AV × Heap) :=
  match o.guard with
  | none => o.f cx tm h
  | some g => (match guardOf tm g with
    | some c => T.ite c (o.f cx tm h) (.ret (undefA, h))
    | none => .fail 40)

/-- a truth value that is not known: both -/
noncomputable def fork {β : Type} (v : AV) (k : AV → T β) : T β :=
  match v with
  | .bool c => (match c with
    | .lit b => k (.bool (.lit b))
    | c => .br c (k (.bool (.lit true))) (k (.bool (.lit false))))
  | v => k v

noncomputable def runOps (cx : Cx) (l : List CI) : Tm → Heap → T (Tm × Heap) :=
  @List.rec CI (fun _ => Tm → Heap → T (Tm × Heap)) (fun tm h => .ret (tm, h))
    (fun o _ ih tm h => (runC cx tm h o).bind fun r => fork r.1 fun v => ih (setDst tm o.dst o.keep v) r.2) l

/-! ## Regions whose order is drawn -/
/-- what an allocation that no order binds lays, from the slots alone -/
abbrev FIns := Tm → Option (List AV)
inductive FK where
  | ptr
  | sl (len : Nat)
noncomputable def FK.val (k : FK) (b : Nat) : AV :=
  match k with
  | .ptr => .ptr b 0
  | .sl n => .slice b 0 n n

/-- an operation: the slots that it reads; 'eff': it has an effect, the 'lo'-th; or it has none, and may run when 'lo' to 'hi' of the effects have; 'fl': it is an allocation that no order binds, with its number; 'due': the allocations that an effect comes behind. -/
structure DI where
  ci : CI
  reads : List Nat
  eff : Bool
  lo : Nat
  hi : Nat
  fl : Option (FIns × FK × Nat)
  due : List Nat

noncomputable def restrL (tm : Tm) (l : List Nat) : List (Nat × AV) := @List.rec Nat (fun _ => List (Nat × AV)) [] (fun t _ ih => match tm.look t with | some v => (t, v) :: ih | none => ih) l
noncomputable def restr (tm : Tm) (l : List Nat) : Tm := ⟨restrL tm l, .nil⟩

noncomputable def flAlloc (z : List AV) : FIns := fun _ => cond (allOk z) (some z) none
noncomputable def flBox (y : Opd) : FIns := fun tm => cond (allOk (ev tm y).cellsOf) (some (ev tm y).cellsOf) none
noncomputable def flSlice (z : List AV) (len : Nat) (q : List (Nat × Nat × Opd)) : FIns := fun tm => fillA (evp tm q) (rep z len)

noncomputable def runFl (tm : Tm) (g : Option (Nat × Bool)) (f : FIns) : Option (Option (List AV)) :=
  match g with
  | none => (match f tm with
    | some cs => some (some cs)
    | none => none)
  | some p => (match guardOf tm p with
    | some c => (match c with
      | .lit b => cond b (match f tm with
        | some cs => some (some cs)
        | none => none) (some none)
      | _ => none)
    | none => none)

/-- reserved numbers turned to what was laid -/
noncomputable def conv (base : Nat) (pend : List (Nat × List AV)) : List Nat → Heap → Option Heap
  | [], h => some h
  | j :: l, h => match lFind pend j with
    | none => conv base pend l h
    | some cs => (match h.get (base + j) with
      | some o => (match o with
        | .resv => conv base pend l (h.put (base + j) (.cells cs 0 true false))
        | .cells _ _ _ _ => conv base pend l h
        | _ => none)
      | none => none)

noncomputable def resvN : Nat → Heap → Heap
  | 0, h => h
  | m + 1, h => resvN m (h.new .resv)

noncomputable def upN : Nat → Nat → List Nat
  | 0, _ => []
  | m + 1, k => k :: upN m (k + 1)

abbrev DR := Tm × List Heap × List (Tm × AV) × List (Nat × List AV)

noncomputable def stepD (cx : Cx) (base : Nat) (o : DI) (k : Tm → Heap → List Heap → List (Tm × AV) → List (Nat × List AV) → T DR) (tm : Tm) (h : Heap) (hs : List Heap) (vs : List (Tm × AV)) (pend : List (Nat × List AV)) : T DR :=
  match o.fl with
  | none => (match conv base pend o.due h with
    | none => .fail 94
    | some h1 => (runC cx (restr tm o.reads) h1 o.ci).bind fun r => fork r.1 fun v => k (setDst tm o.ci.dst o.ci.keep v) r.2 (cond o.eff (h :: hs) hs) ((restr tm o.reads, r.1) :: vs) pend)
  | some fl => (match runFl (restr tm o.reads) o.ci.guard fl.1 with
    | none => .fail 93
    | some none => k (setDst tm o.ci.dst o.ci.keep undefA) h hs ((restr tm o.reads, undefA) :: vs) pend
    | some (some cs) => k (setDst tm o.ci.dst o.ci.keep (fl.2.1.val (base + fl.2.2))) h hs ((restr tm o.reads, fl.2.1.val (base + fl.2.2)) :: vs) ((fl.2.2, cs) :: pend))

noncomputable def runD (cx : Cx) (base : Nat) (l : List DI) : Tm → Heap → List Heap → List (Tm × AV) → List (Nat × List AV) → T DR :=
  @List.rec DI (fun _ => Tm → Heap → List Heap → List (Tm × AV) → List (Nat × List AV) → T DR) (fun tm h hs vs pend => .ret (tm, h :: hs, vs, pend))
    (fun o _ ih tm h hs vs pend => stepD cx base o ih tm h hs vs pend) l

noncomputable def opEq (a b : BinOp) : Bool :=
  match a, b with
  | .add, .add => true
  | .sub, .sub => true
  | .mul, .mul => true
  | .quo, .quo => true
  | .rem, .rem => true
  | _, _ => false

noncomputable def eqIE : IE → IE → Bool
  | .lit a, .lit b => ieq a b
  | .var i, .var j => Nat.beq i j
  | .bin o k a b, .bin o' k' a' b' => and (and (opEq o o') (kindEq k k')) (and (eqIE a a') (eqIE b b'))
  | .conv k a, .conv k' a' => and (kindEq k k') (eqIE a a')
  | .mx a b, .mx a' b' => and (eqIE a a') (eqIE b b')
  | .mn a b, .mn a' b' => and (eqIE a a') (eqIE b b')
  | .app f a b c, .app f' a' b' c' => and (Nat.beq f f') (and (eqIE a a') (and (eqIE b b') (eqIE c c')))
  | _, _ => false

noncomputable def cmpEq (a b : BinOp) : Bool :=
  match a, b with
  | .eql, .eql => true
  | .neq, .neq => true
  | .lss, .lss => true
  | .leq, .leq => true
  | .gtr, .gtr => true
  | .geq, .geq => true
  | _, _ => false

noncomputable def eqBE : BE → BE → Bool
  | .lit a, .lit b => a == b
  | .var i, .var j => Nat.beq i j
  | .not a, .not b => eqBE a b
  | .and a b, .and a' b' => and (eqBE a a') (eqBE b b')
  | .cmp o a b, .cmp o' a' b' => and (cmpEq o o') (and (eqIE a a') (eqIE b b'))
  | .iff a b, .iff a' b' => and (eqBE a a') (eqBE b b')
  | .app f a b c, .app f' a' b' c' => and (Nat.beq f f') (and (eqIE a a') (and (eqIE b b') (eqIE c c')))
  | _, _ => false

mutual
noncomputable def eqAV : AV → AV → Bool
  | .bool a, .bool b => eqBE a b
  | .int k a, .int k' b => and (kindEq k k') (eqIE a b)
  | .ptr b o, .ptr b' o' => and (Nat.beq b b') (Nat.beq o o')
  | .nilptr, .nilptr => true
  | .slice b o l c, .slice b' o' l' c' => and (and (Nat.beq b b') (Nat.beq o o')) (and (Nat.beq l l') (Nat.beq c c'))
  | .sliceU i, .sliceU j => Nat.beq i j
  | .sliceV b i, .sliceV b' i' => and (Nat.beq b b') (Nat.beq i i')
  | .ptrV b i s o e, .ptrV b' i' s' o' e' => and (and (Nat.beq b b') (Nat.beq i i')) (and (and (Nat.beq s s') (Nat.beq o o')) (eqIE e e'))
  | .sliceX b o l c, .sliceX b' o' l' c' => and (and (Nat.beq b b') (Nat.beq o o')) (and (Nat.beq l l') (Nat.beq c c'))
  | .nilslice, .nilslice => true
  | .map b, .map b' => Nat.beq b b'
  | .nilmap, .nilmap => true
  | .nilFunc, .nilFunc => true
  | .yieldF b, .yieldF b' => Nat.beq b b'
  | .func (.func f) x y, .func (.func f') x' y' => and (Nat.beq f f') (and (eqAVs x x') (eqAVs y y'))
  | .agg x, .agg y => eqAVs x y
  | .tup x, .tup y => eqAVs x y
  | _, _ => false
noncomputable def eqAVs : List AV → List AV → Bool
  | [], [] => true
  | a :: l, b :: m => and (eqAV a b) (eqAVs l m)
  | _, _ => false
end

noncomputable def stableAtT (cx : Cx) (hs : List Heap) (v : Tm × AV) (o : DI) (j : Nat) : T Bool :=
  match listGet hs j with
  | none => .ret false
  | some h => (runC cx v.1 h o.ci).bind fun r => .ret (match o.ci.dst with
    | none => true
    | some _ => eqAV r.1 v.2)

noncomputable def uptoT (f : Nat → T Bool) (n : Nat) : Nat → T Bool := @Nat.rec (fun _ => Nat → T Bool) (fun k => f k) (fun _ ih k => (f k).bind fun b => cond b (ih (Nat.succ k)) (.ret false)) n
noncomputable def lRev {α : Type} (l : List α) : List α := @List.rec α (fun _ => List α → List α) (fun m => m) (fun a _ ih m => ih (a :: m)) l []
noncomputable def stableT (cx : Cx) (hs : List Heap) (v : Tm × AV) (o : DI) : T Bool := cond (or o.eff o.fl.isSome) (.ret true) (uptoT (stableAtT cx hs v o) (o.hi - o.lo) o.lo)
noncomputable def stablesT (cx : Cx) (hs : List Heap) : List DI → List (Tm × AV) → T Bool
  | [], [] => .ret true
  | o :: l, v :: vs => (stableT cx hs v o).bind fun b => cond b (stablesT cx hs l vs) (.ret false)
  | _, _ => .ret false

/-! ## Code -/
abbrev C := Cx → Wh → St → T (Ex × St)

noncomputable def Tm.shut (tm : Tm) : Tm := ⟨[], tm.tree⟩

noncomputable def endD (base m : Nat) (df : List Nat) (r : DR) : T (Ex × St) :=
  match r.2.1 with
  | h :: _ => (match conv base r.2.2.2 (upN m 0) h with
    | some h2 => .ret (.norm, ⟨r.1.shut, df, h2⟩)
    | none => .fail 95)
  | [] => .fail 91

noncomputable def loopN (body : St → T (Ex × St)) (n : Nat) : St → T (Ex × St) :=
  @Nat.rec (fun _ => St → T (Ex × St)) (fun _ => .fail 50)
    (fun _ ih s => (body s).bind fun r => match r.1 with
      | .norm => ih r.2
      | x => .ret (x, r.2)) n

noncomputable def endRange (l : Nat) (tm : Tm) (df : List Nat) (h : Heap) : T (Ex × St) :=
  match h.get l with
  | some (.loop st pend f' tm' ps c d') => (match st with
    | .busy => .fail 53
    | _ => .ret (pend, ⟨tm, df, h.put l (.loop .exhausted pend f' tm' ps c d')⟩))
  | _ => .fail 55

noncomputable def callF (cx : Cx) (f : AV) (args : List AV) (h : Heap) : T (AV × Heap) :=
  match f with
  | .func fn first captured => (match fn with
    | .func f => cx.call f (lApp first (lApp args captured)) h
    | _ => .fail 31)
  | _ => .fail 31

noncomputable def rangeGo (cx : Cx) (wh : Wh) (fv : AV) (params : List Nat) (code : Nat) (tm : Tm) (d : Nat) (df : List Nat) (h : Heap) : T (Ex × St) :=
  (callF cx fv [.yieldF h.next] (h.new (.loop .ready .norm wh.fn tm.tree params code d))).bind fun r => endRange h.next tm df r.2

noncomputable def rangeF (cx : Cx) (wh : Wh) (fv : AV) (params : List Nat) (code : Nat) (s : St) : T (Ex × St) :=
  match wh.rd with
  | none => rangeGo cx wh fv params code s.tm s.h.next (s.h.next :: s.df) (s.h.new (.defd true))
  | some l => (match s.h.get l with
    | some (.loop _ _ _ _ _ _ d) => rangeGo cx wh fv params code s.tm d s.df s.h
    | _ => .fail 52)

noncomputable def afterSeq (k : St → T (Ex × St)) (r : Ex × St) : T (Ex × St) :=
  match r.1 with
  | .norm => k r.2
  | x => .ret (x, r.2)

noncomputable def afterBlock (id : Nat) (r : Ex × St) : T (Ex × St) :=
  match r.1 with
  | .exit id' => cond (Nat.beq id' id) (.ret (.norm, r.2)) (.ret (.exit id', r.2))
  | x => .ret (x, r.2)

noncomputable def condA {α : Type} (c : AV) (a b : T α) : T α :=
  match c with
  | .bool c => T.ite c a b
  | _ => .fail 56


noncomputable def cSkip : C := fun _ _ s => .ret (.norm, s)
noncomputable def dOps (m : Nat) (l : List DI) : C := fun cx _ s => (runD cx s.h.next l s.tm (resvN m s.h) [] [] []).bind fun r => (stablesT cx (lRev r.2.1) l (lRev r.2.2.1)).bind fun b => cond b (endD s.h.next m s.df r) (.fail 92)
noncomputable def cOps (l : List CI) : C := fun cx _ s => (runOps cx l s.tm s.h).bind fun r => .ret (.norm, ⟨r.1.shut, s.df, r.2⟩)
noncomputable def cSeq (a b : C) : C := fun cx wh s => (a cx wh s).bind (afterSeq (b cx wh))
noncomputable def cCond (c : Opd) (a b : C) : C := fun cx wh s => condA (ev s.tm c) (a cx wh s) (b cx wh s)
noncomputable def cBlock (id : Nat) (a : C) : C := fun cx wh s => (a cx wh s).bind (afterBlock id)
noncomputable def cLoop (a : C) : C := fun cx wh s => loopN (a cx wh) cx.loops s
noncomputable def cRange (f : Opd) (params : List Nat) (code : Nat) : C := fun cx wh s => rangeF cx wh (ev s.tm f) params code s
noncomputable def cExit (id : Nat) : C := fun _ _ s => .ret (.exit id, s)
noncomputable def cRet : C := fun _ _ s => .ret (.ret, s)

inductive RV where
  | t (n : Nat)
  | cell (a : Nat) (whole : Bool) (n : Nat)

structure CF where
  nargs : Nat
  code : C
  results : List RV

/-! ## Calls -/
noncomputable def undefer : List Nat → Heap → T Heap
  | [], h => .ret h
  | b :: l, h => match h.get b with
    | some (.defd true) => undefer l (h.put b (.defd false))
    | _ => .fail 60

noncomputable def resultA (tm : Tm) (h : Heap) (r : RV) : Option AV :=
  match r with
  | .t n => tm.look n
  | .cell a whole n => (match tm.look a with
    | some p => cond whole (aloadN n h p) (aload h p)
    | none => none)

noncomputable def resultsA (tm : Tm) (h : Heap) : List RV → Option (List AV)
  | [] => some []
  | r :: l => match resultA tm h r, resultsA tm h l with
    | some v, some vs => some (v :: vs)
    | _, _ => none

noncomputable def tmOf (l : List AV) : Nat → PT AV → PT AV :=
  @List.rec AV (fun _ => Nat → PT AV → PT AV) (fun _ tm => tm) (fun a _ ih n tm => ih (Nat.succ n) (PT.set tm n a)) l

noncomputable def one (vs : List AV) : AV :=
  match vs with
  | [v] => v
  | vs => .tup vs

noncomputable def finish (fn : CF) (r : Ex × St) : T (AV × Heap) :=
  match r.1 with
  | .exit _ => .fail 63
  | _ => (undefer r.2.df r.2.h).bind fun h2 => match resultsA r.2.tm h2 fn.results with
    | some vs => .ret (one vs, h2)
    | none => .fail 64

structure Tabs where
  F : Nat → Option CF
  R : Nat → Option (C × C)
  loops : Nat
  orc : FuncId → List AV → Heap → Option (T (AV × Heap))

noncomputable def callBody (tb : Tabs) (cx : Cx) (f : FuncId) (args : List AV) (h : Heap) : T (AV × Heap) :=
  match tb.F f with
  | none => .fail 61
  | some fn => cond (Nat.ble (lLen args) fn.nargs) ((fn.code cx ⟨f, none⟩ ⟨⟨[], tmOf args 0 .nil⟩, [], h⟩).bind (finish fn)) (.fail 62)

noncomputable def setParams : List Nat → List AV → PT AV → Option (PT AV)
  | [], [], tm => some tm
  | t :: ts, v :: vs, tm => setParams ts vs (PT.set tm t v)
  | _, _, _ => none

noncomputable def endState (x : Ex) : LoopState :=
  match x with
  | .norm => .ready
  | _ => .done

noncomputable def goesOn (x : Ex) : Bool :=
  match x with
  | .norm => true
  | _ => false

noncomputable def endRound (l : Nat) (r : Ex × St) : T (AV × Heap) :=
  match r.2.df with
  | [] => (match r.2.h.get l with
    | some (.loop _ _ f' tm' ps c d') => .ret (.bool (.lit (goesOn r.1)), r.2.h.put l (.loop (endState r.1) r.1 f' tm' ps c d'))
    | _ => .fail 71)
  | _ => .fail 71

noncomputable def midRound (cx : Cx) (wh : Wh) (l : Nat) (body : C) (r : Ex × St) : T (AV × Heap) :=
  match r.1 with
  | .norm => (match r.2.h.get l with
    | some (.loop st p f' tm' ps c d') => (match st with
      | .ready => (body cx wh ⟨r.2.tm, r.2.df, r.2.h.put l (.loop .busy p f' tm' ps c d')⟩).bind (endRound l)
      | _ => .fail 72)
    | _ => .fail 72)
  | _ => .fail 73

noncomputable def yieldBody (tb : Tabs) (cx : Cx) (l : Nat) (args : List AV) (h : Heap) : T (AV × Heap) :=
  match h.get l with
  | some (.loop _ _ fn tm params code _) => (match setParams params args tm, tb.R code with
    | some tm, some c => (c.1 cx ⟨fn, some l⟩ ⟨⟨[], tm⟩, [], h⟩).bind (midRound cx ⟨fn, some l⟩ l c.2)
    | _, _ => .fail 70)
  | _ => .fail 74

noncomputable def evalN (tb : Tabs) (d : Nat) : Bool → Nat → List AV → Heap → T (AV × Heap) :=
  @Nat.rec (fun _ => Bool → Nat → List AV → Heap → T (AV × Heap)) (fun _ _ _ _ => .fail 80)
    (fun _ ih isYield f args h =>
      cond isYield (yieldBody tb ⟨ih false, ih true, tb.loops⟩ f args h)
        (match tb.orc f args h with
        | some t => t
        | none => callBody tb ⟨ih false, ih true, tb.loops⟩ f args h)) d

end Go.Sx
