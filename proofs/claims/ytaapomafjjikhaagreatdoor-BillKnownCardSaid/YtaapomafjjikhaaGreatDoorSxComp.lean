/- THE COMPILER: from the model's operations to the evaluator's instructions. -/
import Derived.Test.YtaapomafjjikhaaGreatDoorSxEval
/-! THE COMPILER: from the model's operations to the evaluator's instructions. -/
namespace Go.Sx

/-- what is asked of a type: the underlying one, its cells, its bytes, its zero value; 'eqOk': two of them are compared part by part. -/
structure TI where
  desc : TypeDesc
  size : Nat
  bytes : Nat
  zero : Option AV
  eqOk : Bool

noncomputable def TI.isAgg (t : TI) : Bool :=
  match t.desc with
  | .struct _ => true
  | .array _ _ => true
  | _ => false

mutual
noncomputable def ofV : Value → Option AV
  | .bool b => some (.bool (.lit b))
  | .int k n => some (.int k (.lit n))
  | .pointer none => some .nilptr
  | .slice none 0 0 => some .nilslice
  | .map none => some .nilmap
  | .nilFunc => some .nilFunc
  | .agg ⟨cs⟩ => (ofVs cs).map .agg
  | _ => none
noncomputable def ofVs : List Value → Option (List AV)
  | [] => some []
  | v :: vs => match ofV v, ofVs vs with
    | some a, some as => some (a :: as)
    | _, _ => none
end

noncomputable def cOpd (x : Operand) : Option Opd :=
  match x with
  | .tmp t => some (.t t)
  | .const v => (ofV v).map .c
  | .global g => cond (Nat.ble (Nat.succ g) 1000) (some (.c (.ptr g 0))) none
  | .func f => some (.c (.func (.func f) [] []))

noncomputable def cOpds : List Operand → Option (List Opd)
  | [] => some []
  | x :: l => match cOpd x, cOpds l with
    | some a, some as => some (a :: as)
    | _, _ => none

noncomputable def cOpt (x : Option Operand) : Option (Option Opd) :=
  match x with
  | none => some none
  | some x => (cOpd x).map some

noncomputable def leavesF (ty : Nat → Option TI) (g : TypeId → Nat → Option (List (Nat × Leaf))) (off size : Nat) : List Field → Option (List (Nat × Leaf))
  | [] => some []
  | f :: fs => match ty f.type with
    | some j => cond (and (and (Bool.not (f.name == "_")) (Nat.ble 1 j.size)) (Nat.ble (f.offset + j.size) size)) (match g f.type (off + f.offset), leavesF ty g off size fs with
      | some a, some b => some (a ++ b)
      | _, _ => none) none
    | none => none

noncomputable def leavesA (g : Nat → Option (List (Nat × Leaf))) (size : Nat) : Nat → Nat → Option (List (Nat × Leaf))
  | 0, _ => some []
  | n + 1, off => match g off, leavesA g size n (off + size) with
    | some a, some b => some (a ++ b)
    | _, _ => none

/-- the leaves of a type, from a cell on -/
noncomputable def leaves (ty : Nat → Option TI) : Nat → TypeId → Nat → Option (List (Nat × Leaf))
  | 0, _, _ => none
  | d + 1, t, off => match ty t with
    | none => none
    | some i => match i.desc with
      | .bool => some [(off, .bool)]
      | .int _ => some [(off, .int)]
      | .slice _ => some [(off, .nilS)]
      | .map _ _ => some [(off, .nilM)]
      | .pointer _ => some [(off, .nilP)]
      | .func _ _ _ => some [(off, .nilF)]
      | .struct fs => cond i.eqOk (leavesF ty (leaves ty d) off i.size fs.toList) none
      | .array n e => cond i.eqOk (match ty e with
        | some j => cond (and (Nat.ble 1 j.size) (Nat.ble (n * j.size) i.size)) (leavesA (leaves ty d e) j.size n off) none
        | none => none) none
      | _ => none

noncomputable def cParts (place : Nat → Option (Nat × Nat)) : List (Nat × Operand) → Option (List (Nat × Nat × Opd))
  | [] => some []
  | p :: l => match place p.1, cOpd p.2, cParts place l with
    | some q, some x, some r => some ((q.1, q.2, x) :: r)
    | _, _, _ => none

noncomputable def placeF (ty : Nat → Option TI) (fs : List Field) (i : Nat) : Option (Nat × Nat) :=
  match fs[i]? with
  | some f => (match ty f.type with
    | some j => some (f.offset, j.size)
    | none => none)
  | none => none

noncomputable def zeroOf (i : TI) : Option (List AV) :=
  match i.zero with
  | some z => cond (and (allOk z.cellsOf) (Nat.beq (lLen z.cellsOf) i.size)) (some z.cellsOf) none
  | none => none

noncomputable def isInt (i : TI) : Bool :=
  match i.desc with
  | .int _ => true
  | _ => false

noncomputable def cBin (ty : Nat → Option TI) (op : BinOp) (t : TypeId) (x y : Opd) : Option Ins :=
  match op with
  | .shl => some (iShift op x y)
  | .shr => some (iShift op x y)
  | .lss => some (iCmp op x y)
  | .leq => some (iCmp op x y)
  | .gtr => some (iCmp op x y)
  | .geq => some (iCmp op x y)
  | .eql => (match ty t with
    | some i => cond (isInt i) (some (iCmp op x y)) (match leaves ty 12 t 0 with
      | some ls => some (iEq false i.isAgg i.size ls x y)
      | none => none)
    | none => none)
  | .neq => (match ty t with
    | some i => cond (isInt i) (some (iCmp op x y)) (match leaves ty 12 t 0 with
      | some ls => some (iEq true i.isAgg i.size ls x y)
      | none => none)
    | none => none)
  | op => some (iArith op x y)

noncomputable def cCall (ty : Nat → Option TI) (c : Call) : Option Ins :=
  match cOpds c.args.toList with
  | none => none
  | some args => match c.callee with
    | .value f => (match cOpd f with
      | some f => some (iCall f args)
      | none => none)
    | .invoke _ _ => none
    | .builtin b => (match b with
      | .len => (match c.argTypes.toList, args with
        | t :: _, [x] => (match ty t with
          | some i => (match i.desc with
            | .array n _ => some (iLenA n)
            | .slice _ => some (iLenS x)
            | .map _ _ => some (iLenM x)
            | _ => none)
          | none => none)
        | _, _ => none)
      | .max => cond (Nat.ble 2 args.length) (some (iMax args)) none
      | .min => cond (Nat.ble 2 args.length) (some (iMin args)) none
      | .append => (match c.argTypes.toList, args with
        | [t, u], [s, x] => (match ty t, ty u with
          | some i, some iu => (match i.desc, iu.desc with
            | .slice e, .slice _ => (match ty e with
              | some j => (match zeroOf j with
                | some _ => some (iAppend e j.size j.bytes s x)
                | none => none)
              | none => none)
            | _, _ => none)
          | _, _ => none)
        | _, _ => none)
      | .copy => (match c.argTypes.toList, args with
        | [t, _], [d, x] => (match ty t with
          | some i => (match i.desc with
            | .slice e => (match ty e with
              | some j => some (iCopy j.size d x)
              | none => none)
            | _ => none)
          | none => none)
        | _, _ => none)
      | _ => none)

noncomputable def cSlice (ty : Nat → Option TI) (t : TypeId) (x : Opd) (lo hi mx : Option Opd) : Option Ins :=
  cond (or mx.isNone hi.isSome)
  (match ty t with
  | some i => (match i.desc with
    | .slice e => (match ty e with
      | some j => cond (Nat.ble 1 j.size) (some (iSlice j.size x lo hi mx)) none
      | none => none)
    | .array n e => (match ty e with
      | some j => some (iSliceA j.size n x lo hi mx)
      | none => none)
    | _ => none)
  | none => none) none

noncomputable def cField (ty : Nat → Option TI) (t : TypeId) (f : Nat) : Option (Field × TI) :=
  match ty t with
  | some i => (match i.desc with
    | .struct fs => (match fs.toList[f]? with
      | some f => (match ty f.type with
        | some j => some (f, j)
        | none => none)
      | none => none)
    | _ => none)
  | none => none

noncomputable def cIaddr (ty : Nat → Option TI) (t : TypeId) (x ix : Opd) : Option Ins :=
  match ty t with
  | some i => (match i.desc with
    | .slice e => (match ty e with
      | some j => some (iIaddr j.size x ix)
      | none => none)
    | .array n e => (match ty e with
      | some j => some (iIaddrA j.size n x ix)
      | none => none)
    | _ => none)
  | none => none

noncomputable def cIndex (ty : Nat → Option TI) (t : TypeId) (x ix : Opd) : Option Ins :=
  match ty t with
  | some i => (match i.desc with
    | .array n e => (match ty e with
      | some j => some (iIndex j.isAgg j.size n x ix)
      | none => none)
    | _ => none)
  | none => none

noncomputable def keyLeaf (l : Leaf) : Bool :=
  match l with
  | .int => true
  | .bool => true
  | .nilP => true
  | _ => false

/-- the leaves are all the cells, in their order -/
noncomputable def coversB (n : Nat) (ls : List (Nat × Leaf)) : Bool := and (ls.all fun p => keyLeaf p.2) (and (Nat.beq ls.length n) ((List.range n).all fun k => match listGet ls k with | some p => Nat.beq p.1 k | none => false))

noncomputable def cMap (ty : Nat → Option TI) (t : TypeId) : Option (TI × List (Nat × Leaf) × TI) :=
  match ty t with
  | some i => (match i.desc with
    | .map k e => (match ty k, leaves ty 12 k 0, ty e with
      | some ik, some ls, some ie => cond (coversB ik.size ls) (some (ik, ls, ie)) none
      | _, _, _ => none)
    | _ => none)
  | none => none

noncomputable def cBuild (ty : Nat → Option TI) (t : TypeId) (ps : List (Nat × Operand)) : Option Ins :=
  match ty t with
  | some i => (match zeroOf i with
    | some z => (match i.desc with
      | .struct fs => cond (fs.toList.all fun f => (ty f.type).isSome) ((cParts (placeF ty fs.toList) ps).map (iBuild z)) none
      | .array _ e => (match ty e with
        | some j => (cParts (fun n => some (n * j.size, j.size)) ps).map (iBuild z)
        | none => none)
      | _ => none)
    | none => none)
  | none => none

noncomputable def cBslice (ty : Nat → Option TI) (t : TypeId) (len : Nat) (ps : List (Nat × Operand)) : Option Ins :=
  match ty t with
  | some i => (match i.desc with
    | .slice e => (match ty e with
      | some j => (match zeroOf j with
        | some z => cond (Nat.ble (len * j.size) 1000000) ((cParts (fun n => some (n * j.size, j.size)) ps).map (iBslice e z len)) none
        | none => none)
      | none => none)
    | _ => none)
  | none => none

noncomputable def cMkslice (ty : Nat → Option TI) (t : TypeId) (l c : Opd) : Option Ins :=
  match ty t with
  | some i => (match i.desc with
    | .slice e => (match ty e with
      | some j => (match zeroOf j with
        | some z => some (iMkslice e z j.bytes l c)
        | none => none)
      | none => none)
    | _ => none)
  | none => none

noncomputable def notYield (fn : Fn) : Bool :=
  match fn with
  | .yield _ => false
  | _ => true

noncomputable def convKind (ty : Nat → Option TI) (d : TypeId) : Option IntKind :=
  match ty d with
  | some i => (match i.desc with
    | .int k => some k
    | _ => none)
  | none => none

noncomputable def with1 (x : Operand) (k : Opd → Option Ins) : Option Ins :=
  match cOpd x with
  | some x => k x
  | none => none

noncomputable def with2 (x y : Operand) (k : Opd → Opd → Option Ins) : Option Ins :=
  match cOpd x, cOpd y with
  | some x, some y => k x y
  | _, _ => none

noncomputable def with3 (x y z : Operand) (k : Opd → Opd → Opd → Option Ins) : Option Ins :=
  match cOpd x, cOpd y, cOpd z with
  | some x, some y, some z => k x y z
  | _, _, _ => none

noncomputable def cOp (ty : Nat → Option TI) (o : Op) : Option Ins :=
  match o with
  | .move x => with1 x fun x => some (iMov x)
  | .assign x => with1 x fun x => some (iMov x)
  | .pick c a b => with3 c a b fun c a b => some (iPick c a b)
  | .alloc t => (match ty t with
    | some i => (zeroOf i).map (iAlloc t)
    | none => none)
  | .box t x => with1 x fun x => some (iBox t x)
  | .build t ps => cBuild ty t ps.toList
  | .buildSlice t len ps => cBslice ty t len ps.toList
  | .load t x => with1 x fun x => (match ty t with
    | some i => some (cond i.isAgg (iLoadN i.size x) (iLoad x))
    | none => none)
  | .store t a x => with2 a x fun a x => (match ty t with
    | some i => some (iStore i.size a x)
    | none => none)
  | .binOp op t x y _ => with2 x y fun x y => cBin ty op t x y
  | .unOp op _ x => with1 x fun x => (match op with
    | .not => some (iNot x)
    | .neg => some (iNeg x)
    | _ => none)
  | .convert s d x => with1 x fun x => (match ty s, convKind ty d with
    | some _, some k => some (iConv k x)
    | _, _ => none)
  | .makeFunc fn first captured => cond (notYield fn) (match cOpds first.toList, cOpds captured.toList with
    | some a, some b => some (iFunc fn a b)
    | _, _ => none) none
  | .makeMap _ r => (match r with
    | none => some iMkmap
    | some _ => none)
  | .makeSlice t l c => with2 l c fun l c => cMkslice ty t l c
  | .slice t x lo hi mx => (match cOpd x, cOpt lo, cOpt hi, cOpt mx with
    | some x, some lo, some hi, some mx => cSlice ty t x lo hi mx
    | _, _, _, _ => none)
  | .fieldAddr t x f => with1 x fun x => (match cField ty t f with
    | some p => cond (Nat.ble 1 p.2.size) (some (iFaddr p.1.offset x)) none
    | none => none)
  | .field t x f => with1 x fun x => (match cField ty t f with
    | some p => some (iField p.2.isAgg p.1.offset p.2.size x)
    | none => none)
  | .indexAddr t x ix => with2 x ix fun x ix => cIaddr ty t x ix
  | .index t x ix => with2 x ix fun x ix => cIndex ty t x ix
  | .lookup t x k ok => with2 x k fun x k => (match cMap ty t with
    | some p => (match p.2.2.zero with
      | some z => some (iLookup z p.1.isAgg p.1.size p.2.1 ok x k)
      | none => none)
    | none => none)
  | .mapUpdate t m k v => with3 m k v fun m k v => (match cMap ty t with
    | some p => some (iMapset p.1.isAgg p.1.size p.2.1 m k v)
    | none => none)
  | .insert t m k v => with3 m k v fun m k v => (match cMap ty t with
    | some p => some (iMapset p.1.isAgg p.1.size p.2.1 m k v)
    | none => none)
  | .extract t ix => with1 t fun t => some (iExtract ix t)
  | .call c => cCall ty c
  | _ => none

noncomputable def cGuard (ops : List Oper) (g : Option (Nat × Bool)) : Option (Option (Nat × Bool)) :=
  match g with
  | none => some none
  | some p => (match (ops[p.1]?).bind (·.dst) with
    | some d => some (some (d, p.2))
    | none => none)

noncomputable def memN (l : List Nat) (d : Option Nat) : Bool :=
  match d with
  | some d => l.any (Nat.beq d)
  | none => false

noncomputable def okDst (n : Nat) (d : Option Nat) : Bool :=
  match d with
  | some d => Nat.ble (Nat.succ d) n
  | none => true

noncomputable def cOper (ty : Nat → Option TI) (n : Nat) (keep : List Nat) (ops : List Oper) (o : Oper) : Option CI :=
  match cOp ty o.op, cGuard ops o.guard with
  | some i, some g => cond (okDst n o.dst) (some ⟨o.dst, memN keep o.dst, g, i⟩) none
  | _, _ => none

noncomputable def cOpers (ty : Nat → Option TI) (n : Nat) (keep : List Nat) (ops : List Oper) : List Oper → Option (List CI)
  | [] => some []
  | o :: l => match cOper ty n keep ops o, cOpers ty n keep ops l with
    | some a, some as => some (a :: as)
    | _, _ => none

/-! ## Regions whose order is drawn -/
noncomputable def isEff (o : Op) : Bool :=
  match o with
  | .move _ => false
  | .assign _ => false
  | .pick _ _ _ => false
  | .build _ _ => false
  | .load _ _ => false
  | .binOp _ _ _ _ _ => false
  | .unOp _ _ _ => false
  | .convert _ _ _ => false
  | .makeFunc _ _ _ => false
  | .slice _ _ _ _ _ => false
  | .fieldAddr _ _ _ => false
  | .field _ _ _ => false
  | .indexAddr _ _ _ => false
  | .index _ _ _ => false
  | .lookup _ _ _ _ => false
  | .extract _ _ => false
  | .call c => (match c.callee with
    | .builtin b => (match b with
      | .len => false
      | .max => false
      | .min => false
      | _ => true)
    | _ => true)
  | _ => true

noncomputable def natGet (l : List Nat) (i : Nat) : Nat :=
  match l[i]? with
  | some m => m
  | none => 0

/-- the operations that come before one, as bits -/
noncomputable def maskOf (acc : List Nat) : List Edge → Nat
  | [] => 0
  | e :: l => cond (Region.binds .any e) (Nat.lor (Nat.lor (Nat.shiftLeft 1 e.on) (natGet acc e.on)) (maskOf acc l)) (maskOf acc l)

noncomputable def masks (acc : List Nat) : List Oper → List Nat
  | [] => acc
  | o :: l => masks (acc ++ [maskOf acc o.after.toList]) l

noncomputable def tmpsOf : List Operand → List Nat
  | [] => []
  | .tmp t :: l => t :: tmpsOf l
  | _ :: l => tmpsOf l

noncomputable def readsOf (o : Oper) (c : CI) : List Nat :=
  match c.guard with
  | none => tmpsOf o.op.operands.toList
  | some g => g.1 :: tmpsOf o.op.operands.toList

noncomputable def effsOf (ops : List Oper) : Nat → List Nat
  | 0 => []
  | i + 1 => match ops[i]? with
    | some o => cond (isEff o.op) (i :: effsOf ops i) (effsOf ops i)
    | none => effsOf ops i

noncomputable def countB (f : Nat → Bool) : List Nat → Nat
  | [] => 0
  | a :: l => cond (f a) (Nat.succ (countB f l)) (countB f l)

/-- an allocation, from the slots alone -/
noncomputable def cFl (ty : Nat → Option TI) (o : Op) : Option (FIns × FK) :=
  match o with
  | .alloc t => (match ty t with
    | some i => (match zeroOf i with
      | some z => some (flAlloc z, .ptr)
      | none => none)
    | none => none)
  | .box _ x => (match cOpd x with
    | some y => some (flBox y, .ptr)
    | none => none)
  | .buildSlice t len ps => (match ty t with
    | some i => (match i.desc with
      | .slice e => (match ty e with
        | some j => (match zeroOf j with
          | some z => cond (Nat.ble (len * j.size) 1000000) (match cParts (fun n => some (n * j.size, j.size)) ps.toList with
            | some q => some (flSlice z len q, .sl len)
            | none => none) none
          | none => none)
        | none => none)
      | _ => none)
    | none => none)
  | _ => none

noncomputable def comparable (ms : List Nat) (i j : Nat) : Bool := or (Nat.beq i j) (or (Nat.testBit (natGet ms i) j) (Nat.testBit (natGet ms j) i))
noncomputable def isAlloc (o : Op) : Bool :=
  match o with
  | .alloc _ => true
  | .box _ _ => true
  | .buildSlice _ _ _ => true
  | _ => false
noncomputable def opGet (ops : List Oper) (i : Nat) : Bool :=
  match ops[i]? with
  | some o => isAlloc o.op
  | none => false
/-- those that no order binds to all effects -/
noncomputable def floatsOf (ops : List Oper) (ms effs : List Nat) : List Nat := effs.filter fun i => and (opGet ops i) (Bool.not (effs.all fun j => comparable ms i j))
noncomputable def memB (l : List Nat) (i : Nat) : Bool := l.any (Nat.beq i)
noncomputable def posOf : List Nat → Nat → Nat
  | [], _ => 0
  | a :: l, i => cond (Nat.beq a i) 0 (Nat.succ (posOf l i))
noncomputable def dueOf (ms : List Nat) (i : Nat) (all : List Nat) : List Nat → List Nat
  | [] => []
  | f :: l => cond (Nat.testBit (natGet ms i) f) (posOf all f :: dueOf ms i all l) (dueOf ms i all l)

noncomputable def planAt (ty : Nat → Option TI) (effs fls ms : List Nat) (i : Nat) (o : Oper) (c : CI) : Option DI :=
  cond (memB fls i) (match cFl ty o.op with
    | some q => some ⟨c, readsOf o c, false, 0, effs.length, some (q.1, q.2, posOf fls i), []⟩
    | none => none)
  (cond (isEff o.op) (some ⟨c, readsOf o c, true, countB (fun j => Nat.testBit (natGet ms i) j) effs, 0, none, dueOf ms i fls fls⟩)
    (some ⟨c, readsOf o c, false, countB (fun j => Nat.testBit (natGet ms i) j) effs, countB (fun j => Bool.not (Nat.testBit (natGet ms j) i)) effs, none, []⟩))

noncomputable def planOf (ty : Nat → Option TI) (effs fls ms : List Nat) (i : Nat) : List Oper → List CI → Option (List DI)
  | o :: ops, c :: cs => match planAt ty effs fls ms i o c, planOf ty effs fls ms (i + 1) ops cs with
    | some a, some l => some (a :: l)
    | _, _ => none
  | _, _ => some []

/-- two operations of the region, the i-th and the j-th -/
noncomputable def pairOk (ms : List Nat) (i j : Nat) (a b : DI) : Bool :=
  and (and (match b.ci.dst with
    | some t => or (Bool.not (a.reads.any (Nat.beq t))) (or (Nat.testBit (natGet ms i) j) (Nat.testBit (natGet ms j) i))
    | none => true)
   (match a.ci.dst, b.ci.dst with
    | some t, some u => or (Bool.not (Nat.beq t u)) (Nat.beq i j)
    | _, _ => true))
   (cond b.eff (cond a.eff (or (Nat.ble b.lo a.lo) (Nat.testBit (natGet ms j) i))
      (and (or (Nat.ble a.lo b.lo) (Nat.testBit (natGet ms i) j)) (or (Nat.ble (Nat.succ b.lo) a.hi) (Nat.testBit (natGet ms j) i)))) true)

noncomputable def rowOk (ms : List Nat) (i : Nat) (a : DI) (j : Nat) : List DI → Bool
  | [] => true
  | b :: l => and (pairOk ms i j a b) (rowOk ms i a (j + 1) l)

noncomputable def rowsOk (ms : List Nat) (all : List DI) (i : Nat) : List DI → Bool
  | [] => true
  | a :: l => and (rowOk ms i a 0 all) (rowsOk ms all (i + 1) l)

noncomputable def edgesOk (i : Nat) : List Oper → Bool
  | [] => true
  | o :: l => and (o.after.toList.all fun e => or (Bool.not (Region.binds .any e)) (Nat.ble (Nat.succ e.on) i)) (edgesOk (i + 1) l)

noncomputable def numbered (k : Nat) : List DI → Bool
  | [] => true
  | o :: l => cond o.eff (and (Nat.beq o.lo k) (numbered (k + 1) l)) (numbered k l)

noncomputable def drawOk (ops : List Oper) (ms : List Nat) (l : List DI) : Bool := and (and (rowsOk ms l 0 l) (edgesOk 0 ops)) (numbered 0 l)

noncomputable def cPlanWith (ty : Nat → Option TI) (ops : List Oper) (cs : List CI) (ms effs fls : List Nat) : Option C :=
  match planOf ty (effs.filter fun i => Bool.not (memB fls i)) fls ms 0 ops cs with
  | some l => cond (drawOk ops ms l) (some (dOps fls.length l)) none
  | none => none

noncomputable def cDraw (ty : Nat → Option TI) (n : Nat) (keep : List Nat) (ops : List Oper) : Option C :=
  match cOpers ty n keep ops ops with
  | some cs => cPlanWith ty ops cs (masks [] ops) (effsOf ops ops.length) (floatsOf ops (masks [] ops) (effsOf ops ops.length))
  | none => none

noncomputable def rangeId (f : FuncId) (ps : List Nat) : Option Nat :=
  match ps with
  | p :: _ => some (f * 1000 + p)
  | [] => none

noncomputable def cCode (ty : Nat → Option TI) (n : Nat) (keep : List Nat) (fid : FuncId) : Code → Option C
  | .skip => some cSkip
  | .label _ => some cSkip
  | .region _ ops draw => cond draw (cDraw ty n keep ops.toList) ((cOpers ty n keep ops.toList ops.toList).map cOps)
  | .seq a b => match cCode ty n keep fid a, cCode ty n keep fid b with
    | some a, some b => some (cSeq a b)
    | _, _ => none
  | .cond c a b => match cOpd c, cCode ty n keep fid a, cCode ty n keep fid b with
    | some c, some a, some b => some (cCond c a b)
    | _, _, _ => none
  | .block id a => (cCode ty n keep fid a).map (cBlock id)
  | .loop a => (cCode ty n keep fid a).map cLoop
  | .scope a => cCode ty n keep fid a
  | .rangeFunc f ps _ _ => match cOpd f, rangeId fid ps.toList with
    | some f, some id => cond (ps.toList.all fun p => and (memN keep (some p)) (okDst n (some p))) (some (cRange f ps.toList id)) none
    | _, _ => none
  | .exit id => some (cExit id)
  | .ret => some cRet
  | .goto _ => none
  | .refuse _ => none

noncomputable def cRes (ty : Nat → Option TI) : List ResultVar → Option (List RV)
  | [] => some []
  | .tmp t :: l => (cRes ty l).map (.t t :: ·)
  | .cell a t :: l => match ty t, cRes ty l with
    | some i, some r => some (.cell a i.isAgg i.size :: r)
    | _, _ => none

noncomputable def cFunc (ty : Nat → Option TI) (keep : List Nat) (fid : FuncId) (fn : Func) : Option CF :=
  match fn.body with
  | none => none
  | some c => match cCode ty fn.ntmps keep fid c, cRes ty fn.results.toList with
    | some c, some r => cond ((List.range (fn.params.size + fn.nfree)).all fun i => memN keep (some i)) (some ⟨fn.params.size + fn.nfree, c, r⟩) none
    | _, _ => none

end Go.Sx
