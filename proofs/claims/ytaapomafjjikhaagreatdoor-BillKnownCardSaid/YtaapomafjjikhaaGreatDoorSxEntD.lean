/- ENTRIES: calls that are taken as made. No theorem stands here. -/
import Derived.Test.YtaapomafjjikhaaGreatDoorSxEval
/-! ENTRIES: calls that are taken as made. No theorem stands here. -/
namespace Go.Sx

abbrev Ren := List (Nat × Nat)

/-- a block of the entry is that block of the heap -/
noncomputable def bindR (n b b' : Nat) (r : Ren) : Option Ren :=
  cond (Nat.ble (Nat.succ b) 1000) (cond (Nat.beq b b') (some r) none)
    (cond (Nat.ble (Nat.succ b) n) (match lFind r b with
    | some c => cond (Nat.beq c b') (some r) none
    | none => some ((b, b') :: r)) none)

noncomputable def eqFn (a b : Fn) : Bool :=
  match a, b with
  | .func f, .func g => Nat.beq f g
  | _, _ => false
mutual
noncomputable def mtV (n : Nat) : AV → AV → Ren → Option Ren
  | .ptr b o, .ptr b' o', r => cond (Nat.beq o o') (bindR n b b' r) none
  | .slice b o l c, .slice b' o' l' c', r => cond (and (Nat.beq o o') (and (Nat.beq l l') (Nat.beq c c'))) (bindR n b b' r) none
  | .sliceX b o l c, .sliceX b' o' l' c', r => cond (and (Nat.beq o o') (and (Nat.beq l l') (Nat.beq c c'))) (bindR n b b' r) none
  | .map b, .map b', r => bindR n b b' r
  | .agg x, .agg y, r => mtL n x y r
  | .tup x, .tup y, r => mtL n x y r
  | .func fn x y, .func fn' x' y', r => cond (eqFn fn fn') (match mtL n x x' r with
    | some r' => mtL n y y' r'
    | none => none) none
  | .bool a, .bool b, r => cond (eqBE a b) (some r) none
  | .int k a, .int k' b, r => cond (and (kindEq k k') (eqIE a b)) (some r) none
  | .nilptr, .nilptr, r => some r
  | .nilslice, .nilslice, r => some r
  | .nilmap, .nilmap, r => some r
  | .nilFunc, .nilFunc, r => some r
  | .sliceU i, .sliceU j, r => cond (Nat.beq i j) (some r) none
  | _, _, _ => none
noncomputable def mtL (n : Nat) : List AV → List AV → Ren → Option Ren
  | [], [], r => some r
  | a :: l, b :: m, r => (match mtV n a b r with
    | some r' => mtL n l m r'
    | none => none)
  | _, _, _ => none
end

noncomputable def mtE (n : Nat) : List (AV × AV × Nat) → List (AV × AV × Nat) → Ren → Option Ren
  | [], [], r => some r
  | a :: l, b :: m, r => cond (Nat.beq a.2.2 b.2.2) (match mtV n a.1 b.1 r with
    | some r1 => (match mtV n a.2.1 b.2.1 r1 with
      | some r2 => mtE n l m r2
      | none => none)
    | none => none) none
  | _, _, _ => none

/-- what is read of a block -/
inductive VO where
  | cells (cs : List AV)
  | map (es : List (AV × AV × Nat)) (clock : Nat)
  | own (cs : List AV) (el : TypeId) (ext : Bool)
  | ownMap (es : List (AV × AV × Nat)) (clock : Nat)

noncomputable def VO.obj (v : VO) : AObj :=
  match v with
  | .cells cs => .cells cs 0 false false
  | .map es k => .rmap es k
  | .own cs el ext => .cells cs el true ext
  | .ownMap es k => .map es k

noncomputable def beqB (a b : Bool) : Bool := cond a b (cond b false true)

noncomputable def mtO (n : Nat) (v : VO) (o : Option AObj) (r : Ren) : Option Ren :=
  match v with
  | .cells cs => (match o with
    | some (.cells cs' _ _ _) => mtL n cs cs' r
    | _ => none)
  | .map es k => (match o with
    | some (.map es' k') => cond (Nat.beq k k') (mtE n es es' r) none
    | some (.rmap es' k') => cond (Nat.beq k k') (mtE n es es' r) none
    | _ => none)
  | .own cs el ext => (match o with
    | some (.cells cs' el' own ext') => cond (and own (and (Nat.beq el el') (beqB ext ext'))) (mtL n cs cs' r) none
    | _ => none)
  | .ownMap es k => (match o with
    | some (.map es' k') => cond (Nat.beq k k') (mtE n es es' r) none
    | _ => none)

/-- the blocks that are read, as a heap -/
noncomputable def viewO (n : Nat) : List (Nat × VO) → Heap
  | [] => ⟨.nil, n⟩
  | g :: l => (viewO n l).put g.1 g.2.obj

/-- the blocks that are read -/
noncomputable def mtView (n : Nat) (h : Heap) : List (Nat × VO) → Ren → Option Ren
  | [], r => some r
  | g :: l, r => (match cond (Nat.ble (Nat.succ g.1) 1000) (some g.1) (cond (Nat.ble (Nat.succ g.1) n) (lFind r g.1) none) with
    | some b => (match mtO n g.2 (h.get b) r with
      | some r' => mtView n h l r'
      | none => none)
    | none => none)

/-- a block's name: as the entry has it, and as it is here; 'nb': those that are new -/
noncomputable def blR (n : Nat) (r nb : Ren) (b : Nat) : Option Nat :=
  cond (Nat.ble (Nat.succ b) 1000) (some b) (cond (Nat.ble (Nat.succ b) n) (lFind r b) (lFind nb b))

mutual
noncomputable def rnV (g : Nat → Option Nat) : AV → Option AV
  | .ptr b o => (match g b with
    | some b' => some (.ptr b' o)
    | none => none)
  | .slice b o l c => (match g b with
    | some b' => some (.slice b' o l c)
    | none => none)
  | .sliceX b o l c => (match g b with
    | some b' => some (.sliceX b' o l c)
    | none => none)
  | .sliceV b i => (match g b with
    | some b' => some (.sliceV b' i)
    | none => none)
  | .map b => (match g b with
    | some b' => some (.map b')
    | none => none)
  | .agg x => (match rnL g x with
    | some y => some (.agg y)
    | none => none)
  | .tup x => (match rnL g x with
    | some y => some (.tup y)
    | none => none)
  | .bool a => some (.bool a)
  | .int k a => some (.int k a)
  | .nilptr => some .nilptr
  | .nilslice => some .nilslice
  | .nilmap => some .nilmap
  | .nilFunc => some .nilFunc
  | _ => none
noncomputable def rnL (g : Nat → Option Nat) : List AV → Option (List AV)
  | [] => some []
  | a :: l => (match rnV g a with
    | some b => (match rnL g l with
      | some m => some (b :: m)
      | none => none)
    | none => none)
end

noncomputable def rnE (g : Nat → Option Nat) : List (AV × AV × Nat) → Option (List (AV × AV × Nat))
  | [] => some []
  | a :: l => (match rnV g a.1, rnV g a.2.1, rnE g l with
    | some k, some v, some m => some ((k, v, a.2.2) :: m)
    | _, _, _ => none)

/-- what lies in a new block -/
inductive NB where
  | cells (cs : List AV) (el : TypeId) (ext : Bool)
  | map (es : List (AV × AV × Nat)) (clock : Nat)

noncomputable def NB.raw (q : NB) : AObj :=
  match q with
  | .cells cs el ext => .cells cs el true ext
  | .map es k => .map es k

noncomputable def NB.ren (g : Nat → Option Nat) (q : NB) : Option AObj :=
  match q with
  | .cells cs el ext => (match rnL g cs with
    | some cs' => some (.cells cs' el true ext)
    | none => none)
  | .map es k => (match rnE g es with
    | some es' => some (.map es' k)
    | none => none)

/-- the new blocks, as they are here -/
noncomputable def newsH (g : Nat → Option Nat) : List (Nat × NB) → Heap → Option Heap
  | [], h => some h
  | q :: l, h => (match q.2.ren g with
    | some o => newsH g l (h.new o)
    | none => none)

/-- their names: those of the entry, and those here, from a number on -/
noncomputable def newsR : List (Nat × NB) → Nat → Ren
  | [], _ => []
  | q :: l, k => (q.1, k) :: newsR l (Nat.succ k)

/-- the names of the entry are new, and rise -/
noncomputable def rises : Nat → List (Nat × NB) → Bool
  | _, [] => true
  | n, q :: l => cond (Nat.ble n q.1) (rises (Nat.succ q.1) l) false

/-- a call: what it is called with, the blocks that it reads, what it hands back, and the blocks that this has anew -/
structure Ent where
  f : Nat
  args : List AV
  n : Nat
  view : List (Nat × VO)
  res : AV
  news : List (Nat × NB)
  outs : List (Nat × NB)

noncomputable def eqEs : List (AV × AV × Nat) → List (AV × AV × Nat) → Bool
  | [], [] => true
  | a :: l, b :: m => and (and (eqAV a.1 b.1) (and (eqAV a.2.1 b.2.1) (Nat.beq a.2.2 b.2.2))) (eqEs l m)
  | _, _ => false
noncomputable def newOk (h : Heap) (q : Nat × NB) : Bool :=
  match q.2 with
  | .cells cs el ext => (match h.get q.1 with
    | some (.cells cs' el' own ext') => and own (and (eqAVs cs' cs) (and (Nat.beq el' el) (beqB ext' ext)))
    | _ => false)
  | .map es k => (match h.get q.1 with
    | some (.map es' k') => and (eqEs es' es) (Nat.beq k' k)
    | _ => false)
/-- the blocks that are written, as they are then -/
noncomputable def putsH (g : Nat → Option Nat) : List (Nat × NB) → Heap → Option Heap
  | [], h => some h
  | q :: l, h => (match g q.1 with
    | some b => (match q.2.ren g with
      | some o => putsH g l (h.put b o)
      | none => none)
    | none => none)

noncomputable def memR (c : Nat) : Ren → Bool
  | [] => false
  | p :: l => cond (Nat.beq p.2 c) true (memR c l)
/-- no two names for one block -/
noncomputable def injR : Ren → Bool
  | [] => true
  | p :: l => cond (and (Nat.ble 1000 p.2) (Bool.not (memR p.2 l))) (injR l) false
noncomputable def someInj (l : List (Nat × NB)) (r : Ren) : Bool :=
  match l with
  | [] => true
  | _ => injR r

/-- the blocks of the view rise, and those that may be written are those that are told -/
noncomputable def viewUp : Nat → List (Nat × VO) → Bool
  | _, [] => true
  | n, g :: l => cond (Nat.ble n g.1) (viewUp (Nat.succ g.1) l) false
noncomputable def outsOk (n : Nat) : List (Nat × VO) → List (Nat × NB) → Bool
  | [], [] => true
  | [], _ :: _ => false
  | g :: l, m => (match g.2 with
    | .cells _ => outsOk n l m
    | .map _ _ => outsOk n l m
    | .own _ _ _ => (match m with
      | q :: m => cond (and (Nat.beq g.1 q.1) (and (Nat.ble 1000 q.1) (Nat.ble (Nat.succ q.1) n))) (outsOk n l m) false
      | [] => false)
    | .ownMap _ _ => (match m with
      | q :: m => cond (and (Nat.beq g.1 q.1) (and (Nat.ble 1000 q.1) (Nat.ble (Nat.succ q.1) n))) (outsOk n l m) false
      | [] => false))

/-- does a call meet the entry? what it leads to -/
noncomputable def Ent.meet (e : Ent) (args : List AV) (h : Heap) : Option (T (AV × Heap)) :=
  match mtL e.n e.args args [] with
  | some r0 => (match mtView e.n h e.view r0 with
    | some r => cond (someInj e.outs r) (match rnV (blR e.n r (newsR e.news h.next)) e.res with
      | some v => (match newsH (blR e.n r (newsR e.news h.next)) e.news h with
        | some h1 => (match putsH (blR e.n r (newsR e.news h.next)) e.outs h1 with
          | some h2 => some (.ret (v, h2))
          | none => none)
        | none => none)
      | none => none) none
    | none => none)
  | none => none

/-- a number of what a call is called with, by which its entries are found -/
noncomputable def keyI (e : IE) (k : Nat) : Nat :=
  match e with
  | .lit n => (match n with
    | .ofNat m => Nat.add (Nat.mul (Nat.mod k 1000003) 31) (Nat.succ m)
    | .negSucc m => Nat.add (Nat.mul (Nat.mod k 1000003) 37) (Nat.succ m))
  | _ => k
mutual
noncomputable def keyV : AV → Nat → Nat
  | .int _ e, k => keyI e k
  | .agg l, k => keyL l k
  | .tup l, k => keyL l k
  | .func _ a c, k => keyL c (keyL a k)
  | .slice _ o n _, k => Nat.add (Nat.mul (Nat.mod k 1000003) 41) (Nat.add o n)
  | .sliceX _ _ _ n, k => Nat.add (Nat.mul (Nat.mod k 1000003) 41) n
  | _, k => k
noncomputable def keyL : List AV → Nat → Nat
  | [], k => k
  | a :: l, k => keyL l (keyV a k)
end

/-- entries, as an oracle -/
noncomputable def entOrc (f : FuncId) (args : List AV) (h : Heap) (l : List Ent) : Option (T (AV × Heap)) :=
  @List.rec Ent (fun _ => Option (T (AV × Heap))) none (fun e _ ih => cond (Nat.beq f e.f) (match e.meet args h with
    | some t => some t
    | none => ih) ih) l


noncomputable def entPT (m : Nat) (pt : PT (List Ent)) (f : FuncId) (args : List AV) (h : Heap) : Option (T (AV × Heap)) :=
  match pt.get (Nat.mod (keyL args f) m) with
  | some l => entOrc f args h l
  | none => none

end Go.Sx
