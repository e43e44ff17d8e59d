/- AT WHICH PLACES A REEL CAN BE: what a call of the search sees that marks them, and what it leaves. -/
import Derived.Test.YtlaakbmimplceaaDoorRyQ
/-! AT WHICH PLACES A REEL CAN BE: what a call of the search sees that marks them, and what it leaves. -/
namespace Go.Sx
open Go.RowKit Go.Proofs
set_option maxRecDepth 100000
noncomputable def orB (a b : BE) : BE :=
  match a with
  | .lit c => cond c (.lit true) b
  | _ => .not (.and (.not a) (.not b))
noncomputable def atE (k m : Nat) (x1 x2 : IE) (j : Nat) : BE := .app (20000 + 512 * k + 8 * m + j) x1 x2 (.lit 0)
/-- can the reel k be at the place j, the reels of m being put from the place p on? -/
noncomputable def atF (ρ : Rho) (k : Nat) : Nat → Nat → Nat → Int → Int → Nat → Bool
  | 0, _, _, _, _, _ => false
  | n + 1, p, m, a, b, j => (rsOf m).any fun r => !decide (aftF ρ r a b = (0, 0)) && (if r = k then decide (j = p) && !noneF ρ n (del m r) (aftF ρ r a b).1 (aftF ρ r a b).2 else atF ρ k n (p + 1) (del m r) (aftF ρ r a b).1 (aftF ρ r a b).2 j)
def okPl (L k : Nat) (ρ : Rho) : Prop := okT L ρ ∧ ∀ m j, m < 2 ^ L → j < 8 → ∀ a b, ρ.fb (20000 + 512 * k + 8 * m + j) a b 0 = atF ρ k (cnt m) (L - cnt m) m a b j
noncomputable def loopL (L k : Nat) (st : LoopState) (x : Ex) : AObj := .loop st x 45 (treeOf [(0, filmK 2001 L), (1, ln k), (2, .ptr 2004 0), (3, .ptr 2005 0), (4, .ptr 2006 0), (5, .ptr 2007 0), (8, .func (.func 75) [] [.ptr 2013 0, .ptr 2012 0])]) [9] 45009 2014
noncomputable def preL (L k : Nat) : List (Nat × AObj) := [(1001, rowsA L), (2001, .umap (mU false)), (2005, ro [ln k]), (2013, ro [.func (.func 60) [filmK 2001 L] []]), (2015, loopL L k .ready .norm), (2016, ro [.yieldF 2015]), (2018, ro [.slice 2017 0 6 6]), (2019, ro [.func (.func 76) [] ptrsP])]
noncomputable def psO (ps : List BE) : AObj := .cells (lMap AV.bool ps) 84 true false
noncomputable def vL (L k : Nat) (xs : List IE) (ps : List BE) : List (Nat × AObj) := [(1001, rowsA L), (2001, .umap (mU false)), (2005, ro [ln k]), (2007, psO ps), (2013, ro [.func (.func 60) [filmK 2001 L] []]), (2015, loopL L k .ready .norm), (2016, ro [.yieldF 2015]), (2017, .cells (lMap iA xs) 3 true false), (2018, ro [.slice 2017 0 6 6]), (2019, ro [.func (.func 76) [] ptrsP])]
noncomputable def argsL (L m : Nat) (x1 x2 : IE) : List AV := ln (L - cnt m) :: bitsA m :: .agg [iA x1, iA x2] :: ptrsP
noncomputable def mapB (f : Nat → BE → BE) : List BE → Nat → List BE := fun l => @List.rec BE (fun _ => Nat → List BE) (fun _ => []) (fun a _ ih j => f j a :: ih (j + 1)) l
noncomputable def orT (m : Nat) (s : BE) (x1 x2 : IE) : BE := cond (Nat.beq m 0) (.lit true) (orB s (.not (noneE m x1 x2)))
noncomputable def psF (L k m q : Nat) (x1 x2 : IE) (j : Nat) (s : BE) : BE := cond (bt m k) (cond (Nat.ble (j + 1) L) (orB s (atE k m x1 x2 j)) s) (cond (Nat.beq j q) (orT m s x1 x2) s)
noncomputable def psL (L k m q : Nat) (x1 x2 : IE) (ps : List BE) : List BE := mapB (psF L k m q x1 x2) ps 0
noncomputable def leafL (L k m q : Nat) (x1 x2 : IE) (xs : List IE) (ps : List BE) : AV × Heap := (tag true, viewA 2020 (vL L k (leftL L m (L - cnt m) x1 x2 xs) (psL L k m q x1 x2 ps)))
noncomputable def boolsI : List AV → Option (List BE)
  | [] => some []
  | a :: l => (match a with
    | .bool x => (match boolsI l with
      | some xs => some (x :: xs)
      | none => none)
    | _ => none)
noncomputable def boolsC (o : Option AObj) : Option (List BE) :=
  match o with
  | some (.cells cs _ _ _) => boolsI cs
  | _ => none
noncomputable def isLitN (k : Nat) (x : IE) : Bool :=
  match x with
  | .lit (.ofNat n) => Nat.beq n k
  | _ => false
noncomputable def posK (k : Nat) (xs : List IE) : Nat := @List.rec IE (fun _ => Nat) 0 (fun x _ ih => cond (isLitN k x) 0 (ih + 1)) xs
/-- surely another reel -/
noncomputable def notK (k kn : Nat) (x : IE) : Bool :=
  match x with
  | .lit (.ofNat n) => Bool.not (Nat.beq n k)
  | .var i => and (Nat.ble 510 i) (Nat.ble (i + 1) (510 + kn))
  | _ => false
noncomputable def okX (k kn n : Nat) (xs : List IE) : Nat → Bool := @List.rec IE (fun _ => Nat → Bool) (fun _ => true) (fun x _ ih j => cond (Nat.ble (j + 1) n) (and (notK k kn x) (ih (j + 1))) true) xs
noncomputable def nthI (xs : List IE) : Nat → IE := @List.rec IE (fun _ => Nat → IE) (fun _ => .lit 0) (fun x _ ih j => @Nat.rec (fun _ => IE) x (fun i _ => ih i) j) xs
noncomputable def knX (L k kn m q : Nat) (xs : List IE) : Bool := cond (bt m k) (okX k kn (L - cnt m) xs 0) (and (okX k kn q xs 0) (and (Nat.ble (q + 1) (L - cnt m)) (isLitN k (nthI xs q))))
noncomputable def lenB (ps : List BE) : Nat := @List.rec BE (fun _ => Nat) 0 (fun _ _ ih => ih + 1) ps
noncomputable def orcT3 (L k kn c : Nat) (args : List AV) (h : Heap) : Option (T (AV × Heap)) :=
  match args with
  | (_ :: .agg bs :: .agg [.int _ x1, .int _ x2] :: _) => (match maskA bs 1, cellsI (h.get 2017), boolsC (h.get 2007) with
    | some m, some xs, some ps => cond (and (and (eqAVs args (argsL L m x1 x2)) (and (ltP L m) (Nat.ble (cnt m + 1) c))) (and (and (and (Nat.beq (lLen xs) 6) (Nat.beq (lenB ps) 6)) (and (knX L k kn m (posK k xs) xs) (lessAll h (vL L k xs ps)))) (Nat.ble 2020 h.next)))
        (some ((T.ret (leafL L k m (posK k xs) x1 x2 xs ps)).bind fun r => graftT 2020 (vL L k xs ps) h [] r)) none
    | _, _, _ => none)
  | _ => none
noncomputable def orcL3 (L k kn c : Nat) (f : FuncId) (args : List AV) (h : Heap) : Option (T (AV × Heap)) := cond (Nat.beq f 60) (orcA 2001 L args h) (cond (Nat.beq f 76) (orcT3 L k kn c args h) none)
noncomputable def tbL (L k kn c : Nat) : Tabs := ⟨Sx.Tryd.ft.get, lFind Sx.Tryd.rt, 2000, orcL3 L k kn c⟩
/-! ## The runs -/
noncomputable def knM (L k m q : Nat) : Nat := cond (bt m k) (L - cnt m) q
noncomputable def vsQ (k m q : Nat) : List IE := mapI (fun j x => cond (bt m k) x (cond (Nat.beq j q) (.lit (Int.ofNat k)) x)) vs6 0
noncomputable def bX (j : Nat) : BE := .cmp .eql (.var j) (.lit 1)
noncomputable def bs6 : List BE := lMap bX (upN 6 530)
noncomputable def runL (L k m q : Nat) : T (AV × Heap) := (evalN (tbL L k (knM L k m q) (cnt m)) 100 false 76 (argsL L m (.var 500) (.var 501)) (viewA 2020 (vL L k (vsQ k m q) bs6))).bind fun r => graftT 2020 (vL L k (vsQ k m q) bs6) (viewA 2020 (vL L k (vsQ k m q) bs6)) [] r
noncomputable def encL (L k : Nat) (r : AV × Heap) : AV := .tup [r.1, tag (and (allO r.2 (preL L k)) (Nat.beq r.2.next 2020)), blkA (r.2.get 2017), blkA (r.2.get 2007)]
noncomputable def boolB (ps : List BE) : AV := .tup [.tup (lMap AV.bool ps), ln 84, tag true, tag false]
noncomputable def lfL (cs : List IE) (ps : List BE) : AV := .tup [tag true, tag true, cellsB cs false, boolB ps]
noncomputable def tPl (L k m p q : Nat) (x1 x2 : IE) (l : List Nat) : List IE → List BE → T AV :=
  @List.rec Nat (fun _ => List IE → List BE → T AV) (fun cs ps => .ret (lfL cs ps))
    (fun r _ ih cs ps => .br (empE r x1 x2) (ih cs ps) (ih (updL L (del m r) p r (af1 r x1 x2) (af2 r x1 x2) cs) (psL L k (del m r) (cond (Nat.beq r k) p q) (af1 r x1 x2) (af2 r x1 x2) ps))) l
/-- where an order is found: the first place where the reel is -/
noncomputable def chP (k q : Nat) (n : Nat) : Nat → T AV :=
  @Nat.rec (fun _ => Nat → T AV) (fun _ => .ret (lfL (vsQ k 0 q) (mapB (fun j s => cond (Nat.beq j q) (.lit true) s) bs6 0)))
    (fun _ ih i => .br (.cmp .eql (.lit (Int.ofNat k)) (.var (510 + i))) (.ret (lfL (vsQ k 0 q) (mapB (fun j s => cond (Nat.beq j i) (.lit true) s) bs6 0))) (ih (i + 1))) n
noncomputable def expL (L k m q : Nat) : T AV := cond (Nat.beq m 0) (chP k q q 0) (tPl L k m (L - cnt m) q (.var 500) (.var 501) (rsOf m) (vsQ k m q) bs6)
noncomputable def ckL (L k m q : Nat) : Bool := eqTF ((runL L k m q).bind fun r => .ret (encL L k r)) (expL L k m q)
/-- all that are asked of a set of reels -/
noncomputable def ckLs (L k m : Nat) : Bool := cond (bt m k) (ckL L k m 0) (lAll (ckL L k m) (upN (L - cnt m) 0))
noncomputable def ckLk (L k : Nat) : Bool := lAll (ckLs L k) (upN (Nat.pow 2 L) 0)
theorem kL1 : lAll (ckLk 1) (upN 1 0) = true := by kernel_rfl
theorem kL2 : lAll (ckLk 2) (upN 2 0) = true := by kernel_rfl
theorem kL3 : lAll (ckLk 3) (upN 3 0) = true := by kernel_rfl
end Go.Sx
