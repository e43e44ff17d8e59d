/- THE LAW OF WHAT IS TORN OFF: calls whose results have names. -/
import Derived.Test.YtanhchkdglglhaaDoorSxTornL
import Derived.Test.YtanhchkdglglhaaDoorSxCSpecK
/-! THE LAW OF WHAT IS TORN OFF: its run, for a valid film and one of its reels. -/
namespace Go.Sx
open Go.RowKit Go.Proofs
set_option maxRecDepth 100000
noncomputable def wantE : IE := .bin .add .i64 (.lit 1) (.var 94)
noncomputable def pickE : IE := .app 1000 (.lit 0) (.lit 0) (.lit 0)
noncomputable def tornArgs (L : Nat) : List AV := [filmV L, .agg [vi 87, vi 86], .sliceU 96, vi 85]
/-- calls whose results have names -/
noncomputable def showsW (k : Nat) : T AV :=
  let sv := fun m => IE.app 0 (.var (hadV k m)) (.var (tornV m)) wantE
  let ls := fun m => BE.cmp .lss (sv m) (.lit 999)
  let o := fun (a b : Bool) => T.ret (AV.tup [cond a (AV.int .i64 (sv 0)) (li 999), cond b (AV.int .i64 (sv 1)) (li 999), li 0])
  .br (.cmp .gtr wantE (.var (hadV k 1))) (.ret (.tup [li 0, li 0, li 4])) (.br (ls 0) (.br (ls 1) (o true true) (o true false)) (.br (ls 1) (o false true) (o false false)))
noncomputable def turnAt (a b : IE) : CSpec := ⟨48, [.int .i64 a, .int .i64 b], [], 2000, [], .ret (.int .i64 (.app 6 a b (.lit 0)))⟩
noncomputable def chooseAt (k : Nat) : CSpec := ⟨52, [.agg [vi (hadV k 0), vi (hadV k 1)], .int .i64 pickE], [], 2000, rdom k, .ret (.int .i64 (.app 7 (.var (hadV k 0)) (.var (hadV k 1)) pickE))⟩
noncomputable def showsAt (L k : Nat) : CSpec := ⟨32, [filmV L, li k, .int .i64 wantE], viewV L, 2000, csL L ++ rdom k ++ [.cmp .leq (.lit 0) (.var 94), .cmp .leq (.var 94) (.lit 1199)], showsW k⟩
noncomputable def got (o : Option (T (AV × Heap))) : T (AV × Heap) :=
  match o with
  | some t => t
  | none => .fail 77
theorem got_ok {p : Par} {f : FuncId} {args : List AV} {h : Heap} {o : Option (T (AV × Heap))} (H : ∀ t, o = some t → CallOk p f args h t) : CallOk p f args h (got o) := by
  cases o with
  | some t => exact H t rfl
  | none => intro vs E w0 w Q K k; exact k.elim
noncomputable def namedL (L k : Nat) : List (CSpec × AV) := [(turnAt (.var 87) (.lit (Int.ofNat L)), li (Int.ofNat k)), (turnAt (.var 86) (.lit 120), vi 88), (turnAt (.var 85) (.lit 1200), vi 94), (chooseAt k, vi 92), (showsAt L k, .tup [vi 97, vi 98, vi 99])]
noncomputable def namedOrc (f : FuncId) (args : List AV) (h : Heap) (l : List (CSpec × AV)) : Option (T (AV × Heap)) :=
  @List.rec (CSpec × AV) (fun _ => Option (T (AV × Heap))) none (fun c _ ih => cond (Nat.beq f c.1.f) (match c.1.orcX c.2 args h with
    | some t => some t
    | none => ih) ih) l
noncomputable def ckAt (q : List (Nat × Int × Int)) (c : CSpec) (o : Option (T (AV × Heap))) : Bool := servesW [] c.u ((got o).bind fun r => .ret r.1) (knOf q c.cs)
noncomputable def ckTurn (a b : IE) : Bool := ckAt [] (turnAt a b) (turnC.orc (turnAt a b).args (viewHeap 2000 []))
noncomputable def ckChoose (k : Nat) : Bool := ckAt [] (chooseAt k) (chooseC.orc (chooseAt k).args (viewHeap 2000 []))
noncomputable def ckShows (L k : Nat) : Bool := ckAt [(94, 0, 1199)] (showsAt L k) ((callV 32 L k (vi 90) (showsU k)).orc (showsAt L k).args (viewHeap 2000 (viewV L)))
noncomputable def namedCk (q : Nat × Nat × Nat) : Bool := and (ckTurn (.var 87) (.lit (Int.ofNat q.1))) (and (ckTurn (.var 86) (.lit 120)) (and (ckTurn (.var 85) (.lit 1200)) (and (ckChoose q.2.1) (ckShows q.1 q.2.1))))
noncomputable def orcLawT (L k : Nat) (f : FuncId) (args : List AV) (h : Heap) : Option (T (AV × Heap)) :=
  cond (Nat.beq f 25) (closedOrc glV args h) (cond (Nat.beq f 54) (pickOrc args h) (namedOrc f args h (namedL L k)))
noncomputable def tbLawT (L k : Nat) : Tabs := ⟨Sx.Tryd.ft.get, lFind Sx.Tryd.rt, 2000, orcLawT L k⟩
noncomputable def cxLawT (L k : Nat) : Cx := ⟨evalN (tbLawT L k) 60 false, evalN (tbLawT L k) 60 true, 2000⟩
noncomputable def tornTree (L k : Nat) : T (AV × Heap) :=
  (tornCode ((tornL L k).runF [96]) (cxLawT L k) ⟨11, none⟩ ⟨⟨[], tmOf (tornArgs L) 0 .nil⟩, [], viewHeap 2000 (viewV L)⟩).bind (finish ⟨Tryd.f11.params.size + Tryd.f11.nfree, tornCode ((tornL L k).runF [96]), [.t 8]⟩)
noncomputable def gAw (k : Nat) : BE := .and (.cmp .eql (.var 99) (.lit 0)) (.and (.cmp .eql (.var 97) (.app 0 (.var (hadV k 0)) (.var (tornV 0)) wantE)) (.cmp .eql (.var 98) (.app 0 (.var (hadV k 1)) (.var (tornV 1)) wantE)))
noncomputable def gBw (k : Nat) : BE := .and (.cmp .eql (.var 99) (.lit 4)) (.cmp .gtr wantE (.var (hadV k 1)))
noncomputable def lawTK (L k : Nat) : List BE := csL L ++ rdom k ++ [.cmp .leq (.lit 0) (.var 88), .cmp .leq (.var 88) (.lit 119), .cmp .leq (.lit 0) (.var 94), .cmp .leq (.var 94) (.lit 1199),
  .cmp .leq (.var (hadV k 0)) (.var 92), .cmp .leq (.var 92) (.var (hadV k 1)), .not (.and (.not (gAw k)) (.not (gBw k)))]
noncomputable def lawTR (k : Nat) : Rules := [([.cmp .neq (.var 99) (.lit 0), .cmp .neq (.var 99) (.lit 4)], .lit false), ([.cmp .neq (.var 99) (.lit 0), .cmp .geq (.var (hadV k 1)) wantE], .lit false),
  ([.cmp .eql (.var 99) (.lit 0), .cmp .gtr (.var 97) (.var 98)], .lit false), ([.cmp .eql (.var 99) (.lit 0), .cmp .lss (.var 97) (.lit (-1))], .lit false),
  ([.cmp .eql (.var 99) (.lit 0), .cmp .gtr (.var 97) (.lit 999)], .lit false), ([.cmp .eql (.var 99) (.lit 0), .cmp .lss (.var 98) (.lit 0)], .lit false), ([.cmp .eql (.var 99) (.lit 0), .cmp .neq (.var 99) (.lit 0)], .lit false)]
noncomputable def lawTCk (q : Nat × Nat × Nat) : Bool := servesX (lawTR q.2.1) (.ret (.bool (.lit true))) ((tornTree q.1 q.2.1).bind fun r => .ret r.1) (knOf [(94, 0, 1199)] (lawTK q.1 q.2.1))
end Go.Sx
/-! THE LAW OF WHAT IS TORN OFF: calls whose results have names. -/
namespace Go.Sx
open Go.RowKit Go.Proofs
set_option maxRecDepth 100000
theorem named_1 : lAll namedCk lk1 = true := by kernel_rfl
theorem named_2 : lAll namedCk lk2 = true := by kernel_rfl
theorem named_3 : lAll namedCk lk3 = true := by kernel_rfl
theorem named_4 : lAll namedCk lk4 = true := by kernel_rfl
theorem named_5 : lAll namedCk lk5 = true := by kernel_rfl
theorem named_6 : lAll namedCk lk6 = true := by kernel_rfl
theorem named_all : ∀ q ∈ lk21, namedCk q = true := lk21_of named_1 named_2 named_3 named_4 named_5 named_6
end Go.Sx
