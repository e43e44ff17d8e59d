/- NUMBERS THAT ARE KNOWN, RECKONED: a call that is taken as made, with what it hands back reckoned. -/
import Derived.Test.YtlaakbmimplceaaDoorFiP
import Derived.Test.YtlaakbmimplceaaDoorSxRound
import Derived.Test.YtlaakbmimplceaaDoorSxView
/-! CALLS, MADE: what is called, what it reads, what it hands back. -/
namespace Go.Sx
open Go.RowKit Go.Proofs
set_option maxRecDepth 100000
noncomputable def gl : List (Nat × List AV) := [(0, [li 1, li 20, li 0, li 50]), (1, [li 0, li 99, li 0, li 99, li 1, li 1200])]
noncomputable def cl0 : List (AV × AV × Nat) := [((.agg [(li 0), (li 0), (li 100)]), (.agg [(li 20), (li 21)]), 0), ((.agg [(li 1), (li 20), (li 21)]), (.agg [(li 0), (li 0)]), 1), ((.agg [(li 2), (li 20), (li 21)]), (.agg [(li 20), (li 31)]), 2), ((.agg [(li 1), (li 20), (li 31)]), (.agg [(li 0), (li 0)]), 3), ((.agg [(li 3), (li 20), (li 31)]), (.agg [(li 20), (li 41)]), 4), ((.agg [(li 1), (li 20), (li 41)]), (.agg [(li 0), (li 0)]), 5), ((.agg [(li 3), (li 20), (li 21)]), (.agg [(li 20), (li 41)]), 6), ((.agg [(li 2), (li 20), (li 41)]), (.agg [(li 20), (li 31)]), 7), ((.agg [(li 1), (li 0), (li 100)]), (.agg [(li 5), (li 7)]), 8), ((.agg [(li 0), (li 5), (li 7)]), (.agg [(li 0), (li 0)]), 9), ((.agg [(li 2), (li 5), (li 7)]), (.agg [(li 0), (li 0)]), 10), ((.agg [(li 3), (li 5), (li 7)]), (.agg [(li 0), (li 0)]), 11), ((.agg [(li 2), (li 0), (li 100)]), (.agg [(li 20), (li 31)]), 12), ((.agg [(li 0), (li 20), (li 31)]), (.agg [(li 0), (li 0)]), 13), ((.agg [(li 0), (li 20), (li 41)]), (.agg [(li 0), (li 0)]), 14), ((.agg [(li 3), (li 0), (li 100)]), (.agg [(li 20), (li 41)]), 15)]
noncomputable def cl1 : List AV := [(li 10), (li 12), (li 20), (li 20), (li 900), (li 900), (li 1), (li 1), (li 9), (li 11), (li 950), (li 1000), (li 20), (li 22), (li 20), (li 30), (li 800), (li 820), (li 20), (li 31), (li 20), (li 40), (li 700), (li 700)]
noncomputable def cl2 : List AV := [(li 10), (li 12), (li 20), (li 20), (li 900), (li 900), (li 1), (li 1), (li 5), (li 6), (li 950), (li 1000), (li 20), (li 22), (li 20), (li 30), (li 800), (li 820), (li 20), (li 31), (li 20), (li 40), (li 700), (li 700)]
end Go.Sx
/-! CALLS, MADE: what is called, what it reads, what it hands back. -/
namespace Go.Sx
open Go.RowKit Go.Proofs
set_option maxRecDepth 100000
noncomputable def e0 : Ent := ⟨38, [(.agg [(.slice 1000 0 4 4), (li 6), (li 8), (li 1), (li 3), (li 2000)])], 1001, [(0, .cells [(li 1), (li 20), (li 0), (li 50)]), (1, .cells [(li 0), (li 99), (li 0), (li 99), (li 1), (li 1200)]), (1000, .cells cl1)], (.tup [(.agg [(.slice 1000 0 4 4), (li 6), (li 8), (li 1), (li 3), (li 2000), (.map 1055)]), (li 0)]), [(1055, .map [] 0)], []⟩
theorem e0_run : e0.run tb0 100 = true := by kernel_rfl
noncomputable def e1 : Ent := ⟨38, [(.agg [(.slice 1000 0 4 4), (li 6), (li 8), (li 1), (li 3), (li 2000)])], 1001, [(0, .cells [(li 1), (li 20), (li 0), (li 50)]), (1, .cells [(li 0), (li 99), (li 0), (li 99), (li 1), (li 1200)]), (1000, .cells cl2)], (.tup [(.agg [(.slice 1000 0 4 4), (li 6), (li 8), (li 1), (li 3), (li 2000), (.map 1055)]), (li 0)]), [(1055, .map [] 0)], []⟩
theorem e1_run : e1.run tb0 100 = true := by kernel_rfl
noncomputable def e2 : Ent := ⟨64, [(.agg [(.slice 1001 0 4 4), (li 6), (li 8), (li 1), (li 3), (li 2000), (.map 1000)]), (.agg [(.bool (.lit true)), (.bool (.lit true)), (.bool (.lit true)), (.bool (.lit true)), (.bool (.lit false)), (.bool (.lit false))])], 1002, [(1000, .ownMap [] 0), (1001, .cells cl2)], (.bool (.lit false)), [], [(1000, .map cl0 16)]⟩
theorem e2_run : e2.run tb0 100 = true := by kernel_rfl
noncomputable def e3 : Ent := ⟨64, [(.agg [(.slice 1000 0 4 4), (li 6), (li 8), (li 1), (li 3), (li 2000), (.map 1001)]), (.agg [(.bool (.lit true)), (.bool (.lit true)), (.bool (.lit true)), (.bool (.lit true)), (.bool (.lit false)), (.bool (.lit false))])], 1002, [(1001, .map cl0 16)], (.bool (.lit false)), [], []⟩
theorem e3_run : e3.run tb0 100 = true := by kernel_rfl
noncomputable def e4 : Ent := ⟨64, [(.agg [(.slice 1000 0 4 4), (li 6), (li 8), (li 1), (li 3), (li 2000), (.map 1001)]), (.agg [(.bool (.lit false)), (.bool (.lit true)), (.bool (.lit true)), (.bool (.lit true)), (.bool (.lit false)), (.bool (.lit false))])], 1002, [(1001, .map cl0 16)], (.bool (.lit false)), [], []⟩
theorem e4_run : e4.run tb0 100 = true := by kernel_rfl
noncomputable def e5 : Ent := ⟨64, [(.agg [(.slice 1000 0 4 4), (li 6), (li 8), (li 1), (li 3), (li 2000), (.map 1001)]), (.agg [(.bool (.lit true)), (.bool (.lit false)), (.bool (.lit true)), (.bool (.lit true)), (.bool (.lit false)), (.bool (.lit false))])], 1002, [(1001, .map cl0 16)], (.bool (.lit true)), [], []⟩
theorem e5_run : e5.run tb0 100 = true := by kernel_rfl
noncomputable def e6 : Ent := ⟨53, [(.agg [(.slice 1001 0 4 4), (li 6), (li 8), (li 1), (li 3), (li 2000), (.map 1000)]), (li 2), (li 700), (.agg [(.func (.func 71) [] []), (.func (.func 72) [] [])])], 1002, [(1001, .cells cl1)], (li 33), [], []⟩
theorem e6_run : e6.run tb0 100 = true := by kernel_rfl
noncomputable def e7 : Ent := ⟨53, [(.agg [(.slice 1001 0 4 4), (li 6), (li 8), (li 1), (li 3), (li 2000), (.map 1000)]), (li 2), (li 700), (.agg [(.func (.func 72) [] []), (.func (.func 71) [] [])])], 1002, [(1001, .cells cl1)], (li 120), [], []⟩
theorem e7_run : e7.run tb0 100 = true := by kernel_rfl
end Go.Sx
/-! CALLS, MADE: what is called, what it reads, what it hands back. -/
namespace Go.Sx
open Go.RowKit Go.Proofs
set_option maxRecDepth 100000
theorem bk0 (k : Nat) : RunL tb0 100 k [e0, e1] := ⟨(lAll_cons (p := Ent.run tb0 100) e0_run (lAll_cons (p := Ent.run tb0 100) e1_run rfl))⟩
theorem bk2 (k : Nat) : RunL tb0 100 k [e2, e3, e4, e5] := ⟨(lAll_cons (p := Ent.run tb0 100) e2_run (lAll_cons (p := Ent.run tb0 100) e3_run (lAll_cons (p := Ent.run tb0 100) e4_run (lAll_cons (p := Ent.run tb0 100) e5_run rfl))))⟩
theorem bk6 (k : Nat) : RunL tb0 100 k [e6, e7] := ⟨(lAll_cons (p := Ent.run tb0 100) e6_run (lAll_cons (p := Ent.run tb0 100) e7_run rfl))⟩
noncomputable def ents1 : PT (List Ent) := (.node none (.node (some [e0, e1]) .nil .nil) (.node (some [e2, e3, e4, e5]) (.node (some [e6, e7]) .nil .nil) .nil))
theorem ents1_run : ents1.Every (RunL tb0 100) := ⟨ev0, ⟨ev1 (bk0 _), trivial, trivial⟩, ⟨ev1 (bk2 _), ⟨ev1 (bk6 _), trivial, trivial⟩, trivial⟩⟩
noncomputable def orc1 (f : FuncId) (args : List AV) (h : Heap) : Option (T (AV × Heap)) := entPT 8 ents1 f args h
theorem orc1_ok : ∀ f args h t, orc1 f args h = some t → CallOk pT f args h t := fun _ _ _ _ e => entPT_ok tabs0 ents1_run e
noncomputable def tb1 : Tabs := ⟨Sx.Tryd.ft.get, lFind Sx.Tryd.rt, 2000, orc1⟩
theorem tabs1 : TabOk pT Sx.Tryd.tt.get tb1 := Tryd.tab orc1 orc1_ok 2000
end Go.Sx
/-! NUMBERS THAT ARE KNOWN, RECKONED: a call that is taken as made, with what it hands back reckoned. -/
namespace Go.Sx
open Go.RowKit

noncomputable def foldBin (op : BinOp) (k : IntKind) (a b : IE) : IE :=
  match a, b with
  | .lit x, .lit y => (match op with
    | .add => .lit (wrapL k (Int.add x y))
    | .sub => .lit (wrapL k (Int.sub x y))
    | .mul => .lit (wrapL k (Int.mul x y))
    | op => .bin op k (.lit x) (.lit y))
  | a, b => .bin op k a b
noncomputable def foldI : IE → IE
  | .bin op k a b => foldBin op k (foldI a) (foldI b)
  | .conv k a => mkConv k (foldI a)
  | .mx a b => mkMax (foldI a) (foldI b)
  | .mn a b => mkMin (foldI a) (foldI b)
  | .app f a b c => .app f (foldI a) (foldI b) (foldI c)
  | e => e
noncomputable def foldB : BE → BE
  | .not a => (foldB a).mkNot
  | .and a b => (foldB a).mkAnd (foldB b)
  | .cmp op a b => (match mkCmp op (foldI a) (foldI b) with
    | some c => c
    | none => .cmp op a b)
  | .iff a b => (foldB a).mkIff (foldB b)
  | c => c
theorem foldBin_den {ρ : Rho} (op : BinOp) (k : IntKind) (a b : IE) : (foldBin op k a b).den ρ = (IE.bin op k a b).den ρ := by
  unfold foldBin
  split
  · split <;> simp only [IE.den, binDen, wrapL_eq] <;> rfl
  · rfl
theorem mx_lit (x y : Int) : cond (ilt x y) y x = if y > x then y else x := by
  cases h : ilt x y with
  | true => have := ilt_t.1 h; rw [cond_true, if_pos (by omega)]
  | false => have := ilt_f.1 h; rw [cond_false, if_neg (by omega)]
theorem mn_lit (x y : Int) : cond (ilt y x) y x = if y < x then y else x := by
  cases h : ilt y x with
  | true => have := ilt_t.1 h; rw [cond_true, if_pos (by omega)]
  | false => have := ilt_f.1 h; rw [cond_false, if_neg (by omega)]
theorem mkMax_den {ρ : Rho} (a b : IE) : (mkMax a b).den ρ = (IE.mx a b).den ρ := by
  unfold mkMax
  split
  · rename_i x y; exact mx_lit x y
  · rfl
theorem mkMin_den {ρ : Rho} (a b : IE) : (mkMin a b).den ρ = (IE.mn a b).den ρ := by
  unfold mkMin
  split
  · rename_i x y; exact mn_lit x y
  · rfl
theorem mkConv_den {ρ : Rho} (k : IntKind) (a : IE) : (mkConv k a).den ρ = (IE.conv k a).den ρ := by
  unfold mkConv
  split
  · simp only [IE.den, wrapL_eq]
  · rfl
theorem foldI_den {ρ : Rho} : ∀ e : IE, (foldI e).den ρ = e.den ρ
  | .lit _ => rfl
  | .var _ => rfl
  | .bin op k a b => by simp only [foldI, foldBin_den, IE.den, foldI_den a, foldI_den b]
  | .conv k a => by simp only [foldI, mkConv_den, IE.den, foldI_den a]
  | .mx a b => by simp only [foldI, mkMax_den, IE.den, foldI_den a, foldI_den b]
  | .mn a b => by simp only [foldI, mkMin_den, IE.den, foldI_den a, foldI_den b]
  | .app f a b c => by simp only [foldI, IE.den, foldI_den a, foldI_den b, foldI_den c]
theorem mkAnd_den {ρ : Rho} (a b : BE) : (a.mkAnd b).den ρ = (a.den ρ && b.den ρ) := by
  unfold BE.mkAnd
  split
  · rename_i c; cases c <;> simp [BE.den]
  · rfl
theorem foldB_den {ρ : Rho} : ∀ c : BE, (foldB c).den ρ = c.den ρ
  | .lit _ => rfl
  | .var _ => rfl
  | .app _ _ _ _ => rfl
  | .not a => by simp only [foldB, mkNot_den, BE.den, foldB_den a]
  | .and a b => by simp only [foldB, mkAnd_den, BE.den, foldB_den a, foldB_den b]
  | .iff a b => by simp only [foldB, mkIff_den, BE.den, foldB_den a, foldB_den b]
  | .cmp op a b => by
    simp only [foldB]
    split
    · rename_i c hc
      rw [(mkCmp_den hc).2, foldI_den, foldI_den]; rfl
    · rfl
mutual
noncomputable def foldV : AV → AV
  | .int k e => .int k (foldI e)
  | .bool b => .bool (foldB b)
  | .agg l => .agg (foldVs l)
  | .tup l => .tup (foldVs l)
  | v => v
noncomputable def foldVs : List AV → List AV
  | [] => []
  | a :: l => foldV a :: foldVs l
end
mutual
theorem foldV_conc {E : Env} : ∀ v : AV, conc E (foldV v) = conc E v
  | .int k e => by simp only [foldV, conc, foldI_den]
  | .bool b => by simp only [foldV, conc, foldB_den]
  | .agg l => by simp only [foldV, conc, foldVs_conc l]
  | .tup l => by simp only [foldV, conc, foldVs_conc l]
  | .ptr _ _ => rfl
  | .nilptr => rfl
  | .slice _ _ _ _ => rfl
  | .sliceX _ _ _ _ => rfl
  | .sliceU _ => rfl
  | .sliceV _ _ => rfl
  | .ptrV _ _ _ _ _ => rfl
  | .nilslice => rfl
  | .map _ => rfl
  | .nilmap => rfl
  | .func _ _ _ => rfl
  | .yieldF _ => rfl
  | .nilFunc => rfl
  | .opq _ => rfl
  | .bad => rfl
theorem foldVs_conc {E : Env} : ∀ l : List AV, concL E (foldVs l) = concL E l
  | [] => rfl
  | a :: l => by simp only [foldVs, concL, foldV_conc a, foldVs_conc l]
end
noncomputable def foldT (t : T (AV × Heap)) : T (AV × Heap) :=
  @T.rec (AV × Heap) (fun _ => T (AV × Heap)) (fun r => .ret (foldV r.1, r.2)) (fun c _ _ x y => T.ite (foldB c) x y) (fun w => .fail w) t
theorem foldT_holds {ρ : Rho} {Q : AV × Heap → Prop} : ∀ t : T (AV × Heap), (foldT t).Holds ρ Q → t.Holds ρ fun r => Q (foldV r.1, r.2)
  | .ret r, h => h
  | .fail w, h => h
  | .br c x y, h => by
    have h : (T.ite (foldB c) (foldT x) (foldT y)).Holds ρ Q := h
    rw [T.holds_ite, foldB_den] at h
    simp only [T.Holds]
    split at h
    · rename_i hc; rw [if_pos hc]; exact foldT_holds x h
    · rename_i hc; rw [if_neg hc]; exact foldT_holds y h
theorem CallOk.fold {p : Par} {f : FuncId} {args : List AV} {h : Heap} {t : T (AV × Heap)} (H : CallOk p f args h t) : CallOk p f args h (foldT t) := by
  intro vs E w0 w Q K k HH ha P
  exact H vs E w0 w (fun r => Q (foldV r.1, r.2)) K (foldT_holds t k) HH ha
    (fun v h' E' w' cv q hle HH' hv => P (foldV v) h' E' w' cv q hle HH' (by rw [foldV_conc]; exact hv))
end Go.Sx
