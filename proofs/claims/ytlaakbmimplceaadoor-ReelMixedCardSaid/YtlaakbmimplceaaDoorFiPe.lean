/- FiPe -/
import Derived.Test.YtlaakbmimplceaaDoorRyKF
import Derived.Test.YtlaakbmimplceaaDoorRyKF6
import Derived.Test.YtlaakbmimplceaaDoorRyI
import Derived.Test.YtlaakbmimplceaaDoorRyKC6a
import Derived.Test.YtlaakbmimplceaaDoorRyKC6c
import Derived.Test.YtlaakbmimplceaaDoorRyKC6e
import Derived.Test.YtlaakbmimplceaaDoorRyKC6g
import Derived.Test.YtlaakbmimplceaaDoorSxSelf
import Derived.Test.YtlaakbmimplceaaDoorEntL1x0
namespace Go.Sx
noncomputable section
open Go.RowKit Go.Proofs
set_option maxRecDepth 100000
theorem ckF_all {L m : Nat} (h0 : 1 ≤ L) (hL : L ≤ 6) (hm : m < 2 ^ L) : ckT consF L m = true := by
 rcases six h0 hL with rfl | rfl | rfl | rfl | rfl | rfl
 ·exact lAll_at kF1 (Nat.zero_le _) (by omega)
 ·exact lAll_at kF2 (Nat.zero_le _) (by omega)
 ·exact lAll_at kF3 (Nat.zero_le _) (by omega)
 ·exact lAll_at kF4 (Nat.zero_le _) (by omega)
 ·have h : m < 8 ∧ 0 ≤ m ∨ m < 16 ∧ 8 ≤ m ∨ m < 24 ∧ 16 ≤ m ∨ m < 32 ∧ 24 ≤ m := by omega
  rcases h with h | h | h | h
  ·exact lAll_at kF5_0 (by omega) (by omega)
  ·exact lAll_at kF5_1 (by omega) (by omega)
  ·exact lAll_at kF5_2 (by omega) (by omega)
  ·exact lAll_at kF5_3 (by omega) (by omega)
 ·have h : m < 8 ∧ 0 ≤ m ∨ m < 16 ∧ 8 ≤ m ∨ m < 24 ∧ 16 ≤ m ∨ m < 32 ∧ 24 ≤ m ∨ m < 40 ∧ 32 ≤ m ∨ m < 48 ∧ 40 ≤ m ∨ m < 56 ∧ 48 ≤ m ∨ m < 64 ∧ 56 ≤ m := by omega
  rcases h with h | h | h | h | h | h | h | h
  ·exact lAll_at kF6_0 (by omega) (by omega)
  ·exact lAll_at kF6_1 (by omega) (by omega)
  ·exact lAll_at kF6_2 (by omega) (by omega)
  ·exact lAll_at kF6_3 (by omega) (by omega)
  ·exact lAll_at kF6_4 (by omega) (by omega)
  ·exact lAll_at kF6_5 (by omega) (by omega)
  ·exact lAll_at kF6_6 (by omega) (by omega)
  ·exact lAll_at kF6_7 (by omega) (by omega)
theorem upN_join {p : Nat → Bool} : ∀ {a b k : Nat}, lAll p (upN a k) = true → lAll p (upN b (k + a)) = true → lAll p (upN (a + b) k) = true
 | 0, b, k, _, h => by rw [Nat.zero_add]; exact h
 | a + 1, b, k, h, h' => by
  have e : lAll p (upN (a + 1) k) = cond (p k) (lAll p (upN a (k + 1))) false := rfl
  have e' : lAll p (upN (a + 1 + b) k) = cond (p k) (lAll p (upN (a + b) (k + 1))) false := by rw [show a + 1 + b = a + b + 1 by omega]; rfl
  rw [e] at h
  rw [e']
  cases hp : p k with
  | false => rw [hp] at h; cases h
  | true =>
   rw [hp, cond_true] at h
   rw [cond_true]
   exact upN_join h (by rw [show k + 1 + a = k + (a + 1) by omega]; exact h')
theorem kC63 : ckC 6 63 = true := upN_join (a := 16) (b := 48) kC63_0 (upN_join (a := 16) (b := 32) kC63_1 (upN_join (a := 16) (b := 16) kC63_2 kC63_3))
theorem kC6_15c : lAll (ckC 6) (upN 1 63) = true := lAll_cons kC63 rfl
theorem kC6_15 : lAll (ckC 6) (upN 4 60) = true := upN_join (a := 2) (b := 2) kC6_15a (upN_join (a := 1) (b := 1) kC6_15b kC6_15c)
theorem ckC_all0 {L m : Nat} (h0 : 1 ≤ L) (hL : L ≤ 6) (hm : m < 2 ^ L) : ckC L m = true := by
 rcases six h0 hL with rfl | rfl | rfl | rfl | rfl | rfl
 ·exact lAll_at kC1 (Nat.zero_le _) (by omega)
 ·exact lAll_at kC2 (Nat.zero_le _) (by omega)
 ·exact lAll_at kC3 (Nat.zero_le _) (by omega)
 ·exact lAll_at kC4 (Nat.zero_le _) (by omega)
 ·have h : m < 8 ∧ 0 ≤ m ∨ m < 16 ∧ 8 ≤ m ∨ m < 24 ∧ 16 ≤ m ∨ m < 32 ∧ 24 ≤ m := by omega
  rcases h with h | h | h | h
  ·exact lAll_at kC5_0 (by omega) (by omega)
  ·exact lAll_at kC5_1 (by omega) (by omega)
  ·exact lAll_at kC5_2 (by omega) (by omega)
  ·exact lAll_at kC5_3 (by omega) (by omega)
 ·have h : m < 4 ∧ 0 ≤ m ∨ m < 8 ∧ 4 ≤ m ∨ m < 12 ∧ 8 ≤ m ∨ m < 16 ∧ 12 ≤ m ∨ m < 20 ∧ 16 ≤ m ∨ m < 24 ∧ 20 ≤ m ∨ m < 28 ∧ 24 ≤ m ∨ m < 32 ∧ 28 ≤ m ∨ m < 36 ∧ 32 ≤ m ∨ m < 40 ∧ 36 ≤ m ∨ m < 44 ∧ 40 ≤ m ∨ m < 48 ∧ 44 ≤ m ∨ m < 52 ∧ 48 ≤ m ∨ m < 56 ∧ 52 ≤ m ∨ m < 60 ∧ 56 ≤ m ∨ m < 64 ∧ 60 ≤ m := by omega
  rcases h with h | h | h | h | h | h | h | h | h | h | h | h | h | h | h | h
  ·exact lAll_at kC6_0 (by omega) (by omega)
  ·exact lAll_at kC6_1 (by omega) (by omega)
  ·exact lAll_at kC6_2 (by omega) (by omega)
  ·exact lAll_at kC6_3 (by omega) (by omega)
  ·exact lAll_at kC6_4 (by omega) (by omega)
  ·exact lAll_at kC6_5 (by omega) (by omega)
  ·exact lAll_at kC6_6 (by omega) (by omega)
  ·exact lAll_at kC6_7 (by omega) (by omega)
  ·exact lAll_at kC6_8 (by omega) (by omega)
  ·exact lAll_at kC6_9 (by omega) (by omega)
  ·exact lAll_at kC6_10 (by omega) (by omega)
  ·exact lAll_at kC6_11 (by omega) (by omega)
  ·exact lAll_at kC6_12 (by omega) (by omega)
  ·exact lAll_at kC6_13 (by omega) (by omega)
  ·exact lAll_at kC6_14 (by omega) (by omega)
  ·exact lAll_at kC6_15 (by omega) (by omega)
theorem bt_bit (m i : Nat) : bt m i = m.testBit i := by
 unfold bt
 rw [Nat.testBit_eq_decide_div_mod_eq]
 cases h : Nat.beq (Nat.mod (Nat.div m (Nat.pow 2 i)) 2) 1 with
 | true => exact (decide_eq_true (beq_t.1 h)).symm
 | false => exact (decide_eq_false (beq_f.1 h)).symm
theorem cnt_mono {m M : Nat} (h : Nat.land m M = m) : cnt m ≤ cnt M := by
 have k : ∀ i, (cond (bt m i) 1 0 : Nat) ≤ cond (bt M i) 1 0 := fun i => by
  have e : (m &&& M).testBit i = m.testBit i := congrArg (fun x => x.testBit i) h
  rw [Nat.testBit_and, ← bt_bit, ← bt_bit] at e
  cases h1 : bt m i <;> cases h2 : bt M i <;> simp_all
 unfold cnt
 have := k 0; have := k 1; have := k 2; have := k 3; have := k 4; have := k 5
 omega
theorem cnt_six (m : Nat) : cnt m ≤ 6 := by
 have k : ∀ i, (cond (bt m i) 1 0 : Nat) ≤ 1 := fun i => by cases bt m i <;> simp
 unfold cnt
 have := k 0; have := k 1; have := k 2; have := k 3; have := k 4; have := k 5
 omega
theorem cnt_le' {L m : Nat} (hm : m < 2 ^ L) : cnt m ≤ L := by
 by_cases h : 6 ≤ L
 ·exact Nat.le_trans (cnt_six m) h
 ·rcases Nat.eq_zero_or_pos L with rfl | h0
  ·have : m = 0 := by omega
   subst this; exact Nat.le_of_eq rfl
  ·exact cnt_le h0 (by omega) hm
theorem ltP_t {L m : Nat} (h : ltP L m = true) : m < 2 ^ L := ble_t.1 h
def subM (m : Nat) : Bool := lAll (fun r => Nat.beq (Nat.land (del m r) m) (del m r)) (rsOf m)
theorem subM_all : lAll subM (upN 64 0) = true := by kernel_rfl
theorem del_lt {L m r : Nat} (h : m < 2 ^ L) : del m r < 2 ^ L := Nat.lt_of_le_of_lt (Nat.sub_le _ _) h
theorem consF_ok : ConsOk consF where
 b := .inr (.inl rfl)
 ck L m h0 hL h _ := ckF_all h0 hL (ltP_t h)
 lt L m h := ltP_t h
 sub L m r h _ := ble_t.2 (del_lt (ltP_t h))
 le L m h := cnt_le' (ltP_t h)
 six L hL := hL
 big := by decide
 ids := rfl
 ptrs := rfl
 arr := by decide
 up L xs _ _ := rfl
 pre L h0 hL := by rcases six h0 hL with rfl | rfl | rfl | rfl | rfl | rfl <;> kernel_rfl
 suf L _ _ := by kernel_rfl
 fup f hf L cs _ _ := by cases hf; rfl
 fpl f hf L h0 hL := by cases hf; rcases six h0 hL with rfl | rfl | rfl | rfl | rfl | rfl <;> kernel_rfl
theorem domC {M L m : Nat} : (consC M).dom L m = true ↔ M < 2 ^ L ∧ Nat.land m M = m := by
 show and (ltP L M) (Nat.beq (Nat.land m M) m) = true ↔ _
 rw [Bool.and_eq_true]
 exact ⟨fun h => ⟨ltP_t h.1, beq_t.1 h.2⟩, fun h => ⟨ble_t.2 h.1, beq_t.2 h.2⟩⟩
theorem domC_lt {M L m : Nat} (h : (consC M).dom L m = true) : m < 2 ^ L := by
 obtain ⟨h1, h2⟩ := domC.1 h
 have : m &&& M ≤ M := Nat.and_le_right
 have e : m &&& M = m := h2
 omega
theorem consC_ok {M : Nat} (hM : M < 64) : ConsOk (consC M) where
 b := .inl rfl
 ck L m h0 hL h _ := by
  obtain ⟨h1, h2⟩ := domC.1 h
  have k := ckC_all0 h0 hL h1
  unfold ckC at k
  have k := lAll_at k (Nat.zero_le m) (by rw [Nat.zero_add]; exact domC_lt h)
  rw [beq_t.2 h2, cond_true] at k
  exact k
 lt L m h := domC_lt h
 sub L m r h hr := by
  obtain ⟨h1, h2⟩ := domC.1 h
  have e : m &&& M = m := h2
  have hm : m < 64 := by
   have : m &&& M ≤ M := Nat.and_le_right
   omega
  have k : subM m = true := lAll_at subM_all (Nat.zero_le m) (by omega)
  have k : del m r &&& m = del m r := beq_t.1 (lAll_mem k r hr)
  refine domC.2 ⟨h1, ?_⟩
  show del m r &&& M = del m r
  rw [← k, Nat.and_assoc, e]
 le L m h := cnt_mono (domC.1 h).2
 six L _ := cnt_six M
 big := (by decide : 1000 ≤ 2013)
 ids := rfl
 ptrs := rfl
 arr := (by decide : 2010 < 2013)
 up L xs _ _ := rfl
 pre L h0 hL := by rcases six h0 hL with rfl | rfl | rfl | rfl | rfl | rfl <;> kernel_rfl
 suf L _ _ := by kernel_rfl
 fup f hf L cs _ _ := by cases hf; rfl
 fpl f hf L h0 hL := by cases hf; rcases six h0 hL with rfl | rfl | rfl | rfl | rfl | rfl <;> kernel_rfl
end
end Go.Sx
namespace Go.Sx
open Go.RowKit Go.Proofs
set_option maxRecDepth 100000
noncomputable def filmQ (L : Nat) : List (Nat × Int × Int) :=
 (0, 1, 20) :: (1, 1, 20) :: (2, 0, 50) :: (3, 0, 50) :: (4, 1, 6000) :: (@List.rec Nat (fun _ => List (Nat × Int × Int)) [] (fun r _ ih => (10 + 6 * r, 0, 99) :: (11 + 6 * r, 0, 99) :: (12 + 6 * r, 0, 99) :: (13 + 6 * r, 0, 99) :: (14 + 6 * r, 1, 1200) :: (15 + 6 * r, 1, 1200) :: ih) (upN L 0))
noncomputable def leV (i j : Nat) : BE := .cmp .leq (.var i) (.var j)
noncomputable def filmC (L : Nat) : List BE :=
 leV 0 1 :: leV 2 3 :: (@List.rec Nat (fun _ => List BE) [] (fun r _ ih => leV (10 + 6 * r) (11 + 6 * r) :: leV (12 + 6 * r) (13 + 6 * r) :: leV (14 + 6 * r) (15 + 6 * r) :: leV (10 + 6 * r) (13 + 6 * r) :: ih) (upN L 0))
def okFilm (L : Nat) (ρ : Rho) : Prop := (∀ c ∈ ivC (filmQ L), c.den ρ = true) ∧ ∀ c ∈ filmC L, c.den ρ = true
theorem okFilm_kn {L : Nat} {ρ : Rho} (h : okFilm L ρ) : KnOk ρ (knOf (filmQ L) (filmC L)) := knOf_ok h.1 h.2
theorem CallOk.weak {P : Program} {RC : Nat → Nat → List Nat → Code → Code → Prop} {ok0 ok : Rho → (Nat → Obj → Prop) → Prop} (hw : ∀ ρ m, ok ρ m → ok0 ρ m) {f : FuncId} {args : List AV} {h : Heap} {t : T (AV × Heap)} (hc : CallOk ⟨P, RC, ok0⟩ f args h t) : CallOk ⟨P, RC, ok⟩ f args h t :=
 CallOk.read (p0 := ⟨P, RC, ok0⟩) (p := ⟨P, RC, ok⟩) rfl hc fun ρ _ ⟨m, k1, k2⟩ _ k => ⟨ρ, ⟨m, hw ρ m k1, k2⟩, SameL.refl _ _, ⟨rfl, fun _ o g => ⟨o, g, SameA.refl o⟩⟩, T.holds_mono (fun r hr => ⟨r, hr, SameV.refl _ _, rfl, fun _ o g => ⟨o, g, SameA.refl o⟩⟩) k⟩
noncomputable def vK (L : Nat) : List (Nat × AObj) := [(0, ro [li 1, li 20, li 0, li 50]), (1, ro [li 0, li 99, li 0, li 99, li 1, li 1200]), (1001, rowsA L)]
noncomputable def vK2 (L : Nat) : List (Nat × AObj) := [(0, ro [li 1, li 20, li 0, li 50]), (1, ro [li 0, li 99, li 0, li 99, li 1, li 1200]), (1001, rowsA L), (2000, .umap (mU false))]
noncomputable def knowV (L b : Nat) : AV := .tup [filmK b L, ln 0]
noncomputable def pK (L : Nat) : Par := ⟨Tryd.prog, rcOf Tryd.rows, fun ρ _ => okFilm L ρ⟩
theorem tabsK (L : Nat) : TabOk (pK L) Sx.Tryd.tt.get tbA := Tryd.tab (fun _ _ _ => none) (fun _ _ _ _ h => by cases h) 2000
noncomputable def runK (L : Nat) : T (AV × Heap) := (evalN tbA 100 false 38 [filmF L] (viewA 2000 (vK L))).bind fun r => graftT 2000 (vK L) (viewA 2000 (vK L)) (match r.1 with | .tup (.agg cs :: _) => (match listGet cs 6 with | some (.map b) => [b] | _ => []) | _ => []) r
noncomputable def mapO (o : Option AObj) : Bool :=
 match o with
 | some (.map [] 0) => true
 | _ => false
theorem mapO_eq {o : Option AObj} (h : mapO o = true) : o = some (.map [] 0) := by
 unfold mapO at h; split at h
 ·rfl
 ·cases h
noncomputable def endK (L : Nat) (_ : Kn) (q : AV × Heap) : Bool := and (eqAV q.1 (knowV L 2000)) (and (mapO (q.2.get 2000)) (and (allO q.2 (vK L)) (Nat.beq q.2.next 2001)))
noncomputable def ckK (L : Nat) : Bool := allW [] (endK L) (runK L) (knOf (filmQ L) (filmC L))
theorem ckK1 : ckK 1 = true := by kernel_rfl
theorem ckK2 : ckK 2 = true := by kernel_rfl
theorem ckK3 : ckK 3 = true := by kernel_rfl
theorem ckK4 : ckK 4 = true := by kernel_rfl
theorem ckK5 : ckK 5 = true := by kernel_rfl
theorem ckK6 : ckK 6 = true := by kernel_rfl
end Go.Sx
namespace Go.Sx
noncomputable section
open Go.RowKit Go.Proofs
set_option maxRecDepth 100000
def mnyE (m : Nat) (x1 x2 o : IE) : IE := .app (9500 + m) x1 x2 o
def manyF (ρ : Rho) : Nat → Nat → Int → Int → Int → Int
 | 0, _, _, _, o => IntKind.i64.wrap (o + 1)
 | k + 1, m, a, b, o => (rsOf m).foldl (fun o r => if aftF ρ r a b = (0, 0) then o else manyF ρ k (del m r) (aftF ρ r a b).1 (aftF ρ r a b).2 o) o
def okO (L : Nat) (ρ : Rho) : Prop := okT L ρ ∧ ∀ m, m < 2 ^ L → ∀ a b o, ρ.fi (9500 + m) a b o = manyF ρ (cnt m) m a b o
def ptrsO : List AV := [.ptr 2012 0, .ptr 2014 0, .ptr 2009 0, .ptr 2015 0]
def loopO (L : Nat) (st : LoopState) (x : Ex) : AObj := .loop st x 11 (treeOf [(0, filmF L), (1, .ptr 2000 0), (2, ln 0), (3, ln 0), (4, .ptr 2002 0), (5, ln 0), (6, .ptr 2003 0), (13, tag false), (16, .func (.func 75) [] [.ptr 2009 0, .ptr 2008 0])]) [17] 11017 2010
def preO (L : Nat) : List (Nat × AObj) := [(1001, rowsA L), (2001, .umap (mU false)), (2009, ro [.func (.func 60) [filmK 2001 L] []]), (2011, loopO L .ready .norm), (2012, ro [.yieldF 2011]), (2014, ro [.slice 2013 0 6 6]), (2015, ro [.func (.func 76) [] ptrsO])]
def oneC (o : IE) : AObj := .cells [iA o] 3 true false
def vO (L : Nat) (xs : List IE) (o : IE) : List (Nat × AObj) := [(1001, rowsA L), (2001, .umap (mU false)), (2003, oneC o), (2009, ro [.func (.func 60) [filmK 2001 L] []]), (2011, loopO L .ready .norm), (2012, ro [.yieldF 2011]), (2013, .cells (lMap iA xs) 3 true false), (2014, ro [.slice 2013 0 6 6]), (2015, ro [.func (.func 76) [] ptrsO])]
def argsO (L m : Nat) (x1 x2 : IE) : List AV := ln (L - cnt m) :: bitsA m :: .agg [iA x1, iA x2] :: ptrsO
def leafO (L m : Nat) (x1 x2 : IE) (xs : List IE) (o : IE) : AV × Heap := (tag true, viewA 2016 (vO L (leftL L m (L - cnt m) x1 x2 xs) (mnyE m x1 x2 o)))
def orcT2 (L k : Nat) (args : List AV) (h : Heap) : Option (T (AV × Heap)) :=
 match args with
 | (_ :: .agg bs :: .agg [.int _ x1, .int _ x2] :: _) => (match maskA bs 1, cellsI (h.get 2013), cellsI (h.get 2003) with
  | some m, some xs, some [o] => cond (and (and (eqAVs args (argsO L m x1 x2)) (and (ltP L m) (Nat.ble (cnt m + 1) k))) (and (and (Nat.beq (lLen xs) 6) (lessAll h (vO L xs o))) (Nat.ble 2016 h.next)))
    (some ((T.ret (leafO L m x1 x2 xs o)).bind fun r => graftT 2016 (vO L xs o) h [] r)) none
  | _, _, _ => none)
 | _ => none
def orcL2 (L k : Nat) (f : FuncId) (args : List AV) (h : Heap) : Option (T (AV × Heap)) := cond (Nat.beq f 60) (orcA 2001 L args h) (cond (Nat.beq f 76) (orcT2 L k args h) none)
def tbO (L k : Nat) : Tabs := ⟨Sx.Tryd.ft.get, lFind Sx.Tryd.rt, 2000, orcL2 L k⟩
def vv : IE := .var 520
def runO (L m : Nat) : T (AV × Heap) := (evalN (tbO L (cnt m)) 100 false 76 (argsO L m (.var 500) (.var 501)) (viewA 2016 (vO L vs6 vv))).bind fun r => graftT 2016 (vO L vs6 vv) (viewA 2016 (vO L vs6 vv)) [] r
def encO (L : Nat) (q : AV × Heap) : AV := .tup [q.1, tag (and (allO q.2 (preO L)) (Nat.beq q.2.next 2016)), blkA (q.2.get 2013), blkA (q.2.get 2003)]
def lfO (cs : List IE) (o : IE) : AV := .tup [tag true, tag true, cellsB cs false, cellsB [o] false]
def tN (K m p : Nat) (x1 x2 : IE) (l : List Nat) : List IE → IE → T AV :=
 @List.rec Nat (fun _ => List IE → IE → T AV) (fun cs o => .ret (lfO cs o))
  (fun r _ ih cs o => .br (empE r x1 x2) (ih cs o) (ih (updL K (del m r) p r (af1 r x1 x2) (af2 r x1 x2) cs) (mnyE (del m r) (af1 r x1 x2) (af2 r x1 x2) o))) l
def expO (L m : Nat) : T AV :=
 cond (Nat.beq m 0) (.ret (lfO vs6 (.bin .add .i64 vv (.lit 1)))) (tN L m (L - cnt m) (.var 500) (.var 501) (rsOf m) vs6 vv)
def ckO (L m : Nat) : Bool := eqTF ((runO L m).bind fun q => .ret (encO L q)) (expO L m)
theorem kO1 : lAll (ckO 1) (upN 2 0) = true := by kernel_rfl
theorem kO2 : lAll (ckO 2) (upN 4 0) = true := by kernel_rfl
end
end Go.Sx
namespace Go.Sx
noncomputable section
open Go.RowKit Go.Proofs
set_option maxRecDepth 100000
theorem bk0 (k : Nat) : RunL tb0 100 k [e0, e1] := ⟨(lAll_cons (p := Ent.run tb0 100) e0_run (lAll_cons (p := Ent.run tb0 100) e1_run rfl))⟩
theorem bk2 (k : Nat) : RunL tb0 100 k [e2, e3, e4, e5] := ⟨(lAll_cons (p := Ent.run tb0 100) e2_run (lAll_cons (p := Ent.run tb0 100) e3_run (lAll_cons (p := Ent.run tb0 100) e4_run (lAll_cons (p := Ent.run tb0 100) e5_run rfl))))⟩
theorem bk6 (k : Nat) : RunL tb0 100 k [e6, e7] := ⟨(lAll_cons (p := Ent.run tb0 100) e6_run (lAll_cons (p := Ent.run tb0 100) e7_run rfl))⟩
def ents1 : PT (List Ent) := (.node none (.node (some [e0, e1]) .nil .nil) (.node (some [e2, e3, e4, e5]) (.node (some [e6, e7]) .nil .nil) .nil))
theorem ents1_run : ents1.Every (RunL tb0 100) := ⟨ev0, ⟨ev1 (bk0 _), trivial, trivial⟩, ⟨ev1 (bk2 _), ⟨ev1 (bk6 _), trivial, trivial⟩, trivial⟩⟩
def orc1 (f : FuncId) (args : List AV) (h : Heap) : Option (T (AV × Heap)) := entPT 8 ents1 f args h
theorem orc1_ok : ∀ f args h t, orc1 f args h = some t → CallOk pT f args h t := fun _ _ _ _ e => entPT_ok tabs0 ents1_run e
end
end Go.Sx
namespace Go.Sx
noncomputable section
open Go.RowKit Go.Proofs
set_option maxRecDepth 100000
def runCan (L M : Nat) : T (AV × Heap) := (evalN (tbTs (consC M) L 7) 100 false 64 [filmK 2001 L, bitsA M] (viewA 2002 (vA 2001 L false))).bind fun r => graftT 2002 (vA 2001 L false) (viewA 2002 (vA 2001 L false)) [] r
def encCan (L : Nat) (q : AV × Heap) : AV := .tup [q.1, tag (and (allO q.2 (vA 2001 L false)) (Nat.beq q.2.next 2002))]
def treeCan {α : Type} (M : Nat) (f : Bool → α) : T α := cond (Nat.beq M 0) (.ret (f false)) (.br (noneE M (.lit 0) (.lit 100)) (.ret (f false)) (.ret (f true)))
def expCan (M : Nat) : T AV := treeCan M fun b => .tup [tag b, tag true]
def ckCan (L M : Nat) : Bool := eqTF ((runCan L M).bind fun q => .ret (encCan L q)) (expCan M)
theorem ckCan1 : lAll (ckCan 1) (upN 2 0) = true := by kernel_rfl
theorem ckCan2 : lAll (ckCan 2) (upN 4 0) = true := by kernel_rfl
theorem ckCan3 : lAll (ckCan 3) (upN 8 0) = true := by kernel_rfl
theorem ckCan4 : lAll (ckCan 4) (upN 16 0) = true := by kernel_rfl
theorem ckCan5 : lAll (ckCan 5) (upN 32 0) = true := by kernel_rfl
theorem ckCan6 : lAll (ckCan 6) (upN 64 0) = true := by kernel_rfl
theorem ckCan_all {L M : Nat} (h0 : 1 ≤ L) (hL : L ≤ 6) (hM : M < 2 ^ L) : ckCan L M = true := by
 rcases six h0 hL with rfl | rfl | rfl | rfl | rfl | rfl
 ·exact lAll_at ckCan1 (Nat.zero_le _) (by omega)
 ·exact lAll_at ckCan2 (Nat.zero_le _) (by omega)
 ·exact lAll_at ckCan3 (Nat.zero_le _) (by omega)
 ·exact lAll_at ckCan4 (Nat.zero_le _) (by omega)
 ·exact lAll_at ckCan5 (Nat.zero_le _) (by omega)
 ·exact lAll_at ckCan6 (Nat.zero_le _) (by omega)
def saidCan (L M : Nat) : T (AV × Heap) := treeCan M fun b => (tag b, viewA 2002 (vA 2001 L false))
theorem treeCan_holds {α β : Type} {ρ : Rho} {M : Nat} {f : Bool → α} {g : Bool → β} {Q : α → Prop} {R : β → Prop} (h : ∀ b, Q (f b) → R (g b)) (k : (treeCan M f).Holds ρ Q) : (treeCan M g).Holds ρ R := by
 unfold treeCan at k ⊢
 cases hz : Nat.beq M 0 with
 | true => rw [hz, cond_true] at k; rw [cond_true]; exact h _ k
 | false =>
  rw [hz, cond_false] at k
  rw [cond_false]
  simp only [T.Holds] at k ⊢
  split
  ·rename_i c; rw [if_pos c] at k; exact h _ k
  ·rename_i c; rw [if_neg c] at k; exact h _ k
theorem can_said {L M : Nat} (h0 : 1 ≤ L) (hL : L ≤ 6) (hM : M < 2 ^ L) : CallOk (pTs L) 64 [filmK 2001 L, bitsA M] (viewA 2002 (vA 2001 L false)) (saidCan L M) := by
 have base := eval_ok (tabsTs (consC_ok (lt64 hL hM)) h0 hL 7) 100 64 [filmK 2001 L, bitsA M] (viewA 2002 (vA 2001 L false))
 have up : upA 0 (vA 2001 L false) = true := rfl
 have fr : CallOk (pTs L) 64 [filmK 2001 L, bitsA M] (viewA 2002 (vA 2001 L false)) (runCan L M) := base.frame (n := 2002) (l := vA 2001 L false) (by omega) rfl (viewA_ok (.inl rfl) L h0 hL false)
  (fun g hg => ⟨g.2, viewA_mem 2002 _ 0 up g hg, .refl _⟩) (by rw [viewA_next]; exact Nat.le_refl _) (fun _ => [])
 refine CallOk.read rfl fr fun ρ b hok Q k => ⟨ρ, hok, SameL.refl _ _, ⟨rfl, fun j o g => ⟨o, g, SameA.refl o⟩⟩, T.holds_enc (eqTF_eq _ _ (ckCan_all h0 hL hM)) ?_⟩
 refine treeCan_holds (fun b kb => ?_) k
 intro r0 he
 unfold encCan at he
 simp only [AV.tup.injEq, List.cons.injEq, and_true] at he
 obtain ⟨h1, h2⟩ := he
 simp only [tag, AV.bool.injEq, BE.lit.injEq, Bool.and_eq_true] at h2
 exact ⟨_, kb, by rw [h1]; exact SameV.refl _ _, (beq_t.1 h2.2).trans (viewA_next _ _).symm, fun j o g => ⟨o, allO_get h2.1 (viewA_get _ _ _ _ g), SameA.refl o⟩⟩
def orcCan (L : Nat) (args : List AV) (h : Heap) : Option (T (AV × Heap)) :=
 match args with
 | [_, .agg bs] => (match maskA bs 1 with
  | some M => cond (and (eqAVs args [filmK 2001 L, bitsA M]) (and (ltP L M) (and (lessAll h (vA 2001 L false)) (Nat.ble 2002 h.next))))
    (some ((saidCan L M).bind fun r => graftT 2002 (vA 2001 L false) h [] r)) none
  | none => none)
 | _ => none
theorem orcCan_ok {L : Nat} (h0 : 1 ≤ L) (hL : L ≤ 6) {args : List AV} {h : Heap} {t : T (AV × Heap)} (e : orcCan L args h = some t) : CallOk (pTs L) 64 args h t := by
 unfold orcCan at e
 split at e
 ·split at e
  ·obtain ⟨hc, e2⟩ := cond_some e
   clear e
   simp only [Bool.and_eq_true] at hc
   obtain ⟨i1, i2, i3, i4⟩ := hc
   rw [eqAVs_eq _ _ i1]
   cases e2
   exact (can_said h0 hL (ltP_t i2)).frame (n := 2002) (by omega) rfl (viewA_ok (.inl rfl) L h0 hL false) (lessAll_ok i3) (ble_t.1 i4) (fun _ => [])
  ·cases e
 ·cases e
end
end Go.Sx
namespace Go.Sx
open Go.RowKit Go.Proofs
set_option maxRecDepth 100000
theorem viewK_ok {L : Nat} (h0 : 1 ≤ L) (hL : L ≤ 6) : viewOk 2000 (vK L) = true := by
 rcases six h0 hL with rfl | rfl | rfl | rfl | rfl | rfl <;> kernel_rfl
theorem ckK_all {L : Nat} (h0 : 1 ≤ L) (hL : L ≤ 6) : ckK L = true := by
 rcases six h0 hL with rfl | rfl | rfl | rfl | rfl | rfl
 ·exact ckK1
 ·exact ckK2
 ·exact ckK3
 ·exact ckK4
 ·exact ckK5
 ·exact ckK6
noncomputable def nwK (r : AV × Heap) : List Nat := (match r.1 with | .tup (.agg cs :: _) => (match listGet cs 6 with | some (.map b) => [b] | _ => []) | _ => [])
theorem know_said {L : Nat} (h0 : 1 ≤ L) (hL : L ≤ 6) : CallOk (pK L) 38 [filmF L] (viewA 2000 (vK L)) (.ret (knowV L 2000, viewA 2001 (vK2 L))) := by
 have base := eval_ok (tabsK L) 100 38 [filmF L] (viewA 2000 (vK L))
 have up : upA 0 (vK L) = true := rfl
 have fr : CallOk (pK L) 38 [filmF L] (viewA 2000 (vK L)) (runK L) := base.frame (n := 2000) (l := vK L) (by omega) rfl (viewK_ok h0 hL)
  (fun g hg => ⟨g.2, viewA_mem 2000 _ 0 up g hg, .refl _⟩) (by rw [viewA_next]; exact Nat.le_refl _) nwK
 refine CallOk.read rfl fr fun ρ b hok Q k => ⟨ρ, hok, SameL.refl _ _, ⟨rfl, fun j o g => ⟨o, g, SameA.refl o⟩⟩, ?_⟩
 obtain ⟨_, hA, _⟩ := hok
 have k : Q (knowV L 2000, viewA 2001 (vK2 L)) := k
 refine allW_ok (rules_nil ρ) (fun K q _ hq => ?_) (runK L) _ (okFilm_kn hA) (ckK_all h0 hL)
 unfold endK at hq
 simp only [Bool.and_eq_true] at hq
 obtain ⟨q1, q2, q3, q4⟩ := hq
 refine ⟨_, k, by rw [eqAV_eq _ _ q1]; exact SameV.refl _ _, (beq_t.1 q4).trans (viewA_next _ _).symm, fun j o g => ?_⟩
 have hm := viewA_get _ _ _ _ g
 unfold vK2 at hm
 simp only [List.mem_cons, List.not_mem_nil, or_false] at hm
 rcases hm with h | h | h | h
 ·exact ⟨o, allO_get q3 (by unfold vK; rw [h]; simp), SameA.refl o⟩
 ·exact ⟨o, allO_get q3 (by unfold vK; rw [h]; simp), SameA.refl o⟩
 ·exact ⟨o, allO_get q3 (by unfold vK; rw [h]; simp), SameA.refl o⟩
 ·cases h; exact ⟨_, mapO_eq q2, SameA.empty rfl⟩
noncomputable def pF (L : Nat) : Par := ⟨Tryd.prog, rcOf Tryd.rows, fun ρ _ => okT L ρ ∧ okFilm L ρ⟩
noncomputable def nwM (_ : AV × Heap) : List Nat := [2000]
noncomputable def orcK (L : Nat) (args : List AV) (h : Heap) : Option (T (AV × Heap)) :=
 cond (and (eqAVs args [filmF L]) (and (lessAll h (vK L)) (Nat.ble 2000 h.next))) (some ((T.ret (knowV L 2000, viewA 2001 (vK2 L))).bind fun r => graftT 2000 (vK L) h (nwM r) r)) none
noncomputable def orcF (L : Nat) (f : FuncId) (args : List AV) (h : Heap) : Option (T (AV × Heap)) :=
 cond (Nat.beq f 38) (orcK L args h) (orcL consF L 7 f args h)
noncomputable def tbF (L : Nat) : Tabs := ⟨Sx.Tryd.ft.get, lFind Sx.Tryd.rt, 2000, orcF L⟩
theorem tabsF {L : Nat} (h0 : 1 ≤ L) (hL : L ≤ 6) : TabOk (pF L) Sx.Tryd.tt.get (tbF L) := by
 refine Tryd.tab (orcF L) (fun f args h t e => ?_) 2000
 unfold orcF at e
 cases h1 : Nat.beq f 38 with
 | true =>
  rw [h1, cond_true] at e
  rw [beq_t.1 h1]
  unfold orcK at e
  obtain ⟨hc, e2⟩ := cond_some e
  clear e
  simp only [Bool.and_eq_true] at hc
  obtain ⟨i1, i2, i3⟩ := hc
  rw [eqAVs_eq _ _ i1]
  cases e2
  have hw : CallOk (pF L) 38 [filmF L] (viewA 2000 (vK L)) (.ret (knowV L 2000, viewA 2001 (vK2 L))) := CallOk.weak (fun ρ m h => h.2) (know_said h0 hL)
  exact hw.frame (n := 2000) (by omega) rfl (viewK_ok h0 hL) (lessAll_ok i2) (ble_t.1 i3) nwM
 | false =>
  rw [h1, cond_false] at e
  exact CallOk.weak (fun ρ m h => h.1) ((tabsTs consF_ok h0 hL 7).orc f args h t e)
noncomputable def fullM (L : Nat) : Nat := Nat.pow 2 L - 1
noncomputable def vF (L : Nat) : List (Nat × AObj) := vK L ++ [(2000, .cells (lMap iA (ordL (fullM L) (.lit 0) (.lit 100))) 3 true true)]
noncomputable def nwFirst (r : AV × Heap) : List Nat :=
 match r.1 with
 | .tup [.sliceX b _ _ _, _] => [b]
 | .tup [.nilslice, _] => [2001]
 | _ => []
noncomputable def dumO : AObj := .cells [.nilslice] 27 true false
noncomputable def vF0 (L : Nat) : List (Nat × AObj) := vK L ++ [(2000, dumO)]
noncomputable def runF (L : Nat) : T (AV × Heap) := (evalN (tbF L) 100 false 12 [filmF L] (viewA 2000 (vK L))).bind fun r => graftT 2000 (vK L) (viewA 2000 (vK L)) (nwFirst r) r
noncomputable def noneVF : AV := .tup [.nilslice, ln 4]
noncomputable def foundVF (L : Nat) : AV := .tup [.sliceX 2000 1 0 L, ln 0]
noncomputable def encF (L : Nat) (q : AV × Heap) : AV :=
 match q.1 with
 | .tup [.nilslice, e] => .tup [tag true, e, tag (and (allO q.2 (vF0 L)) (Nat.beq q.2.next 2001))]
 | v => .tup [tag false, v, tag (and (allO q.2 (vK L)) (Nat.beq q.2.next 2001)), blkA (q.2.get 2000)]
noncomputable def expF (L : Nat) : T AV :=
 .br (noneE (fullM L) (.lit 0) (.lit 100)) (.ret (.tup [tag true, ln 4, tag true])) (.ret (.tup [tag false, foundVF L, tag true, cellsB (ordL (fullM L) (.lit 0) (.lit 100)) true]))
noncomputable def ckFi (L : Nat) : Bool := eqTF ((runF L).bind fun q => .ret (encF L q)) (expF L)
theorem ckFi1 : ckFi 1 = true := by kernel_rfl
theorem ckFi2 : ckFi 2 = true := by kernel_rfl
theorem ckFi3 : ckFi 3 = true := by kernel_rfl
theorem ckFi4 : ckFi 4 = true := by kernel_rfl
theorem ckFi5 : ckFi 5 = true := by kernel_rfl
theorem ckFi6 : ckFi 6 = true := by kernel_rfl
end Go.Sx
namespace Go.Sx
noncomputable section
open Go.RowKit Go.Proofs
set_option maxRecDepth 100000
def runSo (L : Nat) : T (AV × Heap) := (evalN tbA 100 false 7 [filmF L] (viewA 2000 (vK L))).bind fun r => graftT 2000 (vK L) (viewA 2000 (vK L)) [] r
def endSo (L : Nat) (_ : Kn) (q : AV × Heap) : Bool := and (eqAV q.1 (tag true)) (and (allO q.2 (vK L)) (Nat.beq q.2.next 2000))
def ckSo (L : Nat) : Bool := allW [] (endSo L) (runSo L) (knOf (filmQ L) (filmC L))
theorem ckSo1 : ckSo 1 = true := by kernel_rfl
theorem ckSo2 : ckSo 2 = true := by kernel_rfl
theorem ckSo3 : ckSo 3 = true := by kernel_rfl
theorem ckSo4 : ckSo 4 = true := by kernel_rfl
theorem ckSo5 : ckSo 5 = true := by kernel_rfl
theorem ckSo6 : ckSo 6 = true := by kernel_rfl
theorem ckSo_all {L : Nat} (h0 : 1 ≤ L) (hL : L ≤ 6) : ckSo L = true := by
 rcases six h0 hL with rfl | rfl | rfl | rfl | rfl | rfl
 ·exact ckSo1
 ·exact ckSo2
 ·exact ckSo3
 ·exact ckSo4
 ·exact ckSo5
 ·exact ckSo6
def saidSo (L : Nat) : T (AV × Heap) := .ret (tag true, viewA 2000 (vK L))
theorem sound_said {L : Nat} (h0 : 1 ≤ L) (hL : L ≤ 6) : CallOk (pK L) 7 [filmF L] (viewA 2000 (vK L)) (saidSo L) := by
 have base := eval_ok (tabsK L) 100 7 [filmF L] (viewA 2000 (vK L))
 have up : upA 0 (vK L) = true := rfl
 have fr : CallOk (pK L) 7 [filmF L] (viewA 2000 (vK L)) (runSo L) := base.frame (n := 2000) (l := vK L) (by omega) rfl (viewK_ok h0 hL)
  (fun g hg => ⟨g.2, viewA_mem 2000 _ 0 up g hg, .refl _⟩) (by rw [viewA_next]; exact Nat.le_refl _) (fun _ => [])
 refine CallOk.read rfl fr fun ρ b hok Q k => ⟨ρ, hok, SameL.refl _ _, ⟨rfl, fun j o g => ⟨o, g, SameA.refl o⟩⟩, ?_⟩
 obtain ⟨_, hA, _⟩ := hok
 have k : Q (tag true, viewA 2000 (vK L)) := k
 refine allW_ok (rules_nil ρ) (fun K q _ hq => ?_) (runSo L) _ (okFilm_kn hA) (ckSo_all h0 hL)
 unfold endSo at hq
 simp only [Bool.and_eq_true] at hq
 obtain ⟨q1, q2, q3⟩ := hq
 exact ⟨_, k, by rw [eqAV_eq _ _ q1]; exact SameV.refl _ _, (beq_t.1 q3).trans (viewA_next _ _).symm, fun j o g => ⟨o, allO_get q2 (viewA_get _ _ _ _ g), SameA.refl o⟩⟩
end
end Go.Sx
namespace Go.Sx
noncomputable section
open Go.RowKit Go.Proofs
set_option maxRecDepth 100000
theorem ckFi_all {L : Nat} (h0 : 1 ≤ L) (hL : L ≤ 6) : ((runF L).bind fun q => T.ret (encF L q)) = expF L := by
 refine eqTF_eq _ _ ?_
 rcases six h0 hL with rfl | rfl | rfl | rfl | rfl | rfl
 ·exact ckFi1
 ·exact ckFi2
 ·exact ckFi3
 ·exact ckFi4
 ·exact ckFi5
 ·exact ckFi6
def saidF (L : Nat) : T (AV × Heap) := .br (noneE (fullM L) (.lit 0) (.lit 100)) (.ret (noneVF, viewA 2001 (vF0 L))) (.ret (foundVF L, viewA 2001 (vF L)))
theorem encF_none {L : Nat} {q : AV × Heap} (h : encF L q = .tup [tag true, ln 4, tag true]) : q.1 = noneVF ∧ allO q.2 (vF0 L) = true ∧ q.2.next = 2001 := by
 unfold encF at h
 split at h
 ·rename_i e hv
  simp only [AV.tup.injEq, List.cons.injEq, and_true, true_and] at h
  obtain ⟨h1, h2⟩ := h
  simp only [tag, AV.bool.injEq, BE.lit.injEq, Bool.and_eq_true] at h2
  exact ⟨by rw [hv, h1]; rfl, h2.1, beq_t.1 h2.2⟩
 ·simp at h
theorem encF_found {L : Nat} {q : AV × Heap} {cs : List IE} (h : encF L q = .tup [tag false, foundVF L, tag true, cellsB cs true]) : q.1 = foundVF L ∧ allO q.2 (vK L) = true ∧ q.2.next = 2001 ∧ q.2.get 2000 = some (.cells (lMap iA cs) 3 true true) := by
 unfold encF at h
 split at h
 ·simp at h
 ·simp only [AV.tup.injEq, List.cons.injEq, and_true, true_and] at h
  obtain ⟨h1, h2, h3⟩ := h
  simp only [tag, AV.bool.injEq, BE.lit.injEq, Bool.and_eq_true] at h2
  exact ⟨h1, h2.1, beq_t.1 h2.2, blkA_some h3⟩
theorem first_said {L : Nat} (h0 : 1 ≤ L) (hL : L ≤ 6) : CallOk (pF L) 12 [filmF L] (viewA 2000 (vK L)) (saidF L) := by
 have base := eval_ok (tabsF h0 hL) 100 12 [filmF L] (viewA 2000 (vK L))
 have up : upA 0 (vK L) = true := rfl
 have fr : CallOk (pF L) 12 [filmF L] (viewA 2000 (vK L)) (runF L) := base.frame (n := 2000) (l := vK L) (by omega) rfl (viewK_ok h0 hL)
  (fun g hg => ⟨g.2, viewA_mem 2000 _ 0 up g hg, .refl _⟩) (by rw [viewA_next]; exact Nat.le_refl _) nwFirst
 refine CallOk.read rfl fr fun ρ b hok Q k => ⟨ρ, hok, SameL.refl _ _, ⟨rfl, fun j o g => ⟨o, g, SameA.refl o⟩⟩, T.holds_enc (ckFi_all h0 hL) ?_⟩
 unfold saidF at k
 unfold expF
 simp only [T.Holds] at k ⊢
 split
 ·rename_i hc
  rw [if_pos hc] at k
  intro r0 he
  obtain ⟨h1, h2, h3⟩ := encF_none he
  exact ⟨_, k, by rw [h1]; exact SameV.refl _ _, h3.trans (viewA_next _ _).symm, fun j o g => ⟨o, allO_get h2 (viewA_get _ _ _ _ g), SameA.refl o⟩⟩
 ·rename_i hc
  rw [if_neg hc] at k
  intro r0 he
  obtain ⟨h1, h2, h3, h4⟩ := encF_found he
  refine ⟨_, k, by rw [h1]; exact SameV.refl _ _, h3.trans (viewA_next _ _).symm, fun j o g => ?_⟩
  have hm := viewA_get _ _ _ _ g
  unfold vF at hm
  rcases List.mem_append.1 hm with hm | hm
  ·exact ⟨o, allO_get h2 hm, SameA.refl o⟩
  ·rw [List.mem_singleton] at hm
   cases hm
   exact ⟨_, h4, SameA.refl _⟩
end
end Go.Sx
namespace Go.Sx
noncomputable section
open Go.RowKit Go.Proofs
set_option maxRecDepth 100000
def orcS (L : Nat) (f : FuncId) (args : List AV) (h : Heap) : Option (T (AV × Heap)) :=
 cond (Nat.beq f 38) (orcK L args h) (cond (Nat.beq f 64) (orcCan L args h) none)
def tbS (L : Nat) : Tabs := ⟨Sx.Tryd.ft.get, lFind Sx.Tryd.rt, 2000, orcS L⟩
theorem tabsS {L : Nat} (h0 : 1 ≤ L) (hL : L ≤ 6) : TabOk (pF L) Sx.Tryd.tt.get (tbS L) := by
 refine Tryd.tab (orcS L) (fun f args h t e => ?_) 2000
 unfold orcS at e
 cases h1 : Nat.beq f 38 with
 | true =>
  rw [h1, cond_true] at e
  refine (tabsF h0 hL).orc f args h t ?_
  show orcF L f args h = some t
  unfold orcF
  rw [h1, cond_true]
  exact e
 | false =>
  rw [h1, cond_false] at e
  obtain ⟨h2, e⟩ := cond_some e
  rw [beq_t.1 h2]
  exact CallOk.weak (fun ρ m h => h.1) (orcCan_ok h0 hL e)
def nwS (r : AV × Heap) : List Nat :=
 match r.1 with
 | .tup [.sliceX b _ _ _, _] => [b]
 | .tup [.slice b _ _ _, _] => [b]
 | _ => []
def runS (L : Nat) : T (AV × Heap) := (evalN (tbS L) 100 false 13 [filmF L] (viewA 2000 (vK L))).bind fun r => graftT 2000 (vK L) (viewA 2000 (vK L)) (nwS r) r
def combos : Nat → Nat → Nat → List (List Nat)
 | _, _, 0 => [[]]
 | _, 0, _ + 1 => []
 | k, n + 1, s + 1 => lMap (k :: ·) (combos (k + 1) n s) ++ combos (k + 1) n (s + 1)
def allS (L : Nat) : List (List Nat) := (upN L 0).foldr (fun s l => combos 0 L s ++ l) []
def outM (L : Nat) (l : List Nat) : Nat := l.foldl (fun m r => m - Nat.pow 2 r) (Nat.pow 2 L - 1)
def chainS {α : Type} (f : Option (List Nat) → α) (L : Nat) : List (List Nat) → T α
 | [] => .ret (f none)
 | l :: ls => .br (noneE (outM L l) (.lit 0) (.lit 100)) (chainS f L ls) (.ret (f (some l)))
theorem chainS_holds {α β : Type} {ρ : Rho} {f : Option (List Nat) → α} {g : Option (List Nat) → β} {Q : α → Prop} {R : β → Prop} (h : ∀ o, Q (f o) → R (g o)) (L : Nat) : ∀ ls, (chainS f L ls).Holds ρ Q → (chainS g L ls).Holds ρ R
 | [], k => h _ k
 | l :: ls, k => by
  simp only [chainS, T.Holds] at k ⊢
  split
  ·rename_i c; rw [if_pos c] at k; exact chainS_holds h L ls k
  ·rename_i c; rw [if_neg c] at k; exact h _ k
def litN (r : Nat) : IE := .lit (Int.ofNat r)
def valS (l : List Nat) : AV :=
 match l with
 | [] => .tup [.slice 2000 0 0 0, ln 0]
 | _ :: _ => .tup [.sliceX 2000 1 0 (lLen l), ln 0]
def extS : List Nat → Bool
 | [] => false
 | _ :: _ => true
def vS (L : Nat) (l : List Nat) : List (Nat × AObj) := vK L ++ [(2000, .cells (lMap iA (lMap litN l)) 3 true (extS l))]
def leafS (L : Nat) (o : Option (List Nat)) : AV × Heap :=
 match o with
 | none => (.tup [.nilslice, ln 0], viewA 2000 (vK L))
 | some l => (valS l, viewA 2001 (vS L l))
def saidS (L : Nat) : T (AV × Heap) := chainS (leafS L) L (allS L)
def encS (L : Nat) (q : AV × Heap) : AV :=
 match q.1 with
 | .tup [.nilslice, e] => .tup [tag true, e, tag (and (allO q.2 (vK L)) (Nat.beq q.2.next 2000))]
 | v => .tup [tag false, v, tag (and (allO q.2 (vK L)) (Nat.beq q.2.next 2001)), blkA (q.2.get 2000)]
def expLf (o : Option (List Nat)) : AV :=
 match o with
 | none => .tup [tag true, ln 0, tag true]
 | some l => .tup [tag false, valS l, tag true, cellsB (lMap litN l) (extS l)]
def ckS (L : Nat) : Bool := eqTF ((runS L).bind fun q => .ret (encS L q)) (chainS expLf L (allS L))
theorem ckS1 : ckS 1 = true := by kernel_rfl
theorem ckS2 : ckS 2 = true := by kernel_rfl
theorem ckS3 : ckS 3 = true := by kernel_rfl
theorem ckS4 : ckS 4 = true := by kernel_rfl
theorem ckS5 : ckS 5 = true := by kernel_rfl
end
end Go.Sx
namespace Go.Sx
noncomputable section
open Go.RowKit Go.Proofs
set_option maxRecDepth 100000
def permsM : Nat → Nat → List (List Nat)
 | 0, _ => [[]]
 | k + 1, m => (rsOf m).flatMap fun r => (permsM k (del m r)).map (r :: ·)
end
end Go.Sx
namespace Go.Sx
noncomputable section
open Go.RowKit Go.Proofs
set_option maxRecDepth 100000
def chainF (ρ : Rho) : List Nat → Int → Int → Bool
 | [], _, _ => true
 | r :: l, a, b => !decide (aftF ρ r a b = (0, 0)) && chainF ρ l (aftF ρ r a b).1 (aftF ρ r a b).2
def ltL : List Nat → List Nat → Bool
 | a :: l, b :: m => if a = b then ltL l m else decide (a < b)
 | [], _ :: _ => true
 | _, [] => false
theorem noneF_of_chain (ρ : Rho) : ∀ (k m : Nat) (a b : Int) (l : List Nat), l ∈ permsM k m → chainF ρ l a b = true → noneF ρ k m a b = false
 | 0, _, _, _, _, _, _ => rfl
 | k + 1, m, a, b, l, hl, hc => by
  rw [permsM, List.mem_flatMap] at hl
  obtain ⟨r, hr, h⟩ := hl
  obtain ⟨l', h', rfl⟩ := List.mem_map.1 h
  simp only [chainF, Bool.and_eq_true, Bool.not_eq_true', decide_eq_false_iff_not] at hc
  have ih := noneF_of_chain ρ k _ _ _ l' h' hc.2
  rw [noneF]
  cases hA : (rsOf m).all (fun r => decide (aftF ρ r a b = (0, 0)) || noneF ρ k (del m r) (aftF ρ r a b).1 (aftF ρ r a b).2) with
  | false => rfl
  | true =>
   have := List.all_eq_true.1 hA r hr
   rw [decide_eq_false hc.1, ih] at this
   cases this
theorem lFilter_eq (p : Nat → Bool) : ∀ l, lFilter p l = l.filter p
 | [] => rfl
 | a :: l => by
  have e : lFilter p (a :: l) = cond (p a) (a :: lFilter p l) (lFilter p l) := rfl
  rw [e, lFilter_eq p l, List.filter_cons]
  cases p a <;> simp
theorem upN_sorted : ∀ (n k : Nat), (upN n k).Pairwise (· < ·)
 | 0, _ => List.Pairwise.nil
 | n + 1, k => by
  simp only [upN]
  exact List.Pairwise.cons (fun r hr => by have := upN_lt _ _ _ hr; omega) (upN_sorted n (k + 1))
theorem rsOf_sorted (m : Nat) : (rsOf m).Pairwise (· < ·) := by
 unfold rsOf
 rw [lFilter_eq]
 exact (upN_sorted 6 0).filter _
theorem find_least {p : Nat → Bool} : ∀ {l : List Nat}, l.Pairwise (· < ·) → ∀ {r : Nat}, l.find? p = some r → ∀ r' ∈ l, p r' = true → r ≤ r'
 | a :: l, hs, r, hf, r', hr', hp => by
  rw [List.find?_cons] at hf
  rcases List.mem_cons.1 hr' with rfl | hm
  ·rw [hp] at hf; cases hf; exact Nat.le_refl _
  ·cases ha : p a with
   | true => rw [ha] at hf; cases hf; exact Nat.le_of_lt ((List.pairwise_cons.1 hs).1 r' hm)
   | false => rw [ha] at hf; exact find_least (List.pairwise_cons.1 hs).2 hf r' hm hp
theorem ordF_first (ρ : Rho) : ∀ (k m : Nat) (a b : Int), noneF ρ k m a b = false → ∃ l ∈ permsM k m, ordF ρ k m a b = l.map Int.ofNat ∧ chainF ρ l a b = true ∧ ∀ l' ∈ permsM k m, chainF ρ l' a b = true → ltL l' l = false
 | 0, m, a, b, _ => ⟨[], by rw [permsM]; exact List.mem_singleton.2 rfl, rfl, rfl, fun l' h _ => by rw [permsM, List.mem_singleton] at h; rw [h]; rfl⟩
 | k + 1, m, a, b, hn => by
  let p : Nat → Bool := fun r => !(decide (aftF ρ r a b = (0, 0)) || noneF ρ k (del m r) (aftF ρ r a b).1 (aftF ρ r a b).2)
  cases hf : (rsOf m).find? p with
  | none =>
   exfalso
   rw [List.find?_eq_none] at hf
   have : noneF ρ (k + 1) m a b = true := by
    rw [noneF]
    refine List.all_eq_true.2 fun r hr => ?_
    have h9 := hf r hr
    cases hX : (decide (aftF ρ r a b = (0, 0)) || noneF ρ k (del m r) (aftF ρ r a b).1 (aftF ρ r a b).2) with
    | true => rfl
    | false => exact absurd (by show (!(decide (aftF ρ r a b = (0, 0)) || noneF ρ k (del m r) (aftF ρ r a b).1 (aftF ρ r a b).2)) = true; rw [hX]; rfl) h9
   rw [hn] at this; cases this
  | some r =>
   have hp : p r = true := List.find?_some hf
   have hr : r ∈ rsOf m := List.mem_of_find?_eq_some hf
   have hp2 : ¬ aftF ρ r a b = (0, 0) ∧ noneF ρ k (del m r) (aftF ρ r a b).1 (aftF ρ r a b).2 = false := by
    simpa [p] using hp
   obtain ⟨l, h1, h2, h3, h4⟩ := ordF_first ρ k (del m r) _ _ hp2.2
   refine ⟨r :: l, ?_, ?_, ?_, fun l' hl' hc' => ?_⟩
   ·rw [permsM, List.mem_flatMap]
    exact ⟨r, hr, List.mem_map.2 ⟨l, h1, rfl⟩⟩
   ·have hf' : (rsOf m).find? (fun r => !(decide (aftF ρ r a b = (0, 0)) || noneF ρ k (del m r) (aftF ρ r a b).1 (aftF ρ r a b).2)) = some r := hf
    rw [ordF]
    simp only [hf', h2]
    rfl
   ·simp only [chainF, decide_eq_false hp2.1, Bool.not_false, Bool.true_and]; exact h3
   ·rw [permsM, List.mem_flatMap] at hl'
    obtain ⟨r', hr', h⟩ := hl'
    obtain ⟨l1, h', rfl⟩ := List.mem_map.1 h
    simp only [chainF, Bool.and_eq_true, Bool.not_eq_true', decide_eq_false_iff_not] at hc'
    have hp' : p r' = true := by
     have := noneF_of_chain ρ k _ _ _ l1 h' hc'.2
     simp only [p, decide_eq_false hc'.1, this]; rfl
    have hle := find_least (rsOf_sorted m) hf r' hr' hp'
    simp only [ltL]
    split
    ·rename_i e; subst e; exact h4 l1 h' hc'.2
    ·rename_i e; exact decide_eq_false (by omega)
def cntF (ρ : Rho) : Nat → Nat → Int → Int → Nat
 | 0, _, _, _ => 1
 | k + 1, m, a, b => (rsOf m).foldl (fun s r => if aftF ρ r a b = (0, 0) then s else s + cntF ρ k (del m r) (aftF ρ r a b).1 (aftF ρ r a b).2) 0
theorem foldl_cnt {q : Nat → Bool} {f : Nat → Nat} : ∀ (l : List Nat) (s : Nat), l.foldl (fun s r => if q r = true then s else s + f r) s = s + l.foldl (fun s r => if q r = true then s else s + f r) 0
 | [], s => rfl
 | r :: l, s => by
  simp only [List.foldl_cons]
  rw [foldl_cnt l, foldl_cnt l (if q r = true then 0 else 0 + f r)]
  split <;> omega
theorem foldl_pos {q : Nat → Bool} {f : Nat → Nat} : ∀ (l : List Nat), (0 < l.foldl (fun s r => if q r = true then s else s + f r) 0) ↔ ∃ r ∈ l, q r = false ∧ 0 < f r
 | [] => by simp
 | r :: l => by
  simp only [List.foldl_cons]
  rw [foldl_cnt l]
  have ih := foldl_pos (q := q) (f := f) l
  constructor
  ·intro h
   by_cases h1 : q r = true
   ·rw [if_pos h1] at h
    obtain ⟨r', hr', hq, hp⟩ := ih.1 (by omega)
    exact ⟨r', List.mem_cons_of_mem _ hr', hq, hp⟩
   ·rw [if_neg h1] at h
    by_cases h2 : 0 < f r
    ·exact ⟨r, List.mem_cons_self, by simpa using h1, h2⟩
    ·obtain ⟨r', hr', hq, hp⟩ := ih.1 (by omega)
     exact ⟨r', List.mem_cons_of_mem _ hr', hq, hp⟩
  ·rintro ⟨r', hr', hq, hp⟩
   rcases List.mem_cons.1 hr' with rfl | hm
   ·rw [hq]; simp; omega
   ·have := ih.2 ⟨r', hm, hq, hp⟩; omega
theorem foldl_le {q : Nat → Bool} {f : Nat → Nat} {n : Nat} : ∀ (l : List Nat), (∀ r ∈ l, f r ≤ n) → l.foldl (fun s r => if q r = true then s else s + f r) 0 ≤ l.length * n
 | [], _ => by simp
 | r :: l, h => by
  simp only [List.foldl_cons, List.length_cons]
  rw [foldl_cnt l]
  have := foldl_le (q := q) (f := f) l fun r hr => h r (List.mem_cons_of_mem _ hr)
  have := h r List.mem_cons_self
  rw [Nat.succ_mul]
  split <;> omega
theorem cntF_eq (ρ : Rho) (k m : Nat) (a b : Int) : cntF ρ (k + 1) m a b = (rsOf m).foldl (fun s r => if (decide (aftF ρ r a b = (0, 0))) = true then s else s + cntF ρ k (del m r) (aftF ρ r a b).1 (aftF ρ r a b).2) 0 := by
 rw [cntF]
 simp only [decide_eq_true_eq]
theorem cntF_pos (ρ : Rho) : ∀ (k m : Nat) (a b : Int), 0 < cntF ρ k m a b ↔ noneF ρ k m a b = false
 | 0, _, _, _ => by simp [cntF, noneF]
 | k + 1, m, a, b => by
  rw [cntF_eq, foldl_pos (q := fun r => decide (aftF ρ r a b = (0, 0))) (f := fun r => cntF ρ k (del m r) (aftF ρ r a b).1 (aftF ρ r a b).2), noneF]
  constructor
  ·rintro ⟨r, hr, h1, h2⟩
   have h2 := (cntF_pos ρ k _ _ _).1 h2
   cases hA : (rsOf m).all (fun r => decide (aftF ρ r a b = (0, 0)) || noneF ρ k (del m r) (aftF ρ r a b).1 (aftF ρ r a b).2) with
   | false => rfl
   | true =>
    have := List.all_eq_true.1 hA r hr
    rw [h1, h2] at this
    cases this
  ·intro h
   rw [List.all_eq_false] at h
   obtain ⟨r, hr, h⟩ := h
   simp only [Bool.or_eq_true, not_or, Bool.not_eq_true] at h
   exact ⟨r, hr, h.1, (cntF_pos ρ k _ _ _).2 h.2⟩
theorem rsOf_len (m : Nat) : (rsOf m).length ≤ 6 := by
 unfold rsOf
 rw [lFilter_eq]
 exact Nat.le_trans (List.length_filter_le _ _) (by decide)
theorem cntF_le (ρ : Rho) : ∀ (k m : Nat) (a b : Int), cntF ρ k m a b ≤ 6 ^ k
 | 0, _, _, _ => Nat.le_refl _
 | k + 1, m, a, b => by
  rw [cntF_eq]
  refine Nat.le_trans (foldl_le (q := fun r => decide (aftF ρ r a b = (0, 0))) (f := fun r => cntF ρ k (del m r) (aftF ρ r a b).1 (aftF ρ r a b).2) (n := 6 ^ k) (rsOf m) fun r _ => cntF_le ρ k _ _ _) ?_
  rw [Nat.pow_succ, Nat.mul_comm (6 ^ k) 6]
  exact Nat.mul_le_mul_right _ (rsOf_len m)
theorem manyF_fold (ρ : Rho) (k m : Nat) (a b : Int) (ih : ∀ (m : Nat) (a b o : Int), 0 ≤ o → o + 6 ^ k ≤ 1000000000 → manyF ρ k m a b o = o + cntF ρ k m a b) : ∀ (l : List Nat) (o : Int), 0 ≤ o → o + l.length * 6 ^ k ≤ 1000000000 →
  l.foldl (fun o r => if aftF ρ r a b = (0, 0) then o else manyF ρ k (del m r) (aftF ρ r a b).1 (aftF ρ r a b).2 o) o = o + ((l.foldl (fun s r => if (decide (aftF ρ r a b = (0, 0))) = true then s else s + cntF ρ k (del m r) (aftF ρ r a b).1 (aftF ρ r a b).2) 0 : Nat) : Int)
 | [], o, _, _ => by simp
 | r :: l, o, h0, hb => by
  simp only [List.foldl_cons, List.length_cons] at hb ⊢
  have hp : (0 : Int) ≤ 6 ^ k := Int.pow_nonneg (by omega)
  have hl : (0 : Int) ≤ (l.length : Int) * 6 ^ k := Int.mul_nonneg (by omega) hp
  have hm : ((l.length + 1 : Nat) : Int) * 6 ^ k = l.length * 6 ^ k + 6 ^ k := by rw [Int.natCast_add, Int.add_mul]; simp
  rw [hm] at hb
  rw [foldl_cnt (q := fun r => decide (aftF ρ r a b = (0, 0))) (f := fun r => cntF ρ k (del m r) (aftF ρ r a b).1 (aftF ρ r a b).2) l]
  by_cases he : aftF ρ r a b = (0, 0)
  ·rw [if_pos he, if_pos (decide_eq_true he), manyF_fold ρ k m a b ih l o h0 (by omega)]
   simp
  ·have hc := cntF_le ρ k (del m r) (aftF ρ r a b).1 (aftF ρ r a b).2
   have hc : (cntF ρ k (del m r) (aftF ρ r a b).1 (aftF ρ r a b).2 : Int) ≤ 6 ^ k := by exact_mod_cast hc
   rw [if_neg he, if_neg (by simpa using he), ih _ _ _ _ h0 (by omega), manyF_fold ρ k m a b ih l _ (by omega) (by omega)]
   push_cast
   omega
theorem manyF_cnt (ρ : Rho) : ∀ (k m : Nat) (a b o : Int), 0 ≤ o → o + 6 ^ k ≤ 1000000000 → manyF ρ k m a b o = o + cntF ρ k m a b
 | 0, _, _, _, o, h0, h1 => by
  have h1 : o + 1 ≤ 1000000000 := h1
  simp only [manyF, cntF]
  exact wrap_sm (by omega) (by omega)
 | k + 1, m, a, b, o, h0, h1 => by
  rw [manyF, cntF_eq]
  refine manyF_fold ρ k m a b (manyF_cnt ρ k) (rsOf m) o h0 ?_
  have hp : (0 : Int) ≤ 6 ^ k := Int.pow_nonneg (by omega)
  have hl : ((rsOf m).length : Int) ≤ 6 := by have := rsOf_len m; omega
  have := Int.mul_le_mul_of_nonneg_right hl hp
  have e : (6 : Int) ^ (k + 1) = 6 * 6 ^ k := by rw [Int.pow_succ, Int.mul_comm]
  omega
end
end Go.Sx
namespace Go.Sx
noncomputable section
open Go.RowKit Go.Proofs
set_option maxRecDepth 100000
def fiW (ρ : Rho) (f : Nat) (a b c : Int) : Int :=
 if f = 3001 then (aftF ρ a.toNat b c).1 else if f = 3002 then (aftF ρ a.toNat b c).2
 else if 4100 ≤ f ∧ f < 4612 then (ordF ρ (cnt ((f - 4100) / 8)) ((f - 4100) / 8) a b).getD ((f - 4100) % 8) 0
 else if 5000 ≤ f ∧ f < 9200 then leftF ρ (cnt ((f - 5000) % 600 / 8)) ((f - 5000) / 600 - cnt ((f - 5000) % 600 / 8)) ((f - 5000) % 600 / 8) ((f - 5000) % 600 % 8) a b c
 else if 9500 ≤ f ∧ f < 9564 then manyF ρ (cnt (f - 9500)) (f - 9500) a b c else ρ.fi f a b c
def fbW (ρ : Rho) (f : Nat) (a b c : Int) : Bool := if 4000 ≤ f ∧ f < 4064 then noneF ρ (cnt (f - 4000)) (f - 4000) a b else ρ.fb f a b c
def LikeF (ρ ρ' : Rho) : Prop := ∀ j, j < 60 → ρ.iv j = ρ'.iv j
theorem aftF_like {ρ ρ' : Rho} (h : LikeF ρ ρ') {r : Nat} (hr : r < 6) (a b : Int) : aftF ρ r a b = aftF ρ' r a b := by
 unfold aftF
 rw [h (10 + 6 * r) (by omega), h (11 + 6 * r) (by omega), h (12 + 6 * r) (by omega), h (13 + 6 * r) (by omega)]
theorem noneF_like {ρ ρ' : Rho} (h : LikeF ρ ρ') : ∀ (k m : Nat) (a b : Int), noneF ρ k m a b = noneF ρ' k m a b
 | 0, _, _, _ => rfl
 | k + 1, m, a, b => by
  simp only [noneF]
  refine all_congr fun r hr => ?_
  rw [aftF_like h (rsOf_lt hr), noneF_like h k]
theorem ordF_like {ρ ρ' : Rho} (h : LikeF ρ ρ') : ∀ (k m : Nat) (a b : Int), ordF ρ k m a b = ordF ρ' k m a b
 | 0, _, _, _ => rfl
 | k + 1, m, a, b => by
  simp only [ordF]
  rw [find_congr (q := fun r => !(decide (aftF ρ' r a b = (0, 0)) || noneF ρ' k (del m r) (aftF ρ' r a b).1 (aftF ρ' r a b).2)) fun r hr => by rw [aftF_like h (rsOf_lt hr), noneF_like h k]]
  cases hf : (rsOf m).find? fun r => !(decide (aftF ρ' r a b = (0, 0)) || noneF ρ' k (del m r) (aftF ρ' r a b).1 (aftF ρ' r a b).2) with
  | none => rfl
  | some r =>
   simp only
   rw [aftF_like h (rsOf_lt (List.mem_of_find?_eq_some hf)), ordF_like h k]
theorem leftF_like {ρ ρ' : Rho} (h : LikeF ρ ρ') : ∀ (k p m j : Nat) (a b o : Int), leftF ρ k p m j a b o = leftF ρ' k p m j a b o
 | 0, _, _, _, _, _, _ => rfl
 | k + 1, p, m, j, a, b, o => by
  simp only [leftF]
  refine foldl_congr _ fun o r hr => ?_
  rw [aftF_like h (rsOf_lt hr), leftF_like h k]
theorem manyF_like {ρ ρ' : Rho} (h : LikeF ρ ρ') : ∀ (k m : Nat) (a b o : Int), manyF ρ k m a b o = manyF ρ' k m a b o
 | 0, _, _, _, _ => rfl
 | k + 1, m, a, b, o => by
  simp only [manyF]
  refine foldl_congr _ fun o r hr => ?_
  rw [aftF_like h (rsOf_lt hr), manyF_like h k]
theorem chainF_like {ρ ρ' : Rho} (h : LikeF ρ ρ') : ∀ (l : List Nat) (a b : Int), (∀ r ∈ l, r < 6) → chainF ρ l a b = chainF ρ' l a b
 | [], _, _, _ => rfl
 | r :: l, a, b, hl => by
  simp only [chainF]
  rw [aftF_like h (hl r List.mem_cons_self), chainF_like h l _ _ fun r hr => hl r (List.mem_cons_of_mem _ hr)]
theorem okO_of {L : Nat} (hL : L ≤ 6) {ρ ρ0 : Rho} (h : LikeF ρ ρ0) (hfi : ρ.fi = fiW ρ0) (hfb : ρ.fb = fbW ρ0) (hr : ∀ r, r < L → reelOk ρ r) : okO L ρ := by
 have m64 : ∀ m, m < 2 ^ L → m < 64 := fun m hm => lt64 hL hm
 refine ⟨⟨fun r hrL => ⟨hr r hrL, fun a b => ?_⟩, fun m hm => ⟨fun a b => ?_, fun j a b hj => ?_, fun K j a b o hK hj => ?_⟩⟩, fun m hm a b o => ?_⟩
 ·rw [hfi, aftF_like h (by omega)]
  unfold fiW
  rw [if_pos rfl, if_neg (by omega), if_pos rfl, Int.toNat_natCast]
  exact ⟨rfl, rfl⟩
 ·rw [hfb, noneF_like h]
  have := m64 m hm
  unfold fbW
  rw [if_pos (by omega), Nat.add_sub_cancel_left]
 ·rw [hfi, ordF_like h]
  have := m64 m hm
  unfold fiW
  rw [if_neg (by omega), if_neg (by omega), if_pos (by omega), show 4100 + 8 * m + j - 4100 = 8 * m + j by omega, show (8 * m + j) / 8 = m by omega, show (8 * m + j) % 8 = j by omega]
 ·rw [hfi, leftF_like h]
  have := m64 m hm
  unfold fiW
  rw [if_neg (by omega), if_neg (by omega), if_neg (by omega), if_pos (by omega), show 5000 + 600 * K + 8 * m + j - 5000 = 600 * K + (8 * m + j) by omega, show (600 * K + (8 * m + j)) % 600 = 8 * m + j by omega, show (600 * K + (8 * m + j)) / 600 = K by omega,
   show (8 * m + j) / 8 = m by omega, show (8 * m + j) % 8 = j by omega]
 ·rw [hfi, manyF_like h]
  have := m64 m hm
  unfold fiW
  rw [if_neg (by omega), if_neg (by omega), if_neg (by omega), if_neg (by omega), if_pos (by omega), Nat.add_sub_cancel_left]
end
end Go.Sx
namespace Go.Sx
noncomputable section
open Go.RowKit Go.Proofs
set_option maxRecDepth 100000
def delCk (m : Nat) : Bool := lAll (fun r => cond (bt m r) (lAll (fun s => cond (bt m s) (cond (Nat.beq s r) true (bt (del m r) s)) true) (upN 6 0)) true) (upN 6 0)
theorem delCk_all : lAll delCk (upN 64 0) = true := by kernel_rfl
theorem del_bt {m r s : Nat} (hm : m < 64) (hr : r < 6) (hs : s < 6) (br : bt m r = true) (bs : bt m s = true) (h : s ≠ r) : bt (del m r) s = true := by
 have k : delCk m = true := lAll_at delCk_all (Nat.zero_le m) (by omega)
 have k := lAll_at k (Nat.zero_le r) (show r < 0 + 6 by omega)
 rw [br, cond_true] at k
 have k := lAll_at k (Nat.zero_le s) (show s < 0 + 6 by omega)
 rw [bs, cond_true, beq_f.2 h, cond_false] at k
 exact k
theorem mem_lFilter {p : Nat → Bool} {l : List Nat} {a : Nat} (h : a ∈ l) (hp : p a = true) : a ∈ lFilter p l := by rw [lFilter_eq]; exact List.mem_filter.2 ⟨h, hp⟩
theorem permsM_mem : ∀ (k m : Nat) (l : List Nat), m < 64 → cnt m = k → l.length = k → l.Nodup → (∀ r ∈ l, r < 6 ∧ bt m r = true) → l ∈ permsM k m
 | 0, m, l, _, _, hl, _, _ => by
  rw [permsM, List.mem_singleton]
  exact List.length_eq_zero_iff.1 hl
 | k + 1, m, [], _, _, hl, _, _ => by simp at hl
 | k + 1, m, r :: l, hm, hc, hl, hn, hb => by
  obtain ⟨hr, br⟩ := hb r List.mem_cons_self
  have hr2 : r ∈ rsOf m := mem_lFilter (mem_upN 6 0 r (Nat.zero_le _) (by omega)) br
  have f := (facts_of (L := 6) (Nat.le_refl _) (show m < 2 ^ 6 from hm)).1 r hr2
  obtain ⟨n1, n2⟩ := List.nodup_cons.1 hn
  rw [permsM, List.mem_flatMap]
  refine ⟨r, hr2, List.mem_map.2 ⟨l, permsM_mem k (del m r) l f.2.1 (by omega) (by simpa using hl) n2 fun s hs => ?_, rfl⟩⟩
  obtain ⟨hs6, bs⟩ := hb s (List.mem_cons_of_mem _ hs)
  exact ⟨hs6, del_bt hm hr hs6 br bs fun e => n1 (e ▸ hs)⟩
theorem memA_eq (n : Nat) : ∀ l, memA n l = true ↔ n ∈ l
 | [] => by simp [memA]
 | m :: l => by
  simp only [memA, List.mem_cons]
  cases h : Nat.beq n m with
  | true => simp [beq_t.1 h]
  | false => have := beq_f.1 h; simp [this, memA_eq n l]
theorem permA_ok {L : Nat} : ∀ l, permA L l = true → l.Nodup ∧ ∀ r ∈ l, r < L
 | [], _ => ⟨List.nodup_nil, fun r h => by cases h⟩
 | n :: l, h => by
  simp only [permA, Bool.and_eq_true] at h
  obtain ⟨h1, h2, h3⟩ := h
  obtain ⟨i1, i2⟩ := permA_ok l h3
  have hm : ¬ n ∈ l := fun hh => by
   rw [(memA_eq n l).2 hh] at h2; cases h2
  refine ⟨List.nodup_cons.2 ⟨hm, i1⟩, fun r hr => ?_⟩
  rcases List.mem_cons.1 hr with rfl | hr
  ·have := ble_t.1 h1; omega
  ·exact i2 r hr
def fullCk (L : Nat) : Bool := lAll (fun r => bt (Nat.pow 2 L - 1) r) (upN L 0)
theorem fullCk_all : lAll fullCk (upN 6 1) = true := by kernel_rfl
theorem perm_mem {L : Nat} (h0 : 1 ≤ L) (hL : L ≤ 6) {l : List Nat} (h : permA L l = true) (hl : l.length = L) : l ∈ permsM L (Nat.pow 2 L - 1) := by
 obtain ⟨h1, h2⟩ := permA_ok l h
 have hc : cnt (Nat.pow 2 L - 1) = L := by rcases six h0 hL with rfl | rfl | rfl | rfl | rfl | rfl <;> rfl
 have hf : fullCk L = true := lAll_at fullCk_all h0 (by omega)
 refine permsM_mem L _ l ?_ hc hl h1 fun r hr => ⟨by have := h2 r hr; omega, lAll_at (p := fun r => bt (Nat.pow 2 L - 1) r) hf (Nat.zero_le r) (by have := h2 r hr; omega)⟩
 rcases six h0 hL with rfl | rfl | rfl | rfl | rfl | rfl <;> decide
end
end Go.Sx
