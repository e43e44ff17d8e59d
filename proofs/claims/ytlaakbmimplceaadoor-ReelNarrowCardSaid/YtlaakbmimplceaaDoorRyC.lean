/- SETS OF REELS, how many there are in them. -/
import Derived.Test.YtlaakbmimplceaaDoorRyU
/-! THE SEARCH FOR AN ORDER, whatever is asked; calls of it, taken as said. -/
namespace Go.Sx
open Go.RowKit Go.Proofs
set_option maxRecDepth 100000
theorem Rho.over_alike (ρ : Rho) (g : Nat → Int) : Alike ρ (ρ.over g) := ⟨fun _ hi => over_lt hi, rfl, rfl, rfl⟩
theorem rsOf_lt {m r : Nat} (h : r ∈ rsOf m) : r < 6 := by have := upN_lt _ _ _ (lFilter_mem h).1; omega
theorem all_congr {p q : Nat → Bool} : ∀ {l : List Nat}, (∀ r ∈ l, p r = q r) → l.all p = l.all q
  | [], _ => rfl
  | a :: l, h => by rw [List.all_cons, List.all_cons, h a List.mem_cons_self, all_congr fun r hr => h r (List.mem_cons_of_mem _ hr)]
theorem find_congr {p q : Nat → Bool} : ∀ {l : List Nat}, (∀ r ∈ l, p r = q r) → l.find? p = l.find? q
  | [], _ => rfl
  | a :: l, h => by
    rw [List.find?_cons, List.find?_cons, h a List.mem_cons_self, find_congr fun r hr => h r (List.mem_cons_of_mem _ hr)]
theorem foldl_congr {f g : Int → Nat → Int} : ∀ {l : List Nat} (a : Int), (∀ a, ∀ r ∈ l, f a r = g a r) → l.foldl f a = l.foldl g a
  | [], _, _ => rfl
  | b :: l, a, h => by
    rw [List.foldl_cons, List.foldl_cons, h a b List.mem_cons_self]
    exact foldl_congr _ fun a r hr => h a r (List.mem_cons_of_mem _ hr)
theorem noneF_over {ρ : Rho} (g : Nat → Int) : ∀ (k m : Nat) (a b : Int), noneF (ρ.over g) k m a b = noneF ρ k m a b
  | 0, _, _, _ => rfl
  | k + 1, m, a, b => by
    simp only [noneF]
    refine all_congr fun r hr => ?_
    rw [aftF_over (rsOf_lt hr), noneF_over g k]
theorem ordF_over {ρ : Rho} (g : Nat → Int) : ∀ (k m : Nat) (a b : Int), ordF (ρ.over g) k m a b = ordF ρ k m a b
  | 0, _, _, _ => rfl
  | k + 1, m, a, b => by
    simp only [ordF]
    rw [find_congr (q := fun r => !(decide (aftF ρ r a b = (0, 0)) || noneF ρ k (del m r) (aftF ρ r a b).1 (aftF ρ r a b).2)) fun r hr => by rw [aftF_over (rsOf_lt hr), noneF_over g k]]
    cases hf : (rsOf m).find? fun r => !(decide (aftF ρ r a b = (0, 0)) || noneF ρ k (del m r) (aftF ρ r a b).1 (aftF ρ r a b).2) with
    | none => rfl
    | some r =>
      simp only
      rw [aftF_over (rsOf_lt (List.mem_of_find?_eq_some hf)), ordF_over g k]
theorem leftF_over {ρ : Rho} (g : Nat → Int) : ∀ (k p m j : Nat) (a b o : Int), leftF (ρ.over g) k p m j a b o = leftF ρ k p m j a b o
  | 0, _, _, _, _, _, _ => rfl
  | k + 1, p, m, j, a, b, o => by
    simp only [leftF]
    refine foldl_congr _ fun o r hr => ?_
    rw [aftF_over (rsOf_lt hr), leftF_over g k]
theorem okT_over {L : Nat} (hL : L ≤ 6) {ρ : Rho} (g : Nat → Int) (h : okT L ρ) : okT L (ρ.over g) := by
  refine ⟨okA_over hL g h.1, fun m hm => ?_⟩
  obtain ⟨h1, h2, h3⟩ := h.2 m hm
  exact ⟨fun a b => by rw [noneF_over]; exact h1 a b, fun j a b hj => by rw [ordF_over]; exact h2 j a b hj, fun K j a b o hK hj => by rw [leftF_over]; exact h3 K j a b o hK hj⟩
theorem six_list : ∀ (ds : List Int), ds.length = 6 → ∀ (G : Nat → Int), (∀ i, i < 6 → G (510 + i) = (ds[i]?).getD 0) → [G 510, G 511, G 512, G 513, G 514, G 515] = ds
  | [d0, d1, d2, d3, d4, d5], _, G, h => by
    rw [show G 510 = d0 from h 0 (by omega), show G 511 = d1 from h 1 (by omega), show G 512 = d2 from h 2 (by omega), show G 513 = d3 from h 3 (by omega), show G 514 = d4 from h 4 (by omega), show G 515 = d5 from h 5 (by omega)]
section
variable {C : Cons} (O : ConsOk C) {L : Nat} (h0 : 1 ≤ L) (hL : L ≤ 6)
include O h0 hL
/-- the heaps, read with other numbers from 500 on -/
theorem vT_same {ρ ρ' : Rho} (hA : Alike ρ ρ') {xs ys : List IE} (h : xs.map (IE.den ρ) = ys.map (IE.den ρ')) : SameH (pTs L) (pTs L) ρ (viewA C.n (vT C L xs)) ρ' (viewA C.n (vT C L ys)) := by
  refine ⟨by rw [viewA_next, viewA_next], fun j o g => ?_⟩
  have get : ∀ {b o}, (b, o) ∈ vT C L xs → (viewA C.n (vT C L xs)).get b = some o := fun hm => viewA_mem C.n _ 0 (O.up L xs h0 hL) _ hm
  have pl : ∀ g : Nat × AObj, and (plO g.2) (and (Nat.ble (g.1 + 1) C.n) (idsO C.n g.2)) = true → plO g.2 = true := fun g h => by
    rw [Bool.and_eq_true] at h; exact h.1
  rcases vT_mem (viewA_get _ _ _ _ g) with hm | ⟨rfl, rfl⟩ | hm
  · exact ⟨o, get (vT_pre hm), SameA.pl hA (pl _ (lAll_mem (O.pre L h0 hL) (j, o) hm))⟩
  · exact ⟨_, get vT_arr, SameA.cells rfl (same_ints h)⟩
  · exact ⟨o, get (vT_suf hm), SameA.pl hA (pl _ (lAll_mem (O.suf L h0 hL) (j, o) hm))⟩
theorem fT_same {f : Nat → List (Nat × AObj)} (hf : C.fnd = some f) {ρ ρ' : Rho} (hA : Alike ρ ρ') {xs ys : List IE} (h : xs.map (IE.den ρ) = ys.map (IE.den ρ')) : SameH (pTs L) (pTs L) ρ (viewA C.fn (f L ++ newB C xs)) ρ' (viewA C.fn (f L ++ newB C ys)) := by
  refine ⟨by rw [viewA_next, viewA_next], fun j o g => ?_⟩
  have get : ∀ {b o}, (b, o) ∈ f L ++ newB C xs → (viewA C.fn (f L ++ newB C xs)).get b = some o := fun hm => viewA_mem C.fn _ 0 (O.fup f hf L xs h0 hL) _ hm
  rcases List.mem_append.1 (viewA_get _ _ _ _ g) with hm | hm
  · exact ⟨o, get (List.mem_append_left _ hm), SameA.pl hA (lAll_mem (O.fpl f hf L h0 hL) (j, o) hm)⟩
  · obtain ⟨hj, rfl⟩ := newB_mem hm
    refine ⟨.cells (lMap iA xs) 3 true true, get (List.mem_append_right _ ?_), SameA.cells rfl (same_ints h)⟩
    unfold newB; rw [hj]; exact List.mem_singleton.2 rfl
theorem T_said {m : Nat} (hd : C.dom L m = true) (B : TabOk (pTs L) Sx.Tryd.tt.get (tbTs C L (cnt m))) (x1 x2 : IE) {xs : List IE} (hx : xs.length = 6) : CallOk (pTs L) 76 (argsT C L m x1 x2) (viewA C.n (vT C L xs)) (saidT C L m x1 x2 xs) := by
  refine CallOk.read (p0 := pTs L) rfl (T_base O h0 hL hd B) fun ρ b ⟨mm, k1, k2⟩ Q k => ?_
  let g : Nat → Int := fun j => if j = 500 then x1.den ρ else if j = 501 then x2.den ρ else ((xs.map (IE.den ρ))[j - 510]?).getD 0
  have hA : Alike ρ (ρ.over g) := Rho.over_alike ρ g
  have e1 : (IE.var 500).den (ρ.over g) = x1.den ρ := rfl
  have e2 : (IE.var 501).den (ρ.over g) = x2.den ρ := rfl
  have ex : vs6.map (IE.den (ρ.over g)) = xs.map (IE.den ρ) := six_list (xs.map (IE.den ρ)) (by rw [List.length_map]; exact hx) g fun i hi => by
    simp only [g, if_neg (show ¬ 510 + i = 500 by omega), if_neg (show ¬ 510 + i = 501 by omega), Nat.add_sub_cancel_left]
  have eLeft : (leftL (C.size L) m (C.size L - cnt m) (.var 500) (.var 501) vs6).map (IE.den (ρ.over g)) = (leftL (C.size L) m (C.size L - cnt m) x1 x2 xs).map (IE.den ρ) := by
    have a1 := dens_mapI (ρ := ρ.over g) (f := fun j o => cond (Nat.ble (C.size L - cnt m) j) (leftE (C.size L) m (.var 500) (.var 501) j o) o) (g := fun j o => cond (Nat.ble (C.size L - cnt m) j) (FI ρ.fi (5000 + 600 * C.size L + 8 * m + j) (x1.den ρ) (x2.den ρ) o) o) vs6 0 fun i o _ _ => by
      cases Nat.ble (C.size L - cnt m) i <;> rfl
    have a2 := dens_mapI (ρ := ρ) (f := fun j o => cond (Nat.ble (C.size L - cnt m) j) (leftE (C.size L) m x1 x2 j o) o) (g := fun j o => cond (Nat.ble (C.size L - cnt m) j) (FI ρ.fi (5000 + 600 * C.size L + 8 * m + j) (x1.den ρ) (x2.den ρ) o) o) xs 0 fun i o _ _ => by
      cases Nat.ble (C.size L - cnt m) i <;> rfl
    unfold dens at a1 a2
    unfold leftL
    rw [a1, a2, ex]
  have eFound : (lApp (lTake vs6 (C.size L - cnt m)) (ordL m (.var 500) (.var 501))).map (IE.den (ρ.over g)) = (lApp (lTake xs (C.size L - cnt m)) (ordL m x1 x2)).map (IE.den ρ) := by
    rw [lApp_eq, lApp_eq, List.map_append, List.map_append, lTake_eq, lTake_eq, List.map_take, List.map_take, ex]
    congr 1
    unfold ordL
    rw [lMap_eq, lMap_eq, List.map_map, List.map_map]
    rfl
  refine ⟨ρ.over g, ⟨mm, okT_over hL g k1, k2⟩, ?_, vT_same O h0 hL hA ex.symm, ?_⟩
  · unfold argsT
    have hb : SameV ρ (bitsA m) (ρ.over g) (bitsA m) := SameV.agg (SameL.cons (SameV.bool rfl) (SameL.cons (SameV.bool rfl) (SameL.cons (SameV.bool rfl) (SameL.cons (SameV.bool rfl) (SameL.cons (SameV.bool rfl) (SameL.cons (SameV.bool rfl) SameL.nil))))))
    exact SameL.cons (SameV.int rfl) (SameL.cons hb (SameL.cons (SameV.agg (SameL.cons (SameV.int e1.symm) (SameL.cons (SameV.int e2.symm) SameL.nil))) (SameL.pl hA C.ptrs O.ptrs)))
  · have found : (foundT C L (lApp (lTake xs (C.size L - cnt m)) (ordL m x1 x2))).Holds ρ Q → (foundT C L (lApp (lTake vs6 (C.size L - cnt m)) (ordL m (.var 500) (.var 501)))).Holds (ρ.over g) fun r0 => ∃ r, Q r ∧ SameV (ρ.over g) r0.1 ρ r.1 ∧ SameH (pTs L) (pTs L) (ρ.over g) r0.2 ρ r.2 := fun q => by
      unfold foundT at q ⊢
      cases hf : C.fnd with
      | none => rw [hf] at q; exact q.elim
      | some f =>
        rw [hf] at q
        exact ⟨_, q, SameV.bool rfl, fT_same O h0 hL hf hA.symm eFound⟩
    unfold saidT at k ⊢
    cases hz : Nat.beq m 0 with
    | true =>
      rw [hz, cond_true] at k
      rw [cond_true]
      exact found k
    | false =>
      rw [hz, cond_false] at k
      rw [cond_false]
      simp only [T.Holds] at k ⊢
      have en : (noneE m (.var 500) (.var 501)).den (ρ.over g) = (noneE m x1 x2).den ρ := rfl
      rw [en]
      split
      · rename_i hc
        rw [if_pos hc] at k
        exact ⟨_, k, SameV.bool rfl, vT_same O h0 hL hA.symm eLeft⟩
      · rename_i hc
        rw [if_neg hc] at k
        exact found k
theorem orcT_ok {k : Nat} (B : ∀ j, j < k → TabOk (pTs L) Sx.Tryd.tt.get (tbTs C L j)) {args : List AV} {h : Heap} {t : T (AV × Heap)} (e : orcTs C L k args h = some t) : CallOk (pTs L) 76 args h t := by
  unfold orcTs at e
  split at e
  · split at e
    · rename_i m xs _ _
      obtain ⟨hc, e2⟩ := cond_some e
      clear e
      simp only [Bool.and_eq_true] at hc
      obtain ⟨⟨i1, i2, i3⟩, ⟨i4, i5⟩, i6⟩ := hc
      have i1 := eqAVs_eq _ _ i1
      rw [i1]
      cases e2
      have hx : xs.length = 6 := by rw [← lLen_eq]; exact beq_t.1 i4
      exact (T_said O h0 hL i2 (B _ (ble_t.1 i3)) _ _ hx).frame (n := C.n) O.big (O.args L m _ _) (O.view h0 hL xs) (lessAll_ok i5) (ble_t.1 i6) (nwT C)
    · cases e
  · cases e
/-- THE TABLES, with the calls of the search taken as said. -/
theorem tabsTs (k : Nat) : TabOk (pTs L) Sx.Tryd.tt.get (tbTs C L k) := by
  induction k using Nat.strongRecOn with
  | ind k ih =>
    refine Tryd.tab (orcL C L k) (fun f args h t e => ?_) 2000
    unfold orcL at e
    cases h1 : Nat.beq f 60 with
    | true =>
      rw [h1, cond_true] at e
      rw [beq_t.1 h1]
      exact orcA_ok (p := pTs L) rfl O.b (fun ρ m h => h.1) h0 hL e
    | false =>
      rw [h1, cond_false] at e
      obtain ⟨h2, e⟩ := cond_some e
      rw [beq_t.1 h2]
      exact orcT_ok O h0 hL ih e
end
end Go.Sx
/-! WHO LOOKS FOR AN ORDER: First, canFollow, and Places where there is none. -/
namespace Go.Sx
open Go.RowKit Go.Proofs
set_option maxRecDepth 100000
noncomputable def filmF (L : Nat) : AV := .agg [.sliceX 1001 6 0 L, vj 0, vj 1, vj 2, vj 3, vj 4]
noncomputable def ltP (L m : Nat) : Bool := Nat.ble (m + 1) (Nat.pow 2 L)
noncomputable def ptrsF : List AV := [.ptr 2013 0, .ptr 2015 0, .ptr 2010 0, .ptr 2016 0]
noncomputable def loopF (L : Nat) (st : LoopState) (x : Ex) : AObj := .loop st x 12 (treeOf [(0, filmF L), (1, .ptr 2000 0), (2, .ptr 2001 0), (3, .ptr 2002 0), (4, .ptr 2004 0), (5, ln 0), (13, tag false), (16, .func (.func 75) [] [.ptr 2010 0, .ptr 2009 0])]) [17] 12017 2011
noncomputable def rwF (r : AV × Heap) : List Nat :=
  match r.2.get 2001 with
  | some (.cells [.sliceX b _ _ _] _ _ _) => [b]
  | _ => []
noncomputable def consF : Cons where
  b := 2003
  arr := 2014
  n := 2017
  ptrs := ptrsF
  pre L := [(1001, rowsA L), (2001, .cells [.nilslice] 27 true false), (2002, .cells [ln 0] 33 true false), (2003, .umap (mU false)), (2010, ro [.func (.func 60) [filmK 2003 L] []]), (2012, loopF L .ready .norm), (2013, ro [.yieldF 2012])]
  suf _ := [(2015, ro [.slice 2014 0 6 6]), (2016, ro [.func (.func 76) [] ptrsF])]
  fnd := some fun L => [(1001, rowsA L), (2001, .cells [.sliceX 2017 1 0 L] 27 true false), (2002, .cells [ln 0] 33 true false), (2003, .umap (mU false)), (2010, ro [.func (.func 60) [filmK 2003 L] []]), (2012, loopF L .done .ret), (2013, ro [.yieldF 2012]), (2015, ro [.slice 2014 0 6 6]), (2016, ro [.func (.func 76) [] ptrsF])]
  new := some 2017
  fn := 2018
  size L := L
  dom := ltP
  rw := rwF
noncomputable def ptrsC : List AV := [.ptr 2009 0, .ptr 2011 0, .ptr 2006 0, .ptr 2012 0]
noncomputable def loopC (M L : Nat) (st : LoopState) (x : Ex) : AObj := .loop st x 64 (treeOf [(0, filmK 2001 L), (1, bitsA M), (2, .ptr 2002 0), (3, .ptr 2003 0), (4, .ptr 2004 0), (8, .func (.func 75) [] [.ptr 2006 0, .ptr 2005 0])]) [9] 64009 2007
noncomputable def consC (M : Nat) : Cons where
  b := 2001
  arr := 2010
  n := 2013
  ptrs := ptrsC
  pre L := [(1001, rowsA L), (2001, .umap (mU false)), (2004, .cells [tag false] 4 true false), (2006, ro [.func (.func 60) [filmK 2001 L] []]), (2008, loopC M L .ready .norm), (2009, ro [.yieldF 2008])]
  suf _ := [(2011, ro [.slice 2010 0 6 6]), (2012, ro [.func (.func 76) [] ptrsC])]
  fnd := some fun L => [(1001, rowsA L), (2001, .umap (mU false)), (2004, .cells [tag true] 4 true false), (2006, ro [.func (.func 60) [filmK 2001 L] []]), (2008, loopC M L .done .ret), (2009, ro [.yieldF 2008]), (2011, ro [.slice 2010 0 6 6]), (2012, ro [.func (.func 76) [] ptrsC])]
  new := none
  fn := 2013
  size _ := cnt M
  dom L m := and (ltP L M) (Nat.beq (Nat.land m M) m)
  rw _ := []
noncomputable def ptrsP : List AV := [.ptr 2016 0, .ptr 2018 0, .ptr 2013 0, .ptr 2019 0]
noncomputable def consP : Cons where
  b := 2001
  arr := 2017
  n := 2020
  ptrs := ptrsP
  pre L := [(1001, rowsA L), (2001, .umap (mU false)), (2013, ro [.func (.func 60) [filmK 2001 L] []])]
  suf _ := [(2018, ro [.slice 2017 0 6 6]), (2019, ro [.func (.func 76) [] ptrsP])]
  fnd := none
  new := none
  fn := 2020
  size L := L
  dom := ltP
  rw _ := []
noncomputable def ckC (L M : Nat) : Bool := lAll (fun m => cond (Nat.beq (Nat.land m M) m) (ckT (consC M) L m) true) (upN (Nat.pow 2 L) 0)
noncomputable def ckP (L m : Nat) : Bool := cond (Nat.beq m 0) true (ckT consP L m)
theorem ckF2 : lAll (ckT consF 2) (upN 4 0) = true := by kernel_rfl
theorem ckP2 : lAll (ckP 2) (upN 4 0) = true := by kernel_rfl
theorem ckC2 : lAll (ckC 2) (upN 4 0) = true := by kernel_rfl
end Go.Sx
/-! SETS OF REELS, how many there are in them. -/
namespace Go.Sx
open Go.RowKit Go.Proofs
set_option maxRecDepth 100000
theorem bt_bit (m i : Nat) : bt m i = m.testBit i := by
  unfold bt
  rw [Nat.testBit_eq_decide_div_mod_eq]
  cases h : Nat.beq (Nat.mod (Nat.div m (Nat.pow 2 i)) 2) 1 with
  | true => exact (decide_eq_true (beq_t.1 h)).symm
  | false => exact (decide_eq_false (beq_f.1 h)).symm
theorem cnt_mono {m M : Nat} (h : Nat.land m M = m) : cnt m ≤ cnt M := by
  have k : ∀ i, (cond (bt m i) 1 0 : Nat) ≤ cond (bt M i) 1 0 := fun i => by
    have e : (m &&& M).testBit i = m.testBit i := congrArg (fun x => x.testBit i) h
    rw [Nat.testBit_and, ← bt_bit, ← bt_bit] at e
    cases h1 : bt m i <;> cases h2 : bt M i <;> simp_all
  unfold cnt
  have := k 0; have := k 1; have := k 2; have := k 3; have := k 4; have := k 5
  omega
theorem cnt_six (m : Nat) : cnt m ≤ 6 := by
  have k : ∀ i, (cond (bt m i) 1 0 : Nat) ≤ 1 := fun i => by cases bt m i <;> simp
  unfold cnt
  have := k 0; have := k 1; have := k 2; have := k 3; have := k 4; have := k 5
  omega
theorem cnt_le' {L m : Nat} (hm : m < 2 ^ L) : cnt m ≤ L := by
  by_cases h : 6 ≤ L
  · exact Nat.le_trans (cnt_six m) h
  · rcases Nat.eq_zero_or_pos L with rfl | h0
    · have : m = 0 := by omega
      subst this; exact Nat.le_of_eq rfl
    · exact cnt_le h0 (by omega) hm
theorem ltP_t {L m : Nat} (h : ltP L m = true) : m < 2 ^ L := ble_t.1 h
theorem del_lt {L m r : Nat} (h : m < 2 ^ L) : del m r < 2 ^ L := Nat.lt_of_le_of_lt (Nat.sub_le _ _) h
end Go.Sx
