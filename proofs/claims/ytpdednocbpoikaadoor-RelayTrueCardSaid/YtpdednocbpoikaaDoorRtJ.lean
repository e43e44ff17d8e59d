/- RtJ -/
import Derived.Test.YtpdednocbpoikaaDoorRtI
namespace Go.Sx
open Go.RowKit Go.Proofs
set_option maxRecDepth 100000
theorem okNM_gen {L : Nat} (h0 : 1 ≤ L) (hL : L ≤ 6) {ρ ρ1 : Rho} (hB : okB L ρ) (fi : ∀ f a b c, ¬ (3101 ≤ f ∧ f < 3105) → ρ.fi f a b c = ρ1.fi f a b c) (fil : ∀ (i r : Nat) (b c : Int), i < 4 → ρ.fi (3101 + i) r b c = lastI L ρ1 (4 * r + i))
    (iv : ∀ i, i < 97 → ρ.iv i = ρ1.iv i) (ivl : ∀ q, q < 24 → ρ.iv (100 + q) = lastI L ρ1 q) : okN L ρ ∧ okM L ρ := by
  refine ⟨fun j t hj ht => ?_, fun r i hr hi => ?_⟩
  · have ho := oB_in h0 hL hB.1 hj
    have eo := oB_rho (L := L) (ρ := ρ1) (ρ' := ρ) fi (j := j)
    rw [eo] at ho
    have l1 := ivl (4 * j + 2 * t) (by omega)
    have l2 := ivl (4 * j + 2 * t + 1) (by omega)
    rw [eo, iv 60 (by omega)]
    unfold lastI at l1 l2
    rw [if_pos (by omega), show (4 * j + 2 * t) / 4 = j by omega, show (4 * j + 2 * t) % 4 / 2 = t by omega] at l1
    rw [if_neg (by omega), show (4 * j + 2 * t + 1) / 4 = j by omega, show (4 * j + 2 * t + 1) % 4 / 2 = t by omega] at l2
    have hlt : ((oB L j).den ρ1).toNat < 6 := by omega
    refine ⟨?_, ?_⟩
    · rw [show 100 + 4 * j + 2 * t = 100 + (4 * j + 2 * t) by omega, l1]
      unfold loZ
      rw [iv (14 + 6 * ((oB L j).den ρ1).toNat) (by omega), iv 3 (by omega), iv 0 (by omega)]
    · rw [show 101 + 4 * j + 2 * t = 100 + (4 * j + 2 * t + 1) by omega, l2]
      unfold hiZ
      rw [iv (15 + 6 * ((oB L j).den ρ1).toNat) (by omega), iv 2 (by omega), iv 1 (by omega)]
  · rw [fil i r (ρ.iv 60) 0 hi, show 100 + 4 * r + i = 100 + (4 * r + i) by omega, ivl (4 * r + i) (by omega)]
noncomputable def chF (k : Nat) (l : List (Nat × Nat × Nat)) : Option (Nat × Nat × Nat) := @List.rec (Nat × Nat × Nat) (fun _ => Option (Nat × Nat × Nat)) none (fun q _ ih => cond (Nat.beq q.1 k) (some q) ih) l
noncomputable def chOne (L : Nat) (plan : List Nat) : Bool := lAll (fun q : Nat × Nat × Nat => match chF q.1 (chsL L plan) with
  | some p => and (Nat.beq p.1 q.1) (and (Nat.beq p.2.1 q.2.1) (Nat.beq p.2.2 q.2.2))
  | none => false) (chsL L plan)
theorem chOne_all : lAll (fun L => lAll (chOne L) (plansL L)) [1, 2, 3, 4, 5, 6] = true := by kernel_rfl
theorem ch_one {L : Nat} (h0 : 1 ≤ L) (hL : L ≤ 6) {plan : List Nat} (hp : plan ∈ plansL L) {q : Nat × Nat × Nat} (hq : q ∈ chsL L plan) : chF q.1 (chsL L plan) = some q := by
  have h := lAll_mem (lAll_mem chOne_all L (mem6 h0 hL)) plan hp
  have h := lAll_mem (show lAll _ (chsL L plan) = true from h) q hq
  cases hc : chF q.1 (chsL L plan) with
  | none => rw [hc] at h; cases h
  | some p =>
    rw [hc] at h
    simp only [Bool.and_eq_true] at h
    obtain ⟨h1, h2, h3⟩ := h
    obtain ⟨p1, p2, p3⟩ := p
    obtain ⟨q1, q2, q3⟩ := q
    have e1 := beq_t.1 h1; have e2 := beq_t.1 h2; have e3 := beq_t.1 h3
    simp only at e1 e2 e3
    rw [e1, e2, e3]
noncomputable def rho4 (L : Nat) (plan : List Nat) (ρ : Rho) : Rho := ⟨fun j => if 340 ≤ j ∧ j < 400 then (match chF (j - 340) (chsL L plan) with
  | some q => (nameC q).den ρ
  | none => 0) else ρ.iv j, ρ.bv, ρ.fi, ρ.fb, ρ.ov⟩
noncomputable def rho5 (plan : List Nat) (ρ : Rho) : Rho := ⟨fun j => if 270 ≤ j ∧ j < 276 then ((trE plan).map (IE.den ρ)).getD (j - 270) 0 else ρ.iv j, ρ.bv, ρ.fi, ρ.fb, ρ.ov⟩
noncomputable def hapR (L : Nat) (plan : List Nat) (ρ : Rho) (i : Nat) : IE × Nat := hapI ρ (nxE L plan) (trE plan) 0 (tenE (xsE i)) 0
noncomputable def rho6 (L : Nat) (plan : List Nat) (ρ : Rho) : Rho := ⟨fun j => if 240 ≤ j ∧ j < 246 then (ovE ((j - 240) % 2) plan (xsE ((j - 240) / 2))).den ρ else if 290 ≤ j ∧ j < 293 then (hapR L plan ρ (j - 290)).1.den ρ else if 260 ≤ j ∧ j < 263 then ((hapR L plan ρ (j - 260)).2 : Int) else ρ.iv j, ρ.bv, ρ.fi, ρ.fb, ρ.ov⟩
theorem rho4_iv {L : Nat} {plan : List Nat} {ρ : Rho} {j : Nat} (h : j < 340) : (rho4 L plan ρ).iv j = ρ.iv j := if_neg (by omega)
theorem rho5_iv {plan : List Nat} {ρ : Rho} {j : Nat} (h : j < 270 ∨ 276 ≤ j) : (rho5 plan ρ).iv j = ρ.iv j := if_neg (by omega)
theorem rho6_iv {L : Nat} {plan : List Nat} {ρ : Rho} {j : Nat} (h : j < 240 ∨ (263 ≤ j ∧ j < 290) ∨ 293 ≤ j) : (rho6 L plan ρ).iv j = ρ.iv j := by
  show (if 240 ≤ j ∧ j < 246 then _ else if 290 ≤ j ∧ j < 293 then _ else if 260 ≤ j ∧ j < 263 then _ else ρ.iv j) = _
  rw [if_neg (by omega), if_neg (by omega), if_neg (by omega)]
theorem OkP.like {L : Nat} (hL : L ≤ 6) {plan : List Nat} (hV : VarsOk L plan) {ρ ρ' : Rho} (h : OkP L plan ρ) (iv : ∀ j, j < 240 → ρ'.iv j = ρ.iv j) (hf : ρ'.fi = ρ.fi ∧ ρ'.fb = ρ.fb) : OkP L plan ρ' := by
  have den : ∀ e, varsI 200 e = true → e.den ρ' = e.den ρ := fun e he => varsI_den (n := 200) (fun i hi => iv i (by omega)) hf e he
  refine ⟨?_, ?_, ?_, fun c hc => ?_⟩
  · have e1 : (zipI (thereE 0 plan) (thereE 1 plan)).map (IE.den ρ') = (zipI (thereE 0 plan) (thereE 1 plan)).map (IE.den ρ) := List.map_congr_left fun e he => by
      rcases zipI_mem he with he | he
      · exact den e (hV.t0 e he)
      · exact den e (hV.t1 e he)
    rw [e1, h.ats]
    exact List.map_congr_left fun j hj => by
      have := upN_lt _ _ _ hj
      exact (iv j (by omega)).symm
  · rw [iv 220 (by omega), h.sure, den _ hV.sure]
  · rw [iv 221 (by omega), h.may, den _ hV.may]
  · have k := h.carry c hc
    unfold carryC at hc
    rw [lMap_eq, List.mem_map] at hc
    obtain ⟨p, _, rfl⟩ := hc
    rw [BE.t_leq, IE.den_lit, IE.den_var] at k ⊢
    rw [iv 65 (by omega)]; exact k
theorem xs_vars (i : Nat) : varsI 240 (xsE i) = true := by
  unfold xsE bgE
  split <;> rfl
theorem okCh_of {L : Nat} (h0 : 1 ≤ L) (hL : L ≤ 6) {plan : List Nat} (hp : plan ∈ plansL L) {ρ4 ρ : Rho} (hr : ∀ j, 340 ≤ j → j < 400 → ρ.iv j = (rho4 L plan ρ4).iv j) (iv : ∀ j, j < 240 → ρ.iv j = ρ4.iv j) (hf : ρ.fi = ρ4.fi ∧ ρ.fb = ρ4.fb)
    (hb : ∀ q ∈ chsL L plan, 0 ≤ ρ.iv q.2.1 ∧ ρ.iv q.2.1 ≤ ρ.iv q.2.2 ∧ ρ.iv q.2.2 ≤ 1000000) : OkCh L plan ρ := fun q hq => by
  obtain ⟨v1, v2, v3⟩ := (vars_ok h0 hL hp).ch q hq
  refine ⟨?_, hb q hq⟩
  rw [hr _ (by omega) (by omega)]
  have e : (rho4 L plan ρ4).iv (340 + q.1) = (nameC q).den ρ4 := by
    show (if 340 ≤ 340 + q.1 ∧ 340 + q.1 < 400 then (match chF (340 + q.1 - 340) (chsL L plan) with
      | some q => (nameC q).den ρ4
      | none => 0) else _) = _
    rw [if_pos (by omega), Nat.add_sub_cancel_left, ch_one h0 hL hp hq]
  rw [e]
  exact (varsI_den (n := 200) (fun i hi => iv i (by omega)) hf (nameC q) (by
    unfold nameC
    simp only [varsI, Bool.and_eq_true]
    exact ⟨ble_t.2 (by omega), ble_t.2 (by omega), trivial, trivial, trivial⟩)).symm
theorem spanUp_of {i0 : Nat} {l : List (Nat × Nat × Nat)} {x : Nat × Nat × Nat} : ∀ (n next j : Nat), x ∈ spanUp i0 n l next j → (∃ q, q < n ∧ x = (next + q, i0 + 4 * (j + q), i0 + 1 + 4 * (j + q))) ∨ x ∈ l
  | 0, _, _, h => .inr h
  | n + 1, next, j, h => by
    have h : x ∈ (next, i0 + 4 * j, i0 + 1 + 4 * j) :: spanUp i0 n l (next + 1) (j + 1) := h
    rcases List.mem_cons.1 h with rfl | h
    · exact .inl ⟨0, by omega, rfl⟩
    · rcases spanUp_of n (next + 1) (j + 1) h with ⟨q, hq, rfl⟩ | h
      · exact .inl ⟨q + 1, by omega, by rw [show next + 1 + q = next + (q + 1) by omega, show j + 1 + q = j + (q + 1) by omega]⟩
      · exact .inr h
theorem chsE_in {L : Nat} {ρ : Rho} (H : LastZ L ρ) : ∀ (plan : List Nat) (next j : Nat), j + sumN plan ≤ L → ∀ q ∈ chsE plan next j, 0 ≤ ρ.iv q.2.1 ∧ ρ.iv q.2.1 ≤ ρ.iv q.2.2 ∧ ρ.iv q.2.2 ≤ 1000000
  | [], _, _, _, q, hq => by cases hq
  | p :: plan, next, j, hj, q, hq => by
    simp only [sumN] at hj
    rw [chsE_cons] at hq
    have g := H.go
    have b := H.back
    rcases spanUp_of _ _ _ hq with ⟨k, hk, rfl⟩ | hq
    · have := H.t0 (j + k) (by omega)
      show 0 ≤ ρ.iv (100 + 4 * (j + k)) ∧ ρ.iv (100 + 4 * (j + k)) ≤ ρ.iv (100 + 1 + 4 * (j + k)) ∧ ρ.iv (100 + 1 + 4 * (j + k)) ≤ 1000000
      rw [show 100 + 1 + 4 * (j + k) = 101 + 4 * (j + k) by omega]
      omega
    · rcases List.mem_cons.1 hq with rfl | hq
      · exact ⟨g.1, g.2.1, by show ρ.iv 62 ≤ 1000000; omega⟩
      · rcases List.mem_cons.1 hq with rfl | hq
        · exact ⟨b.1, b.2.1, by show ρ.iv 64 ≤ 1000000; omega⟩
        · exact chsE_in H plan _ _ (by omega) q hq
theorem chsL_in {L : Nat} {ρ : Rho} (H : LastZ L ρ) {plan : List Nat} (hs : sumN plan = L) : ∀ q ∈ chsL L plan, 0 ≤ ρ.iv q.2.1 ∧ ρ.iv q.2.1 ≤ ρ.iv q.2.2 ∧ ρ.iv q.2.2 ≤ 1000000 := fun q hq => by
  unfold chsL at hq
  rcases lApp_mem hq with hq | hq
  · exact chsE_in H plan 0 0 (by omega) q hq
  · rcases spanUp_of _ _ _ hq with ⟨k, hk, rfl⟩ | hq
    · have := H.t1 (0 + k) (by omega)
      show 0 ≤ ρ.iv (102 + 4 * (0 + k)) ∧ ρ.iv (102 + 4 * (0 + k)) ≤ ρ.iv (102 + 1 + 4 * (0 + k)) ∧ ρ.iv (102 + 1 + 4 * (0 + k)) ≤ 1000000
      rw [show 102 + 1 + 4 * (0 + k) = 103 + 4 * (0 + k) by omega]
      omega
    · cases hq
theorem tr_of {L : Nat} (hL : L ≤ 6) {plan : List Nat} {ρ5 ρ : Rho} (ivt : ∀ j, 270 ≤ j → j < 276 → ρ.iv j = (rho5 plan ρ5).iv j) (hl : (trE plan).length = L)
    (hv : ∀ a ∈ trE plan, a.den ρ = a.den ρ5) : (trE plan).map (IE.den ρ) = (upN L 270).map ρ.iv := by
  rw [List.map_congr_left hv]
  refine List.ext_getElem? fun i => ?_
  by_cases hi : i < L
  · rw [List.getElem?_map, List.getElem?_map, upN_get _ _ _ hi, Option.map_some]
    have hz : i < (trE plan).length := by omega
    rw [List.getElem?_eq_getElem hz, Option.map_some, ivt _ (by omega) (by omega)]
    show some _ = some (if 270 ≤ 270 + i ∧ 270 + i < 276 then ((trE plan).map (IE.den ρ5)).getD (270 + i - 270) 0 else _)
    rw [if_pos (by omega), Nat.add_sub_cancel_left, List.getD_eq_getElem?_getD, List.getElem?_map, List.getElem?_eq_getElem hz]; rfl
  · have key : ∀ n k, (upN n k).length = n := by
      intro n
      induction n with
      | zero => intro k; rfl
      | succ n ih => intro k; simp only [upN, List.length_cons, ih]
    rw [List.getElem?_eq_none (by rw [List.length_map]; omega), List.getElem?_eq_none (by rw [List.length_map, key]; omega)]
def farI : IE → Bool
  | .lit _ => true
  | .var i => Nat.ble (i + 1) 240 || (Nat.ble 340 i && Nat.ble (i + 1) 400)
  | .bin _ _ a b => farI a && farI b
  | .conv _ a => farI a
  | .mx a b => farI a && farI b
  | .mn a b => farI a && farI b
  | .app _ a b c => farI a && (farI b && farI c)
theorem farI_den {ρ ρ' : Rho} (h : ∀ i, i < 240 ∨ (340 ≤ i ∧ i < 400) → ρ'.iv i = ρ.iv i) (hf : ρ'.fi = ρ.fi ∧ ρ'.fb = ρ.fb) : ∀ e : IE, farI e = true → e.den ρ' = e.den ρ
  | .lit _, _ => rfl
  | .var i, k => by
    simp only [farI, Bool.or_eq_true, Bool.and_eq_true] at k
    refine h i ?_
    rcases k with k | k
    · exact .inl (ble_t.1 k)
    · exact .inr ⟨ble_t.1 k.1, ble_t.1 k.2⟩
  | .bin _ _ a b, k => by
    simp only [farI, Bool.and_eq_true] at k
    simp only [IE.den, farI_den h hf a k.1, farI_den h hf b k.2]
  | .conv _ a, k => by
    simp only [farI] at k
    simp only [IE.den, farI_den h hf a k]
  | .mx a b, k => by
    simp only [farI, Bool.and_eq_true] at k
    simp only [IE.den, farI_den h hf a k.1, farI_den h hf b k.2]
  | .mn a b, k => by
    simp only [farI, Bool.and_eq_true] at k
    simp only [IE.den, farI_den h hf a k.1, farI_den h hf b k.2]
  | .app _ a b c, k => by
    simp only [farI, Bool.and_eq_true] at k
    simp only [IE.den, farI_den h hf a k.1, farI_den h hf b k.2.1, farI_den h hf c k.2.2, hf.1]
noncomputable def farP (plan : List Nat) : Bool := and (lAll farI (trE plan)) (and (and (farI (ovE 0 plan (xsE 0))) (and (farI (ovE 0 plan (xsE 1))) (farI (ovE 0 plan (xsE 2))))) (and (farI (ovE 1 plan (xsE 0))) (and (farI (ovE 1 plan (xsE 1))) (farI (ovE 1 plan (xsE 2))))))
theorem farP_all : lAll (fun L => lAll farP (plansL L)) [1, 2, 3, 4, 5, 6] = true := by kernel_rfl
theorem hapI_same {ρ ρ' : Rho} (h : ∀ i, i < 240 ∨ (340 ≤ i ∧ i < 400) → ρ'.iv i = ρ.iv i) {nx : Nat} : ∀ (l : List IE) (i : Nat) (now : IE) (cnt : Nat), (∀ a ∈ l, a.den ρ' = a.den ρ) → nx + i + l.length ≤ 60 → now.den ρ' = now.den ρ →
    hapI ρ' nx l i now cnt = hapI ρ nx l i now cnt ∧ (hapI ρ nx l i now cnt).1.den ρ' = (hapI ρ nx l i now cnt).1.den ρ
  | [], _, _, _, _, _, hn => ⟨rfl, hn⟩
  | a :: l, i, now, cnt, hl, hk, hn => by
    have ha := hl a List.mem_cons_self
    simp only [List.length_cons] at hk
    have add : ∀ x : IE, x.den ρ' = x.den ρ → (adE x (.var (340 + (nx + i)))).den ρ' = (adE x (.var (340 + (nx + i)))).den ρ := fun x hx => by
      unfold adE
      rw [IE.den_add, IE.den_add, hx, IE.den_var, IE.den_var, h _ (.inr (by omega))]
    unfold hapI
    rw [hn, ha]
    split
    · exact hapI_same h l (i + 1) _ _ (fun b hb => hl b (List.mem_cons_of_mem _ hb)) (by omega) (add _ ha)
    · exact hapI_same h l (i + 1) _ _ (fun b hb => hl b (List.mem_cons_of_mem _ hb)) (by omega) (add _ hn)
def baseJ (nf z bk : Nat → Int) (st : Int) (bl len : Nat) (j : Nat) : Int := if j = 97 then st else if j = 98 then turnF st 4000 else baseI nf z bk bl len j
theorem true_any {W : World} {ρ0 : Rho} (hG : ∀ g ∈ glR, GlobIn W ρ0 g) {s bits : Value} {nf bk : Nat → Int} {st : Int}
    (hs : s = .slice none 0 0 ∨ ∃ (b o len cap : Nat) (z : Nat → Int), s = .slice (some ⟨b, o, none⟩) len cap ∧ len ≤ cap ∧
        (0 < len → ∃ cells el fz, W.heap[b]? = some (.cells cells el fz) ∧ ∀ q, q < 6 * len → cells[o + q]? = some (.int .i64 (z q))))
    {bb : Option Addr} {bl bc : Nat} (hbits : bits = .slice bb bl bc) (hbl : (bl : Int) ≤ 9223372036854775807) (hbc : bl ≤ bc) {y : Nat → Int}
    (hb : 0 < bl → ∃ c x cells el fz, bb = some ⟨c, x, none⟩ ∧ W.heap[c]? = some (.cells cells el fz) ∧ ∀ q, q < bl → cells[x + q]? = some (.int .i64 (y q))) :
    Calls Tryd.prog 3 #[bookVal s nf bk, bits, .int .i64 st] W fun e w' => e = .returned (.bool true) ∧ Below W.heap.size W w' := by
  have hσ : ∀ ρ b o cap, ∀ x, x < 1000 → (envL ρ b o cap).σ x = some (x, 0) := fun ρ b o cap x hx => by simp [envL, hx]
  have hnone : ∀ ρ b o cap, ∀ x, 2000 ≤ x → (envL ρ b o cap).σ x = none := fun ρ b o cap x hx => by
    simp only [envL]; rw [if_neg (by omega), if_neg (by omega)]
  have gvw : ∀ ρ b o cap, ∀ g ∈ glR, ViewIn W (envL ρ b o cap) g := fun ρ b o cap => glob_view glR_lit hG (hσ ρ b o cap)
  have args : ∀ (ρ : Rho) (b o cap : Nat) (a : AV), (∀ j, j < 5 → ρ.iv j = nf j) → (∀ j, j < 6 → ρ.iv (60 + j) = bk j) → ρ.ov 96 = bits → ρ.iv 96 = bl → ρ.iv 97 = st → conc (envL ρ b o cap) a = some s →
      concL (envL ρ b o cap) [bookW a, .sliceU 96, vj 97] = some [bookVal s nf bk, bits, .int .i64 st] := fun ρ b o cap a h1 h2 h3 h4 h97 ha => by
    have e1 : conc (envL ρ b o cap) (bookW a) = some (bookVal s nf bk) := by
      unfold bookW bookVal
      rw [conc, concL_cons.2 ⟨_, _, ha, six_vals (envL ρ b o cap) nf bk h1 h2, rfl⟩]; rfl
    have e2 : concL (envL ρ b o cap) [.sliceU 96, vj 97] = some [bits, .int .i64 st] := by
      have h3' : (envL ρ b o cap).ρ.ov 96 = bits := h3
      have h4' : (envL ρ b o cap).ρ.iv 96 = bl := h4
      have h5' : (envL ρ b o cap).ρ.iv 97 = st := h97
      simp only [concL, conc, vj, IE.den, h3', h4', h5', hbits, if_true]
    exact concL_cons.2 ⟨_, _, e1, e2, rfl⟩
  have b5 : ∀ z len j, j < 5 → baseJ nf z bk st bl len j = nf j := fun z len j hj => by
    unfold baseJ; rw [if_neg (by omega), if_neg (by omega)]; exact if_pos hj
  have b60 : ∀ z len j, j < 6 → baseJ nf z bk st bl len (60 + j) = bk j := fun z len j hj => by
    unfold baseJ baseI
    rw [if_neg (by omega), if_neg (by omega), if_neg (by omega), if_neg (by omega), if_pos (by omega), Nat.add_sub_cancel_left]
  have b96 : ∀ z len, baseJ nf z bk st bl len 96 = bl := fun z len => rfl
  have b97 : ∀ z len, baseJ nf z bk st bl len 97 = st := fun z len => rfl
  have b95 : ∀ z len, baseJ nf z bk st bl len 95 = len := fun z len => rfl
  rcases hs with hs0 | ⟨b, o, len, cap, z, hs1, hlc, hcells⟩
  · exact true_short3 (E := envL (rhoF (baseJ nf (fun _ => 0) bk st bl 0) y bl s bits) 0 0 0) lawTS3_nil (gvw _ 0 0 0) (hnone _ 0 0 0) (hσ _ 0 0 0) (Nat.le_refl _) (args _ 0 0 0 .nilslice (b5 (fun _ => 0) 0) (b60 (fun _ => 0) 0) rfl (b96 (fun _ => 0) 0) (b97 (fun _ => 0) 0) (by rw [hs0]; rfl)) (fun c hc => (List.not_mem_nil hc).elim)
  · have hsu : conc (envL (rhoF (baseJ nf z bk st bl len) y bl s bits) b o cap) (.sliceU 95) = some s := by
      have h3 : (envL (rhoF (baseJ nf z bk st bl len) y bl s bits) b o cap).ρ.ov 95 = s := rfl
      have h4 : (envL (rhoF (baseJ nf z bk st bl len) y bl s bits) b o cap).ρ.iv 95 = len := rfl
      simp only [conc]
      rw [h3, h4, hs1]
      simp
    by_cases h0 : len = 0
    · exact true_short3 lawTS3_few (gvw _ b o cap) (hnone _ _ _ _) (hσ _ _ _ _) (Nat.le_refl _) (args _ b o cap (.sliceU 95) (b5 z len) (b60 z len) rfl (b96 z len) (b97 z len) hsu) (fun c hc => by
        rcases List.mem_singleton.1 hc with rfl
        rw [BE.t_leq, IE.den_var, IE.den_lit]; show baseJ nf z bk st bl len 95 ≤ 0; rw [b95]; omega)
    · by_cases h7 : 7 ≤ len
      · exact true_short3 lawTS3_many (gvw _ b o cap) (hnone _ _ _ _) (hσ _ _ _ _) (Nat.le_refl _) (args _ b o cap (.sliceU 95) (b5 z len) (b60 z len) rfl (b96 z len) (b97 z len) hsu) (fun c hc => by
          rcases List.mem_singleton.1 hc with rfl
          rw [BE.t_leq, IE.den_var, IE.den_lit]; show 7 ≤ baseJ nf z bk st bl len 95; rw [b95]; omega)
      · have h1 : 1 ≤ len := by omega
        have h6 : len ≤ 6 := by omega
        obtain ⟨cells, el, fz, c1, c2⟩ := hcells (by omega)
        let ρF := rhoF (baseJ nf z bk st bl len) y bl s bits
        let ρ1 := rho1 ρF
        let plan := planZ (fun k => ρ1.fi 1000 (k : Int) 0 0) (ρ1.iv 65) 6 len 0
        let ρ3 := rho3 plan (rho2 len ρ1)
        let ρ4 := rho4 len plan ρ3
        let ρ5 := rho5 plan ρ4
        let ρ := rho6 len plan ρ5
        have iv3 : ∀ i, i < 240 → ρ.iv i = ρ3.iv i := fun i hi => by
          show (rho6 len plan ρ5).iv i = _
          rw [rho6_iv (.inl hi)]
          show (rho5 plan ρ4).iv i = _
          rw [rho5_iv (.inl (by omega))]
          exact rho4_iv (by omega)
        have iv : ∀ i, i < 100 → ρ.iv i = baseJ nf z bk st bl len i := fun i hi => by
          rw [iv3 i (by omega)]
          show (rho3 plan (rho2 len ρ1)).iv i = _
          rw [rho3_iv (by omega), rho2_iv hi]; rfl
        have hsl : conc (envL ρ b o cap) (.sliceX 1001 6 0 len) = some s := by
          rw [hs1]
          simp only [conc, envL]
          rw [if_pos (by omega)]
          simp
        have hview : ∀ g ∈ viewV len, ViewIn W (envL ρ b o cap) g := fun g hg => by
          rcases List.mem_cons.1 hg with rfl | hg
          · refine ⟨b, o, _, cells, el, fz, by simp [envL], cellsUp_vals _ (fun j => z (j - 10)) (6 * len) 10 (fun j h3 h4 => ?_), c1, fun i hi => ?_⟩
            · show ρ.iv j = _
              rw [iv j (by omega)]
              unfold baseJ baseI
              rw [if_neg (by omega), if_neg (by omega), if_neg (by omega), if_pos (by omega)]
            · simp only [List.length_map, List.length_range] at hi
              rw [c2 i hi, List.getElem?_map, List.getElem?_range hi]
              simp
          · exact gvw ρ b o cap g hg
        have ha : concL (envL ρ b o cap) [bookF len, .sliceU 96, vj 97] = some [bookVal s nf bk, bits, .int .i64 st] := args ρ b o cap _ (fun j hj => (iv j (by omega)).trans (b5 z len j hj)) (fun j hj => (iv (60 + j) (by omega)).trans (b60 z len j hj)) rfl ((iv 96 (by omega)).trans (b96 z len)) ((iv 97 (by omega)).trans (b97 z len)) hsl
        by_cases hcs : ∀ c ∈ csL len, c.den ρ = true
        · obtain ⟨hF, hR⟩ := filmV_ok h1 h6 hcs
          have like : LikeF ρ ρF := fun j hj => iv j (by omega)
          have fi : ∀ f a b c, ¬ (3101 ≤ f ∧ f < 3105) → ρ.fi f a b c = fiW ρF f a b c := fun f a b c hf => by
            show (if 3101 ≤ f ∧ f < 3105 then _ else fiW ρF f a b c) = _
            rw [if_neg hf]
          have hT : okT len ρ := okT_of h6 like fi rfl hR
          have heap : ∀ {ok : Rho → (Nat → Obj → Prop) → Prop}, ok ρ (Base.of W).has → HeapOk (pOk ok) (envL ρ b o cap) (viewA 2000 (vR len)) (Base.of W) W := fun {ok} hok =>
            HeapOk.congr (view_ok (p := pOk ok) (E := envL ρ b o cap) hview (hnone _ _ _ _) (hσ _ _ _ _) (Nat.le_refl _) ⟨_, hok, fun _ _ h => h⟩) (viewVR len) (by rw [viewA_next, viewHeap_next])
          cases hn : (noneB len).den ρ with
          | true => exact true_none3 h1 h6 (heap ⟨hT, hF, hn⟩) ha
          | false =>
            by_cases hbc' : ∀ c ∈ bookCs, c.den ρ = true
            · have hBk := book_ok hbc'
              have hB : okB len ρ := ⟨hT, hF, hn, hBk⟩
              have hNM := okNM_gen h1 h6 (ρ1 := ρ1) hB (fun f a b c hf => fi f a b c hf) (fun i r b c hi => by
                  show (if 3101 ≤ 3101 + i ∧ 3101 + i < 3105 then lastI len ρ1 (4 * ((r : Int)).toNat + (3101 + i - 3101)) else _) = _
                  rw [if_pos (by omega), Int.toNat_natCast, Nat.add_sub_cancel_left]) (fun i hi => iv i (by omega)) (fun q hq => by
                  rw [iv3 _ (by omega)]
                  show (rho3 plan (rho2 len ρ1)).iv (100 + q) = _
                  rw [rho3_iv (by omega)]
                  show (if 100 ≤ 100 + q ∧ 100 + q < 124 then lastI len ρ1 (100 + q - 100) else _) = _
                  rw [if_pos (by omega), Nat.add_sub_cancel_left])
              have hcar : 1 ≤ ρ1.iv 65 := by
                have := ivC_in hBk.1 (65, 1, 6) (by simp [bookQ])
                have e : ρ.iv 65 = ρ1.iv 65 := (iv 65 (by omega))
                have t1 := this.1
                show 1 ≤ ρ1.iv 65
                rw [← e]; exact t1
              obtain ⟨q1, q2, q3⟩ := planZ_ok (fun k => ρ1.fi 1000 (k : Int) 0 0) hcar 6 len 0 h6
              have hp : plan ∈ plansL len := mem_plansN (len + 1) len plan (by omega) (fun p hp => (q1 p hp).1) q2
              have q2 : sumN plan = len := q2
              have hV := vars_ok h1 h6 hp
              have hP3 : OkP len plan ρ3 := okP_of h1 h6 hp (ρ := rho2 len ρ1) fun p hpp => by rw [rho2_iv (by omega)]; exact (q1 p hpp).2
              have hP : OkP len plan ρ := hP3.like h6 hV iv3 ⟨rfl, rfl⟩
              have hLast := lastZ_of h1 h6 (ρ := ρ) ⟨hB, hNM⟩
              have iv4 : ∀ j, 340 ≤ j → ρ.iv j = (rho4 len plan ρ3).iv j := fun j hj => by
                show (rho6 len plan ρ5).iv j = _
                rw [rho6_iv (.inr (.inr (by omega)))]
                exact rho5_iv (.inr (by omega))
              have hCh : OkCh len plan ρ := okCh_of h1 h6 hp (ρ4 := ρ3) (fun j hj _ => iv4 j hj) iv3 ⟨rfl, rfl⟩ (chsL_in hLast q2)
              have iv5 : ∀ i, i < 240 ∨ (340 ≤ i ∧ i < 400) → ρ.iv i = ρ5.iv i := fun i hi => by
                show (rho6 len plan ρ5).iv i = _
                rcases hi with hi | hi
                · exact rho6_iv (.inl hi)
                · exact rho6_iv (.inr (.inr (by omega)))
              have iv45 : ∀ i, i < 240 ∨ (340 ≤ i ∧ i < 400) → ρ.iv i = ρ4.iv i := fun i hi => by
                rw [iv5 i hi]
                exact rho5_iv (by omega)
              have far := lAll_mem (lAll_mem farP_all len (mem6 h1 h6)) plan hp
              have far : _ = true := far
              unfold farP at far
              simp only [Bool.and_eq_true] at far
              obtain ⟨f0, ⟨f1, f2, f3⟩, f4, f5, f6⟩ := far
              have trl : (trE plan).length = len := (true_den h6 hLast plan 0 0 (.lit 0) (.lit 0) (.lit 0) (.lit 0) 0 (by omega) (by have := sum_len plan (plansN_mem _ _ _ hp).1; omega) (fun q hq => hCh.in (by unfold chsL; rw [lApp_eq]; exact List.mem_append_left _ hq)) (Int.le_refl _) (Int.le_refl _) (Int.le_refl _) (Int.le_refl _) (Int.le_refl _) (by rw [IE.den_lit]; omega)).1.trans q2
              have dtr : ∀ a ∈ trE plan, a.den ρ = a.den ρ5 := fun a ha => farI_den iv5 ⟨rfl, rfl⟩ a (lAll_mem f0 a ha)
              have dtr4 : ∀ a ∈ trE plan, a.den ρ = a.den ρ4 := fun a ha => farI_den iv45 ⟨rfl, rfl⟩ a (lAll_mem f0 a ha)
              have hTrue : (trE plan).map (IE.den ρ) = (upN len 270).map ρ.iv := tr_of h6 (ρ5 := ρ4) (fun j h1 h2 => by
                  show (rho6 len plan ρ5).iv j = _
                  exact rho6_iv (.inr (.inl (by omega)))) trl dtr4
              have hXs : ∀ i, (tenE (xsE i)).den ρ = (tenE (xsE i)).den ρ5 := fun i => ten_congr (varsI_den (n := 240) (fun j hj => iv5 j (.inl hj)) ⟨rfl, rfl⟩ _ (xs_vars i))
              have hSame : ∀ i, hapI ρ (nxE len plan) (trE plan) 0 (tenE (xsE i)) 0 = hapR len plan ρ5 i ∧ (hapR len plan ρ5 i).1.den ρ = (hapR len plan ρ5 i).1.den ρ5 := fun i => hapI_same iv5 (trE plan) 0 _ 0 dtr (by
                have := sum_len plan (plansN_mem _ _ _ hp).1
                unfold nxE; rw [lLen_eq, trl]; omega) (hXs i)
              have hHp : ∀ i, i < 3 → OkHp len plan i (xsE i) ρ := fun i hi => by
                refine ⟨hTrue, ?_, ?_⟩
                · rw [(hSame i).1, (hSame i).2]
                  show (if 240 ≤ 290 + i ∧ 290 + i < 246 then _ else if 290 ≤ 290 + i ∧ 290 + i < 293 then (hapR len plan ρ5 (290 + i - 290)).1.den ρ5 else _) = _
                  rw [if_neg (by omega), if_pos (by omega), Nat.add_sub_cancel_left]
                · rw [(hSame i).1]
                  show (if 240 ≤ 260 + i ∧ 260 + i < 246 then _ else if 290 ≤ 260 + i ∧ 260 + i < 293 then _ else if 260 ≤ 260 + i ∧ 260 + i < 263 then ((hapR len plan ρ5 (260 + i - 260)).2 : Int) else _) = _
                  rw [if_neg (by omega), if_neg (by omega), if_pos (by omega), Nat.add_sub_cancel_left]
              have hOvv : ∀ e i, e < 2 → i < 3 → farI (ovE e plan (xsE i)) = true := fun e i he hi => by
                rcases (by omega : e = 0 ∨ e = 1) with rfl | rfl <;> rcases (by omega : i = 0 ∨ i = 1 ∨ i = 2) with rfl | rfl | rfl <;> assumption
              have hOv : ∀ i, i < 3 → ρ.iv (240 + 2 * i) = (ovE 0 plan (xsE i)).den ρ ∧ ρ.iv (241 + 2 * i) = (ovE 1 plan (xsE i)).den ρ := fun i hi => by
                rw [farI_den iv5 ⟨rfl, rfl⟩ _ (hOvv 0 i (by omega) hi), farI_den iv5 ⟨rfl, rfl⟩ _ (hOvv 1 i (by omega) hi)]
                constructor
                · show (if 240 ≤ 240 + 2 * i ∧ 240 + 2 * i < 246 then (ovE ((240 + 2 * i - 240) % 2) plan (xsE ((240 + 2 * i - 240) / 2))).den ρ5 else _) = _
                  rw [if_pos (by omega), show (240 + 2 * i - 240) % 2 = 0 by omega, show (240 + 2 * i - 240) / 2 = i by omega]
                · show (if 240 ≤ 241 + 2 * i ∧ 241 + 2 * i < 246 then (ovE ((241 + 2 * i - 240) % 2) plan (xsE ((241 + 2 * i - 240) / 2))).den ρ5 else _) = _
                  rw [if_pos (by omega), show (241 + 2 * i - 240) % 2 = 1 by omega, show (241 + 2 * i - 240) / 2 = i by omega]
              have hSt : ρ.iv 98 = turnF (ρ.iv 97) 4000 := by
                rw [iv 98 (by omega), iv 97 (by omega)]; rfl
              have hTr : OkTr len plan ρ := fun q hq => by
                rw [← q3 q hq]
                have e65 : ρ.iv 65 = ρ1.iv 65 := iv 65 (by omega)
                have ef : ρ.fi 1000 (q.2.1 : Int) 0 0 = ρ1.fi 1000 (q.2.1 : Int) 0 0 := fi 1000 _ _ _ (by omega)
                show turnF ((IE.app 1000 (.lit (Int.ofNat q.2.1)) (.lit 0) (.lit 0)).den ρ) ((IE.mn (.lit (Int.ofNat q.1)) (.var 65)).den ρ) = _
                rw [IE.den_mn, IE.den_lit, IE.den_var, e65]
                have d : (IE.app 1000 (.lit (Int.ofNat q.2.1)) (.lit 0) (.lit 0)).den ρ = ρ1.fi 1000 (q.2.1 : Int) 0 0 := by
                  rw [← ef]
                  simp only [IE.den, FI]
                  rw [if_pos (Nat.le_refl _)]; rfl
                rw [d]; rfl
              have hPk : okPick ρ (Base.of W).has := by
                refine ⟨bb, bl, bc, hbits, (iv 96 (by omega)).trans (b96 z len), hbl, hbc, fun n => ?_, fun hl => ?_⟩
                · rw [fi 1000 _ _ _ (by omega)]
                  show (if bl = 0 then 0 else y (turnF n bl).toNat) = _
                  rw [fi 1001 _ _ _ (by omega)]; rfl
                · obtain ⟨c, x, cells', el', fz', e1, e2, e3⟩ := hb hl
                  refine ⟨c, x, cells', el', fz', e1, ⟨(Array.getElem?_eq_some_iff.1 e2).1, e2⟩, fun j hj => ?_⟩
                  rw [e3 j hj, fi 1001 _ _ _ (by omega)]
                  show _ = some (Value.int .i64 (y ((j : Int)).toNat))
                  rw [Int.toNat_natCast]
              exact true_valid h1 h6 hp (heap ⟨⟨⟨hB, hNM⟩, hP⟩, hTr, hCh, hPk, hHp, hOv, hSt⟩) ha
            · exact true_book3 h1 h6 (heap ⟨hT, hF, hn⟩) ha hbc'
        · exact true_bad3 (mem_six h1 h6) hview (hnone _ _ _ _) (hσ _ _ _ _) (Nat.le_refl _) ha hcs
end Go.Sx
