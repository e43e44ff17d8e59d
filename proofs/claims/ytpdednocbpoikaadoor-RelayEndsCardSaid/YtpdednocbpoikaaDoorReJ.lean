/- ReJ -/
import Derived.Test.YtpdednocbpoikaaDoorReI
import Derived.Test.YtpdednocbpoikaaDoorReB
namespace Go.Sx
open Go.RowKit Go.Proofs
set_option maxRecDepth 100000
noncomputable def lateO (i : Nat) : IE := match i with
  | 0 => .var 98
  | _ => lateX
noncomputable def rho7 (plan : List Nat) (ρ : Rho) : Rho := ⟨fun j => if 240 ≤ j ∧ j < 244 then (ovE ((j - 240) % 2) plan (lateO ((j - 240) / 2))).den ρ else ρ.iv j, ρ.bv, ρ.fi, ρ.fb, ρ.ov⟩
theorem rho7_iv {plan : List Nat} {ρ : Rho} {j : Nat} (h : j < 240) : (rho7 plan ρ).iv j = ρ.iv j := if_neg (by omega)
noncomputable def varsO (plan : List Nat) : Bool := and (and (varsI 240 (ovE 0 plan (.var 98))) (varsI 240 (ovE 1 plan (.var 98)))) (and (varsI 240 (ovE 0 plan lateX)) (varsI 240 (ovE 1 plan lateX)))
theorem varsO_all : lAll (fun L => lAll varsO (plansL L)) [1, 2, 3, 4, 5, 6] = true := by kernel_rfl
def baseK (nf z bk : Nat → Int) (a0 a1 : Int) (bl len : Nat) (j : Nat) : Int := if j = 97 then a0 else if j = 98 then turnF a0 100000 else if j = 93 then a1 else if j = 94 then turnF a1 900 else baseI nf z bk bl len j
theorem ends_any {W : World} {ρ0 : Rho} (hG : ∀ g ∈ glR, GlobIn W ρ0 g) {s bits : Value} {nf bk : Nat → Int} {a0 a1 : Int}
    (hs : s = .slice none 0 0 ∨ ∃ (b o len cap : Nat) (z : Nat → Int), s = .slice (some ⟨b, o, none⟩) len cap ∧ len ≤ cap ∧
        (0 < len → ∃ cells el fz, W.heap[b]? = some (.cells cells el fz) ∧ ∀ q, q < 6 * len → cells[o + q]? = some (.int .i64 (z q))))
    {bb : Option Addr} {bl bc : Nat} (hbits : bits = .slice bb bl bc) (hbl : (bl : Int) ≤ 9223372036854775807) (hbc : bl ≤ bc) {y : Nat → Int}
    (hb : 0 < bl → ∃ c x cells el fz, bb = some ⟨c, x, none⟩ ∧ W.heap[c]? = some (.cells cells el fz) ∧ ∀ q, q < bl → cells[x + q]? = some (.int .i64 (y q))) :
    Calls Tryd.prog 4 #[bookVal s nf bk, bits, .agg #[.int .i64 a0, .int .i64 a1]] W fun e w' => e = .returned (.bool true) ∧ Below W.heap.size W w' := by
  have hσ : ∀ ρ b o cap, ∀ x, x < 1000 → (envL ρ b o cap).σ x = some (x, 0) := fun ρ b o cap x hx => by simp [envL, hx]
  have hnone : ∀ ρ b o cap, ∀ x, 2000 ≤ x → (envL ρ b o cap).σ x = none := fun ρ b o cap x hx => by
    simp only [envL]; rw [if_neg (by omega), if_neg (by omega)]
  have gvw : ∀ ρ b o cap, ∀ g ∈ glR, ViewIn W (envL ρ b o cap) g := fun ρ b o cap => glob_view glR_lit hG (hσ ρ b o cap)
  have args : ∀ (ρ : Rho) (b o cap : Nat) (a : AV), (∀ j, j < 5 → ρ.iv j = nf j) → (∀ j, j < 6 → ρ.iv (60 + j) = bk j) → ρ.ov 96 = bits → ρ.iv 96 = bl → ρ.iv 97 = a0 → ρ.iv 93 = a1 → conc (envL ρ b o cap) a = some s →
      concL (envL ρ b o cap) [bookW a, .sliceU 96, .agg [vj 97, vj 93]] = some [bookVal s nf bk, bits, .agg #[.int .i64 a0, .int .i64 a1]] := fun ρ b o cap a h1 h2 h3 h4 h97 h93 ha => by
    have e1 : conc (envL ρ b o cap) (bookW a) = some (bookVal s nf bk) := by
      unfold bookW bookVal
      rw [conc, concL_cons.2 ⟨_, _, ha, six_vals (envL ρ b o cap) nf bk h1 h2, rfl⟩]; rfl
    have e2 : concL (envL ρ b o cap) [.sliceU 96, .agg [vj 97, vj 93]] = some [bits, .agg #[.int .i64 a0, .int .i64 a1]] := by
      have h3' : (envL ρ b o cap).ρ.ov 96 = bits := h3
      have h4' : (envL ρ b o cap).ρ.iv 96 = bl := h4
      have h5' : (envL ρ b o cap).ρ.iv 97 = a0 := h97
      have h6' : (envL ρ b o cap).ρ.iv 93 = a1 := h93
      simp only [concL, conc, vj, IE.den, h3', h4', h5', h6', hbits, if_true, Option.map_some]
    exact concL_cons.2 ⟨_, _, e1, e2, rfl⟩
  have b5 : ∀ z len j, j < 5 → baseK nf z bk a0 a1 bl len j = nf j := fun z len j hj => by
    unfold baseK; rw [if_neg (by omega), if_neg (by omega), if_neg (by omega), if_neg (by omega)]; exact if_pos hj
  have b60 : ∀ z len j, j < 6 → baseK nf z bk a0 a1 bl len (60 + j) = bk j := fun z len j hj => by
    unfold baseK baseI
    rw [if_neg (by omega), if_neg (by omega), if_neg (by omega), if_neg (by omega), if_neg (by omega), if_neg (by omega), if_pos (by omega), Nat.add_sub_cancel_left]
  have b96 : ∀ z len, baseK nf z bk a0 a1 bl len 96 = bl := fun z len => rfl
  have b97 : ∀ z len, baseK nf z bk a0 a1 bl len 97 = a0 := fun z len => rfl
  have b93 : ∀ z len, baseK nf z bk a0 a1 bl len 93 = a1 := fun z len => rfl
  have b95 : ∀ z len, baseK nf z bk a0 a1 bl len 95 = len := fun z len => rfl
  rcases hs with hs0 | ⟨b, o, len, cap, z, hs1, hlc, hcells⟩
  · exact ends_short (E := envL (rhoF (baseK nf (fun _ => 0) bk a0 a1 bl 0) y bl s bits) 0 0 0) lawTS4_nil (gvw _ 0 0 0) (hnone _ 0 0 0) (hσ _ 0 0 0) (Nat.le_refl _) (args _ 0 0 0 .nilslice (b5 (fun _ => 0) 0) (b60 (fun _ => 0) 0) rfl (b96 (fun _ => 0) 0) (b97 (fun _ => 0) 0) (b93 (fun _ => 0) 0) (by rw [hs0]; rfl)) (fun c hc => (List.not_mem_nil hc).elim)
  · have hsu : conc (envL (rhoF (baseK nf z bk a0 a1 bl len) y bl s bits) b o cap) (.sliceU 95) = some s := by
      have h3 : (envL (rhoF (baseK nf z bk a0 a1 bl len) y bl s bits) b o cap).ρ.ov 95 = s := rfl
      have h4 : (envL (rhoF (baseK nf z bk a0 a1 bl len) y bl s bits) b o cap).ρ.iv 95 = len := rfl
      simp only [conc]
      rw [h3, h4, hs1]
      simp
    by_cases h0 : len = 0
    · exact ends_short lawTS4_few (gvw _ b o cap) (hnone _ _ _ _) (hσ _ _ _ _) (Nat.le_refl _) (args _ b o cap (.sliceU 95) (b5 z len) (b60 z len) rfl (b96 z len) (b97 z len) (b93 z len) hsu) (fun c hc => by
        rcases List.mem_singleton.1 hc with rfl
        rw [BE.t_leq, IE.den_var, IE.den_lit]; show baseK nf z bk a0 a1 bl len 95 ≤ 0; rw [b95]; omega)
    · by_cases h7 : 7 ≤ len
      · exact ends_short lawTS4_many (gvw _ b o cap) (hnone _ _ _ _) (hσ _ _ _ _) (Nat.le_refl _) (args _ b o cap (.sliceU 95) (b5 z len) (b60 z len) rfl (b96 z len) (b97 z len) (b93 z len) hsu) (fun c hc => by
          rcases List.mem_singleton.1 hc with rfl
          rw [BE.t_leq, IE.den_var, IE.den_lit]; show 7 ≤ baseK nf z bk a0 a1 bl len 95; rw [b95]; omega)
      · have h1 : 1 ≤ len := by omega
        have h6 : len ≤ 6 := by omega
        obtain ⟨cells, el, fz, c1, c2⟩ := hcells (by omega)
        let ρF := rhoF (baseK nf z bk a0 a1 bl len) y bl s bits
        let ρ1 := rho1 ρF
        let plan := planZ (fun k => ρ1.fi 1000 (k : Int) 0 0) (ρ1.iv 65) 6 len 0
        let ρ3 := rho3 plan (rho2 len ρ1)
        let ρ := rho7 plan ρ3
        have iv3 : ∀ i, i < 240 → ρ.iv i = ρ3.iv i := fun i hi => rho7_iv hi
        have iv : ∀ i, i < 100 → ρ.iv i = baseK nf z bk a0 a1 bl len i := fun i hi => by
          rw [iv3 i (by omega)]
          show (rho3 plan (rho2 len ρ1)).iv i = _
          rw [rho3_iv (by omega), rho2_iv hi]; rfl
        have hsl : conc (envL ρ b o cap) (.sliceX 1001 6 0 len) = some s := by
          rw [hs1]
          simp only [conc, envL]
          rw [if_pos (by omega)]
          simp
        have hview : ∀ g ∈ viewV len, ViewIn W (envL ρ b o cap) g := fun g hg => by
          rcases List.mem_cons.1 hg with rfl | hg
          · refine ⟨b, o, _, cells, el, fz, by simp [envL], cellsUp_vals _ (fun j => z (j - 10)) (6 * len) 10 (fun j h3 h4 => ?_), c1, fun i hi => ?_⟩
            · show ρ.iv j = _
              rw [iv j (by omega)]
              unfold baseK baseI
              rw [if_neg (by omega), if_neg (by omega), if_neg (by omega), if_neg (by omega), if_neg (by omega), if_pos (by omega)]
            · simp only [List.length_map, List.length_range] at hi
              rw [c2 i hi, List.getElem?_map, List.getElem?_range hi]
              simp
          · exact gvw ρ b o cap g hg
        have ha : concL (envL ρ b o cap) (argsEn len) = some [bookVal s nf bk, bits, .agg #[.int .i64 a0, .int .i64 a1]] := args ρ b o cap _ (fun j hj => (iv j (by omega)).trans (b5 z len j hj)) (fun j hj => (iv (60 + j) (by omega)).trans (b60 z len j hj)) rfl ((iv 96 (by omega)).trans (b96 z len)) ((iv 97 (by omega)).trans (b97 z len)) ((iv 93 (by omega)).trans (b93 z len)) hsl
        by_cases hcs : ∀ c ∈ csL len, c.den ρ = true
        · obtain ⟨hF, hR⟩ := filmV_ok h1 h6 hcs
          have like : LikeF ρ ρF := fun j hj => iv j (by omega)
          have fi : ∀ f a b c, ¬ (3101 ≤ f ∧ f < 3105) → ρ.fi f a b c = fiW ρF f a b c := fun f a b c hf => by
            show (if 3101 ≤ f ∧ f < 3105 then _ else fiW ρF f a b c) = _
            rw [if_neg hf]
          have hT : okT len ρ := okT_of h6 like fi rfl hR
          have heap : ∀ {ok : Rho → (Nat → Obj → Prop) → Prop}, ok ρ (Base.of W).has → HeapOk (pOk ok) (envL ρ b o cap) (viewA 2000 (vR len)) (Base.of W) W := fun {ok} hok =>
            HeapOk.congr (view_ok (p := pOk ok) (E := envL ρ b o cap) hview (hnone _ _ _ _) (hσ _ _ _ _) (Nat.le_refl _) ⟨_, hok, fun _ _ h => h⟩) (viewVR len) (by rw [viewA_next, viewHeap_next])
          cases hn : (noneB len).den ρ with
          | true => exact ends_none h1 h6 (heap ⟨hT, hF, hn⟩) ha
          | false =>
            by_cases hbc' : ∀ c ∈ bookCs, c.den ρ = true
            · have hBk := book_ok hbc'
              have hB : okB len ρ := ⟨hT, hF, hn, hBk⟩
              have hNM := okNM_gen h1 h6 (ρ1 := ρ1) hB (fun f a b c hf => fi f a b c hf) (fun i r b c hi => by
                  show (if 3101 ≤ 3101 + i ∧ 3101 + i < 3105 then lastI len ρ1 (4 * ((r : Int)).toNat + (3101 + i - 3101)) else _) = _
                  rw [if_pos (by omega), Int.toNat_natCast, Nat.add_sub_cancel_left]) (fun i hi => iv i (by omega)) (fun q hq => by
                  rw [iv3 _ (by omega)]
                  show (rho3 plan (rho2 len ρ1)).iv (100 + q) = _
                  rw [rho3_iv (by omega)]
                  show (if 100 ≤ 100 + q ∧ 100 + q < 124 then lastI len ρ1 (100 + q - 100) else _) = _
                  rw [if_pos (by omega), Nat.add_sub_cancel_left])
              have hcar : 1 ≤ ρ1.iv 65 := by
                have := ivC_in hBk.1 (65, 1, 6) (by simp [bookQ])
                have e : ρ.iv 65 = ρ1.iv 65 := (iv 65 (by omega))
                have t1 := this.1
                show 1 ≤ ρ1.iv 65
                rw [← e]; exact t1
              obtain ⟨q1, q2, q3⟩ := planZ_ok (fun k => ρ1.fi 1000 (k : Int) 0 0) hcar 6 len 0 h6
              have hp : plan ∈ plansL len := mem_plansN (len + 1) len plan (by omega) (fun p hp => (q1 p hp).1) q2
              have q2 : sumN plan = len := q2
              have hV := vars_ok h1 h6 hp
              have hP3 : OkP len plan ρ3 := okP_of h1 h6 hp (ρ := rho2 len ρ1) fun p hpp => by rw [rho2_iv (by omega)]; exact (q1 p hpp).2
              have hP : OkP len plan ρ := hP3.like h6 hV iv3 ⟨rfl, rfl⟩
              have far := lAll_mem (lAll_mem varsO_all len (mem6 h1 h6)) plan hp
              have far : varsO plan = true := far
              unfold varsO at far
              simp only [Bool.and_eq_true] at far
              obtain ⟨⟨f1, f2⟩, f3, f4⟩ := far
              have den : ∀ x, varsI 240 x = true → x.den ρ = x.den ρ3 := fun x hx => varsI_den (n := 240) iv3 ⟨rfl, rfl⟩ x hx
              have hOv : ∀ e, e < 2 → ρ.iv (240 + e) = (ovE e plan (.var 98)).den ρ := fun e he => by
                rcases (by omega : e = 0 ∨ e = 1) with rfl | rfl
                · rw [den _ f1]; rfl
                · rw [den _ f2]; rfl
              have hOv2 : ∀ e, e < 2 → ρ.iv (242 + e) = (ovE e plan lateX).den ρ := fun e he => by
                rcases (by omega : e = 0 ∨ e = 1) with rfl | rfl
                · rw [den _ f3]; rfl
                · rw [den _ f4]; rfl
              have hSt : ρ.iv 98 = turnF (ρ.iv 97) 100000 := by
                rw [iv 98 (by omega), iv 97 (by omega)]; rfl
              have hSt2 : ρ.iv 94 = turnF (ρ.iv 93) 900 := by
                rw [iv 94 (by omega), iv 93 (by omega)]; rfl
              have hTr : OkTr len plan ρ := fun q hq => by
                rw [← q3 q hq]
                have e65 : ρ.iv 65 = ρ1.iv 65 := iv 65 (by omega)
                have ef : ρ.fi 1000 (q.2.1 : Int) 0 0 = ρ1.fi 1000 (q.2.1 : Int) 0 0 := fi 1000 _ _ _ (by omega)
                show turnF ((IE.app 1000 (.lit (Int.ofNat q.2.1)) (.lit 0) (.lit 0)).den ρ) ((IE.mn (.lit (Int.ofNat q.1)) (.var 65)).den ρ) = _
                rw [IE.den_mn, IE.den_lit, IE.den_var, e65]
                have d : (IE.app 1000 (.lit (Int.ofNat q.2.1)) (.lit 0) (.lit 0)).den ρ = ρ1.fi 1000 (q.2.1 : Int) 0 0 := by
                  rw [← ef]
                  simp only [IE.den, FI]
                  rw [if_pos (Nat.le_refl _)]; rfl
                rw [d]; rfl
              have hPk : okPick ρ (Base.of W).has := by
                refine ⟨bb, bl, bc, hbits, (iv 96 (by omega)).trans (b96 z len), hbl, hbc, fun n => ?_, fun hl => ?_⟩
                · rw [fi 1000 _ _ _ (by omega)]
                  show (if bl = 0 then 0 else y (turnF n bl).toNat) = _
                  rw [fi 1001 _ _ _ (by omega)]; rfl
                · obtain ⟨c, x, cells', el', fz', e1, e2, e3⟩ := hb hl
                  refine ⟨c, x, cells', el', fz', e1, ⟨(Array.getElem?_eq_some_iff.1 e2).1, e2⟩, fun j hj => ?_⟩
                  rw [e3 j hj, fi 1001 _ _ _ (by omega)]
                  show _ = some (Value.int .i64 (y ((j : Int)).toNat))
                  rw [Int.toNat_natCast]
              exact ends_valid h1 h6 hp (heap ⟨⟨⟨hB, hNM⟩, hP⟩, hTr, hPk, hOv, hOv2, hSt, hSt2⟩) ha
            · exact ends_book h1 h6 (heap ⟨hT, hF, hn⟩) ha hbc'
        · exact ends_bad (mem_six h1 h6) hview (hnone _ _ _ _) (hσ _ _ _ _) (Nat.le_refl _) ha hcs
end Go.Sx
