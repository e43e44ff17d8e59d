/- ReC -/
import Derived.Test.YtpdednocbpoikaaDoorReB
namespace Go.Sx
open Go.RowKit Go.Proofs
set_option maxRecDepth 100000
theorem ad_congr {ρ ρ' : Rho} {a b c d : IE} (h1 : a.den ρ' = b.den ρ) (h2 : c.den ρ' = d.den ρ) : (adE a c).den ρ' = (adE b d).den ρ := by
  unfold adE
  rw [IE.den_add, IE.den_add, h1, h2]
theorem mx_congr {ρ ρ' : Rho} {a b c d : IE} (h1 : a.den ρ' = b.den ρ) (h2 : c.den ρ' = d.den ρ) : (IE.mx a c).den ρ' = (IE.mx b d).den ρ := by
  rw [IE.den_mx, IE.den_mx, h1, h2]
theorem rep_map {f : IE → Int} {a : IE} : ∀ (n : Nat) (l : List IE), (repE a n l).map f = List.replicate n (f a) ++ l.map f
  | 0, _ => rfl
  | n + 1, l => by
    have e : repE a (n + 1) l = a :: repE a n l := rfl
    rw [e, List.map_cons, rep_map n l]; rfl
section
variable {e : Nat} {ρ ρ' : Rho} (E : EdOk e ρ ρ') {e' : Nat} (he' : e' < 2)
include E he'
theorem ed_aV {t j : Nat} (hj : j < 6) (ht : t < 2) : (aV t e' j).den ρ' = (aV t e j).den ρ := by
  show ρ'.iv (100 + 4 * j + 2 * t + e') = ρ.iv (100 + 4 * j + 2 * t + e)
  rw [E.iv _ (by omega), edN_last hj ht he']
theorem ed_bef {t : Nat} (ht : t < 2) : ∀ n, n ≤ 6 → (befE t e' n).den ρ' = (befE t e n).den ρ
  | 0, _ => rfl
  | n + 1, h => by
    show (adE (befE t e' n) (aV t e' n)).den ρ' = (adE (befE t e n) (aV t e n)).den ρ
    exact ad_congr (ed_bef ht n (by omega)) (ed_aV E he' (by omega) ht)
theorem ed_go : (IE.var (61 + e')).den ρ' = (IE.var (61 + e)).den ρ := by
  show ρ'.iv (61 + e') = ρ.iv (61 + e)
  rw [E.iv _ (by omega)]
  unfold edN
  rw [if_neg (by omega), if_neg (by omega), if_neg (by omega), if_pos (by omega)]
theorem ed_back : (IE.var (63 + e')).den ρ' = (IE.var (63 + e)).den ρ := by
  show ρ'.iv (63 + e') = ρ.iv (63 + e)
  rw [E.iv _ (by omega)]
  unfold edN
  rw [if_neg (by omega), if_neg (by omega), if_neg (by omega), if_neg (by omega), if_pos (by omega)]
theorem ed_at {n : Nat} {a b : IE} (hn : n ≤ 6) (h : a.den ρ' = b.den ρ) : (atE e' n a).den ρ' = (atE e n b).den ρ :=
  ad_congr (mx_congr h (ed_bef E he' (by omega) n hn)) (ten_congr (ed_go E he'))
theorem ed_ats : ∀ (plan : List Nat) (next : Nat) (a b : IE), next + sumN plan ≤ 6 → a.den ρ' = b.den ρ → (atsE e' plan next a).map (IE.den ρ') = (atsE e plan next b).map (IE.den ρ)
  | [], _, _, _, _, _ => rfl
  | p :: plan, next, a, b, hs, h => by
    simp only [sumN] at hs
    have d := ed_at E he' (n := next + p) (by omega) h
    rw [atsE_cons, atsE_cons, rep_map, rep_map, d, ed_ats plan (next + p) _ _ (by omega) (ad_congr d (ten_congr (ed_back E he')))]
theorem ed_over : ∀ (l l' : List IE) (i : Nat) (a b : IE), l.map (IE.den ρ') = l'.map (IE.den ρ) → i + l.length ≤ 6 → a.den ρ' = b.den ρ → (overE e' l i a).den ρ' = (overE e l' i b).den ρ
  | [], [], _, _, _, _, _, h => h
  | [], _ :: _, _, _, _, h, _, _ => by simp at h
  | _ :: _, [], _, _, _, h, _, _ => by simp at h
  | x :: l, y :: l', i, a, b, h, hi, hab => by
    simp only [List.map_cons, List.cons.injEq] at h
    simp only [List.length_cons] at hi
    rw [overE_cons, overE_cons]
    exact ed_over l l' (i + 1) _ _ h.2 (by omega) (ad_congr (mx_congr hab h.1) (ed_aV E he' (by omega) (by omega)))
end
theorem there_val {L : Nat} {plan : List Nat} (hs : sumN plan = L) {ρ : Rho} (h : OkP L plan ρ) {e k : Nat} (he : e < 2) (hk : k < L) : ∃ a, (thereE e plan)[k]? = some a ∧ ρ.iv (200 + 2 * k + e) = a.den ρ := by
  have len : ∀ e, (thereE e plan).length = L := fun e => by unfold thereE; rw [atsE_len, hs]
  obtain ⟨a, b, e1, e2, e3, e4⟩ := zipI_get (thereE 0 plan) (thereE 1 plan) L (len 0) (len 1) k hk
  have g := h.ats
  have g1 : ((zipI (thereE 0 plan) (thereE 1 plan)).map (IE.den ρ))[2 * k]? = ((upN (2 * L) 200).map ρ.iv)[2 * k]? := by rw [g]
  have g2 : ((zipI (thereE 0 plan) (thereE 1 plan)).map (IE.den ρ))[2 * k + 1]? = ((upN (2 * L) 200).map ρ.iv)[2 * k + 1]? := by rw [g]
  rw [List.getElem?_map, List.getElem?_map, e3, upN_get _ _ _ (by omega)] at g1
  rw [List.getElem?_map, List.getElem?_map, e4, upN_get _ _ _ (by omega)] at g2
  simp only [Option.map_some, Option.some.injEq] at g1 g2
  rcases (by omega : e = 0 ∨ e = 1) with rfl | rfl
  · exact ⟨a, e1, g1.symm⟩
  · exact ⟨b, e2, g2.symm⟩
section
variable {L : Nat} (h0 : 1 ≤ L) (hL : L ≤ 6) {plan : List Nat} (hp : plan ∈ plansL L) {e : Nat} (he : e < 2)
include h0 hL hp he
theorem ed_names {ρ : Rho} (h : okPB L plan ρ) {k e' : Nat} (hk : k < L) (he' : e' < 2) : (rho3 plan (rhoE e ρ)).iv (200 + 2 * k + e') = ρ.iv (200 + 2 * k + e) := by
  have hs : sumN plan = L := (plansN_mem _ _ _ hp).2
  obtain ⟨a, a1, a2⟩ := there_val hs h.2 he hk
  obtain ⟨b, b1, b2⟩ := there_val hs (ed_PB h0 hL hp he h).2 he' hk
  have m := ed_ats (edOk_rho (e := e) (plan := plan) (ρ := ρ)) he' plan 0 (.lit 0) (.lit 0) (by omega) rfl
  have m : ((thereE e' plan).map (IE.den (rho3 plan (rhoE e ρ))))[k]? = ((thereE e plan).map (IE.den ρ))[k]? := congrArg (fun l : List Int => l[k]?) m
  rw [List.getElem?_map, List.getElem?_map, a1, b1] at m
  simp only [Option.map_some, Option.some.injEq] at m
  rw [b2, a2, m]
omit he in
theorem ed_ov {ρ : Rho} {e' : Nat} (he' : e' < 2) : (ovE e' plan (.var 98)).den (rho3 plan (rhoE e ρ)) = (ovE e plan (.var 98)).den ρ := by
  have hs : sumN plan = L := (plansN_mem _ _ _ hp).2
  have E : EdOk e ρ (rho3 plan (rhoE e ρ)) := edOk_rho
  refine ed_over E he' _ _ 0 _ _ (ed_ats E he' plan 0 _ _ (by omega) rfl) ?_ (ten_congr ?_)
  · unfold thereE; rw [atsE_len]; omega
  · exact E.iv 98 (by omega)
end
theorem lits_same {ρ ρ' : Rho} : ∀ l : List Int, SameL ρ (l.map li) ρ' (l.map li)
  | [] => SameL.nil
  | _ :: l => SameL.cons (SameV.int rfl) (lits_same l)
theorem litsN_same {ρ ρ' : Rho} : ∀ l : List Nat, SameL ρ (litsN l) ρ' (litsN l)
  | [] => SameL.nil
  | _ :: l => SameL.cons (SameV.int rfl) (litsN_same l)
theorem ed_eq (e : Nat) (l : List Nat) : lMap (fun j => vj (edN e j)) l = lMap iA (lMap (fun j => IE.var (edN e j)) l) := by rw [lMap_eq, lMap_eq, lMap_eq, List.map_map]; rfl
theorem ed_rows {L : Nat} (hL : L ≤ 6) {e : Nat} {ρ ρ' : Rho} (E : EdOk e ρ ρ') : SameL ρ (edC e L) ρ' (lMap vj (upN (6 * L) 10)) := by
  unfold edC
  rw [ed_eq, vj_eq]
  refine same_ints ?_
  rw [lMap_eq, lMap_eq, List.map_map, List.map_map]
  refine List.map_congr_left fun j hj => ?_
  have := upN_lt _ _ _ hj
  exact (E.iv j (by omega)).symm
theorem vP_sameE {p : Par} {L : Nat} (hL : L ≤ 6) {plan : List Nat} {e : Nat} {ρ ρ' : Rho} (E : EdOk e ρ ρ') {j : Nat} {o : AObj} (hm : (j, o) ∈ vP L plan) : ∃ o0, (j, o0) ∈ vPE e L plan ∧ SameA p p ρ o0 ρ' o ∧ SameA p p ρ' o ρ o0 := by
  simp only [vP, vR, List.cons_append, List.nil_append, List.mem_cons, List.not_mem_nil, or_false] at hm
  rcases hm with h | h | h | h | h | h
  · cases h; exact ⟨_, List.mem_cons_self, SameA.cells rfl (lits_same [1, 20, 0, 50]), SameA.cells rfl (lits_same [1, 20, 0, 50])⟩
  · cases h; exact ⟨_, List.mem_cons_of_mem _ List.mem_cons_self, SameA.cells rfl (lits_same [0, 998, 1, 6]), SameA.cells rfl (lits_same [0, 998, 1, 6])⟩
  · cases h; exact ⟨_, List.mem_cons_of_mem _ (List.mem_cons_of_mem _ List.mem_cons_self), SameA.cells rfl (lits_same [0, 3600, 0, 3600]), SameA.cells rfl (lits_same [0, 3600, 0, 3600])⟩
  · cases h; exact ⟨_, List.mem_cons_of_mem _ (List.mem_cons_of_mem _ (List.mem_cons_of_mem _ List.mem_cons_self)), SameA.cells rfl (lits_same [0, 99, 0, 99, 1, 1200]), SameA.cells rfl (lits_same [0, 99, 0, 99, 1, 1200])⟩
  · cases h; exact ⟨ro (edC e L), List.mem_cons_of_mem _ (List.mem_cons_of_mem _ (List.mem_cons_of_mem _ (List.mem_cons_of_mem _ List.mem_cons_self))), SameA.cells rfl (ed_rows hL E), SameA.cells rfl (ed_rows hL E).symm⟩
  · cases h; exact ⟨_, List.mem_cons_of_mem _ (List.mem_cons_of_mem _ (List.mem_cons_of_mem _ (List.mem_cons_of_mem _ (List.mem_cons_of_mem _ List.mem_cons_self)))), SameA.cells rfl (litsN_same plan), SameA.cells rfl (litsN_same plan)⟩
theorem vPE_same {p : Par} {L : Nat} (hL : L ≤ 6) {plan : List Nat} {e : Nat} {ρ ρ' : Rho} (E : EdOk e ρ ρ') {j : Nat} {o : AObj} (hm : (j, o) ∈ vPE e L plan) : ∃ o0, (j, o0) ∈ vP L plan ∧ SameA p p ρ' o0 ρ o := by
  have inP : ∀ {g}, g ∈ vR L → g ∈ vP L plan := fun h => List.mem_append_left _ h
  simp only [vPE, List.mem_cons, List.not_mem_nil, or_false] at hm
  rcases hm with h | h | h | h | h | h
  · cases h; exact ⟨_, inP List.mem_cons_self, SameA.cells rfl (lits_same [1, 20, 0, 50])⟩
  · cases h; exact ⟨_, inP (List.mem_cons_of_mem _ List.mem_cons_self), SameA.cells rfl (lits_same [0, 998, 1, 6])⟩
  · cases h; exact ⟨_, inP (List.mem_cons_of_mem _ (List.mem_cons_of_mem _ List.mem_cons_self)), SameA.cells rfl (lits_same [0, 3600, 0, 3600])⟩
  · cases h; exact ⟨_, inP (List.mem_cons_of_mem _ (List.mem_cons_of_mem _ (List.mem_cons_of_mem _ List.mem_cons_self))), SameA.cells rfl (lits_same [0, 99, 0, 99, 1, 1200])⟩
  · cases h; exact ⟨rowsA L, inP (List.mem_cons_of_mem _ (List.mem_cons_of_mem _ (List.mem_cons_of_mem _ (List.mem_cons_of_mem _ List.mem_cons_self)))), SameA.cells rfl (ed_rows hL E).symm⟩
  · cases h; exact ⟨_, List.mem_append_right _ List.mem_cons_self, SameA.cells rfl (litsN_same plan)⟩
theorem edV_same {L e : Nat} {ρ ρ' : Rho} (E : EdOk e ρ ρ') : SameV ρ (edV e 1001 L) ρ' (bookF L) := by
  have s : ∀ j, j < 200 → SameV ρ (vj (edN e j)) ρ' (vj j) := fun j hj => SameV.int (E.iv j hj).symm
  exact SameV.agg (SameL.cons (SameV.sliceX _ _ _ _) (SameL.cons (s 0 (by omega)) (SameL.cons (s 1 (by omega)) (SameL.cons (s 2 (by omega)) (SameL.cons (s 3 (by omega)) (SameL.cons (s 4 (by omega)) (SameL.cons (s 60 (by omega)) (SameL.cons (s 61 (by omega)) (SameL.cons (s 62 (by omega)) (SameL.cons (s 63 (by omega)) (SameL.cons (s 64 (by omega)) (SameL.cons (s 65 (by omega)) SameL.nil))))))))))))
section
variable {L : Nat} (h0 : 1 ≤ L) (hL : L ≤ 6) {plan : List Nat} (hp : plan ∈ plansL L) {e : Nat} (he : e < 2)
include h0 hL hp he
theorem there_ed : CallOk (pP L plan) 9 [edV e 1001 L, planA plan] (viewA 2001 (vPE e L plan)) (.ret (thereV L, viewA 2002 (vPE e L plan ++ [(2001, endN e L)]))) := by
  refine CallOk.read (p0 := pP L plan) (p := pP L plan) rfl (there_said h0 hL (ckTh_all h0 hL hp)) fun ρ b ⟨m, k1, k2⟩ Q k => ?_
  have E : EdOk e ρ (rho3 plan (rhoE e ρ)) := edOk_rho
  have k : Q (thereV L, viewA 2002 (vPE e L plan ++ [(2001, endN e L)])) := k
  have up2 : upA 0 (vP L plan ++ [(2001, AObj.cells (namesC L) 24 true false)]) = true := rfl
  have upE : upA 0 (vPE e L plan) = true := rfl
  refine ⟨rho3 plan (rhoE e ρ), ⟨m, ed_PB h0 hL hp he k1, k2⟩, SameL.cons (edV_same E) (SameL.cons (SameV.sliceX _ _ _ _) SameL.nil), ⟨rfl, fun j o hg => ?_⟩, ?_⟩
  · obtain ⟨o0, m1, m2, _⟩ := vP_sameE (p := pP L plan) hL E (viewA_get _ _ _ _ hg)
    exact ⟨o0, viewA_mem 2001 (vPE e L plan) 0 upE (j, o0) m1, m2⟩
  · refine ⟨_, k, SameV.tup (SameL.cons (SameV.slice _ _ _ _) (SameL.cons (SameV.int rfl) SameL.nil)), rfl, fun j o hg => ?_⟩
    rcases List.mem_append.1 (viewA_get _ _ _ _ hg) with hm | hm
    · obtain ⟨o0, m1, m2⟩ := vPE_same (p := pP L plan) hL E hm
      have g := viewA_mem 2002 (vP L plan ++ [(2001, AObj.cells (namesC L) 24 true false)]) 0 up2 (j, o0) (List.mem_append_left _ m1)
      exact ⟨o0, g, m2⟩
    · rw [List.mem_singleton] at hm
      cases hm
      have g := viewA_mem 2002 (vP L plan ++ [(2001, AObj.cells (namesC L) 24 true false)]) 0 up2 (2001, .cells (namesC L) 24 true false) (List.mem_append_right _ List.mem_cons_self)
      refine ⟨_, g, SameA.cells rfl ?_⟩
      unfold namesC
      rw [ed_eq, vj_eq]
      refine same_ints ?_
      rw [lMap_eq, lMap_eq, List.map_map, List.map_map]
      refine List.map_congr_left fun j hj => ?_
      have := upN_lt _ _ _ hj
      have k200 : 200 ≤ j := by
        have key : ∀ (n k : Nat), ∀ x ∈ upN n k, k ≤ x := by
          intro n
          induction n with
          | zero => intro k x hx; cases hx
          | succ n ih =>
            intro k x hx
            simp only [upN, List.mem_cons] at hx
            rcases hx with rfl | hx
            · exact Nat.le_refl _
            · have := ih _ _ hx; omega
        exact key _ _ j hj
      have n := ed_names h0 hL hp he k1 (k := (j - 200) / 2) (e' := j % 2) (by omega) (by omega)
      rw [show 200 + 2 * ((j - 200) / 2) + j % 2 = j by omega, show 200 + 2 * ((j - 200) / 2) = j - j % 2 by omega] at n
      have d : edN e j = j - j % 2 + e := by
        unfold edN
        rw [if_neg (by omega), if_neg (by omega), if_neg (by omega), if_neg (by omega), if_neg (by omega), if_pos (by omega)]
      show (rho3 plan (rhoE e ρ)).iv j = ρ.iv (edN e j)
      rw [n, d]
theorem over_ed {ok : Rho → (Nat → Obj → Prop) → Prop} (hok : ∀ ρ m, ok ρ m → okPB L plan ρ ∧ (0 ≤ ρ.iv 98 ∧ ρ.iv 98 ≤ 99999) ∧ ρ.iv (240 + e) = (ovE e plan (.var 98)).den ρ) :
    CallOk (pOk ok) 12 [edV e 1001 L, planA plan, vj 98] (viewA 2001 (vPE e L plan)) (.ret (lastV (.var (240 + e)) (.var (240 + e)), viewA 2001 (vPE e L plan))) := by
  have base := over_said h0 hL hp (ckOv_all h0 hL hp) (x := .var 98) (a := ovE 0 plan (.var 98)) (b := ovE 1 plan (.var 98)) (ok := fun ρ _ => okPB L plan ρ ∧ 0 ≤ ρ.iv 98 ∧ ρ.iv 98 ≤ 99999) (fun ρ m k => ⟨⟨k.1.1, k.1.2.carry⟩, k.2.1, k.2.2, rfl, rfl⟩)
  refine CallOk.read (p0 := pOk fun ρ _ => okPB L plan ρ ∧ 0 ≤ ρ.iv 98 ∧ ρ.iv 98 ≤ 99999) (p := pOk ok) rfl base fun ρ b ⟨m, k1, k2⟩ Q k => ?_
  obtain ⟨a1, a2, a3⟩ := hok ρ m k1
  have E : EdOk e ρ (rho3 plan (rhoE e ρ)) := edOk_rho
  have k : Q (lastV (.var (240 + e)) (.var (240 + e)), viewA 2001 (vPE e L plan)) := k
  have upE : upA 0 (vPE e L plan) = true := rfl
  have upP : upA 0 (vP L plan) = true := rfl
  have e98 : (rho3 plan (rhoE e ρ)).iv 98 = ρ.iv 98 := E.iv 98 (by omega)
  refine ⟨rho3 plan (rhoE e ρ), ⟨m, ⟨ed_PB h0 hL hp he a1, by rw [e98]; exact a2⟩, k2⟩, SameL.cons (edV_same E) (SameL.cons (SameV.sliceX _ _ _ _) (SameL.cons (SameV.int e98.symm) SameL.nil)), ⟨rfl, fun j o hg => ?_⟩, ?_⟩
  · obtain ⟨o0, m1, m2, _⟩ := vP_sameE (p := pOk ok) hL E (viewA_get _ _ _ _ hg)
    exact ⟨o0, viewA_mem 2001 (vPE e L plan) 0 upE (j, o0) m1, m2⟩
  · refine ⟨_, k, SameV.tup (SameL.cons (SameV.agg (SameL.cons (SameV.int ((ed_ov h0 hL hp (by omega)).trans a3.symm)) (SameL.cons (SameV.int ((ed_ov h0 hL hp (by omega)).trans a3.symm)) SameL.nil))) (SameL.cons (SameV.int rfl) SameL.nil)), rfl, fun j o hg => ?_⟩
    obtain ⟨o0, m1, m2⟩ := vPE_same (p := pOk ok) hL E (viewA_get _ _ _ _ hg)
    exact ⟨o0, viewA_mem 2001 (vP L plan) 0 upP (j, o0) m1, m2⟩
end
end Go.Sx
