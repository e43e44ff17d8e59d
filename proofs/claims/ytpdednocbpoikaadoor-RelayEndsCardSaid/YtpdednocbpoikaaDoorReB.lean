/- ReB -/
import Derived.Test.YtpdednocbpoikaaDoorRtW
import Derived.Test.YtpdednocbpoikaaDoorRtK5a
import Derived.Test.YtpdednocbpoikaaDoorRtK6a
import Derived.Test.YtpdednocbpoikaaDoorRtK6c
import Derived.Test.YtpdednocbpoikaaDoorRtK6e
import Derived.Test.YtpdednocbpoikaaDoorRtK6h
import Derived.Test.YtpdednocbpoikaaDoorRlJ
import Derived.Test.YtpdednocbpoikaaDoorSxMove3
namespace Go.Sx
open Go.RowKit Go.Proofs
set_option maxRecDepth 100000
theorem repE_get {a : IE} : ∀ (n : Nat) (l : List IE) (i : Nat), (repE a n l)[i]? = if i < n then some a else l[i - n]?
  | 0, l, i => by rw [if_neg (by omega)]; rfl
  | n + 1, l, i => by
    have e : repE a (n + 1) l = a :: repE a n l := rfl
    rw [e]
    cases i with
    | zero => rw [if_pos (by omega)]; rfl
    | succ i =>
      rw [List.getElem?_cons_succ, repE_get n l i]
      by_cases h : i < n
      · rw [if_pos h, if_pos (by omega)]
      · rw [if_neg h, if_neg (by omega), show i + 1 - (n + 1) = i - n by omega]
theorem now_den {ρ : Rho} {x : IE} {v : Nat} (h0 : 0 ≤ x.den ρ) (h1 : x.den ρ ≤ 10000000) (h2 : 0 ≤ ρ.iv v) (h3 : ρ.iv v ≤ 24000) : (adE x (.var v)).den ρ = x.den ρ + ρ.iv v := by
  unfold adE
  rw [IE.den_add, IE.den_var]
  exact wrap_sm (by omega) (by omega)
end Go.Sx
namespace Go.Sx
open Go.RowKit Go.Proofs
set_option maxRecDepth 100000
theorem ckOv4_all : lAll (ckOv 4) (plansL 4) = true := by
  have h4 : lAll (ckOv 4) (lDrop (plansL 4) 8) = true := by kernel_rfl
  have h3 := chunk ckOv4_3 h4
  have h2 := chunk ckOv4_2 h3
  have h1 := chunk ckOv4_1 h2
  have h0 := chunk ckOv4_0 h1
  rw [lDrop_eq, List.drop_zero] at h0
  exact h0
theorem ckOv5_all : lAll (ckOv 5) (plansL 5) = true := by
  have h16 : lAll (ckOv 5) (lDrop (plansL 5) 16) = true := by kernel_rfl
  have h15 := chunk ckOv5_15 h16
  have h14 := chunk ckOv5_14 h15
  have h13 := chunk ckOv5_13 h14
  have h12 := chunk ckOv5_12 h13
  have h11 := chunk ckOv5_11 h12
  have h10 := chunk ckOv5_10 h11
  have h9 := chunk ckOv5_9 h10
  have h8 := chunk ckOv5_8 h9
  have h7 := chunk ckOv5_7 h8
  have h6 := chunk ckOv5_6 h7
  have h5 := chunk ckOv5_5 h6
  have h4 := chunk ckOv5_4 h5
  have h3 := chunk ckOv5_3 h4
  have h2 := chunk ckOv5_2 h3
  have h1 := chunk ckOv5_1 h2
  have h0 := chunk ckOv5_0 h1
  rw [lDrop_eq, List.drop_zero] at h0
  exact h0
theorem ckOv6_all : lAll (ckOv 6) (plansL 6) = true := by
  have h32 : lAll (ckOv 6) (lDrop (plansL 6) 32) = true := by kernel_rfl
  have h31 := chunk ckOv6_31 h32
  have h30 := chunk ckOv6_30 h31
  have h29 := chunk ckOv6_29 h30
  have h28 := chunk ckOv6_28 h29
  have h27 := chunk ckOv6_27 h28
  have h26 := chunk ckOv6_26 h27
  have h25 := chunk ckOv6_25 h26
  have h24 := chunk ckOv6_24 h25
  have h23 := chunk ckOv6_23 h24
  have h22 := chunk ckOv6_22 h23
  have h21 := chunk ckOv6_21 h22
  have h20 := chunk ckOv6_20 h21
  have h19 := chunk ckOv6_19 h20
  have h18 := chunk ckOv6_18 h19
  have h17 := chunk ckOv6_17 h18
  have h16 := chunk ckOv6_16 h17
  have h15 := chunk ckOv6_15 h16
  have h14 := chunk ckOv6_14 h15
  have h13 := chunk ckOv6_13 h14
  have h12 := chunk ckOv6_12 h13
  have h11 := chunk ckOv6_11 h12
  have h10 := chunk ckOv6_10 h11
  have h9 := chunk ckOv6_9 h10
  have h8 := chunk ckOv6_8 h9
  have h7 := chunk ckOv6_7 h8
  have h6 := chunk ckOv6_6 h7
  have h5 := chunk ckOv6_5 h6
  have h4 := chunk ckOv6_4 h5
  have h3 := chunk ckOv6_3 h4
  have h2 := chunk ckOv6_2 h3
  have h1 := chunk ckOv6_1 h2
  have h0 := chunk ckOv6_0 h1
  rw [lDrop_eq, List.drop_zero] at h0
  exact h0
theorem ckOv_all {L : Nat} (h0 : 1 ≤ L) (hL : L ≤ 6) {plan : List Nat} (hp : plan ∈ plansL L) : ckOv L plan = true := by
  rcases six h0 hL with rfl | rfl | rfl | rfl | rfl | rfl
  · exact lAll_mem ckOv1 plan hp
  · exact lAll_mem ckOv2 plan hp
  · exact lAll_mem ckOv3 plan hp
  · exact lAll_mem ckOv4_all plan hp
  · exact lAll_mem ckOv5_all plan hp
  · exact lAll_mem ckOv6_all plan hp
theorem orcP_gen {L : Nat} (h0 : 1 ≤ L) (hL : L ≤ 6) {plan : List Nat} (hp : plan ∈ plansL L) {ok : Rho → (Nat → Obj → Prop) → Prop} (hok : ∀ ρ m, ok ρ m → okPB L plan ρ) {f : FuncId} {args : List AV} {h : Heap} {t : T (AV × Heap)} (e : orcP L plan f args h = some t) : CallOk (pOk ok) f args h t := by
  unfold orcP at e
  split at e
  · rename_i fa c s z n
    obtain ⟨j1, e1⟩ := cond_some e
    simp only [Bool.and_eq_true] at j1
    obtain ⟨⟨i1, i2, i3, i4⟩, i5, i6, i7⟩ := j1
    rw [eqAV_eq _ _ i1, beq_t.1 i2, beq_t.1 i3, beq_t.1 i4]
    clear e
    cases h9 : Nat.beq f 9 with
    | true =>
      rw [h9, cond_true] at e1
      rw [beq_t.1 h9]
      cases e1
      exact there_at h0 hL (ckTh_all h0 hL hp) hok i5 i6 (ble_t.1 i7)
    | false =>
      rw [h9, cond_false] at e1
      obtain ⟨h10, e2⟩ := cond_some e1
      rw [beq_t.1 h10]
      cases e2
      exact starts_at h0 hL (ckSt_all h0 hL hp) hok i5 i6
  · cases e
theorem lApp_mem {α : Type} {a : α} {l m : List α} (h : a ∈ lApp l m) : a ∈ l ∨ a ∈ m := by rw [lApp_eq] at h; exact List.mem_append.1 h
end Go.Sx
namespace Go.Sx
open Go.RowKit Go.Proofs
set_option maxRecDepth 100000
theorem okNM_gen {L : Nat} (h0 : 1 ≤ L) (hL : L ≤ 6) {ρ ρ1 : Rho} (hB : okB L ρ) (fi : ∀ f a b c, ¬ (3101 ≤ f ∧ f < 3105) → ρ.fi f a b c = ρ1.fi f a b c) (fil : ∀ (i r : Nat) (b c : Int), i < 4 → ρ.fi (3101 + i) r b c = lastI L ρ1 (4 * r + i))
    (iv : ∀ i, i < 97 → ρ.iv i = ρ1.iv i) (ivl : ∀ q, q < 24 → ρ.iv (100 + q) = lastI L ρ1 q) : okN L ρ ∧ okM L ρ := by
  refine ⟨fun j t hj ht => ?_, fun r i hr hi => ?_⟩
  · have ho := oB_in h0 hL hB.1 hj
    have eo := oB_rho (L := L) (ρ := ρ1) (ρ' := ρ) fi (j := j)
    rw [eo] at ho
    have l1 := ivl (4 * j + 2 * t) (by omega)
    have l2 := ivl (4 * j + 2 * t + 1) (by omega)
    rw [eo, iv 60 (by omega)]
    unfold lastI at l1 l2
    rw [if_pos (by omega), show (4 * j + 2 * t) / 4 = j by omega, show (4 * j + 2 * t) % 4 / 2 = t by omega] at l1
    rw [if_neg (by omega), show (4 * j + 2 * t + 1) / 4 = j by omega, show (4 * j + 2 * t + 1) % 4 / 2 = t by omega] at l2
    have hlt : ((oB L j).den ρ1).toNat < 6 := by omega
    refine ⟨?_, ?_⟩
    · rw [show 100 + 4 * j + 2 * t = 100 + (4 * j + 2 * t) by omega, l1]
      unfold loZ
      rw [iv (14 + 6 * ((oB L j).den ρ1).toNat) (by omega), iv 3 (by omega), iv 0 (by omega)]
    · rw [show 101 + 4 * j + 2 * t = 100 + (4 * j + 2 * t + 1) by omega, l2]
      unfold hiZ
      rw [iv (15 + 6 * ((oB L j).den ρ1).toNat) (by omega), iv 2 (by omega), iv 1 (by omega)]
  · rw [fil i r (ρ.iv 60) 0 hi, show 100 + 4 * r + i = 100 + (4 * r + i) by omega, ivl (4 * r + i) (by omega)]
theorem OkP.like {L : Nat} (hL : L ≤ 6) {plan : List Nat} (hV : VarsOk L plan) {ρ ρ' : Rho} (h : OkP L plan ρ) (iv : ∀ j, j < 240 → ρ'.iv j = ρ.iv j) (hf : ρ'.fi = ρ.fi ∧ ρ'.fb = ρ.fb) : OkP L plan ρ' := by
  have den : ∀ e, varsI 200 e = true → e.den ρ' = e.den ρ := fun e he => varsI_den (n := 200) (fun i hi => iv i (by omega)) hf e he
  refine ⟨?_, ?_, ?_, fun c hc => ?_⟩
  · have e1 : (zipI (thereE 0 plan) (thereE 1 plan)).map (IE.den ρ') = (zipI (thereE 0 plan) (thereE 1 plan)).map (IE.den ρ) := List.map_congr_left fun e he => by
      rcases zipI_mem he with he | he
      · exact den e (hV.t0 e he)
      · exact den e (hV.t1 e he)
    rw [e1, h.ats]
    exact List.map_congr_left fun j hj => by
      have := upN_lt _ _ _ hj
      exact (iv j (by omega)).symm
  · rw [iv 220 (by omega), h.sure, den _ hV.sure]
  · rw [iv 221 (by omega), h.may, den _ hV.may]
  · have k := h.carry c hc
    unfold carryC at hc
    rw [lMap_eq, List.mem_map] at hc
    obtain ⟨p, _, rfl⟩ := hc
    rw [BE.t_leq, IE.den_lit, IE.den_var] at k ⊢
    rw [iv 65 (by omega)]; exact k
end Go.Sx
namespace Go.Sx
open Go.RowKit Go.Proofs
set_option maxRecDepth 100000
def edN (e j : Nat) : Nat := if j < 2 then e else if j < 4 then 3 - e else if 10 ≤ j ∧ j < 46 ∧ 4 ≤ (j - 10) % 6 then j - (j - 10) % 6 + 4 + e else if j = 61 ∨ j = 62 then 61 + e else if j = 63 ∨ j = 64 then 63 + e else if (100 ≤ j ∧ j < 124) ∨ (200 ≤ j ∧ j < 212) then j - j % 2 + e else j
noncomputable def edC (e L : Nat) : List AV := lMap (fun j => vj (edN e j)) (upN (6 * L) 10)
noncomputable def edV (e c L : Nat) : AV := .agg [.sliceX c 6 0 L, vj (edN e 0), vj (edN e 1), vj (edN e 2), vj (edN e 3), vj 4, vj 60, vj (edN e 61), vj (edN e 62), vj (edN e 63), vj (edN e 64), vj 65]
noncomputable def edO (e L : Nat) : AObj := .cells (edC e L) 86 true true
noncomputable def tbEd : Tabs := ⟨Sx.Tryd.ft.get, lFind Sx.Tryd.rt, 2000, fun _ _ _ => none⟩
noncomputable def nwEd (r : AV × Heap) : List Nat := match r.1 with
  | .agg (.sliceX b _ _ _ :: _) => [b]
  | _ => []
noncomputable def argsEd (e L : Nat) : List AV := [bookF L, tag (Nat.beq e 1)]
noncomputable def runEd (e L : Nat) : T (AV × Heap) := (evalN tbEd 60 false 15 (argsEd e L) (viewA 2000 (vR L))).bind fun r => graftT 2000 (vR L) (viewA 2000 (vR L)) (nwEd r) r
noncomputable def endEd (e L : Nat) (_ : Kn) (q : AV × Heap) : Bool := and (eqAV q.1 (edV e 2000 L)) (and (isO (q.2.get 2000) (edO e L)) (and (allO q.2 (vR L)) (Nat.beq q.2.next 2001)))
noncomputable def ckEd (L : Nat) : Bool := and (allW [] (endEd 0 L) (runEd 0 L) (knOf [] [])) (allW [] (endEd 1 L) (runEd 1 L) (knOf [] []))
noncomputable def vEd (e L : Nat) : List (Nat × AObj) := vR L ++ [(2000, edO e L)]
noncomputable def endN (e L : Nat) : AObj := .cells (lMap (fun j => vj (edN e j)) (upN (2 * L) 200)) 24 true false
noncomputable def vPE (e L : Nat) (plan : List Nat) : List (Nat × AObj) := [(0, ro [li 1, li 20, li 0, li 50]), (1, ro [li 0, li 998, li 1, li 6]), (2, ro [li 0, li 3600, li 0, li 3600]), (3, ro [li 0, li 99, li 0, li 99, li 1, li 1200]), (1001, ro (edC e L)), (2000, ro (litsN plan))]
noncomputable def thereTE (e L : Nat) (plan : List Nat) (h : Heap) : T (AV × Heap) := (T.ret (thereV L, viewA 2002 (vPE e L plan ++ [(2001, endN e L)]))).bind fun r => mvT 2001 h r
noncomputable def fitE (e L : Nat) (plan : List Nat) (fa : AV) (cF c s z n : Nat) (h : Heap) : Bool := and (and (eqAV fa (edV e cF L)) (and (Nat.beq s 1) (and (Nat.beq z 0) (Nat.beq n (lLen plan))))) (and (lessAll h (vR L)) (and (lessO (ro (edC e L)) (h.get cF)) (and (lessO (ro (litsN plan)) (h.get c)) (Nat.ble 2001 h.next))))
noncomputable def orcET (L : Nat) (plan : List Nat) (args : List AV) (h : Heap) : Option (T (AV × Heap)) :=
  match args with
  | [.agg (.sliceX cF a1 a2 a3 :: fs), .sliceX c s z n] => cond (fitE 0 L plan (.agg (.sliceX cF a1 a2 a3 :: fs)) cF c s z n h) (some (thereTE 0 L plan h)) (cond (fitE 1 L plan (.agg (.sliceX cF a1 a2 a3 :: fs)) cF c s z n h) (some (thereTE 1 L plan h)) none)
  | _ => none
noncomputable def lateX : IE := .mn (.lit 99999) (adE (.var 98) (.var 94))
noncomputable def orcEO (L : Nat) (plan : List Nat) (args : List AV) (h : Heap) : Option (T (AV × Heap)) :=
  match args with
  | [.agg (.sliceX cF a1 a2 a3 :: fs), .sliceX c s z n, .int k x] => cond (and (isI64 k) (and (Nat.beq s 1) (and (Nat.beq z 0) (Nat.beq n (lLen plan)))))
      (cond (and (eqAV (.agg (.sliceX cF a1 a2 a3 :: fs)) (bookF L)) (and (lessAll h (vR L)) (lessO (ro (litsN plan)) (h.get c))))
        (cond (eqIE x (.var 98)) (some (.ret (lastV (.var 240) (.var 241), h))) (cond (eqIE x lateX) (some (.ret (lastV (.var 242) (.var 243), h))) none))
        (cond (eqIE x (.var 98)) (cond (fitE 0 L plan (.agg (.sliceX cF a1 a2 a3 :: fs)) cF c s z n h) (some (.ret (lastV (.var 240) (.var 240), h))) (cond (fitE 1 L plan (.agg (.sliceX cF a1 a2 a3 :: fs)) cF c s z n h) (some (.ret (lastV (.var 241) (.var 241), h))) none)) none)) none
  | _ => none
noncomputable def orcEn (L : Nat) (plan : List Nat) (f : FuncId) (args : List AV) (h : Heap) : Option (T (AV × Heap)) :=
  cond (Nat.beq f 7) (closedOrc glR args h) (cond (Nat.beq f 6) (smallO 2000 [bookF L] (vR L) (.ret (tag true, viewA 2000 (vR L))) (fun _ => []) args h)
  (cond (Nat.beq f 8) (smallO 2000 [bookF L, .sliceU 96] (vR L) (.ret (planA plan, viewA 2001 (vC L plan))) (fun _ => [2000]) args h)
  (cond (Nat.beq f 11) (cond (eqAVs args [vj 97, .int .i64 (.lit 100000)]) (some (.ret (vj 98, h))) (cond (eqAVs args [vj 93, .int .i64 (.lit 900)]) (some (.ret (vj 94, h))) none))
  (cond (Nat.beq f 12) (orcEO L plan args h)
  (cond (Nat.beq f 15) (match smallO 2000 (argsEd 0 L) (vR L) (.ret (edV 0 2000 L, viewA 2001 (vEd 0 L))) (fun _ => [2000]) args h with
    | some t => some t
    | none => smallO 2000 (argsEd 1 L) (vR L) (.ret (edV 1 2000 L, viewA 2001 (vEd 1 L))) (fun _ => [2000]) args h)
  (cond (Nat.beq f 9) (match orcP L plan f args h with
    | some t => some t
    | none => orcET L plan args h) none))))))
noncomputable def tbEn (L : Nat) (plan : List Nat) : Tabs := ⟨Sx.Tryd.ft.get, lFind Sx.Tryd.rt, 2000, orcEn L plan⟩
noncomputable def togC (plan : List Nat) : Nat → List BE := @List.rec Nat (fun _ => Nat → List BE) (fun _ => []) (fun p _ ih at_ => lApp (lMap (fun k => .cmp .eql (.var (200 + 2 * (at_ + k))) (.var (200 + 2 * at_))) (upN p 0)) (lApp (lMap (fun k => .cmp .eql (.var (201 + 2 * (at_ + k))) (.var (201 + 2 * at_))) (upN p 0)) (ih (at_ + p)))) plan
noncomputable def endsQ : List (Nat × Int × Int) := [(98, 0, 99999), (94, 0, 899)]
noncomputable def endsC (plan : List Nat) : List BE := leV 240 242 :: leV 241 243 :: togC plan 0
noncomputable def argsEn (L : Nat) : List AV := [bookF L, .sliceU 96, .agg [vj 97, vj 93]]
noncomputable def lawEn (L : Nat) (plan : List Nat) : Bool := allK isTrueK (evalN (tbEn L plan) 60 false 4 (argsEn L) (viewA 2000 (vR L))) (knOf endsQ (endsC plan))
end Go.Sx
namespace Go.Sx
open Go.RowKit Go.Proofs
set_option maxRecDepth 100000
def Env.mvg (mv : Nat → Nat) (n : Nat) (E : Env) : Env := ⟨E.ρ, fun b => if b < n then E.σ (mv b) else none, fun b => E.κ (mv b), n, fun _ => #[]⟩
theorem CallOk.movedG {p : Par} {f : FuncId} {args0 args : List AV} {n : Nat} {mv : Nat → Nat} {l : List (Nat × AObj)} {t : T (AV × Heap)} (hc : CallOk p f args0 (viewA n l) t)
    (h1000 : 1000 ≤ n) (hlow : ∀ b, b < 1000 → mv b = b) (hl : ∀ g ∈ l, g.1 < n ∧ ownO g.2 = false ∧ idsO 0 g.2 = true)
    {h : Heap} (hn : n ≤ h.next) (hm : ∀ g ∈ l, ∃ o, h.get (mv g.1) = some o ∧ Less g.2 o) (hargs : ∀ E : Env, concL (E.mvg mv n) args0 = concL E args) : CallOk p f args h (t.bind fun r => mvT n h r) := by
  intro vs E w0 w Q K k HH hA P
  rw [T.holds_bind] at k
  let b1 : Base := Base.of w
  have none0 : ∀ b, b < 0 → (E.mvg mv n).σ b = E.σ b ∧ (E.σ b ≠ none → (E.mvg mv n).κ b = E.κ b) := fun b hb => absurd hb (Nat.not_lt_zero b)
  have mvσ : ∀ b q, (E.mvg mv n).σ b = some q → b < n ∧ E.σ (mv b) = some q := fun b q e => by
    simp only [Env.mvg] at e
    split at e
    · rename_i hb; exact ⟨hb, e⟩
    · cases e
  have lt : ∀ b o d x, (viewA n l).get b = some o → (E.mvg mv n).σ b = some (d, x) → d < w.heap.size := fun b o d x g s => by
    obtain ⟨o', h1, _⟩ := hm _ (viewA_get _ _ _ _ g)
    exact HH.lt _ _ _ _ h1 (mvσ _ _ s).2
  have HV : HeapOk p (E.mvg mv n) (viewA n l) b1 w := by
    refine ⟨fun b o g => ?_, fun b b' o o' d x y g1 g2 w1 w2 s1 s2 => ?_, fun b o d x g hw s hd => ?_, fun b o d y g hr s => lt b o d y g s, fun b hb => ?_, lt, fun b hb => ?_, Kept.refl _ _, (by rw [viewA_next]; exact Nat.le_refl _), HH.ok.mono fun d o e' => ⟨HH.below.lt e'.1, Base.Keeps.has HH.below e'⟩⟩
    · have hmem := viewA_get _ _ _ _ g
      obtain ⟨o', h1, h2⟩ := hm _ hmem
      obtain ⟨h3, _, h4⟩ := hl _ hmem
      have hb : objOk p E (mv b) o w.heap := h2.obj (HH.obj _ _ h1)
      refine objOk.ids (E := E) (E' := E.mvg mv n) rfl none0 h4 (fun q hq => ⟨?_, rfl⟩) hb
      simp only [Env.mvg, if_pos h3]; exact hq
    · have := (hl _ (viewA_get _ _ _ _ g1)).2.1
      have w1 : ownO o = true := w1
      have this : ownO o = false := this
      rw [this] at w1; cases w1
    · have := (hl _ (viewA_get _ _ _ _ g)).2.1
      have hw : ownO o = true := hw
      have this : ownO o = false := this
      rw [this] at hw; cases hw
    · rw [viewA_next] at hb
      simp only [Env.mvg, if_neg (show ¬ b < n by omega)]
    · have e : mv b = b := hlow b hb
      simp only [Env.mvg, if_pos (show b < n by omega), e]
      exact HH.glob b hb
  refine hc vs (E.mvg mv n) b1 w _ K k HV ((hargs E).trans hA) ?_
  intro v' h1 E1 w' cv q hle H1 hcv
  unfold mvT at q
  split at q
  · rename_i o ho
    cases hb : and (ownO o) (and (idsO 0 o) (idsO n o)) with
    | false => rw [hb] at q; exact q.elim
    | true =>
      rw [hb, cond_true] at q
      simp only [Bool.and_eq_true] at hb
      obtain ⟨o1, o2, o3⟩ := hb
      split at q
      · rename_i v ev
        let E2 : Env := ⟨E.ρ, fun b => if b < n then E.σ b else if b = n then E1.σ n else none, fun b => if b < n then E.κ b else E1.κ b, n + 1, fun _ => #[]⟩
        have hρ : E1.ρ = E.ρ := hle.ρ
        have g1 : ∀ b x, (viewA (n + 1) [(n, o)]).get b = some x → b = n ∧ x = o := fun b x g => by
          have := viewA_get _ _ _ _ g
          rw [List.mem_singleton] at this
          cases this; exact ⟨rfl, rfl⟩
        have s2 : E2.σ n = E1.σ n := by simp only [E2, if_neg (Nat.lt_irrefl n), if_true]
        have k2 : E2.κ n = E1.κ n := by simp only [E2, if_neg (Nat.lt_irrefl n)]
        have gn : (viewA (n + 1) [(n, o)]).get n = some o := viewA_mem (n + 1) [(n, o)] 0 rfl _ List.mem_cons_self
        have H2 : HeapOk p E2 (viewA (n + 1) [(n, o)]) b1 w' := by
          refine ⟨fun b x g => ?_, fun b b' x x' d y z g2 g3 _ _ _ _ => ?_, fun b x d y g hw s hd => ?_, fun b x d y g hr s => ?_, fun b hb => ?_, fun b x d y g s => ?_, fun b hb => ?_, H1.below, ?_, ?_⟩
          · obtain ⟨rfl, rfl⟩ := g1 b x g
            exact objOk.ids (E := E1) (E' := E2) hρ.symm (fun b hb => absurd hb (Nat.not_lt_zero b)) o2 (fun q hq => ⟨s2.trans hq, k2⟩) (H1.obj _ _ ho)
          · rw [(g1 b x g2).1, (g1 b' x' g3).1]
          · obtain ⟨rfl, rfl⟩ := g1 b x g
            exact H1.base _ _ _ _ ho hw (s2.symm.trans s) hd
          · obtain ⟨rfl, rfl⟩ := g1 b x g
            exact H1.ro _ _ _ _ ho hr (s2.symm.trans s)
          · rw [viewA_next] at hb
            simp only [E2, if_neg (show ¬ b < n by omega), if_neg (show ¬ b = n by omega)]
          · obtain ⟨rfl, rfl⟩ := g1 b x g
            exact H1.lt _ _ _ _ ho (s2.symm.trans s)
          · simp only [E2, if_pos (show b < n by omega)]
            exact HH.glob b hb
          · rw [viewA_next]; exact Nat.le_refl _
          · have := H1.ok; rw [hρ] at this; exact this
        have hcut : (E.cut n).le E2 := by
          refine ⟨⟨rfl, fun b q e => ?_, fun b q e => ?_, fun b q e => rfl⟩, ?_, fun b hb e => ?_⟩
          · simp only [Env.cut] at e
            split at e
            · rename_i hb; simp only [E2, if_pos hb]; exact e
            · cases e
          · simp only [Env.cut] at e
            split at e
            · rename_i hb; simp only [E2, if_pos hb]; rfl
            · cases e
          · simp only [Env.cut, E2]; omega
          · simp only [Env.cut] at hb e
            rw [if_pos hb] at e
            simp only [E2, if_pos hb]; exact e
        have e2 : graftN n (nameG n h.next [n]) (viewA (n + 1) [(n, o)]) [n] h = some (h.new o) := by
          have hmv : Sx.moved n (nameG n h.next [n]) o = some o := by unfold Sx.moved; rw [o3]; rfl
          simp only [graftN, gn, o1, cond_true, hmv]
        have key := HH.graft (hv := viewA n []) (owns := []) (news := [n]) (fun b x g => by cases viewA_get _ _ _ _ g) (fun b x g => by cases viewA_get _ _ _ _ g) hn
          (fun b => ⟨fun hb => (List.not_mem_nil hb).elim, fun ⟨x, g, _⟩ => by cases viewA_get _ _ _ _ g⟩) (b1 := b1) rfl (fun d => ⟨fun hd => ⟨hd, fun b hb => (List.not_mem_nil hb).elim⟩, fun hd => hd.1⟩) H2 hcut (by simp [risesL]) e2
        obtain ⟨z1, z2, z3⟩ := key
        refine P v (h.new o) _ w' cv q z1 z3 ?_
        have hR : RelB (nameM n h.next) E1 (envG E E2 h.next [n]) := by
          refine ⟨hρ.symm, fun b d q hb hq => ?_⟩
          unfold nameM at hb
          cases hbn : Nat.beq b n with
          | false => rw [hbn] at hb; cases hb
          | true =>
            rw [hbn, cond_true] at hb
            cases hb
            have := beq_t.1 hbn
            subst this
            simp only [envG, Nat.lt_irrefl, if_false, Nat.sub_self, List.getElem?_cons_zero]
            exact ⟨s2.trans hq, k2⟩
        exact rnV_ok hR _ _ _ ev hcv
      · exact q.elim
  · exact q.elim
end Go.Sx
namespace Go.Sx
open Go.RowKit Go.Proofs
set_option maxRecDepth 100000
noncomputable def rhoE (e : Nat) (ρ : Rho) : Rho := ⟨fun j => ρ.iv (edN e j), ρ.bv, fun f a b c => if 3101 ≤ f ∧ f < 3105 then ρ.iv (edN e (100 + 4 * a.toNat + (f - 3101))) else ρ.fi f a b c, ρ.fb, ρ.ov⟩
structure EdOk (e : Nat) (ρ ρ' : Rho) : Prop where
  iv : ∀ j, j < 200 → ρ'.iv j = ρ.iv (edN e j)
  fi : ∀ f a b c, ¬ (3101 ≤ f ∧ f < 3105) → ρ'.fi f a b c = ρ.fi f a b c
  fm : ∀ (i r : Nat) (b c : Int), i < 4 → ρ'.fi (3101 + i) r b c = ρ.iv (edN e (100 + 4 * r + i))
  fb : ρ'.fb = ρ.fb
theorem edOk_rho {e : Nat} {plan : List Nat} {ρ : Rho} : EdOk e ρ (rho3 plan (rhoE e ρ)) := by
  refine ⟨fun j hj => rho3_iv hj, fun f a b c hf => ?_, fun i r b c hi => ?_, rfl⟩
  · show (if 3101 ≤ f ∧ f < 3105 then _ else ρ.fi f a b c) = _
    rw [if_neg hf]
  · show (if 3101 ≤ 3101 + i ∧ 3101 + i < 3105 then ρ.iv (edN e (100 + 4 * ((r : Int)).toNat + (3101 + i - 3101))) else _) = _
    rw [if_pos (by omega), Int.toNat_natCast, Nat.add_sub_cancel_left]
theorem edN_mark {e r q : Nat} (hr : r < 6) (hq : q < 4) : edN e (10 + 6 * r + q) = 10 + 6 * r + q := by
  unfold edN
  rw [if_neg (by omega), if_neg (by omega), if_neg (by omega), if_neg (by omega), if_neg (by omega), if_neg (by omega)]
theorem edN_feet {e r q : Nat} (hr : r < 6) (hq : q < 2) : edN e (14 + 6 * r + q) = 14 + 6 * r + e := by
  unfold edN
  rw [if_neg (by omega), if_neg (by omega), if_pos (by omega)]
  omega
theorem edN_last {e j t q : Nat} (hj : j < 6) (ht : t < 2) (hq : q < 2) : edN e (100 + 4 * j + 2 * t + q) = 100 + 4 * j + 2 * t + e := by
  unfold edN
  rw [if_neg (by omega), if_neg (by omega), if_neg (by omega), if_neg (by omega), if_neg (by omega), if_pos (by omega)]
  omega
section
variable {ρ ρ' : Rho}
theorem aftF_mk (h : ∀ r, r < 6 → ∀ q, q < 4 → ρ'.iv (10 + 6 * r + q) = ρ.iv (10 + 6 * r + q)) {r : Nat} (hr : r < 6) (a b : Int) : aftF ρ' r a b = aftF ρ r a b := by
  have e0 : ρ'.iv (10 + 6 * r) = ρ.iv (10 + 6 * r) := h r hr 0 (by omega)
  have e1 : ρ'.iv (11 + 6 * r) = ρ.iv (11 + 6 * r) := by have := h r hr 1 (by omega); rwa [show 10 + 6 * r + 1 = 11 + 6 * r by omega] at this
  have e2 : ρ'.iv (12 + 6 * r) = ρ.iv (12 + 6 * r) := by have := h r hr 2 (by omega); rwa [show 10 + 6 * r + 2 = 12 + 6 * r by omega] at this
  have e3 : ρ'.iv (13 + 6 * r) = ρ.iv (13 + 6 * r) := by have := h r hr 3 (by omega); rwa [show 10 + 6 * r + 3 = 13 + 6 * r by omega] at this
  unfold aftF
  rw [e0, e1, e2, e3]
theorem reelOk_mk (h : ∀ r, r < 6 → ∀ q, q < 4 → ρ'.iv (10 + 6 * r + q) = ρ.iv (10 + 6 * r + q)) {r : Nat} (hr : r < 6) (k : reelOk ρ r) : reelOk ρ' r := by
  have e0 : ρ'.iv (10 + 6 * r) = ρ.iv (10 + 6 * r) := h r hr 0 (by omega)
  have e1 : ρ'.iv (11 + 6 * r) = ρ.iv (11 + 6 * r) := by have := h r hr 1 (by omega); rwa [show 10 + 6 * r + 1 = 11 + 6 * r by omega] at this
  have e2 : ρ'.iv (12 + 6 * r) = ρ.iv (12 + 6 * r) := by have := h r hr 2 (by omega); rwa [show 10 + 6 * r + 2 = 12 + 6 * r by omega] at this
  have e3 : ρ'.iv (13 + 6 * r) = ρ.iv (13 + 6 * r) := by have := h r hr 3 (by omega); rwa [show 10 + 6 * r + 3 = 13 + 6 * r by omega] at this
  unfold reelOk at k ⊢
  rw [e0, e1, e2, e3]; exact k
theorem noneF_mk (H : ∀ r, r < 6 → ∀ a b, aftF ρ' r a b = aftF ρ r a b) : ∀ (k m : Nat) (a b : Int), noneF ρ' k m a b = noneF ρ k m a b
  | 0, _, _, _ => rfl
  | k + 1, m, a, b => by
    simp only [noneF]
    refine all_congr fun r hr => ?_
    rw [H r (rsOf_lt hr), noneF_mk H k]
theorem ordF_mk (H : ∀ r, r < 6 → ∀ a b, aftF ρ' r a b = aftF ρ r a b) : ∀ (k m : Nat) (a b : Int), ordF ρ' k m a b = ordF ρ k m a b
  | 0, _, _, _ => rfl
  | k + 1, m, a, b => by
    simp only [ordF]
    rw [find_congr (q := fun r => !(decide (aftF ρ r a b = (0, 0)) || noneF ρ k (del m r) (aftF ρ r a b).1 (aftF ρ r a b).2)) fun r hr => by rw [H r (rsOf_lt hr), noneF_mk H k]]
    cases hf : (rsOf m).find? fun r => !(decide (aftF ρ r a b = (0, 0)) || noneF ρ k (del m r) (aftF ρ r a b).1 (aftF ρ r a b).2) with
    | none => rfl
    | some r =>
      simp only
      rw [H r (rsOf_lt (List.mem_of_find?_eq_some hf)), ordF_mk H k]
theorem leftF_mk (H : ∀ r, r < 6 → ∀ a b, aftF ρ' r a b = aftF ρ r a b) : ∀ (k p m j : Nat) (a b o : Int), leftF ρ' k p m j a b o = leftF ρ k p m j a b o
  | 0, _, _, _, _, _, _ => rfl
  | k + 1, p, m, j, a, b, o => by
    simp only [leftF]
    refine foldl_congr _ fun o r hr => ?_
    rw [H r (rsOf_lt hr), leftF_mk H k]
theorem okT_mk {L : Nat} (hL : L ≤ 6) (h : ∀ r, r < 6 → ∀ q, q < 4 → ρ'.iv (10 + 6 * r + q) = ρ.iv (10 + 6 * r + q)) (hfi : ∀ f a b c, ¬ (3101 ≤ f ∧ f < 3105) → ρ'.fi f a b c = ρ.fi f a b c) (hfb : ρ'.fb = ρ.fb) (k : okT L ρ) : okT L ρ' := by
  have m64 : ∀ m, m < 2 ^ L → m < 64 := fun m hm => lt64 hL hm
  have H : ∀ r, r < 6 → ∀ a b, aftF ρ' r a b = aftF ρ r a b := fun r hr a b => aftF_mk h hr a b
  refine ⟨fun r hr => ⟨reelOk_mk h (by omega) (k.1 r hr).1, fun a b => ?_⟩, fun m hm => ?_⟩
  · rw [hfi 3001 _ _ _ (by omega), hfi 3002 _ _ _ (by omega), H r (by omega)]
    exact (k.1 r hr).2 a b
  · have := m64 m hm
    obtain ⟨h1, h2, h3⟩ := k.2 m hm
    exact ⟨fun a b => by rw [hfb, noneF_mk H]; exact h1 a b, fun j a b hj => by rw [hfi _ _ _ _ (by omega), ordF_mk H]; exact h2 j a b hj, fun K j a b o hK hj => by rw [hfi _ _ _ _ (by omega), leftF_mk H]; exact h3 K j a b o hK hj⟩
end
noncomputable def ckQ (L e : Nat) : Bool := lAll (fun q : Nat × Int × Int => (filmQ L).any fun q' => and (Nat.beq q'.1 (edN e q.1)) (and (decide (q'.2.1 = q.2.1)) (decide (q'.2.2 = q.2.2)))) (filmQ L)
noncomputable def varsLe (c : BE) : Nat × Nat := match c with
  | .cmp _ (.var i) (.var j) => (i, j)
  | _ => (0, 0)
noncomputable def ckC (L e : Nat) : Bool := lAll (fun c : BE => or (Nat.beq (edN e (varsLe c).1) (edN e (varsLe c).2)) ((filmC L).any fun c' => and (Nat.beq (varsLe c').1 (edN e (varsLe c).1)) (Nat.beq (varsLe c').2 (edN e (varsLe c).2)))) (filmC L)
theorem ckQC_all : lAll (fun L => and (and (ckQ L 0) (ckQ L 1)) (and (ckC L 0) (ckC L 1))) [1, 2, 3, 4, 5, 6] = true := by kernel_rfl
theorem ckQC {L : Nat} (h0 : 1 ≤ L) (hL : L ≤ 6) {e : Nat} (he : e < 2) : ckQ L e = true ∧ ckC L e = true := by
  have h := lAll_mem ckQC_all L (mem6 h0 hL)
  have h : and (and (ckQ L 0) (ckQ L 1)) (and (ckC L 0) (ckC L 1)) = true := h
  simp only [Bool.and_eq_true] at h
  rcases (by omega : e = 0 ∨ e = 1) with rfl | rfl
  · exact ⟨h.1.1, h.2.1⟩
  · exact ⟨h.1.2, h.2.2⟩
theorem ivC_of {ρ : Rho} : ∀ {l : List (Nat × Int × Int)}, (∀ q ∈ l, q.2.1 ≤ ρ.iv q.1 ∧ ρ.iv q.1 ≤ q.2.2) → ∀ c ∈ ivC l, c.den ρ = true
  | [], _, c, hc => by cases hc
  | a :: l, h, c, hc => by
    have ha := h a List.mem_cons_self
    simp only [ivC, List.mem_cons] at hc
    rcases hc with rfl | rfl | hc
    · exact BE.t_leq.2 ha.1
    · exact BE.t_leq.2 ha.2
    · exact ivC_of (fun q hq => h q (List.mem_cons_of_mem _ hq)) c hc
theorem filmQ_lt {L : Nat} (hL : L ≤ 6) : ∀ q ∈ filmQ L, q.1 < 200 := by
  intro q hq
  have key : ∀ (l : List Nat), (∀ r ∈ l, r < 6) → q ∈ (@List.rec Nat (fun _ => List (Nat × Int × Int)) [] (fun r _ ih => (10 + 6 * r, 0, 99) :: (11 + 6 * r, 0, 99) :: (12 + 6 * r, 0, 99) :: (13 + 6 * r, 0, 99) :: (14 + 6 * r, 1, 1200) :: (15 + 6 * r, 1, 1200) :: ih) l) → q.1 < 200 := by
    intro l
    induction l with
    | nil => intro _ h; cases h
    | cons a l ih =>
      intro h hm
      have ha := h a List.mem_cons_self
      simp only [List.mem_cons] at hm
      rcases hm with rfl | rfl | rfl | rfl | rfl | rfl | hm
      · simp only; omega
      · simp only; omega
      · simp only; omega
      · simp only; omega
      · simp only; omega
      · simp only; omega
      · exact ih (fun r hr => h r (List.mem_cons_of_mem _ hr)) hm
  simp only [filmQ, List.mem_cons] at hq
  rcases hq with rfl | rfl | rfl | rfl | rfl | hq
  · simp only; omega
  · simp only; omega
  · simp only; omega
  · simp only; omega
  · simp only; omega
  · exact key _ (fun r hr => by have := upN_lt _ _ _ hr; omega) hq
theorem filmC_lt {L : Nat} (hL : L ≤ 6) : ∀ c ∈ filmC L, ∃ i j, c = leV i j ∧ i < 200 ∧ j < 200 := by
  intro c hc
  have key : ∀ (l : List Nat), (∀ r ∈ l, r < 6) → c ∈ (@List.rec Nat (fun _ => List BE) [] (fun r _ ih => leV (10 + 6 * r) (11 + 6 * r) :: leV (12 + 6 * r) (13 + 6 * r) :: leV (14 + 6 * r) (15 + 6 * r) :: leV (10 + 6 * r) (13 + 6 * r) :: ih) l) → ∃ i j, c = leV i j ∧ i < 200 ∧ j < 200 := by
    intro l
    induction l with
    | nil => intro _ h; cases h
    | cons a l ih =>
      intro h hm
      have ha := h a List.mem_cons_self
      simp only [List.mem_cons] at hm
      rcases hm with rfl | rfl | rfl | rfl | hm
      · exact ⟨_, _, rfl, by omega, by omega⟩
      · exact ⟨_, _, rfl, by omega, by omega⟩
      · exact ⟨_, _, rfl, by omega, by omega⟩
      · exact ⟨_, _, rfl, by omega, by omega⟩
      · exact ih (fun r hr => h r (List.mem_cons_of_mem _ hr)) hm
  simp only [filmC, List.mem_cons] at hc
  rcases hc with rfl | rfl | hc
  · exact ⟨0, 1, rfl, by omega, by omega⟩
  · exact ⟨2, 3, rfl, by omega, by omega⟩
  · exact key _ (fun r hr => by have := upN_lt _ _ _ hr; omega) hc
section
variable {L : Nat} (h0 : 1 ≤ L) (hL : L ≤ 6) {e : Nat} (he : e < 2) {ρ ρ' : Rho} (E : EdOk e ρ ρ')
include h0 hL he E
theorem ed_film (h : okFilm L ρ) : okFilm L ρ' := by
  obtain ⟨k1, k2⟩ := ckQC h0 hL he
  have q := ivC_in h.1
  refine ⟨ivC_of fun a ha => ?_, fun c hc => ?_⟩
  · have k := lAll_mem (show lAll _ (filmQ L) = true from k1) a ha
    obtain ⟨b, hb, hc⟩ := List.any_eq_true.1 k
    simp only [Bool.and_eq_true, decide_eq_true_eq] at hc
    obtain ⟨c1, c2, c3⟩ := hc
    have := q b hb
    rw [beq_t.1 c1, c2, c3] at this
    rw [E.iv _ (filmQ_lt hL a ha)]; exact this
  · have k := lAll_mem (show lAll _ (filmC L) = true from k2) c hc
    obtain ⟨i, j, rfl, hi, hj⟩ := filmC_lt hL c hc
    have k : or (Nat.beq (edN e i) (edN e j)) ((filmC L).any fun c' => and (Nat.beq (varsLe c').1 (edN e i)) (Nat.beq (varsLe c').2 (edN e j))) = true := k
    rw [Bool.or_eq_true] at k
    unfold leV
    rw [BE.t_leq, IE.den_var, IE.den_var, E.iv i hi, E.iv j hj]
    rcases k with k | k
    · rw [beq_t.1 k]; exact Int.le_refl _
    · obtain ⟨c', hc', k⟩ := List.any_eq_true.1 k
      obtain ⟨i', j', rfl, _, _⟩ := filmC_lt hL c' hc'
      rw [Bool.and_eq_true] at k
      have k1 : i' = edN e i := beq_t.1 k.1
      have k2 : j' = edN e j := beq_t.1 k.2
      have := BE.t_leq.1 (h.2 _ hc')
      rw [IE.den_var, IE.den_var, k1, k2] at this
      exact this
omit h0 hL in
theorem ed_book (hb : okBook ρ) : okBook ρ' := by
  obtain ⟨h1, h2⟩ := hb
  have f0 := E.iv 60 (by omega); have f1 := E.iv 61 (by omega); have f2 := E.iv 62 (by omega); have f3 := E.iv 63 (by omega); have f4 := E.iv 64 (by omega); have f5 := E.iv 65 (by omega)
  rcases (by omega : e = 0 ∨ e = 1) with rfl | rfl
  · have e0 : ρ'.iv 60 = ρ.iv 60 := f0
    have e1 : ρ'.iv 61 = ρ.iv 61 := f1
    have e2 : ρ'.iv 62 = ρ.iv 61 := f2
    have e3 : ρ'.iv 63 = ρ.iv 63 := f3
    have e4 : ρ'.iv 64 = ρ.iv 63 := f4
    have e5 : ρ'.iv 65 = ρ.iv 65 := f5
    refine ⟨?_, ?_⟩
    · simp only [bookQ, ivC, List.forall_mem_cons, BE.t_leq, IE.den_lit, IE.den_var, List.not_mem_nil, false_implies, implies_true, and_true] at h1 ⊢
      omega
    · simp only [bookLe, leV, List.forall_mem_cons, BE.t_leq, IE.den_var, List.not_mem_nil, false_implies, implies_true, and_true] at h2 ⊢
      omega
  · have e0 : ρ'.iv 60 = ρ.iv 60 := f0
    have e1 : ρ'.iv 61 = ρ.iv 62 := f1
    have e2 : ρ'.iv 62 = ρ.iv 62 := f2
    have e3 : ρ'.iv 63 = ρ.iv 64 := f3
    have e4 : ρ'.iv 64 = ρ.iv 64 := f4
    have e5 : ρ'.iv 65 = ρ.iv 65 := f5
    refine ⟨?_, ?_⟩
    · simp only [bookQ, ivC, List.forall_mem_cons, BE.t_leq, IE.den_lit, IE.den_var, List.not_mem_nil, false_implies, implies_true, and_true] at h1 ⊢
      omega
    · simp only [bookLe, leV, List.forall_mem_cons, BE.t_leq, IE.den_var, List.not_mem_nil, false_implies, implies_true, and_true] at h2 ⊢
      omega
theorem ed_BN (h : okBN L ρ) : okBN L ρ' := by
  obtain ⟨⟨t1, t2, t3, t4⟩, t5, t6⟩ := h
  have hT := okT_mk hL (fun r hr q hq => by rw [E.iv _ (by omega), edN_mark hr hq]) E.fi E.fb t1
  refine ⟨⟨hT, ed_film h0 hL he E t2, ?_, ed_book he E t4⟩, fun j t hj ht => ?_, fun r i hr hi => ?_⟩
  · rw [← t3]
    unfold noneB noneE
    simp only [BE.den, FB, IE.den, E.fb]
  · have eo : (oB L j).den ρ' = (oB L j).den ρ := oB_rho (L := L) (fun f a b c hf => E.fi f a b c hf) (j := j)
    have ho := oB_in h0 hL t1 hj
    rw [eo]
    have k := t5 j t hj ht
    generalize hoo : ((oB L j).den ρ).toNat = o at *
    have ho6 : o < 6 := by omega
    have i1 : ρ'.iv (100 + 4 * j + 2 * t) = ρ.iv (100 + 4 * j + 2 * t + e) := by rw [E.iv _ (by omega)]; exact congrArg ρ.iv (edN_last (q := 0) (by omega) ht (by omega))
    have i2 : ρ'.iv (101 + 4 * j + 2 * t) = ρ.iv (100 + 4 * j + 2 * t + e) := by rw [E.iv _ (by omega), show 101 + 4 * j + 2 * t = 100 + 4 * j + 2 * t + 1 by omega, edN_last (by omega) ht (by omega)]
    have i60 : ρ'.iv 60 = ρ.iv 60 := by rw [E.iv 60 (by omega)]; rfl
    have f1 : ρ'.iv (14 + 6 * o) = ρ.iv (14 + 6 * o + e) := by rw [E.iv _ (by omega)]; exact congrArg ρ.iv (edN_feet (q := 0) ho6 (by omega))
    have f2 : ρ'.iv (15 + 6 * o) = ρ.iv (14 + 6 * o + e) := by rw [E.iv _ (by omega), show 15 + 6 * o = 14 + 6 * o + 1 by omega, edN_feet ho6 (by omega)]
    have g0 : ρ'.iv 0 = ρ.iv e := E.iv 0 (by omega)
    have g1 : ρ'.iv 1 = ρ.iv e := E.iv 1 (by omega)
    have g2 : ρ'.iv 2 = ρ.iv (3 - e) := E.iv 2 (by omega)
    have g3 : ρ'.iv 3 = ρ.iv (3 - e) := E.iv 3 (by omega)
    have lo : loZ ρ' o (ρ'.iv 60 + t) = max 0 (ρ.iv (14 + 6 * o + e) - (ρ.iv 60 + t) * ρ.iv (3 - e)) * ρ.iv e := by unfold loZ; rw [f1, g3, g0, i60]
    have hi : hiZ ρ' o (ρ'.iv 60 + t) = max 0 (ρ.iv (14 + 6 * o + e) - (ρ.iv 60 + t) * ρ.iv (3 - e)) * ρ.iv e := by unfold hiZ; rw [f2, g2, g1, i60]
    rw [i1, i2, lo, hi]
    have res : ρ.iv (100 + 4 * j + 2 * t + e) = max 0 (ρ.iv (14 + 6 * o + e) - (ρ.iv 60 + t) * ρ.iv (3 - e)) * ρ.iv e := by
      rcases (by omega : e = 0 ∨ e = 1) with rfl | rfl
      · exact k.1
      · rw [show 100 + 4 * j + 2 * t + 1 = 101 + 4 * j + 2 * t by omega, k.2]
        unfold hiZ
        rw [show 14 + 6 * o + 1 = 15 + 6 * o by omega]
    exact ⟨res, res⟩
  · rw [E.fm i r _ _ hi, E.iv _ (by omega)]
end
theorem ed_PB {L : Nat} (h0 : 1 ≤ L) (hL : L ≤ 6) {plan : List Nat} (hp : plan ∈ plansL L) {e : Nat} (he : e < 2) {ρ : Rho} (h : okPB L plan ρ) : okPB L plan (rho3 plan (rhoE e ρ)) := by
  refine ⟨ed_BN h0 hL he edOk_rho h.1, okP_of h0 hL hp fun p hpp => ?_⟩
  have c := h.2.carry (.cmp .leq (.lit (Int.ofNat p)) (.var 65)) (by unfold carryC; rw [lMap_eq]; exact List.mem_map.2 ⟨p, hpp, rfl⟩)
  rw [BE.t_leq, IE.den_lit, IE.den_var] at c
  have e65 : (rhoE e ρ).iv 65 = ρ.iv 65 := rfl
  rw [e65]; exact c
end Go.Sx
