/- RlT -/
import Derived.Test.YtpdednocbpoikaaDoorRlA
import Derived.Test.YtpdednocbpoikaaDoorSxGraft
namespace Go.Sx
open Go.RowKit Go.Proofs
set_option maxRecDepth 100000
noncomputable def vi (n : Nat) : AV := .int .i64 (.var n)
noncomputable def heapU (n b i : Nat) (ks : List Bool) : Heap := (⟨.nil, n⟩ : Heap).put b (.ucells i ks)
theorem heapU_get {n b i : Nat} {ks : List Bool} {j : Nat} {o : AObj} (h : (heapU n b i ks).get j = some o) : j = b ∧ o = .ucells i ks := by
  unfold heapU at h
  rw [Heap.get_put] at h
  split at h
  · rename_i e; cases h; exact ⟨e, rfl⟩
  · have : (PT.get PT.nil j : Option AObj) = some o := h
    rw [PT.get_nil] at this; cases this
theorem heapU_ok {p : Par} {E : Env} {w : World} {n b i c x : Nat} {ks : List Bool} {cells : Array Value} {el : Nat} {fz : Nat × Nat} (hs : E.σ b = some (c, x)) (hcell : w.heap[c]? = some (.cells cells el fz))
    (hc : ∀ (m off : Nat) (k : Bool), (m : Int) < E.ρ.iv i → ks[off]? = some k → cells[x + m * ks.length + off]? = some (cellOf E.ρ i m off k))
    (hf : ∀ j, n ≤ j → E.σ j = none) (hg : ∀ j, j < 1000 → E.σ j = some (j, 0)) (hn : E.n ≤ n) (hok : p.okB E.ρ (Base.of w)) : HeapOk p E (heapU n b i ks) (Base.of w) w := by
  have hlt : c < w.heap.size := (Array.getElem?_eq_some_iff.1 hcell).1
  refine ⟨fun j o e => ?_, fun j j' o o' c x y h1 h2 w1 => ?_, fun j o c x e ow => ?_, fun j o c y e _ s => ?_, hf, fun j o c x e s => ?_, hg, Kept.refl _ _, hn, hok⟩
  · obtain ⟨rfl, rfl⟩ := heapU_get e
    exact ⟨c, x, cells, el, fz, hs, hcell, hc⟩
  · obtain ⟨rfl, rfl⟩ := heapU_get h1; cases w1
  · obtain ⟨rfl, rfl⟩ := heapU_get e; cases ow
  · obtain ⟨rfl, rfl⟩ := heapU_get e; rw [hs] at s; cases s; exact hlt
  · obtain ⟨rfl, rfl⟩ := heapU_get e; rw [hs] at s; cases s; exact hlt
noncomputable def big : IE := .lit 9223372036854775807
noncomputable def turnC : CSpec := ⟨11, [vi 80, vi 81], [], 2000, [.cmp .leq (.var 81) big], .ret (.int .i64 (.app 6 (.var 80) (.var 81) (.lit 0)))⟩
noncomputable def turnRun : T (AV × Heap) := evalN tb0 10 false 11 [vi 80, vi 81] (viewHeap 2000 [])
noncomputable def remE : IE := .bin .rem .i64 (.var 80) (.var 81)
noncomputable def turnT : T AV := .br (.cmp .lss (.var 81) (.lit 1)) (.ret (.int .i64 (.lit 0))) (.br (.cmp .neq (.var 81) (.lit 0)) (.br (.cmp .lss remE (.lit 0)) (.ret (.int .i64 (.bin .add .i64 remE (.var 81)))) (.ret (.int .i64 remE))) (.fail 10))
theorem turn_run : (turnRun.bind fun r => .ret r.1) = turnT := by kernel_rfl
theorem turn_den {n m : Int} (h1 : ¬ m < 1) (hm : m ≤ 9223372036854775807) : (n.tmod m < 0 → IntKind.i64.wrap (n.tmod m + m) = turnF n m) ∧ (¬ n.tmod m < 0 → n.tmod m = turnF n m) := by
  have e1 := Int.emod_nonneg n (show m ≠ 0 by omega)
  have e2 := Int.emod_lt_of_pos n (show 0 < m by omega)
  have e3 : n.tmod m = n % m ∨ n.tmod m = n % m - m ∧ n % m ≠ 0 := by
    rw [Int.tmod_eq_emod]
    split
    · left; omega
    · rename_i hh
      right
      refine ⟨by omega, fun h0 => hh (.inr (Int.dvd_of_emod_eq_zero h0))⟩
  unfold turnF
  rw [if_neg h1]
  generalize n % m = r at *
  generalize n.tmod m = t at *
  constructor
  · intro h
    rw [IntWalk.i64_in _ (by omega)]; omega
  · intro h; omega
theorem turn_orc {p : Par} (hP : pT.P = p.P) {args : List AV} {h : Heap} {t : T (AV × Heap)} (ho : turnC.orc args h = some t) : CallOk p 11 args h t := by
  refine CSpec.okS (c := turnC) (p0 := pT) (eval_ok tabs0 10 11 [vi 80, vi 81] _) (fun ρ hd P hP => ?_) (Nat.le_of_ble_eq_true rfl) ho hP
  have hd := hd _ List.mem_cons_self
  rw [BE.t_leq] at hd
  have hd : ρ.iv 81 ≤ 9223372036854775807 := hd
  have hP : P (.int .i64 (.app 6 (.var 80) (.var 81) (.lit 0))) := hP
  show ((turnRun.bind fun r => .ret r.1) : T AV).Holds ρ _
  rw [turn_run]
  have hden : (IE.app 6 (.var 80) (.var 81) (.lit 0)).den ρ = turnF (ρ.iv 80) (ρ.iv 81) := rfl
  have fin : ∀ e : IE, e.den ρ = turnF (ρ.iv 80) (ρ.iv 81) → ∃ b, P b ∧ pureAV b = true ∧ SameE ρ (.int .i64 e) b := fun e he =>
    ⟨_, hP, rfl, by intro E hE; simp only [conc, hE]; rw [he, hden]⟩
  unfold turnT
  simp only [T.Holds]
  split
  · rename_i h1
    rw [BE.t_lss] at h1
    refine fin _ ?_
    have h1 : ρ.iv 81 < 1 := h1
    unfold turnF; rw [if_pos h1]; rfl
  · rename_i h1
    rw [BE.t_lss] at h1
    have h1 : ¬ ρ.iv 81 < 1 := h1
    obtain ⟨d1, d2⟩ := turn_den (n := ρ.iv 80) h1 hd
    split
    · split
      · rename_i h2
        rw [BE.t_lss] at h2
        exact fin _ (d1 h2)
      · rename_i h2
        rw [BE.t_lss] at h2
        exact fin _ (d2 h2)
    · rename_i h3
      refine absurd ?_ h3
      show (ρ.iv 81 != 0) = true
      simp only [bne_iff_ne, ne_eq]; omega
def okPick (ρ : Rho) (m : Nat → Obj → Prop) : Prop := ∃ (b : Option Addr) (len cap : Nat), ρ.ov 96 = .slice b len cap ∧ ρ.iv 96 = (len : Int) ∧ (len : Int) ≤ 9223372036854775807 ∧ len ≤ cap ∧
  (∀ n, ρ.fi 1000 n 0 0 = if len = 0 then 0 else ρ.fi 1001 (turnF n len) 0 0) ∧
  (0 < len → ∃ c x cells el fz, b = some ⟨c, x, none⟩ ∧ m c (.cells cells el fz) ∧ ∀ j : Nat, j < len → cells[x + j]? = some (.int .i64 (ρ.fi 1001 j 0 0)))
noncomputable def orcTn (f : FuncId) (args : List AV) (h : Heap) : Option (T (AV × Heap)) := cond (Nat.beq f 11) (turnC.orc args h) none
noncomputable def tbTn : Tabs := ⟨Sx.Tryd.ft.get, lFind Sx.Tryd.rt, 2000, orcTn⟩
theorem tabsTn : TabOk pT Sx.Tryd.tt.get tbTn := Tryd.tab orcTn (fun f args h t e => by
  unfold orcTn at e
  obtain ⟨h1, h2⟩ := cond_some e
  have := beq_t.1 h1; subst this
  exact turn_orc rfl h2) 2000
noncomputable def pickRun : T (AV × Heap) := evalN tbTn 10 false 31 [.sliceV 1001 1, vi 80] (heapU 2000 1001 1 [false])
noncomputable def turnE : IE := .app 6 (.var 80) (.var 1) (.lit 0)
noncomputable def pickT : T AV := .br (.cmp .eql (.var 1) (.lit 0)) (.ret (.int .i64 (.lit 0))) (.br (.cmp .leq (.var 1) big)
  (.br (.and (.cmp .leq (.lit 0) turnE) (.cmp .lss turnE (.var 1))) (.ret (.int .i64 (.app 1001 turnE (.lit 0) (.lit 0)))) (.fail 18)) (.fail 99))
theorem pick_run : (pickRun.bind fun r => .ret r.1) = pickT := by kernel_rfl
noncomputable def pick0Run : T (AV × Heap) := evalN tbTn 10 false 31 [.sliceU 96, vi 80] (viewHeap 2000 [])
noncomputable def turn0E : IE := .app 6 (.var 80) (.var 96) (.lit 0)
noncomputable def pick0T : T AV := .br (.cmp .eql (.var 96) (.lit 0)) (.ret (.int .i64 (.lit 0))) (.br (.cmp .leq (.var 96) big) (.br (.and (.cmp .leq (.lit 0) turn0E) (.cmp .lss turn0E (.lit (Int.ofNat 0)))) (.fail 18) (.fail 18)) (.fail 99))
theorem pick0_run : (pick0Run.bind fun r => .ret r.1) = pick0T := by kernel_rfl
theorem made {f : FuncId} {args : List AV} {h : Heap} {run : T (AV × Heap)} (hc : CallOk pT f args h run) {E : Env} {w : World} {vs : List Value} (HS : HeapOk pT E h (Base.of w) w) (ha : concL E args = some vs) {V : AV → Prop}
    (hrun : (run.bind fun r => T.ret r.1).Holds E.ρ V) : (callFunc f vs.toArray).run pT.P w = .ok (.enter f vs.toArray) w ∧ Calls pT.P f vs.toArray w fun e w' => ∃ v cv E2, e = .returned cv ∧ V v ∧ E2.ρ = E.ρ ∧ conc E2 v = some cv ∧ Below w.heap.size w w' := by
  rw [T.holds_bind] at hrun
  obtain ⟨r1, r2⟩ := hc vs E (Base.of w) w (fun r => V r.1) (fun cv w' => ∃ v E2, V v ∧ E2.ρ = E.ρ ∧ conc E2 v = some cv ∧ Below w.heap.size w w') hrun HS ha
    (fun v h' E2 w' cv q hle HH' hv => ⟨v, E2, q, hle.ρ, hv, Base.keeps_below HH'.below⟩)
  refine ⟨r1, r2.mono ?_⟩
  rintro e w' ⟨cv, rfl, v, E2, q, hρ, hv, hb⟩
  exact ⟨v, cv, E2, rfl, q, hρ, hv, hb⟩
noncomputable def pickOrc (args : List AV) (h : Heap) : Option (T (AV × Heap)) :=
  match args with
  | [.sliceU i, .int .i64 e] => cond (Nat.beq i 96) (some (.ret (.int .i64 (.app 1000 e (.lit 0) (.lit 0)), h))) none
  | _ => none
theorem pick_orc {p : Par} (hP : pT.P = p.P) (hok : ∀ ρ m, p.ok ρ m → okPick ρ m) {args : List AV} {h : Heap} {t : T (AV × Heap)} (ho : pickOrc args h = some t) : CallOk p 31 args h t := by
  unfold pickOrc at ho
  split at ho
  · rename_i i e
    obtain ⟨hi, ho⟩ := cond_some ho
    have := beq_t.1 hi; subst this
    cases ho
    refine callOk_of fun vs E w0 w Q HH ha k => ?_
    obtain ⟨m, hm, hmh⟩ := HH.ok
    obtain ⟨b, len, cap, h1, h2, h3, h4, h5, h6⟩ := hok _ _ hm
    have hvs : vs = [.slice b len cap, .int .i64 (e.den E.ρ)] := by
      simp only [concL, conc, h1, h2, if_true, Option.some.injEq] at ha
      exact ha.symm
    subst hvs
    let ρ' : Rho := ⟨fun j => if j = 1 then (len : Int) else if j = 80 then e.den E.ρ else E.ρ.iv j, E.ρ.bv, E.ρ.fi, E.ρ.fb, E.ρ.ov⟩
    have hfin : ∀ {f' : FuncId} {z : Int} {u : Value}, u = .int .i64 z → z = E.ρ.fi 1000 (e.den E.ρ) 0 0 → conc E (.int .i64 (.app 1000 e (.lit 0) (.lit 0))) = some u := by
      intro _ z u hu hz
      rw [hu, hz]
      simp only [conc, IE.den, FI]
      rw [if_pos (show 1000 ≤ 1000 from Nat.le_refl _)]
    rw [← hP]
    rcases Nat.eq_zero_or_pos len with hz | hpos
    · let E' : Env := ⟨ρ', fun x => if x < 1000 then some (x, 0) else none, E.κ, 2000, fun _ => #[]⟩
      have HS : HeapOk pT E' (viewHeap 2000 []) (Base.of w) w := view_ok (fun g hg => (List.not_mem_nil hg).elim)
        (fun x hx => by simp only [E']; rw [if_neg (by omega)]) (fun x hx => by simp only [E', if_pos hx]) (Nat.le_refl _) (Par.okB_all (fun _ _ => trivial) _ _)
      have ha' : concL E' [.sliceU 96, vi 80] = some [.slice b len cap, .int .i64 (e.den E.ρ)] := by
        have e1 : E'.ρ.ov 96 = .slice b len cap := h1
        have e2 : E'.ρ.iv 96 = (len : Int) := h2
        simp only [concL, conc, vi, e1, e2, if_true]
        rfl
      obtain ⟨r1, r2⟩ := made (eval_ok tabsTn 10 31 _ _) HS ha' (V := fun v => v = .int .i64 (.lit 0)) (by
        show ((pick0Run.bind fun r => T.ret r.1) : T AV).Holds E'.ρ _
        rw [pick0_run]
        have : (BE.cmp .eql (.var 96) (.lit 0)).den E'.ρ = true := by
          show (E'.ρ.iv 96 == 0) = true
          have e2 : E'.ρ.iv 96 = (len : Int) := h2
          rw [e2, hz]; rfl
        unfold pick0T
        simp only [T.Holds]
        rw [if_pos this]; trivial)
      refine ⟨r1, r2.mono ?_⟩
      rintro ex w' ⟨v, cv, E2, rfl, rfl, _, hv, hb⟩
      refine ⟨_, cv, rfl, k, ?_, hb⟩
      simp only [conc, IE.den, Option.some.injEq] at hv
      exact hfin (f' := 0) hv.symm (by rw [h5, if_pos hz])
    · obtain ⟨c, x, cells, el, fz, rfl, hc, hcells⟩ := h6 hpos
      have hw : w.heap[c]? = some (.cells cells el fz) := Base.Keeps.has HH.below (hmh _ _ hc)
      let E' : Env := ⟨ρ', fun y => if y < 1000 then some (y, 0) else if y = 1001 then some (c, x) else none, fun _ => cap, 2000, fun _ => #[]⟩
      have i1 : E'.ρ.iv 1 = (len : Int) := rfl
      have i80 : E'.ρ.iv 80 = e.den E.ρ := rfl
      have HS : HeapOk pT E' (heapU 2000 1001 1 [false]) (Base.of w) w := heapU_ok (c := c) (x := x) rfl hw
        (fun n off kk hn hk => by
          rw [i1] at hn
          have h0 : off = 0 ∧ kk = false := by
            cases off with
            | zero => cases hk; exact ⟨rfl, rfl⟩
            | succ o => cases hk
          obtain ⟨rfl, rfl⟩ := h0
          have := hcells n (by omega)
          simp only [List.length_singleton, Nat.mul_one, Nat.add_zero]
          rw [this]; rfl)
        (fun y hy => by simp only [E']; rw [if_neg (by omega), if_neg (by omega)]) (fun y hy => by simp only [E', if_pos hy]) (Nat.le_refl _) (Par.okB_all (fun _ _ => trivial) _ _)
      have ha' : concL E' [.sliceV 1001 1, vi 80] = some [.slice (some ⟨c, x, none⟩) len cap, .int .i64 (e.den E.ρ)] := by
        have hle : (0 : Int) ≤ E'.ρ.iv 1 ∧ E'.ρ.iv 1 ≤ (E'.κ 1001 : Int) := by
          rw [i1]; exact ⟨by omega, by show (len : Int) ≤ (cap : Int); omega⟩
        simp only [concL, conc, vi, if_pos hle]
        rfl
      have ht : turnE.den E'.ρ = turnF (e.den E.ρ) len := rfl
      have tb : 0 ≤ turnF (e.den E.ρ) len ∧ turnF (e.den E.ρ) len < len := by
        unfold turnF
        rw [if_neg (by omega)]
        exact ⟨Int.emod_nonneg _ (by omega), Int.emod_lt_of_pos _ (by omega)⟩
      obtain ⟨r1, r2⟩ := made (eval_ok tabsTn 10 31 _ _) HS ha' (V := fun v => v = .int .i64 (.app 1001 turnE (.lit 0) (.lit 0))) (by
        show ((pickRun.bind fun r => T.ret r.1) : T AV).Holds E'.ρ _
        rw [pick_run]
        unfold pickT
        simp only [T.Holds]
        rw [if_neg (by show ¬ (E'.ρ.iv 1 == 0) = true; rw [i1]; simp only [beq_iff_eq]; omega)]
        rw [if_pos (by show decide (E'.ρ.iv 1 ≤ 9223372036854775807) = true; rw [i1]; exact decide_eq_true h3)]
        rw [if_pos (by
          show (decide (0 ≤ turnE.den E'.ρ) && decide (turnE.den E'.ρ < E'.ρ.iv 1)) = true
          rw [ht, i1, decide_eq_true tb.1, decide_eq_true tb.2]; rfl)]; trivial)
      refine ⟨r1, r2.mono ?_⟩
      rintro ex w' ⟨v, cv, E2, rfl, rfl, hρ, hv, hb⟩
      refine ⟨_, cv, rfl, k, ?_, hb⟩
      have hv2 : Value.int .i64 ((IE.app 1001 turnE (.lit 0) (.lit 0)).den E2.ρ) = cv := by simpa only [conc, Option.some.injEq] using hv
      refine hfin (f' := 0) hv2.symm ?_
      rw [hρ, h5, if_neg (by omega)]
      show FI E'.ρ.fi 1001 (turnE.den E'.ρ) 0 0 = _
      unfold FI
      rw [if_pos (by omega), ht]
  · cases ho
end Go.Sx
