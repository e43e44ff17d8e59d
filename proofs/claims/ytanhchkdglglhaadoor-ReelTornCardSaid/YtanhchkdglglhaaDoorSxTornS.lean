/- THE LAW OF WHAT IS TORN OFF: for a valid film, one of its reels. -/
import Derived.Test.YtanhchkdglglhaaDoorSxTornQ
import Derived.Test.YtanhchkdglglhaaDoorSxTornRk
/-! THE LAW OF WHAT IS TORN OFF: for a valid film, one of its reels. -/
namespace Go.Sx
open Go.RowKit Go.Proofs
set_option maxRecDepth 100000
def okLaw (L k : Nat) (ρ : Rho) (m : Nat → Obj → Prop) : Prop := okPick ρ m ∧ ∀ cv ∈ namedL L k, (∀ d ∈ cv.1.cs, d.den ρ = true) ∧ ∃ b, cv.1.u.leaf ρ = some b ∧ SameE ρ cv.2 b
noncomputable def pLaw (L k : Nat) : Par := ⟨Tryd.prog, rcOf Tryd.rows, okLaw L k⟩
theorem rules0 (ρ : Rho) : RulesOk ρ [] := fun r hr => (List.not_mem_nil hr).elim
noncomputable def idsAt (c : CSpec) : Bool := and (idsLts c.nv c.args) (lAll (fun g : Nat × List AV => and (Nat.ble (g.1 + 1) c.nv) (idsLts c.nv g.2)) c.view)
noncomputable def idsCk (q : Nat × Nat × Nat) : Bool := lAll (fun cv : CSpec × AV => idsAt cv.1) (namedL q.1 q.2.1)
theorem ids_all : lAll idsCk lk21 = true := by kernel_rfl
theorem at_ok {L k : Nat} {c : CSpec} {v : AV} (hm : (c, v) ∈ namedL L k) {o : Option (T (AV × Heap))} (ho : ∀ t, o = some t → CallOk pT c.f c.args (viewHeap c.nv c.view) t) {q : List (Nat × Int × Int)} (hq : ∀ d ∈ ivC q, d ∈ c.cs) (hck : ckAt q c o = true) (hnv : 1000 ≤ c.nv) (hids : idsAt c = true)
    {args : List AV} {h : Heap} {t : T (AV × Heap)} (e : c.orcX v args h = some t) : CallOk (pLaw L k) c.f args h t := by
  unfold idsAt at hids
  simp only [Bool.and_eq_true] at hids
  refine CSpec.okX (p0 := pT) (p := pLaw L k) (got_ok ho) (fun ρ hd => ⟨[], knOf q c.cs, rules0 ρ, knOf_ok (fun d hc => hd d (hq d hc)) hd, hck⟩) hnv hids.1 hids.2 (fun ρ b hb => ?_) e
  obtain ⟨m, hm2, _⟩ := hb
  exact hm2.2 _ hm
theorem named_ok {q : Nat × Nat × Nat} (hq : q ∈ lk21) : ∀ cv ∈ namedL q.1 q.2.1, ∀ args h t, cv.1.orcX cv.2 args h = some t → CallOk (pLaw q.1 q.2.1) cv.1.f args h t := by
  have hck : namedCk q = true := named_all q hq
  have hids : idsCk q = true := lAll_mem ids_all q hq
  obtain ⟨L, k, mm⟩ := q
  simp only [namedCk, ckTurn, ckChoose, ckShows, Bool.and_eq_true] at hck
  obtain ⟨c1, c2, c3, c4, c5⟩ := hck
  intro cv hcv args h t e
  have hi : idsAt cv.1 = true := lAll_mem hids cv hcv
  have hcv' := hcv
  simp only [namedL, List.mem_cons, List.not_mem_nil, or_false] at hcv'
  rcases hcv' with rfl | rfl | rfl | rfl | rfl
  · exact at_ok hcv (fun t e => turn_orc rfl e) (q := []) (fun d hd => by simp [ivC] at hd) c1 (Nat.le_of_ble_eq_true rfl) hi e
  · exact at_ok hcv (fun t e => turn_orc rfl e) (q := []) (fun d hd => by simp [ivC] at hd) c2 (Nat.le_of_ble_eq_true rfl) hi e
  · exact at_ok hcv (fun t e => turn_orc rfl e) (q := []) (fun d hd => by simp [ivC] at hd) c3 (Nat.le_of_ble_eq_true rfl) hi e
  · exact at_ok hcv (fun t e => choose_orc rfl e) (q := []) (fun d hd => by simp [ivC] at hd) c4 (Nat.le_of_ble_eq_true rfl) hi e
  · exact at_ok hcv (fun t e => specs_orc hq (c := callV 32 L k (vi 90) (showsU k)) (by simp [specs]) e) (q := [(94, 0, 1199)]) (fun d hd => List.mem_append_right _ hd) c5 (Nat.le_of_ble_eq_true rfl) hi e
theorem namedOrc_ok {p : Par} {f : FuncId} {args : List AV} {h : Heap} {t : T (AV × Heap)} : ∀ (l : List (CSpec × AV)), (∀ cv ∈ l, ∀ t, cv.1.orcX cv.2 args h = some t → CallOk p cv.1.f args h t) → namedOrc f args h l = some t → CallOk p f args h t
  | [], _, e => by cases e
  | c :: l, H, e => by
    have e : cond (Nat.beq f c.1.f) (match c.1.orcX c.2 args h with
      | some t => some t
      | none => namedOrc f args h l) (namedOrc f args h l) = some t := e
    have ih := namedOrc_ok l (fun cv hcv => H cv (List.mem_cons_of_mem _ hcv)) (f := f) (t := t)
    cases hf : Nat.beq f c.1.f with
    | false => rw [hf] at e; exact ih e
    | true =>
      rw [hf, cond_true] at e
      have := beq_t.1 hf; subst this
      split at e
      · rename_i u hu; cases e; exact H c List.mem_cons_self _ hu
      · exact ih e
noncomputable def tornKk (q : Nat × Nat × Nat) : Bool :=
  and ((tornL q.1 q.2.1).sl.all (fun g => and (memN Sx.Tryd.kp11 (some g.1)) (idsLt (tornL q.1 q.2.1).nv g.2)))
    (and ((tornL q.1 q.2.1).vs.all (fun g => and (idsLts (tornL q.1 q.2.1).nv g.c) (and (idsLts (tornL q.1 q.2.1).nv g.cf) (and (Nat.ble (g.id + 1) (tornL q.1 q.2.1).nv) (or g.own.isNone (Nat.ble 1000 g.id))))))
      (vsUp 0 (tornL q.1 q.2.1).vs))
theorem torn_k : lAll tornKk lk21 = true := by kernel_rfl
section
variable {q : Nat × Nat × Nat} (hq : q ∈ lk21) (hturn : ∀ args h t, closedOrc glV args h = some t → CallOk pT 25 args h t)
include hq hturn
theorem orcLawT_ok : ∀ f args h t, orcLawT q.1 q.2.1 f args h = some t → CallOk (pLaw q.1 q.2.1) f args h t := by
  intro f args h t e
  unfold orcLawT at e
  cases h25 : Nat.beq f 25 with
  | true => rw [h25] at e; have := beq_t.1 h25; subst this; exact CallOk.lift (hturn _ _ _ e)
  | false =>
    rw [h25, cond_false] at e
    cases h54 : Nat.beq f 54 with
    | true => rw [h54] at e; have := beq_t.1 h54; subst this; exact pick_orc (p := pLaw q.1 q.2.1) rfl (fun _ _ h => h.1) e
    | false => rw [h54, cond_false] at e; exact namedOrc_ok _ (fun cv hcv t e => named_ok hq cv hcv args h t e) e
theorem tabsLawT : TabOk (pLaw q.1 q.2.1) Sx.Tryd.tt.get (tbLawT q.1 q.2.1) := Tryd.tab (orcLawT q.1 q.2.1) (orcLawT_ok hq hturn) 2000
theorem torn_code_ok : COk (pLaw q.1 q.2.1) Tryd.f11.ntmps Sx.Tryd.kp11 (tornCode ((tornL q.1 q.2.1).runF [96])) (bodyOf Tryd.f11) := by
  have B := tabsLawT hq hturn
  refine cCodeX_ok B.types B.mixed _ _ (torn_compiles _) (loopsOk_of _ fun a ha => ?_)
  have h1 : cCode Sx.Tryd.tt.get Tryd.f11.ntmps Sx.Tryd.kp11 11 a = some tornBody := by
    have := List.mem_map_of_mem (f := cCode Sx.Tryd.tt.get Tryd.f11.ntmps Sx.Tryd.kp11 11) ha
    rw [torn_loops] at this
    exact List.mem_singleton.1 this
  have h2 : ranges a = [] := by
    have := List.mem_map_of_mem (f := ranges) ha
    rw [torn_ranges] at this
    exact List.mem_singleton.1 this
  have hk : tornKk q = true := lAll_mem torn_k q hq
  simp only [tornKk, Bool.and_eq_true] at hk
  have BT := tabsTorn hq
  refine LSpec.cokG (pI := pTn) (p := pLaw q.1 q.2.1) rfl rfl (cCode_ok BT.types BT.mixed a tornBody h1 (rcOf_rng [] h2 (by simp))) _ hk.1 hk.2.1 hk.2.2 (Nat.le_of_ble_eq_true rfl) (cxTorn_ok hq) rfl (torn_loop hq) [96] ?_
  intro ρ ρ' m hok hfi hfb hfix
  obtain ⟨b, len, cap, h1, h2, h3, h4, h5, h6⟩ := hok.1
  obtain ⟨x1, x2⟩ := hfix 96 List.mem_cons_self
  refine ⟨b, len, cap, x1.trans h1, x2.trans h2, h3, h4, fun n => by rw [hfi]; exact h5 n, fun hl => ?_⟩
  obtain ⟨c, x, cells, el, fz, y1, y2, y3⟩ := h6 hl
  exact ⟨c, x, cells, el, fz, y1, y2, fun j hj => by rw [hfi]; exact y3 j hj⟩
theorem torn_call : CallOk (pLaw q.1 q.2.1) 11 (tornArgs q.1) (viewHeap 2000 (viewV q.1)) (tornTree q.1 q.2.1) :=
  bodyOf_ok (tabsLawT hq hturn).types (evalN_ok (tabsLawT hq hturn) 60) Tryd.func11 (by kernel_rfl) (by kernel_rfl) (torn_code_ok hq hturn) (by kernel_rfl) (by kernel_rfl) (by show 4 ≤ _; exact of_decide_eq_true (by kernel_rfl))
end
end Go.Sx
