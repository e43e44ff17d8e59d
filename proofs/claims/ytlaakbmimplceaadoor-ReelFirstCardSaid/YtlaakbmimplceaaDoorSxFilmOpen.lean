/- A FILM, OPENED. -/
import Derived.Test.YtlaakbmimplceaaDoorFiR
import Derived.Test.YtlaakbmimplceaaDoorFiTu
import Derived.Test.YtlaakbmimplceaaDoorFiA6
import Derived.Test.YtlaakbmimplceaaDoorFiA7
import Derived.Test.YtlaakbmimplceaaDoorFiW6
import Derived.Test.YtlaakbmimplceaaDoorSxMoved
import Derived.Test.YtlaakbmimplceaaDoorFiPe
import Derived.ProofKit
import Derived.LaidMore
import Derived.OpenShut
import Derived.Carry
import Derived.OpenVars
import Derived.Test.YtlaakbmimplceaaDoorSxView
import Derived.Test.YtlaakbmimplceaaDoorTabFn
import Derived.KernelRfl
/-! THE LAW OF THE FIRST ORDER holds of a valid film. -/
namespace Go.Sx
open Go.RowKit Go.Proofs
set_option maxRecDepth 100000
noncomputable def pW (L : Nat) : Par := ⟨Tryd.prog, rcOf Tryd.rows, fun ρ m => okW L ρ ∧ OkSh L ρ ∧ okPick ρ m⟩
theorem shuf_all {L : Nat} (h0 : 1 ≤ L) (hL : L ≤ 6) : shufCk L = true := by
  rcases six h0 hL with rfl | rfl | rfl | rfl | rfl | rfl
  · exact shuf1
  · exact shuf2
  · exact shuf3
  · exact shuf4
  · exact shuf5
  · exact shuf6
theorem lawCk_all {L : Nat} (h0 : 1 ≤ L) (hL : L ≤ 6) : lawCk L = true := by
  rcases six h0 hL with rfl | rfl | rfl | rfl | rfl | rfl
  · exact lawCk1
  · exact lawCk2
  · exact lawCk3
  · exact lawCk4
  · exact lawCk5
  · exact lawCk6
theorem okW_full {L : Nat} (h0 : 1 ≤ L) (hL : L ≤ 6) {ρ : Rho} (h : okW L ρ) : (nonE L).den ρ = true ∨ ∃ l ∈ permsM L (fullM L), (fstL L).map (IE.den ρ) = l.map Int.ofNat ∧ (BE.lit true).den ρ = chainF ρ l 0 100 := by
  cases hn : (nonE L).den ρ with
  | true => exact .inl rfl
  | false =>
    right
    rw [nonE_den h0 hL h.1.1] at hn
    obtain ⟨l, h1, h2, h3, _⟩ := ordF_first ρ L (fullM L) 0 100 hn
    refine ⟨l, h1, ?_, h3.symm⟩
    have hc := fullM_cnt h0 hL
    have := dens_ordL h.1.1 (fullM_lt (L := L)) (by omega) (.lit 0) (.lit 100)
    rw [hc] at this
    have len := permsM_len L _ l h1
    refine this.trans ?_
    show ((upN L 0).map fun j => (ordF ρ L (fullM L) 0 100).getD j 0) = _
    rw [h2]
    clear h1 h2 h3 this hn hc
    have key : ∀ (l : List Nat) (n : Nat), l.length = n → ((upN n 0).map fun j => (l.map Int.ofNat).getD j 0) = l.map Int.ofNat := by
      intro l
      induction l with
      | nil => intro n h; subst h; rfl
      | cons a l ih =>
        intro n h
        subst h
        simp only [List.length_cons, upN, List.map_cons, upN_map]
        rw [← ih l.length rfl]
        congr 1
        rw [ih l.length rfl]
        have := ih l.length rfl
        refine Eq.trans ?_ this
        rfl
    exact key l L len
theorem orcW_ok {L : Nat} (h0 : 1 ≤ L) (hL : L ≤ 6) : ∀ f args h t, orcW L f args h = some t → CallOk (pW L) f args h t := by
  intro f args h t e
  unfold orcW at e
  have dec : ∀ {n : Nat} {a b : Option (T (AV × Heap))}, cond (Nat.beq f n) a b = some t → (f = n ∧ a = some t) ∨ b = some t := fun {n a b} e => by
    cases hf : Nat.beq f n with
    | true => rw [hf, cond_true] at e; exact .inl ⟨beq_t.1 hf, e⟩
    | false => rw [hf, cond_false] at e; exact .inr e
  rcases dec e with ⟨rfl, e⟩ | e
  · exact CallOk.weak (fun _ _ _ => trivial) (turned_orc e)
  rcases dec e with ⟨rfl, e⟩ | e
  · exact pick_orc (p := pW L) rfl (fun ρ m h => h.2.2) e
  rcases dec e with ⟨rfl, e⟩ | e
  · exact shuf_ok hL (fun ρ m h => h.2.2) (fun ρ m h => h.2.1) (shuf_all h0 hL) e
  rcases dec e with ⟨rfl, e⟩ | e
  · exact smallOrc_ok (CallOk.weak (fun ρ m h => h.1.2.1) (sound_said h0 hL)) (by omega) rfl (viewK_ok h0 hL) e
  rcases dec e with ⟨rfl, e⟩ | e
  · exact smallOrc_ok (CallOk.weak (fun ρ m h => ⟨h.1.1.1, h.1.2.1⟩) (first_said h0 hL)) (by omega) rfl (viewK_ok h0 hL) e
  rcases dec e with ⟨rfl, e⟩ | e
  · exact smallOrc_ok (CallOk.weak (fun ρ m h => ⟨h.1.1, h.1.2.1⟩) (orders_said h0 hL)) (by omega) rfl (viewK_ok h0 hL) e
  rcases dec e with ⟨rfl, e⟩ | e
  · exact smallOrc_ok (CallOk.weak (fun ρ m h => ⟨h.1.1.1, h.1.2.1⟩) (strange_said h0 hL)) (by omega) rfl (viewK_ok h0 hL) e
  rcases dec e with ⟨rfl, e⟩ | e
  · exact smallOrc_ok (CallOk.weak (fun ρ m h => ⟨h.1.1.1, h.1.2.1⟩) (places_said h0 hL)) (by omega) rfl (viewK_ok h0 hL) e
  rcases dec e with ⟨rfl, e⟩ | e
  · split at e
    · rename_i u hu
      cases e
      refine smallOrc_ok (isOrder_said (.inr rfl) h0 hL (othL L) (.lit false) soE fun ρ m h => ⟨h.1.1.1, h.1.2.1, .inr ?_⟩) (by omega) (idsLts_argsI (.inr rfl)) (viewI_ok (.inr rfl) h0 hL _) hu
      exact h.1.2.2
    · exact smallOrc_ok (isOrder_said (.inl rfl) h0 hL (fstL L) (nonE L) (.lit true) fun ρ m h => ⟨h.1.1.1, h.1.2.1, okW_full h0 hL h.1⟩) (by omega) (idsLts_argsI (.inl rfl)) (viewI_ok (.inl rfl) h0 hL _) e
  · cases e
theorem tabsW {L : Nat} (h0 : 1 ≤ L) (hL : L ≤ 6) : TabOk (pW L) Sx.Tryd.tt.get (tbW L) := Tryd.tab (orcW L) (orcW_ok h0 hL) 2000
theorem law_holds {L : Nat} (h0 : 1 ≤ L) (hL : L ≤ 6) {ρ : Rho} (h : okW L ρ) : (only (lawRun L)).Holds ρ fun a => ∃ b : AV, b = .bool (.lit true) ∧ pureAV b = true ∧ SameE ρ a b := by
  have hu : (T.ret (AV.bool (.lit true))).Holds ρ (fun b => b = .bool (.lit true)) := rfl
  refine servesX_ok (lawR_ok h0 hL h) hu (only (lawRun L)) _ (knOf_ok h.2.1.1 fun c hc => ?_) (lawCk_all h0 hL)
  rcases List.mem_append.1 hc with hc | hc
  · exact h.2.1.2 c hc
  · exact singC_ok hL h.1.1 h.2.1 c hc
section
variable {E : Env} {w : World} {vs : List Value}
/-- THE LAW, of a valid film. -/
theorem first_valid {L : Nat} (h0 : 1 ≤ L) (hL : L ≤ 6) (hv : ∀ g ∈ viewV L, ViewIn w E g) (hf : ∀ b, 2000 ≤ b → E.σ b = none) (hg : ∀ b, b < 1000 → E.σ b = some (b, 0)) (hn : E.n ≤ 2000)
    (ha : concL E [filmV L, .sliceU 96] = some vs) (hok : (pW L).okB E.ρ (Base.of w)) : Calls Tryd.prog 4 vs.toArray w fun e w' => e = .returned (.bool true) ∧ Below w.heap.size w w' := by
  obtain ⟨m, hm, _⟩ := id hok
  have key := law_holds h0 hL hm.1
  unfold only at key
  rw [T.holds_bind] at key
  have HS : HeapOk (pW L) E (viewHeap 2000 (viewV L)) (Base.of w) w := view_ok hv hf hg hn hok
  obtain ⟨r1, r2⟩ := eval_ok (tabsW h0 hL) 60 4 [filmV L, .sliceU 96] (viewHeap 2000 (viewV L)) vs E (Base.of w) w _ (fun cv w' => cv = .bool true ∧ Below w.heap.size w w') key HS ha
    (fun v h' E2 w' cv hq2 hle HH' hv2 => by
      obtain ⟨b, rfl, _, hs⟩ := hq2
      refine ⟨?_, Base.keeps_below HH'.below⟩
      have := hs E2 hle.ρ
      rw [hv2] at this
      simpa [conc, BE.den] using this)
  refine r2.mono ?_
  rintro e w' ⟨cv, rfl, rfl, hb⟩
  exact ⟨rfl, hb⟩
end
end Go.Sx
/-! THE LAW OF THE FIRST ORDER: films that are not valid, lists of no reel or too many. -/
namespace Go.Sx
open Go.RowKit Go.Proofs
set_option maxRecDepth 100000
theorem ckI_all : lAll ckI [1, 2, 3, 4, 5, 6] = true := by kernel_rfl
noncomputable def orcTI (L : Nat) (f : FuncId) (args : List AV) (h : Heap) : Option (T (AV × Heap)) :=
  cond (Nat.beq f 8) (closedOrc glV args h) (cond (Nat.beq f 49) ((notFilm L).orc args h) none)
noncomputable def tbTI (L : Nat) : Tabs := ⟨Sx.Tryd.ft.get, lFind Sx.Tryd.rt, 2000, orcTI L⟩
noncomputable def lawTI (L : Nat) : Bool := allK isTrueK (evalN (tbTI L) 60 false 4 [filmV L, .sliceU 96] (viewHeap 2000 (viewV L))) ⟨.nil, [], [⟨conjC (csL L), false⟩]⟩
theorem lawTI_all : lAll lawTI [1, 2, 3, 4, 5, 6] = true := by kernel_rfl
/-- a list of no reel, or of too many -/
noncomputable def filmW (s : AV) : AV := .agg [s, vi 0, vi 1, vi 2, vi 3, vi 4]
noncomputable def orcTS (f : FuncId) (args : List AV) (h : Heap) : Option (T (AV × Heap)) := cond (Nat.beq f 8) (closedOrc glV args h) none
noncomputable def tbTS : Tabs := ⟨Sx.Tryd.ft.get, lFind Sx.Tryd.rt, 2000, orcTS⟩
noncomputable def lawTS (s : AV) (cs : List BE) : Bool := allK isTrueK (evalN tbTS 60 false 4 [filmW s, .sliceU 96] (viewHeap 2000 glV)) (knOf [] cs)
theorem lawTS_nil : lawTS .nilslice [] = true := by kernel_rfl
theorem lawTS_few : lawTS (.sliceU 95) [.cmp .leq (.var 95) (.lit 0)] = true := by kernel_rfl
theorem lawTS_many : lawTS (.sliceU 95) [.cmp .leq (.lit 7) (.var 95)] = true := by kernel_rfl

theorem conj_false {ρ : Rho} : ∀ (l : List BE), (conjC l).den ρ = true → ∀ c ∈ l, c.den ρ = true
  | [], _, c, hc => by cases hc
  | d :: l, h, c, hc => by
    simp only [conjC, BE.den, Bool.and_eq_true] at h
    rcases List.mem_cons.1 hc with rfl | hc
    · exact h.1
    · exact conj_false l h.2 c hc


theorem orcTI_ok {L : Nat} (hL : L ∈ [1, 2, 3, 4, 5, 6]) : ∀ f args h t, orcTI L f args h = some t → CallOk pT f args h t := by
  intro f args h t e
  have h1 : ckI L = true := lAll_mem ckI_all L hL
  unfold orcTI at e
  cases h25 : Nat.beq f 8 with
  | true => rw [h25] at e; have := beq_t.1 h25; subst this; exact turned_orc e
  | false =>
    rw [h25, cond_false] at e
    obtain ⟨h68, e⟩ := cond_some e
    have := beq_t.1 h68; subst this
    exact CSpec.ok (c := notFilm L) (eval_ok tabs0 60 49 (notFilm L).args _) h1 (Nat.le_of_ble_eq_true rfl) e
theorem orcTS_ok : ∀ f args h t, orcTS f args h = some t → CallOk pT f args h t := by
  intro f args h t e
  unfold orcTS at e
  obtain ⟨h25, e⟩ := cond_some e
  have := beq_t.1 h25; subst this
  exact turned_orc e
section
variable {E : Env} {w : World} {vs : List Value}
/-- a film that is not valid -/
theorem first_bad {L : Nat} (hL : L ∈ [1, 2, 3, 4, 5, 6]) (hv : ∀ g ∈ viewV L, ViewIn w E g) (hf : ∀ b, 2000 ≤ b → E.σ b = none) (hg : ∀ b, b < 1000 → E.σ b = some (b, 0)) (hn : E.n ≤ 2000)
    (ha : concL E ([filmV L, .sliceU 96]) = some vs) (hno : ¬ ∀ c ∈ csL L, c.den E.ρ = true) : Calls Tryd.prog 4 vs.toArray w fun e w' => e = .returned (.bool true) ∧ Below w.heap.size w w' := by
  have h1 : lawTI L = true := lAll_mem lawTI_all L hL
  have hc : (conjC (csL L)).den E.ρ = false := by
    cases h : (conjC (csL L)).den E.ρ with
    | false => rfl
    | true => exact absurd (conj_false _ h) hno
  have hK : KnOk E.ρ ⟨.nil, [], [⟨conjC (csL L), false⟩]⟩ := by
    refine ⟨fun i v h => ?_, fun f hf => (List.not_mem_nil hf).elim, fun a ha => ?_⟩
    · rw [PT.get_nil] at h; cases h
    · rcases List.mem_singleton.1 ha with rfl; exact hc
  exact law_view (Tryd.tab (orcTI L) (orcTI_ok hL) 2000) hv hf hg hn ha (allK_ok (fun K a H h => isTrueK_ok H h) _ _ hK h1) (Par.okB_all (fun _ _ => trivial) _ _)
/-- a list of no reel, or of too many -/
theorem first_short {s : AV} {cs : List BE} (h1 : lawTS s cs = true) (hv : ∀ g ∈ glV, ViewIn w E g) (hf : ∀ b, 2000 ≤ b → E.σ b = none) (hg : ∀ b, b < 1000 → E.σ b = some (b, 0)) (hn : E.n ≤ 2000)
    (ha : concL E [filmW s, .sliceU 96] = some vs) (hcs : ∀ c ∈ cs, c.den E.ρ = true) : Calls Tryd.prog 4 vs.toArray w fun e w' => e = .returned (.bool true) ∧ Below w.heap.size w w' := by
  have hK : KnOk E.ρ (knOf [] cs) := knOf_ok (fun c hc => by simp [ivC] at hc) hcs
  exact law_view (Tryd.tab orcTS orcTS_ok 2000) hv hf hg hn ha (allK_ok (fun K a H h => isTrueK_ok H h) _ _ hK h1) (Par.okB_all (fun _ _ => trivial) _ _)
end
end Go.Sx
/-! ORDERS THAT NUMBERS CHOOSE: what they depend on. -/
namespace Go.Sx
open Go.RowKit Go.Proofs
set_option maxRecDepth 100000
noncomputable def condsT {α : Type} (n : Nat) (t : T α) : Bool := @T.rec α (fun _ => Bool) (fun _ => true) (fun c _ _ x y => and (varsB n c) (and x y)) (fun _ => true) t
theorem condsT_leaf {α : Type} {n : Nat} {ρ ρ' : Rho} (h : ∀ i, i < n → ρ'.iv i = ρ.iv i) (hb : ρ'.bv = ρ.bv) (hf : ρ'.fi = ρ.fi ∧ ρ'.fb = ρ.fb) : ∀ t : T α, condsT n t = true → t.leaf ρ' = t.leaf ρ
  | .ret a, _ => rfl
  | .fail w, _ => rfl
  | .br c x y, k => by
    have k : and (varsB n c) (and (condsT n x) (condsT n y)) = true := k
    simp only [Bool.and_eq_true] at k
    simp only [T.leaf, varsB_den h hb hf c k.1, condsT_leaf h hb hf x k.2.1, condsT_leaf h hb hf y k.2.2]
theorem conds1 : condsT 110 (shufRun 1) = true := by kernel_rfl
theorem conds2 : condsT 110 (shufRun 2) = true := by kernel_rfl
theorem conds3 : condsT 110 (shufRun 3) = true := by kernel_rfl
theorem conds4 : condsT 110 (shufRun 4) = true := by kernel_rfl
theorem conds5 : condsT 110 (shufRun 5) = true := by kernel_rfl
theorem conds6 : condsT 110 (shufRun 6) = true := by kernel_rfl
end Go.Sx
/-! THE LAW OF THE FIRST ORDER, CALLED WITH WHATEVER CAN BE READ. -/
namespace Go.Sx
open Go.RowKit Go.Proofs
set_option maxRecDepth 100000
theorem cellsUp_vals (E : Env) (z : Nat → Int) : ∀ (k i : Nat), (∀ j, i ≤ j → j < i + k → E.ρ.iv j = z j) → concL E (cellsUp k i) = some ((List.range k).map fun q => .int .i64 (z (i + q)))
  | 0, i, _ => rfl
  | k + 1, i, h => by
    simp only [cellsUp, vi, concL, conc, IE.den]
    rw [h i (Nat.le_refl _) (by omega), cellsUp_vals E z k (i + 1) fun j h1 h2 => h j (by omega) (by omega)]
    simp only [List.range_succ_eq_map, List.map_cons, List.map_map, Nat.add_zero]
    congr 2
    apply List.map_congr_left
    intro q _
    simp only [Function.comp, Nat.succ_eq_add_one]
    rw [show i + 1 + q = i + (q + 1) by omega]
theorem conds_all {L : Nat} (h0 : 1 ≤ L) (hL : L ≤ 6) : condsT 110 (shufRun L) = true := by
  rcases six h0 hL with rfl | rfl | rfl | rfl | rfl | rfl
  · exact conds1
  · exact conds2
  · exact conds3
  · exact conds4
  · exact conds5
  · exact conds6
theorem order_ok {L : Nat} (h0 : 1 ≤ L) (hL : L ≤ 6) {ρ : Rho} (hS : OkSh L ρ) : permA L (orderOf L ρ) = true ∧ (orderOf L ρ).length = L := by
  have hold : (shufRun L).Holds ρ (fun r => ∃ K, shufQ L K r = true) := allW_ok (R := []) (Q := shufQ L) (rules_nil ρ) (fun K a _ h => ⟨K, h⟩) _ _ (knOf_ok (fun c hc => by simp [ivC] at hc) (turnBd_ok hS)) (shuf_all h0 hL)
  obtain ⟨r1, hleaf, K, hq⟩ := T.holds_leaf _ hold
  unfold shufQ at hq
  split at hq
  · rename_i q hB
    split at hq
    · rename_i l hl
      obtain ⟨b1, cs⟩ := q
      obtain ⟨_, _, _, e4⟩ := shufB_some hB
      have ho : orderOf L ρ = l := by unfold orderOf; rw [hleaf]; simp only [hB, hl]
      rw [ho]
      refine ⟨hq, ?_⟩
      have : ∀ (cs : List AV) (l : List Nat), litsA cs = some l → l.length = cs.length := by
        intro cs
        induction cs with
        | nil => intro l h; simp only [litsA, Option.some.injEq] at h; subst h; rfl
        | cons a cs ih =>
          intro l h
          simp only [litsA] at h
          split at h
          · rename_i n m h1 h2; cases h; simp [ih m h2]
          · cases h
      rw [this cs l hl]; exact e4
    · cases hq
  · cases hq
/-- what numbers pick of a list -/
def pickF (y : Nat → Int) (bl : Nat) (i : Int) : Int := if bl = 0 then 0 else y (turnF i bl).toNat
def fiR (y : Nat → Int) (bl : Nat) (f : Nat) (a _ _ : Int) : Int := if f = 1001 then y a.toNat else if f = 1000 then pickF y bl a else 0
/-- the numbers below 110 -/
def baseI (nf z : Nat → Int) (y : Nat → Int) (bl len : Nat) (j : Nat) : Int :=
  if j < 5 then nf j else if j < 60 then z (j - 10) else if j = 95 then len else if j = 96 then bl else if 100 ≤ j ∧ j < 106 then turnF (pickF y bl ((j - 100 : Nat) : Int)) ((j - 100 : Nat) + 1) else 0
/-- the numbers below 110, and the shuffled list -/
def ivW (b : Nat → Int) (l : List Nat) (so : Bool) (j : Nat) : Int := if j < 110 then b j else if j = 200 then (if so then 1 else 0) else ((l[j - 110]?).getD 0 : Nat)
noncomputable def rhoF (b : Nat → Int) (y : Nat → Int) (bl : Nat) (s bits : Value) : Rho := ⟨ivW b [] false, fun _ => false, fiR y bl, fun _ _ _ _ => false, fun j => if j = 95 then s else bits⟩
noncomputable def rhoW (b : Nat → Int) (y : Nat → Int) (bl : Nat) (s bits : Value) (l : List Nat) (so : Bool) : Rho := ⟨ivW b l so, fun _ => false, fiW (rhoF b y bl s bits), fbW (rhoF b y bl s bits), fun j => if j = 95 then s else bits⟩
def envL (ρ : Rho) (b o cap : Nat) : Env := ⟨ρ, fun x => if x < 1000 then some (x, 0) else if x = 1001 then some (b, o) else none, fun _ => cap, 2000, fun _ => #[]⟩
theorem filmV_ok {L : Nat} (h0 : 1 ≤ L) (hL : L ≤ 6) {ρ : Rho} (h : ∀ c ∈ csL L, c.den ρ = true) : okFilm L ρ ∧ ∀ r, r < L → reelOk ρ r := by
  have up : ∀ n b r, r < n → ∀ c ∈ reelC (b + 6 * r), c ∈ csUp n b := by
    intro n
    induction n with
    | zero => intro b r hr; omega
    | succ n ih =>
      intro b r hr c hc
      cases r with
      | zero => exact List.mem_append_left _ hc
      | succ r => exact List.mem_append_right _ (ih (b + 6) r (by omega) c (by rw [show b + 6 + 6 * r = b + 6 * (r + 1) by omega]; exact hc))
  have rest : ∀ n b, ∀ c ∈ restC, c ∈ csUp n b := by
    intro n
    induction n with
    | zero => intro b c hc; exact hc
    | succ n ih => intro b c hc; exact List.mem_append_right _ (ih _ c hc)
  have R : ∀ c ∈ restC, c.den ρ = true := fun c hc => h c (rest L 10 c hc)
  have U : ∀ r, r < L → ∀ c ∈ reelC (10 + 6 * r), c.den ρ = true := fun r hr c hc => h c (up L 10 r hr c hc)
  have le : ∀ {a b : IE}, (le2 a b).den ρ = true → a.den ρ ≤ b.den ρ := fun k => BE.t_leq.1 k
  have reel : ∀ r, r < L → 0 ≤ ρ.iv (10 + 6 * r) ∧ ρ.iv (10 + 6 * r) ≤ ρ.iv (11 + 6 * r) ∧ ρ.iv (11 + 6 * r) ≤ 99 ∧ 0 ≤ ρ.iv (12 + 6 * r) ∧ ρ.iv (12 + 6 * r) ≤ ρ.iv (13 + 6 * r) ∧ ρ.iv (13 + 6 * r) ≤ 99 ∧ 1 ≤ ρ.iv (14 + 6 * r) ∧ ρ.iv (14 + 6 * r) ≤ ρ.iv (15 + 6 * r) ∧ ρ.iv (15 + 6 * r) ≤ 1200 ∧ ρ.iv (10 + 6 * r) ≤ ρ.iv (13 + 6 * r) := fun r hr => by
    have u := U r hr
    simp only [reelC, List.forall_mem_cons, le2, BE.t_leq, IE.den_lit, IE.den_var] at u
    obtain ⟨u1, u2, u3, u4, u5, u6, u7, u8, u9, u10, _⟩ := u
    rw [show 10 + 6 * r + 1 = 11 + 6 * r by omega] at u2 u3
    rw [show 10 + 6 * r + 2 = 12 + 6 * r by omega] at u4 u5
    rw [show 10 + 6 * r + 3 = 13 + 6 * r by omega] at u5 u6 u10
    rw [show 10 + 6 * r + 4 = 14 + 6 * r by omega] at u7 u8
    rw [show 10 + 6 * r + 5 = 15 + 6 * r by omega] at u8 u9
    exact ⟨u1, u2, u3, u4, u5, u6, u7, u8, u9, u10⟩
  simp only [restC, List.forall_mem_cons, le2, BE.t_leq, IE.den_lit, IE.den_var] at R
  obtain ⟨r1, r2, r3, r4, r5, r6, r7, r8, _⟩ := R
  refine ⟨⟨?_, ?_⟩, fun r hr => ?_⟩
  · rcases six h0 hL with rfl | rfl | rfl | rfl | rfl | rfl
    all_goals
      have q0 := reel 0 (by omega)
      try have q1 := reel 1 (by omega)
      try have q2 := reel 2 (by omega)
      try have q3 := reel 3 (by omega)
      try have q4 := reel 4 (by omega)
      try have q5 := reel 5 (by omega)
      simp only [Nat.mul_zero, Nat.mul_one, Nat.reduceMul, Nat.reduceAdd, Nat.add_zero] at *
      simp only [filmQ, upN, ivC, List.forall_mem_cons, BE.t_leq, IE.den_lit, IE.den_var, List.not_mem_nil, false_implies, implies_true, and_true, Nat.reduceMul, Nat.reduceAdd]
      omega
  · rcases six h0 hL with rfl | rfl | rfl | rfl | rfl | rfl
    all_goals
      have q0 := reel 0 (by omega)
      try have q1 := reel 1 (by omega)
      try have q2 := reel 2 (by omega)
      try have q3 := reel 3 (by omega)
      try have q4 := reel 4 (by omega)
      try have q5 := reel 5 (by omega)
      simp only [Nat.mul_zero, Nat.mul_one, Nat.reduceMul, Nat.reduceAdd, Nat.add_zero] at *
      simp only [filmC, upN, leV, List.forall_mem_cons, BE.t_leq, IE.den_var, List.not_mem_nil, false_implies, implies_true, and_true, Nat.reduceMul, Nat.reduceAdd]
      omega
  · obtain ⟨a1, a2, a3, a4, a5, a6, _⟩ := reel r hr
    exact ⟨a1, a2, a3, a4, a5, a6⟩
theorem first_any {W : World} {ρ0 : Rho} (hG : ∀ g ∈ glV, GlobIn W ρ0 g) {s bits : Value} {nf : Nat → Int}
    (hs : s = .slice none 0 0 ∨ ∃ (b o len cap : Nat) (z : Nat → Int), s = .slice (some ⟨b, o, none⟩) len cap ∧ len ≤ cap ∧
        (0 < len → ∃ cells el fz, W.heap[b]? = some (.cells cells el fz) ∧ ∀ q, q < 6 * len → cells[o + q]? = some (.int .i64 (z q))))
    {bb : Option Addr} {bl bc : Nat} (hbits : bits = .slice bb bl bc) (hbl : (bl : Int) ≤ 9223372036854775807) (hbc : bl ≤ bc) {y : Nat → Int}
    (hb : 0 < bl → ∃ c x cells el fz, bb = some ⟨c, x, none⟩ ∧ W.heap[c]? = some (.cells cells el fz) ∧ ∀ q, q < bl → cells[x + q]? = some (.int .i64 (y q))) :
    Calls Tryd.prog 4 #[.agg #[s, .int .i64 (nf 0), .int .i64 (nf 1), .int .i64 (nf 2), .int .i64 (nf 3), .int .i64 (nf 4)], bits] W fun e w' => e = .returned (.bool true) ∧ Below W.heap.size W w' := by
  have hσ : ∀ ρ b o cap, ∀ x, x < 1000 → (envL ρ b o cap).σ x = some (x, 0) := fun ρ b o cap x hx => by simp [envL, hx]
  have hnone : ∀ ρ b o cap, ∀ x, 2000 ≤ x → (envL ρ b o cap).σ x = none := fun ρ b o cap x hx => by
    simp only [envL]; rw [if_neg (by omega), if_neg (by omega)]
  have gvw : ∀ ρ b o cap, ∀ g ∈ glV, ViewIn W (envL ρ b o cap) g := fun ρ b o cap => glob_view glV_lit' hG (hσ ρ b o cap)
  have args : ∀ (z : Nat → Int) (len : Nat) (l : List Nat) (so : Bool) (b o cap : Nat) (a : AV), conc (envL (rhoW (baseI nf z y bl len) y bl s bits l so) b o cap) a = some s →
      concL (envL (rhoW (baseI nf z y bl len) y bl s bits l so) b o cap) [.agg [a, vi 0, vi 1, vi 2, vi 3, vi 4], .sliceU 96] =
      some [.agg #[s, .int .i64 (nf 0), .int .i64 (nf 1), .int .i64 (nf 2), .int .i64 (nf 3), .int .i64 (nf 4)], bits] := fun z len l so b o cap a ha => by
    have h1 : conc (envL (rhoW (baseI nf z y bl len) y bl s bits l so) b o cap) (.agg [a, vi 0, vi 1, vi 2, vi 3, vi 4]) = some (.agg #[s, .int .i64 (nf 0), .int .i64 (nf 1), .int .i64 (nf 2), .int .i64 (nf 3), .int .i64 (nf 4)]) := by
      rw [conc, concL_cons.2 ⟨_, _, ha, (show concL _ [vi 0, vi 1, vi 2, vi 3, vi 4] = some [.int .i64 (nf 0), .int .i64 (nf 1), .int .i64 (nf 2), .int .i64 (nf 3), .int .i64 (nf 4)] by
        simp [vi, concL, conc, IE.den, envL, rhoW, ivW, baseI]), rfl⟩]; rfl
    have h2 : concL (envL (rhoW (baseI nf z y bl len) y bl s bits l so) b o cap) [.sliceU 96] = some [bits] := by
      simp [concL, conc, envL, rhoW, ivW, baseI, hbits]
    exact concL_cons.2 ⟨_, _, h1, h2, rfl⟩
  rcases hs with hs0 | ⟨b, o, len, cap, z, hs1, hlc, hcells⟩
  · exact first_short lawTS_nil (gvw _ 0 0 0) (hnone _ 0 0 0) (hσ _ 0 0 0) (Nat.le_refl _) (args (fun _ => 0) 0 [] false 0 0 0 .nilslice (by rw [hs0]; rfl)) (fun c hc => (List.not_mem_nil hc).elim)
  · have hsu : ∀ l so, conc (envL (rhoW (baseI nf z y bl len) y bl s bits l so) b o cap) (.sliceU 95) = some s := fun l so => by
      rw [hs1]; simp [conc, envL, rhoW, ivW, baseI]
    have i95 : ∀ l so, (rhoW (baseI nf z y bl len) y bl s bits l so).iv 95 = len := fun l so => by simp [rhoW, ivW, baseI]
    by_cases h0 : len = 0
    · exact first_short lawTS_few (gvw _ b o cap) (hnone _ _ _ _) (hσ _ _ _ _) (Nat.le_refl _) (args z len [] false b o cap (.sliceU 95) (hsu _ _)) (fun c hc => by
        rcases List.mem_singleton.1 hc with rfl
        rw [BE.t_leq, IE.den_var, IE.den_lit]; show (rhoW (baseI nf z y bl len) y bl s bits [] false).iv 95 ≤ 0; rw [i95]; omega)
    · by_cases h7 : 7 ≤ len
      · exact first_short lawTS_many (gvw _ b o cap) (hnone _ _ _ _) (hσ _ _ _ _) (Nat.le_refl _) (args z len [] false b o cap (.sliceU 95) (hsu _ _)) (fun c hc => by
          rcases List.mem_singleton.1 hc with rfl
          rw [BE.t_leq, IE.den_var, IE.den_lit]; show 7 ≤ (rhoW (baseI nf z y bl len) y bl s bits [] false).iv 95; rw [i95]; omega)
      · have h1 : 1 ≤ len := by omega
        have h6 : len ≤ 6 := by omega
        have hLm : len ∈ [1, 2, 3, 4, 5, 6] := by
          simp only [List.mem_cons, List.not_mem_nil, or_false]; omega
        obtain ⟨cells, el, fz, c1, c2⟩ := hcells (by omega)
        let ρF := rhoF (baseI nf z y bl len) y bl s bits
        let ρ1 := rhoW (baseI nf z y bl len) y bl s bits [] false
        let l := orderOf len ρ1
        let so := chainF ρF l 0 100
        let ρ := rhoW (baseI nf z y bl len) y bl s bits l so
        have low : ∀ l so j, j < 110 → (rhoW (baseI nf z y bl len) y bl s bits l so).iv j = baseI nf z y bl len j := fun l so j hj => by
          show ivW _ l so j = _
          unfold ivW; rw [if_pos hj]
        have hsl : conc (envL ρ b o cap) (.sliceX 1001 6 0 len) = some s := by
          rw [hs1]
          simp only [conc, envL]
          rw [if_pos (by omega)]
          simp
        have hview : ∀ g ∈ viewV len, ViewIn W (envL ρ b o cap) g := fun g hg => by
          rcases List.mem_cons.1 hg with rfl | hg
          · refine ⟨b, o, _, cells, el, fz, by simp [envL], cellsUp_vals _ (fun j => z (j - 10)) (6 * len) 10 (fun j h3 h4 => ?_), c1, fun i hi => ?_⟩
            · show ρ.iv j = _
              rw [low l so j (by omega)]
              unfold baseI
              rw [if_neg (by omega), if_pos (by omega)]
            · simp only [List.length_map, List.length_range] at hi
              rw [c2 i hi, List.getElem?_map, List.getElem?_range hi]
              simp
          · exact gvw ρ b o cap g hg
        by_cases hcs : ∀ c ∈ csL len, c.den ρ = true
        · have order : ∀ l' so', orderOf len (rhoW (baseI nf z y bl len) y bl s bits l' so') = l := fun l' so' => by
            show orderOf len _ = orderOf len ρ1
            unfold orderOf
            rw [condsT_leaf (n := 110) (ρ := ρ1) (ρ' := rhoW (baseI nf z y bl len) y bl s bits l' so') (fun j hj => (low l' so' j hj).trans (low [] false j hj).symm) rfl ⟨rfl, rfl⟩ _ (conds_all h1 h6)]
          have hfi : ∀ a, ρ.fi 1000 a 0 0 = pickF y bl a := fun a => rfl
          have turn : ∀ r : Rho, (∀ j, j < 110 → r.iv j = baseI nf z y bl len j) → (∀ a, r.fi 1000 a 0 0 = pickF y bl a) → ∀ i, i < len → r.iv (100 + i) = turnF (r.fi 1000 i 0 0) (i + 1) := fun r k1 k2 i hi => by
            rw [k1 (100 + i) (by omega), k2]
            unfold baseI
            rw [if_neg (by omega), if_neg (by omega), if_neg (by omega), if_neg (by omega), if_pos (by omega), Nat.add_sub_cancel_left]
          have hlen : l.length = len := by
            let ρ2 : Rho := ⟨fun j => if j < 110 then baseI nf z y bl len j else ((l[j - 110]?).getD 0 : Nat), fun _ => false, fiW ρF, fbW ρF, fun j => if j = 95 then s else bits⟩
            have k2 : ∀ j, j < 110 → ρ2.iv j = baseI nf z y bl len j := fun j hj => if_pos hj
            have o2 : orderOf len ρ2 = l := by
              show orderOf len _ = orderOf len ρ1
              unfold orderOf
              rw [condsT_leaf (n := 110) (ρ := ρ1) (ρ' := ρ2) (fun j hj => (k2 j hj).trans (low [] false j hj).symm) rfl ⟨rfl, rfl⟩ _ (conds_all h1 h6)]
            rw [← o2]
            refine (order_ok h1 h6 (ρ := ρ2) ⟨turn ρ2 k2 (fun a => rfl), fun i n hn => ?_⟩).2
            rw [o2] at hn
            show (if 110 + i < 110 then _ else (((l[110 + i - 110]?).getD 0 : Nat) : Int)) = n
            rw [if_neg (by omega), Nat.add_sub_cancel_left, hn]; rfl
          have nam : ∀ i, i < len → ρ.iv (110 + i) = ((l[i]?).getD 0 : Nat) := fun i hi => by
            show ivW _ l so (110 + i) = _
            unfold ivW
            rw [if_neg (by omega), if_neg (by omega), Nat.add_sub_cancel_left]
          have hsh : OkSh len ρ := by
            refine ⟨fun i hi => ?_, fun i n hn => ?_⟩
            · exact turn ρ (low l so) hfi i hi
            · rw [order l so] at hn
              have hi : i < l.length := (List.getElem?_eq_some_iff.1 hn).1
              rw [nam i (by omega), hn]; rfl
          have hp : okPick ρ (Base.of W).has := by
            refine ⟨bb, bl, bc, by simp [ρ, rhoW, hbits], by rw [low l so 96 (by omega)]; rfl, hbl, hbc, fun n => rfl, fun hl => ?_⟩
            obtain ⟨c, x, cells, el, fz, e1, e2, e3⟩ := hb hl
            refine ⟨c, x, cells, el, fz, e1, ⟨(Array.getElem?_eq_some_iff.1 e2).1, e2⟩, fun j hj => ?_⟩
            rw [e3 j hj]
            simp [ρ, rhoW, rhoF, fiW, fiR]
          obtain ⟨hF, hR⟩ := filmV_ok h1 h6 hcs
          obtain ⟨o1, o2⟩ := order_ok h1 h6 hsh
          rw [order l so] at o1 o2
          have like : LikeF ρ ρF := fun j hj => by
            rw [low l so j (by omega)]
            show _ = ivW _ [] false j
            unfold ivW; rw [if_pos (by omega)]
          have hW : okW len ρ := by
            refine ⟨okO_of h6 like rfl rfl hR, hF, l, perm_mem h1 h6 o1 o2, ?_, ?_⟩
            · unfold othL
              rw [lMap_eq, List.map_map]
              have key : ∀ (m : List Nat) (k : Nat) (f : Nat → Int), (∀ i, i < m.length → f (k + i) = ((m[i]?).getD 0 : Nat)) → (upN m.length k).map f = m.map Int.ofNat := by
                intro m
                induction m with
                | nil => intro k f _; rfl
                | cons a m ih =>
                  intro k f hf
                  simp only [List.length_cons, upN, List.map_cons]
                  rw [ih (k + 1) f fun i hi => by
                    have := hf (i + 1) (by simp only [List.length_cons]; omega)
                    rw [show k + 1 + i = k + (i + 1) by omega, this]; rfl]
                  have := hf 0 (by simp)
                  congr 1
              have := key l 110 (fun j => ρ.iv j) fun i hi => nam i (by omega)
              rw [hlen] at this
              exact this
            · rw [chainF_like like l 0 100 fun r hr => by have := (permA_ok l o1).2 r hr; omega]
              have e : ρ.iv 200 = if so then 1 else 0 := by
                show ivW (baseI nf z y bl len) l so 200 = _
                unfold ivW
                rw [if_neg (by omega), if_pos rfl]
              have k : soE.den ρ = true ↔ ρ.iv 200 = 1 := BE.t_eql
              show soE.den ρ = so
              rw [e] at k
              cases hso : so with
              | true => rw [hso] at k; exact k.2 rfl
              | false =>
                rw [hso] at k
                cases hd : soE.den ρ with
                | false => rfl
                | true => have := k.1 hd; simp at this
          exact first_valid h1 h6 hview (hnone _ _ _ _) (hσ _ _ _ _) (Nat.le_refl _) (args z len l so b o cap _ hsl) ⟨_, ⟨hW, hsh, hp⟩, fun _ _ h => h⟩
        · exact first_bad hLm hview (hnone _ _ _ _) (hσ _ _ _ _) (Nat.le_refl _) (args z len l so b o cap _ hsl) hcs
end Go.Sx
/-! WHAT COMES IN, OPENED: numbers, structs and arrays of numbers, slices of them. -/
namespace Go.Sx
open Go.RowKit

/-! ## Types of plain numbers -/
def flatB (P : Program) : Nat → TypeId → Bool
  | 0, _ => false
  | n + 1, t => match P.underlying t with
    | some (.int .i64) => true
    | some (.struct fs) => flatF P (flatB P n) fs.toList 0 (P.cellsOf t)
    | some (.array k e) => and (flatB P n e) (Nat.beq (k * P.cellsOf e) (P.cellsOf t))
    | _ => false
where
  flatF (P : Program) (g : TypeId → Bool) : List Field → Nat → Nat → Bool
    | [], off, tot => Nat.beq off tot
    | f :: fs, off, tot => and (and (Nat.beq f.offset off) (g f.type)) (flatF P g fs (off + P.cellsOf f.type) tot)

mutual
def leavesD {H : Type} : DataW H → List Value
  | .lit (.int k n) => [.int k n]
  | .agg xs => leavesL xs
  | _ => []
def leavesL {H : Type} : List (DataW H) → List Value
  | [] => []
  | x :: xs => leavesD x ++ leavesL xs
end

section
variable {H : Type} {enc : TypeId × Value → H} {P : Program} {w : World} {base : Nat} {spare : Nat → Bool} {held : Bool}

theorem flat_fields {g : TypeId → Bool} {m : Nat} (hg : ∀ t cs x, g t = true → DataW.trod enc P w base spare held m t cs = some x → cs = leavesD x.1 ∧ x.2 = [] ∧ (∀ v ∈ cs, ∃ n, v = .int .i64 n)) {cs : List Value} :
    ∀ (fs : List Field) (xs : List (DataW H × List MemPlace)) (off : Nat), xs.length = fs.length → flatB.flatF P g fs off cs.length = true → (∀ (i : Nat) (f : Field), fs[i]? = some f → DataW.trod enc P w base spare held m f.type ((cs.drop f.offset).take (P.cellsOf f.type)) = xs[i]?) →
      cs.drop off = leavesL (xs.map (·.1)) ∧ xs.flatMap (·.2) = [] ∧ (∀ v ∈ cs.drop off, ∃ n, v = .int .i64 n)
  | [], xs, off, hl, hf, _ => by
    cases xs with
    | cons x xs => simp at hl
    | nil =>
      have : off = cs.length := beq_t.1 hf
      subst this
      simp [leavesL]
  | f :: fs, [], off, hl, _, _ => by simp at hl
  | f :: fs, x :: xs, off, hl, hf, hx => by
    simp only [flatB.flatF, Bool.and_eq_true] at hf
    obtain ⟨⟨h1, h2⟩, h3⟩ := hf
    have h1 := beq_t.1 h1
    have hx0 := hx 0 f rfl
    simp only [List.getElem?_cons_zero] at hx0
    rw [h1] at hx0
    obtain ⟨g1, g2, g3⟩ := hg f.type _ x h2 hx0
    obtain ⟨r1, r2, r3⟩ := flat_fields hg fs xs (off + P.cellsOf f.type) (by simpa using hl) h3 (fun i f' hf' => by simpa using hx (i + 1) f' (by simpa using hf'))
    have split : cs.drop off = (cs.drop off).take (P.cellsOf f.type) ++ cs.drop (off + P.cellsOf f.type) := by
      rw [← List.drop_drop, List.take_append_drop]
    refine ⟨?_, by simp [g2, r2], fun v hv => ?_⟩
    · rw [split, r1]
      simp only [List.map_cons, leavesL]
      rw [← g1]
    · rw [split] at hv
      rcases List.mem_append.1 hv with hv | hv
      · exact g3 v hv
      · exact r3 v hv

theorem flat_array {m k e : Nat} {cs : List Value} (hg : ∀ cs x, DataW.trod enc P w base spare held m e cs = some x → cs = leavesD x.1 ∧ x.2 = [] ∧ (∀ v ∈ cs, ∃ n, v = .int .i64 n)) :
    ∀ (r : Nat) (xs : List (DataW H × List MemPlace)), xs.length = r → r ≤ k → cs.length = k * P.cellsOf e → (∀ i, i < r → DataW.trod enc P w base spare held m e ((cs.drop ((k - r + i) * P.cellsOf e)).take (P.cellsOf e)) = xs[i]?) →
      cs.drop ((k - r) * P.cellsOf e) = leavesL (xs.map (·.1)) ∧ xs.flatMap (·.2) = [] ∧ (∀ v ∈ cs.drop ((k - r) * P.cellsOf e), ∃ n, v = .int .i64 n)
  | 0, xs, hl, _, hc, _ => by
    cases xs with
    | cons x xs => simp at hl
    | nil => rw [Nat.sub_zero, List.drop_eq_nil_of_le (by omega)]; simp [leavesL]
  | r + 1, [], hl, _, _, _ => by simp at hl
  | r + 1, x :: xs, hl, hr, hc, hx => by
    have hx0 := hx 0 (by omega)
    simp only [List.getElem?_cons_zero, Nat.add_zero] at hx0
    obtain ⟨g1, g2, g3⟩ := hg _ x hx0
    obtain ⟨r1, r2, r3⟩ := flat_array hg r xs (by simpa using hl) (by omega) hc (fun i hi => by
      have := hx (i + 1) (by omega)
      rw [show k - (r + 1) + (i + 1) = k - r + i by omega] at this
      simpa using this)
    have e1 : (k - (r + 1)) * P.cellsOf e + P.cellsOf e = (k - r) * P.cellsOf e := by
      rw [show k - r = (k - (r + 1)) + 1 by omega, Nat.add_mul, Nat.one_mul]
    have split : cs.drop ((k - (r + 1)) * P.cellsOf e) = (cs.drop ((k - (r + 1)) * P.cellsOf e)).take (P.cellsOf e) ++ cs.drop ((k - r) * P.cellsOf e) := by
      rw [← e1, ← List.drop_drop, List.take_append_drop]
    refine ⟨?_, by simp [g2, r2], fun v hv => ?_⟩
    · rw [split, r1]
      simp only [List.map_cons, leavesL]
      rw [← g1]
    · rw [split] at hv
      rcases List.mem_append.1 hv with hv | hv
      · exact g3 v hv
      · exact r3 v hv

/-- what is read of a type of plain numbers is what lies there -/
theorem flat_trod : ∀ (n : Nat) (t : TypeId) (fuel : Nat) (cs : List Value) (x : DataW H × List MemPlace), flatB P n t = true → DataW.trod enc P w base spare held fuel t cs = some x → cs = leavesD x.1 ∧ x.2 = [] ∧ (∀ v ∈ cs, ∃ n, v = .int .i64 n)
  | 0, t, fuel, cs, x, h, _ => by cases h
  | n + 1, t, fuel, cs, x, h, k => by
    unfold flatB at h
    split at h
    · rename_i hu
      obtain ⟨z, rfl, rfl, _⟩ := DataW.trod_int hu k
      exact ⟨rfl, rfl, fun v hv => ⟨z, List.mem_singleton.1 hv⟩⟩
    · rename_i fs hu
      obtain ⟨xs, m, rfl, rfl, hl, hxl, hx⟩ := DataW.trod_struct hu k
      rw [← hl] at h
      obtain ⟨r1, r2, r3⟩ := flat_fields (m := m) (g := flatB P n) (fun t cs x h k => flat_trod n t m cs x h k) fs.toList xs 0 (by simpa using hxl) h (fun i f hf => hx i f (by simpa using hf))
      exact ⟨by simpa [leavesD] using r1, r2, by simpa using r3⟩
    · rename_i k' e hu
      rw [Bool.and_eq_true] at h
      obtain ⟨xs, m, rfl, rfl, hl, hxl, hx⟩ := DataW.trod_array hu k
      have hc := beq_t.1 h.2
      obtain ⟨r1, r2, r3⟩ := flat_array (m := m) (k := k') (e := e) (fun cs x k => flat_trod n e m cs x h.1 k) k' xs hxl (Nat.le_refl _) (by rw [hl, hc]) (fun i hi => by rw [Nat.sub_self, Nat.zero_add]; exact hx i hi)
      rw [Nat.sub_self, Nat.zero_mul] at r1 r3
      exact ⟨by simpa [leavesD] using r1, r2, by simpa using r3⟩
    · cases h
end

/-! ## Cells -/
theorem okCell_int {P : Program} {w : World} {r : Reach} {base : Nat} {u : TypeId} {v : Value} (hu : P.underlying u = some (.int .i64)) (h : Cell.okWide P w r base u v) : ∃ n, v = .int .i64 n := by
  unfold Cell.okWide at h
  rw [hu] at h
  have h' : Cell.ok P w r base u v := by
    revert h
    cases v <;> exact fun h => h
  unfold Cell.ok at h'
  rw [hu] at h'
  split at h' <;> simp_all

theorem okCell_slice {P : Program} {w : World} {r : Reach} {base : Nat} {u e : TypeId} {v : Value} (hu : P.underlying u = some (.slice e)) (h : Cell.okWide P w r base u v) :
    v = .slice none 0 0 ∨ ∃ b o len cap, v = .slice (some ⟨b, o, none⟩) len cap ∧ len ≤ cap := by
  unfold Cell.okWide at h
  rw [hu] at h
  have h' : Cell.ok P w r base u v := by
    revert h
    cases v <;> exact fun h => h
  clear h
  unfold Cell.ok at h'
  rw [hu] at h'
  cases v with
  | slice a len cap =>
    cases a with
    | none =>
      cases len with
      | zero => cases cap with
        | zero => exact .inl rfl
        | succ c => exact h'.elim
      | succ l => exact h'.elim
    | some a =>
      obtain ⟨h1, _, _, h4, _⟩ := h'
      refine .inr ⟨a.block, a.off, len, cap, ?_, h1⟩
      cases a
      simp_all
  | _ => exact h'.elim

/-- the cells of a struct or an array, by their types -/
theorem okRow {P : Program} {w : World} {r : Reach} {base : Nat} {t : TypeId} {v : Value} {ts : List TypeId} (hagg : (match P.underlying t with | some (.struct _) => true | some (.array _ _) => true | _ => false) = true) (hts : P.cellTypes P.depth t = some ts) (hlen : ts.length = P.cellsOf t)
    (h : Value.okWide P w r base t v) : ∃ cs : List Value, v = .agg cs.toArray ∧ cs.length = ts.length ∧ ∀ (i : Nat) (u : TypeId) (x : Value), ts[i]? = some u → cs[i]? = some x → Cell.okWide P w r base u x := by
  have h' : ∃ cs, v = .agg cs ∧ cs.size = P.cellsOf t ∧ Row.okWide P w r base t cs := by
    unfold Value.okWide at h
    split at h
    · exact h
    · exact h
    · rename_i h1 h2
      exfalso
      split at hagg
      · rename_i fs hu; exact h1 fs hu
      · rename_i n e hu; exact h2 n e hu
      · cases hagg
  obtain ⟨cs, rfl, hsz, ts', hts', _, hc⟩ := h'
  rw [hts] at hts'
  cases hts'
  refine ⟨cs.toList, rfl, by simp [hsz, hlen], fun i u x hu hx => ?_⟩
  have hi : i < ts.length := (List.getElem?_eq_some_iff.1 hu).1
  obtain ⟨u', h1, h2⟩ := hc i x (by simpa using hx)
  rw [Nat.mod_eq_of_lt hi, hu] at h1
  cases h1
  exact h2

end Go.Sx
/-! A FILM, OPENED. -/
namespace Go.Sx
open Go.RowKit Go.Proofs
set_option maxRecDepth 100000
/-! ## A film, opened -/
section
variable {H : Type} {enc : TypeId × Value → H} {W : World}

theorem add_none (b o k : Nat) : (Addr.mk b o none).add k = ⟨b, o + k, none⟩ := by
  unfold Addr.add
  split
  · rename_i h; subst h; rfl
  · rfl

theorem film_open {base : Nat} {v : Value} {d : DataW H} {p : List MemPlace} (h0 : DataW.Trod enc Tryd.prog W 0 (fun _ => true) true 26 v d p) (hv : Value.okWide Tryd.prog W .any base 26 v) :
    ∃ (s : Value) (n0 n1 n2 n3 n4 : Int), v = .agg #[s, .int .i64 n0, .int .i64 n1, .int .i64 n2, .int .i64 n3, .int .i64 n4] ∧
      (s = .slice none 0 0 ∨ ∃ (b o len cap : Nat) (z : Nat → Int), s = .slice (some ⟨b, o, none⟩) len cap ∧ len ≤ cap ∧
        (0 < len → ∃ cells el fz, W.heap[b]? = some (.cells cells el fz) ∧ ∀ q, q < 6 * len → cells[o + q]? = some (.int .i64 (z q)))) := by
  obtain ⟨cs, rfl, hl, hc⟩ := okRow (P := Tryd.prog) (ts := [22, 3, 3, 3, 3, 3]) (by rw [Tryd.underlying26]) (by kernel_rfl) (by kernel_rfl) hv
  match cs, hl, hc, h0 with
  | [s, c1, c2, c3, c4, c5], _, hc, h0 =>
    obtain ⟨n0, rfl⟩ := okCell_int Tryd.underlying3 (hc 1 3 c1 rfl rfl)
    obtain ⟨n1, rfl⟩ := okCell_int Tryd.underlying3 (hc 2 3 c2 rfl rfl)
    obtain ⟨n2, rfl⟩ := okCell_int Tryd.underlying3 (hc 3 3 c3 rfl rfl)
    obtain ⟨n3, rfl⟩ := okCell_int Tryd.underlying3 (hc 4 3 c4 rfl rfl)
    obtain ⟨n4, rfl⟩ := okCell_int Tryd.underlying3 (hc 5 3 c5 rfl rfl)
    refine ⟨s, n0, n1, n2, n3, n4, rfl, ?_⟩
    rcases okCell_slice Tryd.underlying22 (hc 0 22 s rfl rfl) with rfl | ⟨b, o, len, cap, rfl, hlc⟩
    · exact .inl rfl
    · right
      obtain ⟨fuel, ht⟩ := h0
      obtain ⟨xs, n, rfl, hx, hcl, hxl, hxs⟩ := DataW.trod_struct Tryd.underlying26 ht
      have f0 := hxs 0 _ rfl
      have c22 : Tryd.prog.cellsOf 22 = 1 := by kernel_rfl
      have c66 : Tryd.prog.cellsOf 53 = 6 := by kernel_rfl
      have hx0 : ∃ x0, xs[0]? = some x0 := ⟨xs[0]'(by rw [hxl]; exact Nat.zero_lt_succ _), List.getElem?_eq_getElem _⟩
      obtain ⟨x0, hx0⟩ := hx0
      rw [hx0] at f0
      have f1 : DataW.trod enc Tryd.prog W 0 (fun _ => true) true n 22 (List.take (Tryd.prog.cellsOf 22) [Value.slice (some ⟨b, o, none⟩) len cap, .int .i64 n0, .int .i64 n1, .int .i64 n2, .int .i64 n3, .int .i64 n4]) = some x0 := f0
      rw [c22] at f1
      have f0 : DataW.trod enc Tryd.prog W 0 (fun _ => true) true n 22 [Value.slice (some ⟨b, o, none⟩) len cap] = some x0 := f1
      refine ⟨b, o, len, cap, fun q => match W.cell? ⟨b, o + q, none⟩ with | some (.int _ n) => n | _ => 0, rfl, hlc, fun hpos => ?_⟩
      have key : ∀ q, q < 6 * len → ∃ m, W.cell? ⟨b, o + q, none⟩ = some (.int .i64 m) := by
        rcases DataW.trod_slice Tryd.underlying22 f0 with ⟨h, _⟩ | ⟨a, len', cap', elems, rest, m, _, he, _, _, _, _, hel, hat, _⟩
        · simp at h
        · simp at he
          obtain ⟨rfl, rfl, rfl⟩ := he
          intro q hq
          have hi : q / 6 < len := by omega
          have h1 := hat (q / 6) hi
          rw [c66, add_none] at h1
          have hey : ∃ y, elems[q / 6]? = some y := ⟨elems[q / 6]'(by omega), List.getElem?_eq_getElem _⟩
          obtain ⟨y, hy⟩ := hey
          rw [hy, Option.bind_eq_some_iff] at h1
          obtain ⟨ci, h2, h3⟩ := h1
          obtain ⟨_, _, h4⟩ := flat_trod 5 53 m ci y (by kernel_rfl) h3
          obtain ⟨_, h5, h6⟩ := World.cells?_some h2
          have h7 := h6 (q % 6) (Nat.mod_lt _ (by omega))
          rw [add_none] at h7
          have hlt : q % 6 < ci.length := by rw [h5]; exact Nat.mod_lt _ (by omega)
          obtain ⟨mm, hm⟩ := h4 _ (List.getElem_mem hlt)
          refine ⟨mm, ?_⟩
          rw [show o + q = o + q / 6 * 6 + q % 6 by omega, h7, List.getElem?_eq_getElem hlt, hm]
      obtain ⟨m0, hm0⟩ := key 0 (by omega)
      unfold World.cell? at hm0
      split at hm0
      · rename_i cells el fz hh
        refine ⟨cells, el, fz, hh, fun q hq => ?_⟩
        obtain ⟨m, hm⟩ := key q hq
        have e : (match W.cell? ⟨b, o + q, none⟩ with | some (.int _ n) => n | _ => 0) = m := by rw [hm]
        show cells[o + q]? = some (.int .i64 (match W.cell? ⟨b, o + q, none⟩ with | some (.int _ n) => n | _ => 0))
        rw [e]
        unfold World.cell? at hm
        simp only [hh] at hm
        simpa using hm
      · cases hm0

end
end Go.Sx
