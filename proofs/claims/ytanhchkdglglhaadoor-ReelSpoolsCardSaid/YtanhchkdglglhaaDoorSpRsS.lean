/- HOW MANY SPOOLS: what the call hands back, checked; fewer if more fits. -/
import Derived.Test.YtanhchkdglglhaaDoorSpRtB
/-! WHAT A FILM IS ASKED, with names: for a valid film, and reels in an order that has names. -/
namespace Go.Sx
open Go.RowKit Go.Proofs
set_option maxRecDepth 100000
noncomputable def servesX (R : Rules) (u t : T AV) : Kn → Bool :=
  @T.rec AV (fun _ => Kn → Bool) (fun a K => cond (matchU a u K) true (fires R K (.lit false)))
    (fun c _ _ ih1 ih2 K => match decW R K c with
      | some b => cond b (ih1 K) (ih2 K)
      | none => and (ih1 (addK true c K)) (ih2 (addK false c K)))
    (fun _ K => cond (deadU u K) true (fires R K (.lit false))) t
theorem servesX_ok {ρ : Rho} {R : Rules} (HR : RulesOk ρ R) {P : AV → Prop} {u : T AV} (hu : u.Holds ρ P) : ∀ (t : T AV) (K : Kn), KnOk ρ K → servesX R u t K = true → t.Holds ρ fun a => ∃ b, P b ∧ pureAV b = true ∧ SameE ρ a b
  | .ret a, K, H, h => by
    have h : cond (matchU a u K) true (fires R K (.lit false)) = true := h
    cases hm : matchU a u K with
    | true => exact matchU_ok u K H hm hu
    | false => rw [hm] at h; exact absurd (fires_ok H HR h) (by simp [BE.den])
  | .fail w, K, H, h => by
    have h : cond (deadU u K) true (fires R K (.lit false)) = true := h
    cases hm : deadU u K with
    | true => exact (deadU_ok u K H hm hu).elim
    | false => rw [hm] at h; exact absurd (fires_ok H HR h) (by simp [BE.den])
  | .br c x y, K, H, h => by
    have h : (match decW R K c with
      | some b => cond b (servesX R u x K) (servesX R u y K)
      | none => and (servesX R u x (addK true c K)) (servesX R u y (addK false c K))) = true := h
    simp only [T.Holds]
    split at h
    · rename_i b hb
      have hc := decW_ok HR H hb
      cases b with
      | true => rw [hc, if_pos rfl]; exact servesX_ok HR hu x K H h
      | false => rw [hc, if_neg (by simp)]; exact servesX_ok HR hu y K H h
    · simp only [Bool.and_eq_true] at h
      cases hc : c.den ρ with
      | true => rw [if_pos rfl]; exact servesX_ok HR hu x _ (addK_ok c true K H hc) h.1
      | false => rw [if_neg (by simp)]; exact servesX_ok HR hu y _ (addK_ok c false K H hc) h.2
/-- A CALL WITH ONE RESULT THAT HAS A NAME. -/
theorem name_ok {ok : Rho → (Nat → Obj → Prop) → Prop} {tb : Tabs} (B : TabOk ⟨Tryd.prog, rcOf Tryd.rows, ok⟩ Sx.Tryd.tt.get tb) {d : Nat} {f : FuncId} {args0 : List AV} {view : List (Nat × VO)} {u : T AV} {v : AV} {R : Rules} {q : List (Nat × Int × Int)} {cs : List BE}
    (hst : and (viewUp 0 view) (outsOk 2000 view []) = true) (hck : servesX R u (only (evalN tb d false f args0 (viewO 2000 view))) (knOf q cs) = true)
    (hK : ∀ ρ m, ok ρ m → RulesOk ρ R ∧ (∀ c ∈ ivC q, c.den ρ = true) ∧ (∀ c ∈ cs, c.den ρ = true) ∧ ∃ b, u.leaf ρ = some b ∧ SameE ρ b v) {args : List AV} {h : Heap} {rr : AV × Heap}
    (hm : (Ent.mk f args0 2000 view v [] []).meet args h = some (.ret rr)) : CallOk ⟨Tryd.prog, rcOf Tryd.rows, ok⟩ f args h (.ret rr) := by
  refine meetN B (d := d) (f := f) (args0 := args0) (n := 2000) (view := view) (cs := []) (by rw [Bool.and_eq_true]; exact ⟨rfl, hst⟩) fun ρ b hb _ => ?_
  obtain ⟨m, hm1, _⟩ := hb
  obtain ⟨hR, hq, hc, b', hl, hs⟩ := hK _ _ hm1
  have key := servesX_ok hR (T.leaf_holds u hl) _ _ (knOf_ok hq hc) hck
  unfold only at key
  rw [T.holds_bind] at key
  obtain ⟨r1, hleaf, b2, rfl, _, hsame⟩ := T.holds_leaf _ key
  exact ⟨v, [], r1, rfl, hm, hleaf, fun E hE => (hsame E hE).trans (hs E hE), fun q hq => (List.not_mem_nil hq).elim⟩
noncomputable def entOrc1 (e : Ent) (args : List AV) (h : Heap) : Option (T (AV × Heap)) :=
  match e.meet args h with
  | some (.ret r) => some (.ret r)
  | _ => none
/-! ## The film -/
noncomputable def filmM (L : Nat) : AV := .agg [.sliceX 1001 6 0 L, vi 0, vi 1, vi 2, vi 3, vi 4, .map 1005]
noncomputable def reelsO (L : Nat) : Nat × VO := (1001, .cells (cellsUp (6 * L) 10))
noncomputable def viewF (L : Nat) : List (Nat × VO) := glV.map (fun g => (g.1, VO.cells g.2)) ++ [reelsO L]
noncomputable def tT : AV := .bool (.lit true)
noncomputable def filmE (L : Nat) : Ent := ⟨68, [filmV L], 2000, viewF L, tT, [], []⟩
noncomputable def soundE (L : Nat) : Ent := ⟨43, [filmV L], 2000, viewF L, tT, [], []⟩
noncomputable def runE (tb : Tabs) (d : Nat) (e : Ent) : T (AV × Heap) := evalN tb d false e.f e.args (viewO 2000 e.view)
noncomputable def stE (e : Ent) : Bool := and (viewUp 0 e.view) (outsOk 2000 e.view [])
noncomputable def filmCk (L : Nat) : Bool := and (stE (filmE L)) (servesX [] (.ret tT) (only (runE tb0 60 (filmE L))) (knOf [] (csL L)))
noncomputable def soundCk (L : Nat) : Bool := and (stE (soundE L)) (servesX [] (.ret tT) (only (runE tb0 60 (soundE L))) (knOf [] (csL L)))
/-! ## Reels, each once -/
noncomputable def xC (L i : Nat) : List BE := [.cmp .leq (.lit 0) (.var (110 + i)), .cmp .leq (.var (110 + i)) (.lit (Int.ofNat (L - 1)))]
noncomputable def xsC (L : Nat) : List BE := (upTo L).flatMap (xC L)
noncomputable def reelsE (L : Nat) : Ent := ⟨85, [filmM L, .sliceX 1004 1 0 L], 2000, [(1004, .cells (cellsUp L 110))], tT, [], []⟩
noncomputable def pinQ : Nat → List Nat → List (Nat × Int × Int)
  | _, [] => []
  | i, n :: l => (i, Int.ofNat n, Int.ofNat n) :: pinQ (i + 1) l
/-- all orders of so many reels -/
noncomputable def permsUp (L : Nat) : Nat → List (List Nat)
  | 0 => [[]]
  | n + 1 => (upTo L).flatMap fun k => ((permsUp L n).filter fun l => Bool.not (memA k l)).map fun l => k :: l
noncomputable def reelsCkP (L : Nat) (l : List Nat) : Bool := servesX [] (.ret tT) (only (runE tb0 60 (reelsE L))) (knOf (pinQ 110 l) [])
noncomputable def headQ (k : Nat) (l : List Nat) : Bool := match l with
  | [] => false
  | n :: _ => Nat.beq n k
noncomputable def reelsCkH (L k : Nat) : Bool := lAll (reelsCkP L) ((permsUp L L).filter (headQ k))
noncomputable def reelsCk (L : Nat) : Bool := lAll (reelsCkP L) (permsUp L L)
/-! ## Feet -/
noncomputable def wornI (k m : Nat) : IE := .mx (.lit 0) (.bin .sub .i64 (.var (hadV k m)) (.bin .mul .i64 (.var 140) (.var (tornV m))))
noncomputable def chainT (x : Nat) (e : Nat → AV) : Nat → T AV
  | 0 => .fail 0
  | m + 1 => .br (.cmp .leq (.lit (Int.ofNat m)) (.var x)) (.ret (e m)) (chainT x e m)
noncomputable def wornE (L i : Nat) : Ent := ⟨80, [filmM L, vi (110 + i), vi 140], 2000, [reelsO L], .agg [vi (120 + i), vi (130 + i)], [], []⟩
noncomputable def wornU (L i : Nat) : T AV := chainT (110 + i) (fun k => .agg [.int .i64 (wornI k 0), .int .i64 (wornI k 1)]) L
noncomputable def wornCk (L i : Nat) : Bool := and (stE (wornE L i)) (servesX [] (wornU L i) (only (runE tb0 60 (wornE L i))) (knOf [] (xC L i)))
noncomputable def feetV (i m : Nat) : AV := match m with
  | 0 => vi (120 + i)
  | _ => vi (130 + i)
noncomputable def feetE (L i m : Nat) : Ent := ⟨104, [filmM L, vi (110 + i), vi 140, .agg (endA m)], 2000, [reelsO L], feetV i m, [], []⟩
noncomputable def feetU (L i m : Nat) : T AV := chainT (110 + i) (fun k => .int .i64 (wornI k m)) L
noncomputable def feetCk (L i m : Nat) : Bool := and (stE (feetE L i m)) (servesX [] (feetU L i m) (only (runE tb0 60 (feetE L i m))) (knOf [] (xC L i)))
noncomputable def filmsCk (L : Nat) : Bool := and (filmCk L) (and (soundCk L) (lAll (fun i => and (wornCk L i) (and (feetCk L i 0) (feetCk L i 1))) (upTo L)))
end Go.Sx
/-! THE LAW OF THE SPOOLS: its calls and its run, with names. -/
namespace Go.Sx
open Go.RowKit Go.Proofs
set_option maxRecDepth 100000
noncomputable def spX : IE := .mn (.lit 6000) (.bin .add .i64 (.var 4) (.var 141))
noncomputable def nK : IE := .bin .add .i64 (.var 140) (.var 142)
noncomputable def filmP (L : Nat) (sp : IE) : AV := .agg [.sliceX 1001 6 0 L, vi 0, vi 1, vi 2, vi 3, .int .i64 sp]
noncomputable def filmMP (L : Nat) (sp : IE) : AV := .agg [.sliceX 1001 6 0 L, vi 0, vi 1, vi 2, vi 3, .int .i64 sp, .map 1005]
noncomputable def eFilm (L : Nat) (sp : IE) : Ent := ⟨68, [filmP L sp], 2000, viewF L, tT, [], []⟩
noncomputable def eReels (L : Nat) (sp : IE) : Ent := ⟨85, [filmMP L sp, .sliceX 1004 1 0 L], 2000, [(1004, .cells (cellsUp L 110))], tT, [], []⟩
noncomputable def wornJ (n : IE) (k m : Nat) : IE := .mx (.lit 0) (.bin .sub .i64 (.var (hadV k m)) (.bin .mul .i64 n (.var (tornV m))))
noncomputable def eWorn (L i : Nat) (sp n : IE) (lo hi : Nat) : Ent := ⟨80, [filmMP L sp, vi (110 + i), .int .i64 n], 2000, [reelsO L], .agg [vi (lo + i), vi (hi + i)], [], []⟩
noncomputable def uWorn (L i : Nat) (n : IE) : T AV := chainT (110 + i) (fun k => .agg [.int .i64 (wornJ n k 0), .int .i64 (wornJ n k 1)]) L
noncomputable def entsS (L : Nat) : List Ent := [eFilm L (.var 4), eFilm L spX, soundE L, eReels L (.var 4), eReels L spX] ++ (upTo L).flatMap fun i => [eWorn L i (.var 4) (.var 140) 120 130, eWorn L i spX (.var 140) 120 130, eWorn L i (.var 4) nK 180 190]
noncomputable def entsOrc (f : FuncId) (args : List AV) (h : Heap) (l : List Ent) : Option (T (AV × Heap)) :=
  @List.rec Ent (fun _ => Option (T (AV × Heap))) none (fun e _ ih => cond (Nat.beq f e.f) (match entOrc1 e args h with
    | some t => some t
    | none => ih) ih) l
noncomputable def orcS (L : Nat) (f : FuncId) (args : List AV) (h : Heap) : Option (T (AV × Heap)) := entsOrc f args h (entsS L)
noncomputable def tbS (L : Nat) : Tabs := ⟨Sx.Tryd.ft.get, lFind Sx.Tryd.rt, 2000, orcS L⟩
/-- how many spools, or that a reel is too long -/
noncomputable def resS (ok : Bool) (x : Nat) : AV := cond ok (.tup [.sliceV 2000 x, li 0]) (.tup [.nilslice, li 4])
noncomputable def newS (ok : Bool) : List (Nat × NB) := cond ok [(2000, .cells [] 3 true)] []
noncomputable def eSp (L : Nat) (sp n : IE) (ok : Bool) (x : Nat) : Ent := ⟨38, [filmP L sp, .sliceX 1004 1 0 L, .int .i64 n], 2000, viewF L ++ [(1004, .cells (cellsUp L 110))], resS ok x, newS ok, []⟩
noncomputable def spRun (L : Nat) (sp n : IE) : T (AV × Heap) := evalN (tbS L) 40 false 38 (eSp L sp n true 97).args (viewO 2000 (eSp L sp n true 97).view)
/-! ## The law -/
noncomputable def spArgs (L : Nat) : List AV := [filmV L, .sliceU 96, .agg [vi 87, vi 88, vi 89]]
noncomputable def turnAt (a b : IE) : CSpec := ⟨48, [.int .i64 a, .int .i64 b], [], 2000, [], .ret (.int .i64 (.app 6 a b (.lit 0)))⟩
noncomputable def namedL (L : Nat) : List (CSpec × AV) := [(turnAt (.var 87) (.lit 200), vi 140), (turnAt (.var 88) (.lit 900), vi 141), (turnAt (.var 89) (.lit 60), vi 142)] ++ (upTo L).map fun i => (turnAt (pickE i) (.lit 3), vi (200 + i))
noncomputable def namedOrc (f : FuncId) (args : List AV) (h : Heap) (l : List (CSpec × AV)) : Option (T (AV × Heap)) :=
  @List.rec (CSpec × AV) (fun _ => Option (T (AV × Heap))) none (fun c _ ih => cond (Nat.beq f c.1.f) (match c.1.orcX c.2 args h with
    | some t => some t
    | none => ih) ih) l
noncomputable def orcL (L : Nat) (bm bk : Bool) (f : FuncId) (args : List AV) (h : Heap) : Option (T (AV × Heap)) :=
  cond (Nat.beq f 25) (closedOrc glV args h) (cond (Nat.beq f 54) (pickOrc args h) (cond (Nat.beq f 49) (shufOrc L args h) (match namedOrc f args h (namedL L) with
    | some t => some t
    | none => entsOrc f args h (eSp L spX (.var 140) bm 97 :: eSp L (.var 4) nK bk 98 :: entsS L))))
noncomputable def tbL (L : Nat) (bm bk : Bool) : Tabs := ⟨Sx.Tryd.ft.get, lFind Sx.Tryd.rt, 2000, orcL L bm bk⟩
noncomputable def lawRun (L : Nat) (bm bk : Bool) : T (AV × Heap) := evalN (tbL L bm bk) 60 false 14 (spArgs L) (viewHeap 2000 (viewV L))
noncomputable def ivS (L : Nat) : List (Nat × Int × Int) := [(4, 1, 6000), (97, 0, 6), (98, 0, 6), (140, 0, 199), (141, 0, 899), (142, 0, 59)] ++ (upTo L).flatMap (fun i => [(120 + i, 0, 1200), (130 + i, 0, 1200), (200 + i, 0, 2)])
noncomputable def lawK (L : Nat) : List BE := xsC L ++ (upTo L).flatMap fun i => [.cmp .leq (.var (120 + i)) (.var (130 + i))]
/-- which reels begin a spool, and how many spools there are: by cases; all reels fit -/
noncomputable def fitC (L : Nat) (sp : IE) (w : Nat) : List BE := (upTo L).map fun i => .cmp .leq (.var (w + i)) sp
noncomputable def splitsC (sp : IE) (w : Nat) : Nat → Nat → IE → Nat → List (List BE × Nat)
  | 0, _, _, c => [([], c)]
  | d + 1, i, r, c => (splitsC sp w d (i + 1) (.bin .sub .i64 sp (.var (w + i))) (c + 1)).map (fun l => (.cmp .gtr (.var (w + i)) r :: l.1, l.2)) ++ (splitsC sp w d (i + 1) (.bin .sub .i64 r (.var (w + i))) c).map (fun l => (.cmp .leq (.var (w + i)) r :: l.1, l.2))
noncomputable def casesC (L : Nat) (sp : IE) (w : Nat) : List (List BE × Nat) := splitsC sp w (L - 1) 1 (.bin .sub .i64 sp (.var w)) 1
noncomputable def cntC (c : Nat) : List BE := [.cmp .leq (.var 97) (.lit (Int.ofNat c)), .cmp .leq (.var 98) (.lit (Int.ofNat c))]
noncomputable def lawCkN (L k : Nat) : Bool :=
  match (casesC L (.var 4) 130)[k]? with
  | some e => servesX [] (.ret tT) (only (lawRun L true true)) (knOf (ivS L) (lawK L ++ fitC L (.var 4) 130 ++ e.1 ++ cntC e.2))
  | none => true
/-- the first reel that is too long -/
noncomputable def longC (i : Nat) : List BE := (upTo i).map (fun j => .cmp .leq (.var (130 + j)) (.var 4)) ++ [.cmp .gtr (.var (130 + i)) (.var 4)]
noncomputable def longCk (L i : Nat) (bm bk : Bool) : Bool := servesX [] (.ret tT) (only (lawRun L bm bk)) (knOf (ivS L) (lawK L ++ longC i))
noncomputable def longAll (L i : Nat) : Bool := and (and (longCk L i true true) (longCk L i true false)) (and (longCk L i false true) (longCk L i false false))
end Go.Sx
/-! HOW MANY SPOOLS: what the call hands back, checked; fewer if more fits. -/
namespace Go.Sx
open Go.RowKit Go.Proofs
set_option maxRecDepth 100000
noncomputable def decT (K : Kn) (c : BE) : Bool :=
  match decK K c with
  | some b => b
  | none => false
theorem decT_ok {ρ : Rho} {K : Kn} (H : KnOk ρ K) {c : BE} (h : decT K c = true) : c.den ρ = true := by
  unfold decT at h
  split at h
  · rename_i b hb; subst h; exact decK_ok H c _ hb
  · cases h
noncomputable def lAny {α : Type} (p : α → Bool) : List α → Bool
  | [] => false
  | a :: l => cond (p a) true (lAny p l)
theorem lAny_some {α : Type} {p : α → Bool} : ∀ {l : List α}, lAny p l = true → ∃ a ∈ l, p a = true
  | [], h => by cases h
  | a :: l, h => by
    simp only [lAny] at h
    cases hp : p a with
    | true => exact ⟨a, List.mem_cons_self, hp⟩
    | false =>
      rw [hp, cond_false] at h
      obtain ⟨b, hb, h2⟩ := lAny_some h
      exact ⟨b, List.mem_cons_of_mem _ hb, h2⟩
/-- so many spools; none: a reel is too long -/
noncomputable def spN (r : AV × Heap) : Option (Nat × Nat × List AV) :=
  match r.1 with
  | .tup [.sliceX b s lo n, e] => cond (and (and (Nat.beq s 1) (Nat.beq lo 0)) (and (Nat.ble 2000 b) (eqAV e (li 0)))) (match r.2.get b with
    | some (.cells cs el own ext) => cond (and own (and ext (Nat.beq el 3))) (some (b, n, cs)) none
    | _ => none) none
  | _ => none
noncomputable def spQ (L : Nat) (sp : IE) (w : Nat) (K : Kn) (r : AV × Heap) : Bool :=
  match spN r with
  | some q => lAny (fun e : List BE × Nat => and (Nat.beq e.2 q.2.1) (lAll (decT K) e.1)) (casesC L sp w)
  | none => and (eqAV r.1 (.tup [.nilslice, li 4])) (lAny (fun i => decT K (.cmp .gtr (.var (w + i)) sp)) (upTo L))
noncomputable def ivW (L w : Nat) : List (Nat × Int × Int) := [(4, 1, 6000), (140, 0, 199), (141, 0, 899), (142, 0, 59)] ++ (upTo L).map fun i => (w + i, 0, 1200)
noncomputable def stS (e : Ent) : Bool := and (viewUp 0 e.view) (outsOk 2000 e.view [])
noncomputable def spCk (L : Nat) (sp n : IE) (w : Nat) : Bool := and (stS (eSp L sp n true 97)) (allW [] (spQ L sp w) (spRun L sp n) (knOf (ivW L w) (xsC L)))
noncomputable def spsCk (L : Nat) : Bool := and (spCk L spX (.var 140) 130) (spCk L (.var 4) nK 190)
noncomputable def eCk (L : Nat) : Bool :=
  and (and (stE (eFilm L (.var 4))) (and (servesX [] (.ret tT) (only (runE tb0 60 (eFilm L (.var 4)))) (knOf [] (csL L))) (servesX [] (.ret tT) (only (runE tb0 60 (eFilm L spX))) (knOf [] (csL L ++ [.cmp .leq (.lit 1) spX, .cmp .leq spX (.lit 6000)])))))
    (and (stE (eReels L (.var 4))) (lAll (fun i => and (stE (eWorn L i (.var 4) nK 180 190)) (and (servesX [] (uWorn L i (.var 140)) (only (runE tb0 60 (eWorn L i (.var 4) (.var 140) 120 130))) (knOf [] (xC L i)))
      (and (servesX [] (uWorn L i (.var 140)) (only (runE tb0 60 (eWorn L i spX (.var 140) 120 130))) (knOf [] (xC L i))) (servesX [] (uWorn L i nK) (only (runE tb0 60 (eWorn L i (.var 4) nK 180 190))) (knOf [] (xC L i)))))) (upTo L)))
noncomputable def reelsCkX (L : Nat) (sp : IE) (l : List Nat) : Bool := servesX [] (.ret tT) (only (runE tb0 60 (eReels L sp))) (knOf (pinQ 110 l) [])
/-! ## How many -/
def cntG (W : Nat → Int) (S : Int) : Nat → Nat → Int → Nat → Nat
  | 0, _, _, c => c
  | d + 1, i, r, c => if W i > r then cntG W S d (i + 1) (S - W i) (c + 1) else cntG W S d (i + 1) (r - W i) c
theorem cntG_le {W W' : Nat → Int} {S S' : Int} (hS : S ≤ S') (hW : ∀ j, W' j ≤ W j) (h0 : ∀ j, 0 ≤ W j) : ∀ (d i : Nat) (r r' : Int) (c c' : Nat), r ≤ S → (c' < c ∨ c' = c ∧ r ≤ r') → cntG W' S' d i r' c' ≤ cntG W S d i r c
  | 0, _, _, _, c, c', _, h => by simp only [cntG]; omega
  | d + 1, i, r, r', c, c', hr, h => by
    have a1 := hW i
    have a2 := h0 i
    simp only [cntG]
    split
    · split
      · exact cntG_le hS hW h0 d (i + 1) _ _ _ _ (by omega) (by omega)
      · exact cntG_le hS hW h0 d (i + 1) _ _ _ _ (by omega) (by omega)
    · split
      · exact cntG_le hS hW h0 d (i + 1) _ _ _ _ (by omega) (by omega)
      · exact cntG_le hS hW h0 d (i + 1) _ _ _ _ (by omega) (by omega)
theorem cntG_le_len {W : Nat → Int} {S : Int} : ∀ (d i : Nat) (r : Int) (c : Nat), cntG W S d i r c ≤ c + d
  | 0, _, _, c => Nat.le_refl _
  | d + 1, i, r, c => by
    simp only [cntG]
    split
    · have := cntG_le_len (W := W) (S := S) d (i + 1) (S - W i) (c + 1); omega
    · have := cntG_le_len (W := W) (S := S) d (i + 1) (r - W i) c; omega
/-- a case tells how many -/
theorem splitsC_cnt {ρ : Rho} {sp : IE} {w : Nat} (hS : 1 ≤ sp.den ρ ∧ sp.den ρ ≤ 6000) : ∀ (d i : Nat) (r : IE) (c : Nat), i + d ≤ 6 → (∀ j, j < i + d → 0 ≤ ρ.iv (w + j) ∧ ρ.iv (w + j) ≤ 1200) → -(1200 * (i : Int)) ≤ r.den ρ → r.den ρ ≤ 6000 →
    ∀ e ∈ splitsC sp w d i r c, (∀ q ∈ e.1, q.den ρ = true) → e.2 = cntG (fun j => ρ.iv (w + j)) (sp.den ρ) d i (r.den ρ) c
  | 0, i, r, c, _, _, _, _, e, he, _ => by
    rcases List.mem_singleton.1 he with rfl; rfl
  | d + 1, i, r, c, h6, hw, hr, hr2, e, he, hq => by
    have hwi := hw i (by omega)
    have d1 : (IE.bin .sub .i64 sp (.var (w + i))).den ρ = sp.den ρ - ρ.iv (w + i) := by
      show IntKind.i64.wrap (sp.den ρ - ρ.iv (w + i)) = _
      exact IntWalk.i64_in _ (by omega)
    have d2 : (IE.bin .sub .i64 r (.var (w + i))).den ρ = r.den ρ - ρ.iv (w + i) := by
      show IntKind.i64.wrap (r.den ρ - ρ.iv (w + i)) = _
      exact IntWalk.i64_in _ (by omega)
    simp only [splitsC, List.mem_append, List.mem_map] at he
    simp only [cntG]
    rcases he with ⟨l, hl, rfl⟩ | ⟨l, hl, rfl⟩
    · have h0 := hq _ List.mem_cons_self
      have h0 : ρ.iv (w + i) > r.den ρ := of_decide_eq_true (show decide (ρ.iv (w + i) > r.den ρ) = true from h0)
      rw [if_pos h0, ← d1]
      exact splitsC_cnt hS d (i + 1) _ (c + 1) (by omega) (fun j hj => hw j (by omega)) (by rw [d1]; omega) (by rw [d1]; omega) l hl fun q hq' => hq q (List.mem_cons_of_mem _ hq')
    · have h0 := hq _ List.mem_cons_self
      rw [BE.t_leq, IE.den_var] at h0
      rw [if_neg (by omega), ← d2]
      exact splitsC_cnt hS d (i + 1) _ c (by omega) (fun j hj => hw j (by omega)) (by rw [d2]; omega) (by rw [d2]; omega) l hl fun q hq' => hq q (List.mem_cons_of_mem _ hq')
theorem splitsC_one {ρ : Rho} {sp : IE} {w : Nat} : ∀ (d i : Nat) (r : IE) (c : Nat), ∃ e ∈ splitsC sp w d i r c, ∀ q ∈ e.1, q.den ρ = true
  | 0, _, _, c => ⟨([], c), List.mem_singleton.2 rfl, fun q hq => (List.not_mem_nil hq).elim⟩
  | d + 1, i, r, c => by
    by_cases h : (IE.var (w + i)).den ρ > r.den ρ
    · obtain ⟨e, he, hc⟩ := splitsC_one (ρ := ρ) (sp := sp) (w := w) d (i + 1) (.bin .sub .i64 sp (.var (w + i))) (c + 1)
      refine ⟨(.cmp .gtr (.var (w + i)) r :: e.1, e.2), List.mem_append.2 (.inl (List.mem_map.2 ⟨e, he, rfl⟩)), fun q hq => ?_⟩
      rcases List.mem_cons.1 hq with rfl | hq
      · exact decide_eq_true h
      · exact hc q hq
    · obtain ⟨e, he, hc⟩ := splitsC_one (ρ := ρ) (sp := sp) (w := w) d (i + 1) (.bin .sub .i64 r (.var (w + i))) c
      refine ⟨(.cmp .leq (.var (w + i)) r :: e.1, e.2), List.mem_append.2 (.inr (List.mem_map.2 ⟨e, he, rfl⟩)), fun q hq => ?_⟩
      rcases List.mem_cons.1 hq with rfl | hq
      · rw [BE.t_leq]; omega
      · exact hc q hq
/-- how many spools a film's reels need, one behind the other -/
def cntF (ρ : Rho) (L : Nat) (sp : IE) (w : Nat) : Nat := cntG (fun j => ρ.iv (w + j)) (sp.den ρ) (L - 1) 1 (sp.den ρ - ρ.iv w) 1
theorem casesC_cnt {ρ : Rho} {L : Nat} {sp : IE} {w : Nat} (h1 : 1 ≤ L) (h6 : L ≤ 6) (hS : 1 ≤ sp.den ρ ∧ sp.den ρ ≤ 6000) (hw : ∀ j, j < L → 0 ≤ ρ.iv (w + j) ∧ ρ.iv (w + j) ≤ 1200) {e : List BE × Nat} (he : e ∈ casesC L sp w) (hq : ∀ q ∈ e.1, q.den ρ = true) : e.2 = cntF ρ L sp w := by
  have h0 := hw 0 (by omega)
  simp only [Nat.add_zero] at h0
  have d1 : (IE.bin .sub .i64 sp (.var w)).den ρ = sp.den ρ - ρ.iv w := by
    show IntKind.i64.wrap (sp.den ρ - ρ.iv w) = _
    exact IntWalk.i64_in _ (by omega)
  unfold cntF
  rw [← d1]
  exact splitsC_cnt hS (L - 1) 1 _ 1 (by omega) (fun j hj => hw j (by omega)) (by rw [d1]; omega) (by rw [d1]; omega) e he hq
end Go.Sx
