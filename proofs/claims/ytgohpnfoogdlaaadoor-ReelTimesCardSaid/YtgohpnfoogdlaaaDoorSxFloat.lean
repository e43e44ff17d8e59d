/- ALLOCATIONS THAT NO ORDER BINDS: their numbers reserved; what they lay. -/
import Derived.Test.YtgohpnfoogdlaaaDoorSxOp
import Derived.TacticsIn
import Derived.LoopNIn
import Derived.RangeFuncLeaves
import Derived.OrdersIn
/-! REGIONS IN THE ORDER OF THEIR LIST. -/
namespace Go.Sx
open Go.RowKit

theorem fence_all (rd : Option Nat) (o : Option FuncId) : ∀ f, o = some f → (fence rd).fn f := fun f _ => fence_fn rd f

theorem not_defer {ty : Nat → Option TI} {o : Oper} {f : Ins} (h : cOp ty o.op = some f) (c : Call) : o.op ≠ .defer c := by
  intro e; rw [e] at h; cases h
theorem not_select {ty : Nat → Option TI} {o : Oper} {f : Ins} (h : cOp ty o.op = some f) (c : Array SelectCase) (b : Bool) : o.op ≠ .select c b := by
  intro e; rw [e] at h; cases h

theorem cOper_some {ty : Nat → Option TI} {n : Nat} {keep : List Nat} {ops : List Oper} {o : Oper} {c : CI} (h : cOper ty n keep ops o = some c) :
    ∃ f g, cOp ty o.op = some f ∧ cGuard ops o.guard = some g ∧ okDst n o.dst = true ∧ c = ⟨o.dst, memN keep o.dst, g, f⟩ := by
  unfold cOper at h
  split at h
  · rename_i f g hf hg
    cases hd : okDst n o.dst with
    | false => rw [hd] at h; cases h
    | true => rw [hd] at h; cases h; exact ⟨f, g, hf, hg, rfl, rfl⟩
  · cases h

theorem TmOk.setDst {n : Nat} {keep : List Nat} {E : Env} {tm : Tm} {a : Act} (H : TmOk n keep E tm a.tmps) {dst : Option Nat} (hd : okDst n dst = true) {v : AV} {cv : Value} (hv : conc E v = some cv) :
    TmOk n keep E (setDst tm dst (memN keep dst) v) (a.put dst cv).tmps := by
  cases dst with
  | none => exact H
  | some d => exact H.put (ble_t.1 hd) hv

theorem guardOf_some {n : Nat} {keep : List Nat} {E : Env} {tm : Tm} {arr : Array Value} (H : TmOk n keep E tm arr) {ops : Array Oper} {j d : Nat} {want : Bool} (hd : (ops[j]?).bind (·.dst) = some d) {c : BE} (hc : guardOf tm (d, want) = some c) :
    (yielded ops arr j == some want) = c.den E.ρ := by
  unfold guardOf at hc
  unfold yielded
  rw [hd]
  split at hc
  · rename_i b hb
    obtain ⟨v, h1, h2⟩ := H.look hb
    simp only [conc, Option.some.injEq] at h1
    subst h1
    cases hc
    simp only [Option.bind_some, h2]
    cases want with
    | true => simp
    | false => simp [mkNot_den]
  · rename_i hb
    obtain ⟨v, h1, h2⟩ := H.look hb
    simp only [conc, concL, Option.map_some, Option.some.injEq] at h1
    subst h1
    cases hc
    simp only [Option.bind_some, h2]
    rfl
  · cases hc

/-- ONE OPERATION OF A REGION, WANTED OR NOT. -/
theorem oper_ok {p : Par} {ty : Nat → Option TI} (TT : TyOk p.P ty) {n : Nat} {keep : List Nat} {ops : Array Oper} {o : Oper} {c : CI} (hc : cOper ty n keep ops.toList o = some c)
    {cx : Cx} (CX : CxOk p cx) {E : Env} {w0 : Base} {w : World} {tm : Tm} {h : Heap} {a : Act} (HT : TmOk n keep E tm a.tmps) (HH : HeapOk p E h w0 w) {Q : AV × Heap → Prop} (k : (runC cx tm h c).Holds E.ρ Q)
    {rd : Option Nat} {next : Act → World → Prop} {Q' : Exit → Act → World → Prop} (P : Post p E w0 Q fun v w' => next (a.put o.dst v) w') :
    if Region.wanted o (yielded ops a.tmps) then o.wpIn (fence rd) 0 p.P a w next Q' else (∀ f, o.about p.P w a.eval = some f → (fence rd).fn f) ∧ next (a.put o.dst undef) w := by
  obtain ⟨f, g, hf, hg, hd, rfl⟩ := cOper_some hc
  have yes : (f cx tm h).Holds E.ρ Q → o.wpIn (fence rd) 0 p.P a w next Q' := fun k => by
    refine ⟨fence_all rd _, ?_⟩
    rw [Oper.semAt_eq _ _ _ (not_defer hf)]
    exact Does.upon (cOp_ok TT hf cx n keep E w0 tm h a w Q _ CX HT HH k P)
  unfold runC at k
  cases hgo : o.guard with
  | none =>
    rw [hgo] at hg
    cases hg
    rw [show Region.wanted o (yielded ops a.tmps) = true from by unfold Region.wanted; rw [hgo], if_pos rfl]
    exact yes k
  | some q =>
    obtain ⟨j, want⟩ := q
    rw [hgo] at hg
    simp only [cGuard] at hg
    cases hb : (ops.toList[j]?).bind (·.dst) with
    | none => rw [hb] at hg; cases hg
    | some d =>
      rw [hb] at hg
      cases hg
      simp only at k
      cases hcb : guardOf tm (d, want) with
      | none => rw [hcb] at k; exact k.elim
      | some cb =>
        rw [hcb] at k
        simp only [T.holds_ite] at k
        have hw : Region.wanted o (yielded ops a.tmps) = cb.den E.ρ := by
          unfold Region.wanted
          rw [hgo]
          exact guardOf_some HT (by simpa using hb) hcb
        rw [hw]
        cases hden : cb.den E.ρ with
        | true => rw [hden] at k; rw [if_pos rfl]; exact yes k
        | false =>
          rw [hden] at k
          rw [if_neg (by simp)]
          exact ⟨fence_all rd _, P undefA h E w undef k (Env.le.refl E) HH rfl⟩

/-- the same value, whatever is not known being as said -/
def Same (ρ : Rho) (v u : AV) : Prop := ∀ E : Env, E.ρ = ρ → conc E v = conc E u
theorem Same.refl (ρ : Rho) (v : AV) : Same ρ v v := fun _ _ => rfl

theorem fork_br {β : Type} {ρ : Rho} {c : BE} {k : AV → T β} {Q : β → Prop} (h : (T.br c (k (.bool (.lit true))) (k (.bool (.lit false)))).Holds ρ Q) : ∃ v', (k v').Holds ρ Q ∧ Same ρ v' (.bool c) := by
  cases hc : c.den ρ with
  | true =>
    rw [T.Holds, hc, if_pos rfl] at h
    exact ⟨_, h, fun E e => by simp only [conc, BE.den, e, hc]⟩
  | false =>
    rw [T.Holds, hc, if_neg (by simp)] at h
    exact ⟨_, h, fun E e => by simp only [conc, BE.den, e, hc]⟩

theorem holds_fork {β : Type} {ρ : Rho} {v : AV} {k : AV → T β} {Q : β → Prop} (h : (fork v k).Holds ρ Q) : ∃ v', (k v').Holds ρ Q ∧ Same ρ v' v := by
  cases v with
  | bool c => cases c with
    | lit b => exact ⟨_, h, Same.refl _ _⟩
    | _ => exact fork_br h
  | _ => exact ⟨_, h, Same.refl _ _⟩

theorem runOps_cons (cx : Cx) (o : CI) (l : List CI) (tm : Tm) (h : Heap) : runOps cx (o :: l) tm h = (runC cx tm h o).bind fun r => fork r.1 fun v => runOps cx l (setDst tm o.dst o.keep v) r.2 := rfl

theorem region_ok {p : Par} {ty : Nat → Option TI} (TT : TyOk p.P ty) {n : Nat} {keep : List Nat} {ops : Array Oper} {cx : Cx} (CX : CxOk p cx) {w0 : Base} {rd : Option Nat} {Q' : Exit → Act → World → Prop} {Q : Tm × Heap → Prop} {ds : List Deferred} {sz : Nat} :
    ∀ (l : List Oper) (cs : List CI), cOpers ty n keep ops.toList l = some cs → ∀ (E : Env) (w : World) (tm : Tm) (h : Heap) (a : Act), TmOk n keep E tm a.tmps → HeapOk p E h w0 w → (runOps cx cs tm h).Holds E.ρ Q → a.defers = ds → a.tmps.size = sz →
      (∀ E' w' tm' h' a', Q (tm', h') → E.le E' → HeapOk p E' h' w0 w' → TmOk n keep E' tm' a'.tmps → a'.defers = ds → a'.tmps.size = sz → Q' .normal a' w') → wpListIn (fence rd) 0 p.P ops Q' l a w
  | [], cs, hcs, E, w, tm, h, a, HT, HH, k, hds, hsz, P => by
    cases hcs
    exact P E w tm h a k (Env.le.refl E) HH HT hds hsz
  | o :: l, cs, hcs, E, w, tm, h, a, HT, HH, k, hds, hsz, P => by
    simp only [cOpers] at hcs
    split at hcs
    · rename_i c cl hc hcl
      cases hcs
      rw [runOps_cons] at k
      rw [T.holds_bind] at k
      obtain ⟨f, g, hf, hg, hd, hce⟩ := cOper_some hc
      unfold wpListIn
      refine oper_ok TT hc CX HT HH k ?_
      intro v0 h' E' w' cv q0 hle HH' hv0
      obtain ⟨v, q, hsame⟩ := holds_fork q0
      have hv : conc E' v = some cv := by rw [hsame E' hle.ρ]; exact hv0
      have HT' := (HT.mono hle).setDst hd hv
      have hk : c.keep = memN keep o.dst := by rw [hce]
      have hdst : c.dst = o.dst := by rw [hce]
      rw [hdst, hk] at q
      refine region_ok TT CX l cl hcl E' w' _ h' (a.put o.dst cv) HT' HH' (by rw [hle.ρ]; exact q) ?_ ?_ fun E2 w2 tm2 h2 a2 q2 hle2 HH2 HT2 => P E2 w2 tm2 h2 a2 q2 (hle.trans hle2) HH2 HT2
      · cases o.dst <;> exact hds
      · cases hdd : o.dst with
        | none => exact hsz
        | some d => simp [Act.put, hsz]
    · cases hcs

/-! ## Code: what is asked -/
def DfOk (E : Env) : List Nat → List Deferred → Prop
  | [], [] => True
  | b :: l, d :: ds => (∃ c, E.σ b = some (c, 0) ∧ d.target = .collected c) ∧ DfOk E l ds
  | _, _ => False
theorem DfOk.mono {E E' : Env} (le : E.le0 E') : ∀ (l : List Nat) (ds : List Deferred), DfOk E l ds → DfOk E' l ds
  | [], [], _ => trivial
  | _ :: l, _ :: ds, ⟨⟨c, h1, h2⟩, h3⟩ => ⟨⟨c, le.σ _ _ h1, h2⟩, DfOk.mono le l ds h3⟩
  | [], _ :: _, h => h.elim
  | _ :: _, [], h => h.elim

def RdOk (E : Env) (x : Option Nat) (rd : Option Nat) : Prop :=
  match x, rd with
  | none, none => True
  | some b, some l => E.σ b = some (l, 0)
  | _, _ => False
theorem RdOk.mono {E E' : Env} (le : E.le E') {x rd : Option Nat} (h : RdOk E x rd) : RdOk E' x rd := by
  cases x <;> cases rd <;> first | exact h | exact le.σ _ _ h

def exOf (x : Ex) : Exit :=
  match x with
  | .norm => .normal
  | .exit id => .exit id
  | .ret => .ret

structure StOk (p : Par) (n : Nat) (keep : List Nat) (E : Env) (w0 : Base) (s : St) (a : Act) (w : World) : Prop where
  tm : TmOk n keep E s.tm a.tmps
  df : DfOk E s.df a.defers
  hp : HeapOk p E s.h w0 w

def CPost (p : Par) (n : Nat) (keep : List Nat) (E : Env) (w0 : Base) (Q : Ex × St → Prop) (Q' : Exit → Act → World → Prop) : Prop :=
  ∀ x s' E' w' a', Q (x, s') → E.le E' → StOk p n keep E' w0 s' a' w' → Q' (exOf x) a' w'

/-- A PIECE OF CODE AND WHAT RUNS IT. -/
def COk (p : Par) (n : Nat) (keep : List Nat) (f : C) (c : Code) : Prop :=
  ∀ cx, CxOk p cx → ∀ wh rd E w0 w s a Q Q', RdOk E wh.rd rd → StOk p n keep E w0 s a w → (f cx wh s).Holds E.ρ Q → CPost p n keep E w0 Q Q' → c.wpIn (fence rd) 0 p.P Q' a w

theorem cOps_ok {p : Par} {ty : Nat → Option TI} (TT : TyOk p.P ty) {n : Nat} {keep : List Nat} {id : Nat} {ops : Array Oper} {cs : List CI} (h : cOpers ty n keep ops.toList ops.toList = some cs) : COk p n keep (cOps cs) (.region id ops false) := by
  intro cx CX wh rd E w0 w s a Q Q' hrd S k P
  have k' : ((runOps cx cs s.tm s.h).bind fun r => T.ret (Ex.norm, (⟨r.1.shut, s.df, r.2⟩ : St))).Holds E.ρ Q := k
  rw [T.holds_bind] at k'
  refine wpIn_region_list (region_ok TT CX (ds := a.defers) (sz := a.tmps.size) ops.toList cs h E w s.tm s.h a S.tm S.hp k' rfl rfl ?_)
  intro E' w' tm' h' a' q hle HH HT hds hsz
  exact P .norm _ E' w' a' q hle ⟨HT.shut, hds ▸ DfOk.mono hle.tole0 _ _ S.df, HH⟩

end Go.Sx
/-! OPERATIONS WITHOUT AN EFFECT LEAVE THE HEAP. -/
namespace Go.Sx
open Go.RowKit

def Quiet (f : Ins) : Prop := ∀ cx tm h (ρ : Rho) r, (f cx tm h).Holds ρ (fun x => x = r) → r.2 = h

theorem quiet_mk2 {h : Heap} {why : Nat} {o : Option AV} {ρ : Rho} {r : AV × Heap} (e : (mk2 h why o).Holds ρ (fun x => x = r)) : r.2 = h := by
  cases o with
  | none => exact e.elim
  | some v => have e' : (v, h) = r := e; rw [← e']
theorem quiet_rMov {h : Heap} {v : AV} {ρ : Rho} {r : AV × Heap} (e : (rMov h v).Holds ρ (fun x => x = r)) : r.2 = h := by
  unfold rMov at e
  cases hb : notBad v with
  | false => rw [hb] at e; exact e.elim
  | true => rw [hb] at e; have e' : (v, h) = r := e; rw [← e']
theorem quiet_mov (y : Opd) : Quiet (iMov y) := fun _ _ _ _ _ e => quiet_rMov e
theorem quiet_pick (x y z : Opd) : Quiet (iPick x y z) := by
  intro cx tm h ρ r e
  simp only [iPick, rPick] at e
  split at e
  · rename_i c hc
    rw [T.holds_ite] at e
    split at e
    · exact quiet_rMov e
    · exact quiet_rMov e
  · exact e.elim
theorem quiet_pure1 (why : Nat) (f : AV → Option AV) (x : Opd) : Quiet (pure1 why f x) := fun _ _ _ _ _ e => quiet_mk2 e
theorem quiet_pure2 (why : Nat) (f : AV → AV → Option AV) (x y : Opd) : Quiet (pure2 why f x y) := fun _ _ _ _ _ e => quiet_mk2 e
theorem quiet_arith (op : BinOp) (x y : Opd) : Quiet (iArith op x y) := by
  intro cx tm h ρ r e
  unfold iArith rArith at e
  split at e
  · have e' : (_, h) = r := e; rw [← e']
  · unfold rDiv at e
    split at e
    · rename_i j u k' u' he1 he2
      cases hk : (kindEq j k' && isDiv op) with
      | false => rw [hk] at e; exact e.elim
      | true =>
        rw [hk, cond_true] at e
        simp only [T.Holds] at e
        split at e
        · have e' : (_, h) = r := e; rw [← e']
        · exact e.elim
    · exact e.elim
theorem quiet_iaddr (size : Nat) (x ix : Opd) : Quiet (iIaddr size x ix) := by
  intro cx tm h ρ r e
  unfold iIaddr rIaddr at e
  split at e
  · unfold rIaddrV at e
    split at e
    · simp only [T.Holds] at e
      split at e
      · have e' : (_, h) = r := e; rw [← e']
      · exact e.elim
    · exact e.elim
  · unfold rIaddrS at e
    split at e
    · have e' : (_, h) = r := e; rw [← e']
    · split at e
      · obtain ⟨m, _, e⟩ := rIaddrS_holds e
        exact quiet_mk2 e
      · exact e.elim
theorem quiet_case {h : Heap} {why n : Nat} {g : AV → Option AV} {ix : AV} {ρ : Rho} {r : AV × Heap} (e : (rCase h why n g ix).Holds ρ fun x => x = r) : r.2 = h := by
  obtain ⟨z, _, e⟩ := rCase_holds e
  exact quiet_mk2 e
theorem quiet_load (x : Opd) : Quiet (iLoad x) := fun _ _ _ _ _ e => quiet_mk2 e
theorem quiet_loadN (n : Nat) (x : Opd) : Quiet (iLoadN n x) := fun _ _ _ _ _ e => quiet_mk2 e
theorem quiet_build (z : List AV) (ps : List (Nat × Nat × Opd)) : Quiet (iBuild z ps) := by
  intro cx tm h ρ r e
  simp only [iBuild, rBuild] at e
  cases hf : fillA (evp tm ps) z with
  | none => rw [hf] at e; exact e.elim
  | some cs => rw [hf] at e; have e' : (AV.agg cs, h) = r := e; rw [← e']
theorem quiet_func (fn : Fn) (x y : List Opd) : Quiet (iFunc fn x y) := by
  intro cx tm h ρ r e
  simp only [iFunc, rFunc] at e
  revert e
  cases (and (lAll notBad (evs tm x)) (lAll notBad (evs tm y))) with
  | false => intro e; exact e.elim
  | true => intro e; have e' : (AV.func fn (evs tm x) (evs tm y), h) = r := e; rw [← e']
theorem quiet_slice (size : Nat) (x : Opd) (lo hi mx : Option Opd) : Quiet (iSlice size x lo hi mx) := fun _ _ _ _ _ e => quiet_mk2 e
theorem quiet_sliceA (size n : Nat) (x : Opd) (lo hi mx : Option Opd) : Quiet (iSliceA size n x lo hi mx) := fun _ _ _ _ _ e => quiet_mk2 e
theorem quiet_lookup (z : AV) (wh : Bool) (n : Nat) (ls : List (Nat × Leaf)) (ok : Bool) (x k : Opd) : Quiet (iLookup z wh n ls ok x k) := fun _ tm h _ _ e => by
  simp only [iLookup, rLookup] at e
  split at e
  · unfold rLookupU at e
    split at e
    · rename_i q _
      revert e
      generalize and (and _ _) _ = c
      cases c with
      | false => intro e; exact e.elim
      | true =>
        intro e
        simp only [cond_true, T.Holds] at e
        split at e
        · rw [← e]
        · rw [← e]
    · exact e.elim
  · exact quiet_mk2 e
theorem quiet_lenM (x : Opd) : Quiet (iLenM x) := fun _ _ _ _ _ e => quiet_mk2 e
theorem quiet_lenA (n : Nat) : Quiet (iLenA n) := fun _ _ h _ r e => by have e' : ((AV.int .i64 (.lit (Int.ofNat n))), h) = r := e; rw [← e']
theorem quiet_max (xs : List Opd) : Quiet (iMax xs) := fun _ _ _ _ _ e => quiet_mk2 e
theorem quiet_min (xs : List Opd) : Quiet (iMin xs) := fun _ _ _ _ _ e => quiet_mk2 e

theorem quiet_bin {ty : Nat → Option TI} {op : BinOp} {t : TypeId} {x y : Opd} {f : Ins} (h : cBin ty op t x y = some f) : Quiet f := by
  unfold cBin at h
  split at h <;> first
    | (cases h; exact quiet_pure2 _ _ _ _)
    | (cases h; exact quiet_arith _ _ _)
    | skip
  all_goals
    split at h
    · rename_i i hi
      cases hint : isInt i with
      | true => rw [hint] at h; cases h; exact quiet_pure2 _ _ _ _
      | false =>
        rw [hint, cond_false] at h
        split at h
        · cases h; exact quiet_pure2 _ _ _ _
        · cases h
    · cases h

theorem quiet_of {ty : Nat → Option TI} {op : Op} {f : Ins} (h : cOp ty op = some f) (he : isEff op = false) : Quiet f := by
  cases op with
  | move x => obtain ⟨y, hy, hk⟩ := with1_some h; cases hk; exact quiet_mov _
  | assign x => obtain ⟨y, hy, hk⟩ := with1_some h; cases hk; exact quiet_mov _
  | pick c a b => obtain ⟨y1, y2, y3, e1, e2, e3, hk⟩ := with3_some h; cases hk; exact quiet_pick _ _ _
  | build t ps =>
    simp only [cOp] at h
    unfold cBuild at h
    split at h
    · split at h
      · split at h
        · rename_i fs hd
          cases ha : (fs.toList.all fun f => (ty f.type).isSome) with
          | false => rw [ha] at h; cases h
          | true =>
            rw [ha, cond_true] at h
            cases hp : cParts (placeF ty fs.toList) ps.toList with
            | none => rw [hp] at h; cases h
            | some q => rw [hp] at h; cases h; exact quiet_build _ _
        · split at h
          · rename_i j hj
            cases hp : cParts (fun n => some (n * j.size, j.size)) ps.toList with
            | none => rw [hp] at h; cases h
            | some q => rw [hp] at h; cases h; exact quiet_build _ _
          · cases h
        · cases h
      · cases h
    · cases h
  | load t x =>
    obtain ⟨y, hy, hk⟩ := with1_some h
    split at hk
    · rename_i i hi
      cases ha : i.isAgg with
      | true => rw [ha] at hk; cases hk; exact quiet_loadN _ _
      | false => rw [ha] at hk; cases hk; exact quiet_load _
    · cases hk
  | binOp op t x y t' => obtain ⟨y1, y2, e1, e2, hk⟩ := with2_some h; exact quiet_bin hk
  | unOp op t x =>
    obtain ⟨y, hy, hk⟩ := with1_some h
    split at hk
    · cases hk; exact quiet_pure1 _ _ _
    · cases hk; exact quiet_pure1 _ _ _
    · cases hk
  | convert s d x =>
    obtain ⟨y, hy, hk⟩ := with1_some h
    split at hk
    · cases hk; exact quiet_pure1 _ _ _
    · cases hk
  | makeFunc fn first captured =>
    simp only [cOp] at h
    cases hn : notYield fn with
    | false => rw [hn] at h; cases h
    | true =>
      rw [hn, cond_true] at h
      split at h
      · cases h; exact quiet_func _ _ _
      · cases h
  | slice t x lo hi mx =>
    simp only [cOp] at h
    split at h
    · rename_i y l u m h1 h2 h3 h4
      unfold cSlice at h
      cases hc : (m.isNone || u.isSome) with
      | false => rw [hc] at h; cases h
      | true =>
        rw [hc, cond_true] at h
        split at h
        · split at h
          · split at h
            · rename_i j hj
              cases hb : Nat.ble 1 j.size with
              | false => rw [hb] at h; cases h
              | true => rw [hb, cond_true, Option.some.injEq] at h; subst h; exact quiet_slice _ _ _ _ _
            · cases h
          · split at h
            · cases h; exact quiet_sliceA _ _ _ _ _ _
            · cases h
          · cases h
        · cases h
    · cases h
  | fieldAddr t x f =>
    obtain ⟨y, hy, hk⟩ := with1_some h
    split at hk
    · rename_i q hq
      cases hb : Nat.ble 1 q.2.size with
      | false => rw [hb] at hk; cases hk
      | true => rw [hb] at hk; cases hk; exact quiet_pure1 _ _ _
    · cases hk
  | field t x f =>
    obtain ⟨y, hy, hk⟩ := with1_some h
    split at hk
    · cases hk; exact quiet_pure1 _ _ _
    · cases hk
  | indexAddr t x ix =>
    obtain ⟨y1, y2, e1, e2, hk⟩ := with2_some h
    unfold cIaddr at hk
    split at hk
    · split at hk
      · split at hk
        · cases hk; exact quiet_iaddr _ _ _
        · cases hk
      · split at hk
        · cases hk; exact fun _ _ _ _ _ e => quiet_case e
        · cases hk
      · cases hk
    · cases hk
  | index t x ix =>
    obtain ⟨y1, y2, e1, e2, hk⟩ := with2_some h
    unfold cIndex at hk
    split at hk
    · split at hk
      · split at hk
        · cases hk; exact fun _ _ _ _ _ e => quiet_case e
        · cases hk
      · cases hk
    · cases hk
  | lookup t x k ok =>
    obtain ⟨y1, y2, e1, e2, hk⟩ := with2_some h
    split at hk
    · split at hk
      · cases hk; exact quiet_lookup _ _ _ _ _ _ _
      · cases hk
    · cases hk
  | extract t ix => obtain ⟨y, hy, hk⟩ := with1_some h; cases hk; exact quiet_pure1 _ _ _
  | call c =>
    simp only [cOp] at h
    unfold cCall at h
    split at h
    · cases h
    · split at h
      · rename_i g hg
        simp only [isEff, hg] at he
        cases he
      · cases h
      · rename_i b hb
        simp only [isEff, hb] at he
        split at h
        · split at h
          · split at h
            · split at h
              · cases h; exact quiet_lenA _
              · cases h; exact quiet_pure1 _ _ _
              · cases h; exact quiet_lenM _
              · cases h
            · cases h
          · cases h
        · rename_i args _ _ _
          cases h2 : Nat.ble 2 args.length with
          | false => rw [h2] at h; cases h
          | true => rw [h2] at h; cases h; exact quiet_max _
        · rename_i args _ _ _
          cases h2 : Nat.ble 2 args.length with
          | false => rw [h2] at h; cases h
          | true => rw [h2] at h; cases h; exact quiet_min _
        · cases he
        · cases he
        · cases h
  | _ => cases he

theorem quiet_runC {ty : Nat → Option TI} {n : Nat} {keep : List Nat} {ops : List Oper} {o : Oper} {c : CI} (h : cOper ty n keep ops o = some c) (he : isEff o.op = false) {cx : Cx} {tm : Tm} {hp : Heap} {ρ : Rho} {r : AV × Heap}
    (e : (runC cx tm hp c).Holds ρ (fun x => x = r)) : r.2 = hp := by
  obtain ⟨f, g, hf, hg, hd, rfl⟩ := cOper_some h
  have q := quiet_of hf he
  unfold runC at e
  cases g with
  | none => exact q _ _ _ _ _ e
  | some p =>
    simp only at e
    cases hc : guardOf tm p with
    | none => rw [hc] at e; exact e.elim
    | some c =>
      rw [hc] at e
      simp only at e
      rw [T.holds_ite] at e
      split at e
      · exact q _ _ _ _ _ e
      · have e' : (undefA, hp) = r := e
        rw [← e']

theorem opEq_eq {a b : BinOp} (h : opEq a b = true) : a = b := by
  cases a <;> cases b <;> first | rfl | cases h

theorem eqIE_eq : ∀ (a b : IE), eqIE a b = true → a = b
  | .lit x, b, h => by
    cases b <;> simp [eqIE] at h
    rw [ieq_eq] at h
    rw [eq_of_beq h]
  | .var x, b, h => by
    cases b <;> simp [eqIE] at h
    rw [h]
  | .bin o k x y, b, h => by
    cases b <;> simp [eqIE] at h
    rw [opEq_eq h.1.1, kindEq_eq h.1.2, eqIE_eq x _ h.2.1, eqIE_eq y _ h.2.2]
  | .conv k x, b, h => by
    cases b <;> simp [eqIE] at h
    rw [kindEq_eq h.1, eqIE_eq x _ h.2]
  | .mx x y, b, h => by
    cases b <;> simp [eqIE] at h
    rw [eqIE_eq x _ h.1, eqIE_eq y _ h.2]
  | .mn x y, b, h => by
    cases b <;> simp [eqIE] at h
    rw [eqIE_eq x _ h.1, eqIE_eq y _ h.2]
  | .app f x y z, b, h => by
    cases b <;> simp [eqIE] at h
    rw [h.1, eqIE_eq x _ h.2.1, eqIE_eq y _ h.2.2.1, eqIE_eq z _ h.2.2.2]

theorem cmpEq_eq {a b : BinOp} (h : cmpEq a b = true) : a = b := by
  cases a <;> cases b <;> first | rfl | cases h

theorem eqBE_eq : ∀ (a b : BE), eqBE a b = true → a = b
  | .lit x, b, h => by
    cases b <;> simp [eqBE] at h
    rw [h]
  | .var x, b, h => by
    cases b <;> simp [eqBE] at h
    rw [h]
  | .not x, b, h => by
    cases b <;> simp [eqBE] at h
    rw [eqBE_eq x _ h]
  | .and x y, b, h => by
    cases b <;> simp [eqBE] at h
    rw [eqBE_eq x _ h.1, eqBE_eq y _ h.2]
  | .cmp o x y, b, h => by
    cases b <;> simp [eqBE] at h
    rw [cmpEq_eq h.1, eqIE_eq x _ h.2.1, eqIE_eq y _ h.2.2]
  | .iff x y, b, h => by
    cases b <;> simp [eqBE] at h
    rw [eqBE_eq x _ h.1, eqBE_eq y _ h.2]
  | .app f x y z, b, h => by
    cases b <;> simp [eqBE] at h
    rw [h.1, eqIE_eq x _ h.2.1, eqIE_eq y _ h.2.2.1, eqIE_eq z _ h.2.2.2]

mutual
theorem eqAV_eq : ∀ (a b : AV), eqAV a b = true → a = b
  | .bool x, b, h => by
    cases b <;> simp [eqAV] at h
    rw [eqBE_eq _ _ h]
  | .int k x, b, h => by
    cases b <;> simp [eqAV] at h
    rw [kindEq_eq h.1, eqIE_eq _ _ h.2]
  | .ptr x o, b, h => by
    cases b <;> simp [eqAV] at h
    rw [h.1, h.2]
  | .nilptr, b, h => by cases b <;> first | rfl | simp [eqAV] at h
  | .slice x o l c, b, h => by
    cases b <;> simp [eqAV] at h
    rw [h.1.1, h.1.2, h.2.1, h.2.2]
  | .sliceU i, b, h => by
    cases b <;> simp [eqAV] at h
    rw [h]
  | .sliceV b i, c, h => by
    cases c <;> simp [eqAV] at h
    rw [h.1, h.2]
  | .ptrV b i s o e, c, h => by
    cases c <;> simp [eqAV] at h
    rw [h.1.1, h.1.2, h.2.1.1, h.2.1.2, eqIE_eq _ _ h.2.2]
  | .sliceX x o l c, b, h => by
    cases b <;> simp [eqAV] at h
    rw [h.1.1, h.1.2, h.2.1, h.2.2]
  | .nilslice, b, h => by cases b <;> first | rfl | simp [eqAV] at h
  | .map x, b, h => by
    cases b <;> simp [eqAV] at h
    rw [h]
  | .nilmap, b, h => by cases b <;> first | rfl | simp [eqAV] at h
  | .nilFunc, b, h => by cases b <;> first | rfl | simp [eqAV] at h
  | .func fn x y, b, h => by
    cases b <;> (try (cases fn <;> simp [eqAV] at h; done))
    rename_i fn' x' y'
    cases fn <;> cases fn' <;> simp [eqAV] at h
    rw [h.1, eqAVs_eq x x' h.2.1, eqAVs_eq y y' h.2.2]
  | .agg x, b, h => by
    cases b <;> simp [eqAV] at h
    rw [eqAVs_eq x _ h]
  | .tup x, b, h => by
    cases b <;> simp [eqAV] at h
    rw [eqAVs_eq x _ h]
  | .yieldF x, b, h => by
    cases b <;> simp [eqAV] at h
    rw [h]
  | .opq _, b, h => by cases b <;> simp [eqAV] at h
  | .bad, b, h => by cases b <;> simp [eqAV] at h
theorem eqAVs_eq : ∀ (a b : List AV), eqAVs a b = true → a = b
  | [], [], _ => rfl
  | [], _ :: _, h => by simp [eqAVs] at h
  | _ :: _, [], h => by simp [eqAVs] at h
  | a :: l, b :: m, h => by
    simp [eqAVs] at h
    rw [eqAV_eq a b h.1, eqAVs_eq l m h.2]
end
end Go.Sx
/-! REGIONS WHOSE ORDER OF EVALUATION IS DRAWN: the plan's facts. -/
namespace Go.Sx
open Go.RowKit

/-! ## The plan's entries -/
theorem cOpers_get {ty : Nat → Option TI} {n : Nat} {keep : List Nat} {ops : List Oper} : ∀ (l : List Oper) (cs : List CI), cOpers ty n keep ops l = some cs → cs.length = l.length ∧ ∀ (i : Nat) (o : Oper), l[i]? = some o → ∃ c, cs[i]? = some c ∧ cOper ty n keep ops o = some c
  | [], cs, h => by cases h; exact ⟨rfl, fun i o e => by simp at e⟩
  | o :: l, cs, h => by
    simp only [cOpers] at h
    split at h
    · rename_i c cl hc hcl
      cases h
      obtain ⟨h1, h2⟩ := cOpers_get l cl hcl
      refine ⟨by simp [h1], fun i o' e => ?_⟩
      cases i with
      | zero => simp at e; subst e; exact ⟨c, rfl, hc⟩
      | succ i => simp at e; exact h2 i o' e
    · cases h

theorem planOf_get {ty : Nat → Option TI} (effs fls ms : List Nat) : ∀ (l : List Oper) (cs : List CI) (k : Nat) (dis : List DI), cs.length = l.length → planOf ty effs fls ms k l cs = some dis → dis.length = l.length ∧
    ∀ i o c, l[i]? = some o → cs[i]? = some c → ∃ d, dis[i]? = some d ∧ planAt ty effs fls ms (k + i) o c = some d
  | [], cs, k, dis, h, hp => by
    cases cs <;> (simp only [planOf, Option.some.injEq] at hp; subst hp; exact ⟨rfl, fun i o c e => by simp at e⟩)
  | o :: l, [], k, dis, h, _ => by simp at h
  | o :: l, c :: cs, k, dis, h, hp => by
    simp only [planOf] at hp
    split at hp
    · rename_i a dl ha hl
      cases hp
      obtain ⟨h1, h2⟩ := planOf_get effs fls ms l cs (k + 1) dl (by simpa using h) hl
      refine ⟨by simp [h1], fun i o' c' e1 e2 => ?_⟩
      cases i with
      | zero => simp at e1 e2; subst e1; subst e2; exact ⟨a, rfl, ha⟩
      | succ i =>
        simp at e1 e2
        obtain ⟨d, g1, g2⟩ := h2 i o' c' e1 e2
        exact ⟨d, by simpa using g1, by rw [show k + (i + 1) = k + 1 + i by omega]; exact g2⟩
    · cases hp

/-- what a plan's entry is -/
def PlanIs (ty : Nat → Option TI) (fls ms : List Nat) (i : Nat) (o : Oper) (d : DI) : Prop :=
  (d.fl = none ∧ d.eff = isEff o.op ∧ memB fls i = false ∧ (d.eff = false → d.due = []) ∧ (d.eff = true → d.due = dueOf ms i fls fls)) ∨
  (∃ q, cFl ty o.op = some q ∧ d.fl = some (q.1, q.2, posOf fls i) ∧ d.eff = false ∧ memB fls i = true)

theorem planAt_is {ty : Nat → Option TI} {effs fls ms : List Nat} {i : Nat} {o : Oper} {c : CI} {d : DI} (h : planAt ty effs fls ms i o c = some d) : d.ci = c ∧ d.reads = readsOf o c ∧ PlanIs ty fls ms i o d := by
  unfold planAt at h
  cases hm : memB fls i with
  | true =>
    rw [hm, cond_true] at h
    split at h
    · rename_i q hq; cases h; exact ⟨rfl, rfl, .inr ⟨q, hq, rfl, rfl, hm⟩⟩
    · cases h
  | false =>
    rw [hm, cond_false] at h
    cases he : isEff o.op with
    | true => rw [he, cond_true] at h; cases h; exact ⟨rfl, rfl, .inl ⟨rfl, he.symm, hm, fun h => (by cases h), fun _ => rfl⟩⟩
    | false => rw [he, cond_false] at h; cases h; exact ⟨rfl, rfl, .inl ⟨rfl, he.symm, hm, fun _ => rfl, fun h => (by cases h)⟩⟩

theorem rowOk_get {ms : List Nat} {i : Nat} {a : DI} : ∀ (l : List DI) (k : Nat), rowOk ms i a k l = true → ∀ j b, l[j]? = some b → pairOk ms i (k + j) a b = true
  | [], k, _, j, b, e => by simp at e
  | c :: l, k, h, j, b, e => by
    simp only [rowOk, Bool.and_eq_true] at h
    cases j with
    | zero => simp at e; subst e; exact h.1
    | succ j =>
      simp at e
      have := rowOk_get l (k + 1) h.2 j b e
      rw [show k + (j + 1) = k + 1 + j by omega]; exact this

theorem rowsOk_get {ms : List Nat} {all : List DI} : ∀ (l : List DI) (k : Nat), rowsOk ms all k l = true → ∀ i a j b, l[i]? = some a → all[j]? = some b → pairOk ms (k + i) j a b = true
  | [], k, _, i, a, j, b, e, _ => by simp at e
  | c :: l, k, h, i, a, j, b, e, e2 => by
    simp only [rowsOk, Bool.and_eq_true] at h
    cases i with
    | zero => simp at e; subst e; have := rowOk_get all 0 h.1 j b e2; simpa using this
    | succ i =>
      simp at e
      have := rowsOk_get l (k + 1) h.2 i a j b e e2
      rw [show k + (i + 1) = k + 1 + i by omega]; exact this

theorem edgesOk_get : ∀ (l : List Oper) (k : Nat), edgesOk k l = true → ∀ i o, l[i]? = some o → ∀ e ∈ o.after, Region.binds .any e = true → e.on < k + i
  | [], k, _, i, o, h, _, _, _ => by simp at h
  | c :: l, k, h, i, o, e, ed, he, hb => by
    simp only [edgesOk, Bool.and_eq_true, List.all_eq_true] at h
    cases i with
    | zero =>
      simp at e; subst e
      have h1 := h.1 ed (by simpa using he)
      rw [hb] at h1
      have := ble_t.1 (by simpa using h1)
      omega
    | succ i =>
      simp at e
      have := edgesOk_get l (k + 1) h.2 i o e ed he hb
      omega

/-! ## Which operations come before -/
theorem testBit_one_shift (k j : Nat) : Nat.testBit (Nat.shiftLeft 1 k) j = decide (k = j) := by
  show Nat.testBit (1 <<< k) j = decide (k = j)
  rw [Nat.one_shiftLeft, Nat.testBit_two_pow]

theorem maskOf_bit {acc : List Nat} {j : Nat} : ∀ (l : List Edge), Nat.testBit (maskOf acc l) j = true → ∃ e ∈ l, Region.binds .any e = true ∧ (e.on = j ∨ Nat.testBit (natGet acc e.on) j = true)
  | [], h => by simp [maskOf] at h
  | e :: l, h => by
    simp only [maskOf] at h
    cases hb : Region.binds .any e with
    | false =>
      rw [hb, cond_false] at h
      obtain ⟨e', h1, h2⟩ := maskOf_bit l h
      exact ⟨e', List.mem_cons_of_mem _ h1, h2⟩
    | true =>
      rw [hb, cond_true] at h
      have h' : Nat.testBit ((Nat.shiftLeft 1 e.on ||| natGet acc e.on) ||| maskOf acc l) j = true := h
      rw [Nat.testBit_or, Nat.testBit_or, testBit_one_shift] at h'
      rw [Bool.or_eq_true, Bool.or_eq_true] at h'
      rcases h' with h1 | h1
      · refine ⟨e, List.mem_cons_self, hb, ?_⟩
        rcases h1 with h2 | h2
        · exact .inl (by simpa using h2)
        · exact .inr h2
      · obtain ⟨e', h1, h2⟩ := maskOf_bit l h1
        exact ⟨e', List.mem_cons_of_mem _ h1, h2⟩

theorem masks_pre : ∀ (l : List Oper) (acc : List Nat) (i : Nat), i < acc.length → (masks acc l)[i]? = acc[i]?
  | [], acc, i, _ => rfl
  | o :: l, acc, i, h => by
    simp only [masks]
    rw [masks_pre l _ i (by simp; omega), List.getElem?_append_left h]

theorem natGet_le {acc acc' : List Nat} (h : ∀ i, i < acc.length → acc'[i]? = acc[i]?) (x j : Nat) (hb : Nat.testBit (natGet acc x) j = true) : Nat.testBit (natGet acc' x) j = true := by
  unfold natGet at *
  by_cases hx : x < acc.length
  · rw [h x hx]; exact hb
  · rw [List.getElem?_eq_none (by omega)] at hb; simp at hb

theorem masks_bit : ∀ (l : List Oper) (acc : List Nat) (i : Nat) (o : Oper) (j : Nat), l[i]? = some o → Nat.testBit (natGet (masks acc l) (acc.length + i)) j = true →
    ∃ e ∈ o.after, Region.binds .any e = true ∧ (e.on = j ∨ Nat.testBit (natGet (masks acc l) e.on) j = true)
  | [], acc, i, o, j, h, _ => by simp at h
  | o :: l, acc, i, o', j, h, hb => by
    cases i with
    | zero =>
      simp at h; subst h
      have hm : (masks acc (o :: l))[acc.length + 0]? = some (maskOf acc o.after.toList) := by
        simp only [masks, Nat.add_zero]
        rw [masks_pre l _ acc.length (by simp)]; simp
      unfold natGet at hb
      rw [hm] at hb
      obtain ⟨e, h1, h2, h3⟩ := maskOf_bit _ hb
      refine ⟨e, by simpa using h1, h2, h3.imp id fun h4 => natGet_le (fun i hi => ?_) _ _ h4⟩
      exact masks_pre (o :: l) acc i hi
    | succ i =>
      simp at h
      simp only [masks] at hb ⊢
      refine masks_bit l (acc ++ [maskOf acc o.after.toList]) i o' j h ?_
      rw [show (acc ++ [maskOf acc o.after.toList]).length + i = acc.length + (i + 1) by simp; omega]
      exact hb

/-! ## The numbers of the effects -/
def effCount : List DI → Nat
  | [] => 0
  | o :: l => cond o.eff (effCount l + 1) (effCount l)

theorem numbered_get : ∀ (l : List DI) (k : Nat), numbered k l = true → ∀ r, k ≤ r → r < k + effCount l → ∃ (i : Nat) (d : DI), l[i]? = some d ∧ d.eff = true ∧ d.lo = r
  | [], k, _, r, h1, h2 => by simp [effCount] at h2; omega
  | o :: l, k, h, r, h1, h2 => by
    simp only [numbered, effCount] at h h2
    cases he : o.eff with
    | false =>
      rw [he] at h h2
      obtain ⟨i, d, h3, h4⟩ := numbered_get l k h r h1 h2
      exact ⟨i + 1, d, by simpa using h3, h4⟩
    | true =>
      rw [he, cond_true] at h h2
      simp only [Bool.and_eq_true] at h
      by_cases hr : r = k
      · exact ⟨0, o, rfl, he, by rw [beq_t.1 h.1, hr]⟩
      · obtain ⟨i, d, h3, h4⟩ := numbered_get l (k + 1) h.2 r (by omega) (by omega)
        exact ⟨i + 1, d, by simpa using h3, h4⟩

theorem numbered_lt : ∀ (l : List DI) (k : Nat), numbered k l = true → ∀ (i : Nat) (d : DI), l[i]? = some d → d.eff = true → k ≤ d.lo ∧ d.lo < k + effCount l
  | [], k, _, i, d, h, _ => by simp at h
  | o :: l, k, h, i, d, e, hd => by
    simp only [numbered, effCount] at h ⊢
    cases he : o.eff with
    | false =>
      rw [he] at h
      rw [cond_false]
      cases i with
      | zero => simp at e; subst e; rw [hd] at he; cases he
      | succ i => simp at e; exact numbered_lt l k h i d e hd
    | true =>
      rw [he, cond_true] at h
      simp only [Bool.and_eq_true] at h
      rw [cond_true]
      cases i with
      | zero => simp at e; subst e; have := beq_t.1 h.1; omega
      | succ i => simp at e; have := numbered_lt l (k + 1) h.2 i d e hd; omega

end Go.Sx
/-! REGIONS WHOSE ORDER OF EVALUATION IS DRAWN: the run in the order of the list, and what it says of every order. -/
namespace Go.Sx
open Go.RowKit

theorem restrL_cons (tm : Tm) (t : Nat) (l : List Nat) : restrL tm (t :: l) = (match tm.look t with | some v => (t, v) :: restrL tm l | none => restrL tm l) := rfl

theorem restr_congr {tm tm' : Tm} : ∀ (l : List Nat), (∀ t ∈ l, tm.look t = tm'.look t) → restr tm l = restr tm' l := by
  intro l h
  have : restrL tm l = restrL tm' l := by
    induction l with
    | nil => rfl
    | cons t l ih =>
      rw [restrL_cons, restrL_cons, h t List.mem_cons_self, ih fun x hx => h x (List.mem_cons_of_mem _ hx)]
  unfold restr; rw [this]

theorem restrL_find {tm : Tm} : ∀ (l : List Nat) (t : Nat) (v : AV), lFind (restrL tm l) t = some v → t ∈ l ∧ tm.look t = some v
  | [], t, v, h => by cases h
  | u :: l, t, v, h => by
    rw [restrL_cons] at h
    cases hu : tm.look u with
    | none =>
      rw [hu] at h
      obtain ⟨h1, h2⟩ := restrL_find l t v h
      exact ⟨List.mem_cons_of_mem _ h1, h2⟩
    | some x =>
      rw [hu] at h
      simp only [lFind_cons] at h
      by_cases c : u = t
      · subst c; rw [beq_t.2 rfl] at h; cases h; exact ⟨List.mem_cons_self, hu⟩
      · rw [beq_f.2 c] at h
        obtain ⟨h1, h2⟩ := restrL_find l t v h
        exact ⟨List.mem_cons_of_mem _ h1, h2⟩

theorem restr_ok {n : Nat} {keep : List Nat} {E : Env} {tm : Tm} {arr : Array Value} {l : List Nat} (hs : n ≤ arr.size) (h : ∀ t ∈ l, ∀ v, tm.look t = some v → good E arr t v) : TmOk n keep E (restr tm l) arr :=
  ⟨hs, fun i a e => h i (restrL_find l i a e).1 a (restrL_find l i a e).2, ⟨fun i a e => by rw [show (restr tm l).tree = .nil from rfl, PT.get_nil] at e; cases e⟩⟩

theorem look_put_ne {tm : Tm} {d t : Nat} (h : d ≠ t) (keep : Bool) (v : AV) : (tm.put d keep v).look t = tm.look t := by
  unfold Tm.look Tm.put
  simp only [lFind_cons, beq_f.2 h, cond_false]
  cases lFind tm.loc t with
  | some x => rfl
  | none =>
    cases keep with
    | true => simp only [cond_true, PT.get_set]; rw [if_neg (Ne.symm h)]
    | false => rfl
theorem look_put (tm : Tm) (d : Nat) (keep : Bool) (v : AV) : (tm.put d keep v).look d = some v := by
  unfold Tm.look Tm.put
  simp only [lFind_cons, beq_t.2 rfl, cond_true]
theorem look_setDst_ne {tm : Tm} {dst : Option Nat} {t : Nat} (h : dst ≠ some t) (keep : Bool) (v : AV) : (setDst tm dst keep v).look t = tm.look t := by
  cases dst with
  | none => rfl
  | some d => exact look_put_ne (fun e => h (by rw [e])) keep v

theorem runD_cons (cx : Cx) (base : Nat) (o : DI) (l : List DI) (tm : Tm) (h : Heap) (hs : List Heap) (vs : List (Tm × AV)) (pd : List (Nat × List AV)) : runD cx base (o :: l) tm h hs vs pd = stepD cx base o (runD cx base l) tm h hs vs pd := rfl

/-- an allocation that no order binds: its value; what it lays -/
noncomputable def flV (base : Nat) (fl : FIns × FK × Nat) (pe : Option (List AV)) : AV :=
  match pe with
  | none => undefA
  | some _ => fl.2.1.val (base + fl.2.2)
def flP (fl : FIns × FK × Nat) (pe : Option (List AV)) (pd : List (Nat × List AV)) : List (Nat × List AV) :=
  match pe with
  | none => pd
  | some cs => (fl.2.2, cs) :: pd

/-- one way through a run -/
def RunsD (ρ : Rho) (cx : Cx) (base : Nat) : List DI → Tm → Heap → List Heap → List (Tm × AV) → List (Nat × List AV) → DR → Prop
  | [], tm, h, hs, vs, pd, R => R = (tm, h :: hs, vs, pd)
  | o :: l, tm, h, hs, vs, pd, R => (o.fl = none ∧ ∃ h1 r v, conv base pd o.due h = some h1 ∧ (runC cx (restr tm o.reads) h1 o.ci).Holds ρ (fun x => x = r) ∧ Same ρ v r.1 ∧
      RunsD ρ cx base l (setDst tm o.ci.dst o.ci.keep v) r.2 (cond o.eff (h :: hs) hs) ((restr tm o.reads, r.1) :: vs) pd R) ∨
      (∃ fl pe, o.fl = some fl ∧ runFl (restr tm o.reads) o.ci.guard fl.1 = some pe ∧
        RunsD ρ cx base l (setDst tm o.ci.dst o.ci.keep (flV base fl pe)) h hs ((restr tm o.reads, flV base fl pe) :: vs) (flP fl pe pd) R)

theorem T.holds_one {α : Type} {ρ : Rho} {t : T α} {Q : α → Prop} (h : t.Holds ρ Q) : ∃ a, t.Holds ρ (fun x => x = a) ∧ Q a := by
  induction t with
  | ret a => exact ⟨a, rfl, h⟩
  | br c t f iht ihf =>
    simp only [T.Holds] at h
    split at h
    · rename_i hc
      obtain ⟨a, h1, h2⟩ := iht h
      exact ⟨a, by simp only [T.Holds]; rw [if_pos hc]; exact h1, h2⟩
    · rename_i hc
      obtain ⟨a, h1, h2⟩ := ihf h
      exact ⟨a, by simp only [T.Holds]; rw [if_neg hc]; exact h1, h2⟩
  | fail w => exact h.elim

theorem runD_runs {ρ : Rho} {cx : Cx} {base : Nat} {Q : DR → Prop} : ∀ (l : List DI) (tm : Tm) (h : Heap) (hs : List Heap) (vs : List (Tm × AV)) (pd : List (Nat × List AV)), (runD cx base l tm h hs vs pd).Holds ρ Q → ∃ R, RunsD ρ cx base l tm h hs vs pd R ∧ Q R
  | [], tm, h, hs, vs, pd, k => ⟨_, rfl, k⟩
  | o :: l, tm, h, hs, vs, pd, k => by
    rw [runD_cons] at k
    unfold stepD at k
    split at k
    · rename_i hfl
      split at k
      · exact k.elim
      · rename_i h1 hc
        rw [T.holds_bind] at k
        obtain ⟨r, g1, g2⟩ := T.holds_one k
        obtain ⟨v, g3, g4⟩ := holds_fork g2
        obtain ⟨R, g5, g6⟩ := runD_runs l _ _ _ _ _ g3
        exact ⟨R, .inl ⟨hfl, h1, r, v, hc, g1, g4, g5⟩, g6⟩
    · rename_i fl hfl
      split at k
      · exact k.elim
      · rename_i hr
        obtain ⟨R, g5, g6⟩ := runD_runs l _ _ _ _ _ k
        exact ⟨R, .inr ⟨fl, none, hfl, hr, g5⟩, g6⟩
      · rename_i cs hr
        obtain ⟨R, g5, g6⟩ := runD_runs l _ _ _ _ _ k
        exact ⟨R, .inr ⟨fl, some cs, hfl, hr, g5⟩, g6⟩

def Once (l : List DI) : Prop := ∀ (i j : Nat) (d d' : DI) (t : Nat), i < j → l[i]? = some d → l[j]? = some d' → d.ci.dst = some t → d'.ci.dst ≠ some t
theorem Once.tail {o : DI} {l : List DI} (h : Once (o :: l)) : Once l := fun i j d d' t hij h1 h2 => h (i + 1) (j + 1) d d' t (by omega) (by simpa using h1) (by simpa using h2)
theorem Once.head {o : DI} {l : List DI} (h : Once (o :: l)) {t : Nat} (ht : o.ci.dst = some t) : ∀ d ∈ l, d.ci.dst ≠ some t := fun d hd => by
  obtain ⟨j, hj⟩ := List.getElem?_of_mem hd
  exact h 0 (j + 1) o d t (by omega) rfl (by simpa using hj) ht

def QuietD (d : DI) : Prop := d.fl = none → d.eff = false → d.due = [] ∧ ∀ cx tm h ρ r, (runC cx tm h d.ci).Holds ρ (fun x => x = r) → r.2 = h
def FloatD (d : DI) : Prop := d.fl ≠ none → d.eff = false

def OnceF (l : List DI) : Prop := ∀ (i j : Nat) (d d' : DI) (f f' : FIns × FK × Nat), i < j → l[i]? = some d → l[j]? = some d' → d.fl = some f → d'.fl = some f' → f.2.2 ≠ f'.2.2
theorem OnceF.tail {o : DI} {l : List DI} (h : OnceF (o :: l)) : OnceF l := fun i j d d' f f' hij h1 h2 => h (i + 1) (j + 1) d d' f f' (by omega) (by simpa using h1) (by simpa using h2)
theorem OnceF.head {o : DI} {l : List DI} (h : OnceF (o :: l)) {f : FIns × FK × Nat} (hf : o.fl = some f) : ∀ d ∈ l, ∀ f', d.fl = some f' → f.2.2 ≠ f'.2.2 := fun d hd f' hf' => by
  obtain ⟨j, hj⟩ := List.getElem?_of_mem hd
  exact h 0 (j + 1) o d f f' (by omega) rfl (by simpa using hj) hf hf'

/-- what is said of the i-th operation of the list -/
def AtOk (ρ : Rho) (cx : Cx) (base : Nat) (l : List DI) (tm tmF : Tm) (HS : List Heap) (V : Option (Tm × AV)) (pdF : List (Nat × List AV)) (i : Nat) (d : DI) : Prop :=
  ∃ tmi v, (∀ t, (∀ (j : Nat) (d' : DI), i ≤ j → l[j]? = some d' → d'.ci.dst ≠ some t) → tmF.look t = tmi.look t) ∧ (∀ t, d.ci.dst = some t → tmF.look t = some v) ∧
      (∀ t, (∀ (j : Nat) (d' : DI), j < i → l[j]? = some d' → d'.ci.dst ≠ some t) → tmi.look t = tm.look t) ∧
      ((d.fl = none ∧ ∃ H H1 r pd, conv base pd d.due H = some H1 ∧ (∀ j cs, lFind pd j = some cs → lFind pdF j = some cs) ∧ (runC cx (restr tmi d.reads) H1 d.ci).Holds ρ (fun x => x = r) ∧ Same ρ v r.1 ∧ (d.eff = true → HS[d.lo]? = some H ∧ HS[d.lo + 1]? = some r.2) ∧ V = some (restr tmi d.reads, r.1)) ∨
       (∃ fl pe, d.fl = some fl ∧ runFl (restr tmi d.reads) d.ci.guard fl.1 = some pe ∧ v = flV base fl pe ∧ lFind pdF fl.2.2 = pe))

/-- THE RUN IN THE ORDER OF THE LIST. -/
theorem runD_ok {ρ : Rho} {cx : Cx} {base : Nat} : ∀ (l : List DI) (tm : Tm) (h : Heap) (hs : List Heap) (vs : List (Tm × AV)) (pd : List (Nat × List AV)) (tmF : Tm) (hsF : List Heap) (vsF : List (Tm × AV)) (pdF : List (Nat × List AV)), RunsD ρ cx base l tm h hs vs pd (tmF, hsF, vsF, pdF) → numbered hs.length l = true → (∀ d ∈ l, QuietD d) → (∀ d ∈ l, FloatD d) → Once l → OnceF l →
    (∀ d ∈ l, ∀ f, d.fl = some f → lFind pd f.2.2 = none) →
    (∀ (j : Nat) (x : Heap), (hs.reverse ++ [h])[j]? = some x → hsF.reverse[j]? = some x) ∧ hsF.length = hs.length + 1 + effCount l ∧ (∀ t, (∀ d ∈ l, d.ci.dst ≠ some t) → tmF.look t = tm.look t) ∧
    (∀ (j : Nat) (x : Tm × AV), vs.reverse[j]? = some x → vsF.reverse[j]? = some x) ∧
    (∀ j, (∀ d ∈ l, ∀ f, d.fl = some f → f.2.2 ≠ j) → lFind pdF j = lFind pd j) ∧
    (∀ (i : Nat) (d : DI), l[i]? = some d → AtOk ρ cx base l tm tmF hsF.reverse (vsF.reverse[vs.length + i]?) pdF i d)
  | [], tm, h, hs, vs, pd, tmF, hsF, vsF, pdF, e, _, _, _, _, _, _ => by
    have e' : (tmF, hsF, vsF, pdF) = (tm, h :: hs, vs, pd) := e
    cases e'
    refine ⟨fun j x e => by simpa using e, by simp [effCount], fun t _ => rfl, fun j x h => h, fun _ _ => rfl, fun i d e => by simp at e⟩
  | o :: l, tm, h, hs, vs, pd, tmF, hsF, vsF, pdF, e, hn, hq, hfd, ho, hof, hpd => by
    have htl := fun d hd => hq d (List.mem_cons_of_mem _ hd)
    have hftl := fun d hd => hfd d (List.mem_cons_of_mem _ hd)
    have look_tail : ∀ t, (∀ d ∈ o :: l, d.ci.dst ≠ some t) → (∀ d ∈ l, d.ci.dst ≠ some t) := fun t hh d hd => hh d (List.mem_cons_of_mem _ hd)
    -- what both ways share
    have fin : ∀ (v u : AV) (pd' : List (Nat × List AV)), (∀ t, (∀ d ∈ l, d.ci.dst ≠ some t) → tmF.look t = (setDst tm o.ci.dst o.ci.keep v).look t) →
        (∀ (j : Nat) (x : Tm × AV), ((restr tm o.reads, u) :: vs).reverse[j]? = some x → vsF.reverse[j]? = some x) →
        (∀ (i : Nat) (d : DI), l[i]? = some d → AtOk ρ cx base l (setDst tm o.ci.dst o.ci.keep v) tmF hsF.reverse (vsF.reverse[((restr tm o.reads, u) :: vs).length + i]?) pdF i d) →
        (((o.fl = none ∧ ∃ H H1 r pd, conv base pd o.due H = some H1 ∧ (∀ j cs, lFind pd j = some cs → lFind pdF j = some cs) ∧ (runC cx (restr tm o.reads) H1 o.ci).Holds ρ (fun x => x = r) ∧ Same ρ v r.1 ∧ (o.eff = true → hsF.reverse[o.lo]? = some H ∧ hsF.reverse[o.lo + 1]? = some r.2) ∧ u = r.1) ∨
          (∃ fl pe, o.fl = some fl ∧ runFl (restr tm o.reads) o.ci.guard fl.1 = some pe ∧ v = flV base fl pe ∧ lFind pdF fl.2.2 = pe))) →
        (∀ t, (∀ d ∈ o :: l, d.ci.dst ≠ some t) → tmF.look t = tm.look t) ∧ (∀ (j : Nat) (x : Tm × AV), vs.reverse[j]? = some x → vsF.reverse[j]? = some x) ∧
        (∀ (i : Nat) (d : DI), (o :: l)[i]? = some d → AtOk ρ cx base (o :: l) tm tmF hsF.reverse (vsF.reverse[vs.length + i]?) pdF i d) := by
      intro v u pd' hC hV hD hme
      have hC' : ∀ t, (∀ d ∈ o :: l, d.ci.dst ≠ some t) → tmF.look t = tm.look t := fun t ht => by
        rw [hC t (look_tail t ht), look_setDst_ne (ht o List.mem_cons_self)]
      refine ⟨hC', fun j x hx => hV j x ?_, fun i d hd => ?_⟩
      · rw [List.reverse_cons, List.getElem?_append_left (by have := (List.getElem?_eq_some_iff.1 hx).1; exact this)]
        exact hx
      cases i with
      | zero =>
        simp at hd; subst hd
        have hVV : vsF.reverse[vs.length + 0]? = some (restr tm o.reads, u) := hV _ _ (by simp)
        refine ⟨tm, v, fun t ht => hC' t fun d hd => ?_, fun t ht => ?_, fun t _ => rfl, ?_⟩
        · obtain ⟨j, hj⟩ := List.getElem?_of_mem hd
          exact ht j d (Nat.zero_le _) hj
        · rw [hC t (ho.head ht), ht]
          exact look_put _ _ _ _
        · rcases hme with ⟨hfl, H, H1, r, pd, g1, g2, g3, g4, g5, g6⟩ | hme
          · exact .inl ⟨hfl, H, H1, r, pd, g1, g2, g3, g4, g5, by rw [hVV, g6]⟩
          · exact .inr hme
      | succ i =>
        simp at hd
        obtain ⟨tmi, v', h3, h4, h5, h6⟩ := hD i d hd
        refine ⟨tmi, v', fun t ht => h3 t fun j d' hj hd' => ht (j + 1) d' (by omega) (by simpa using hd'), h4, fun t ht => ?_, ?_⟩
        · rw [h5 t fun j d' hj hd' => ht (j + 1) d' (by omega) (by simpa using hd'), look_setDst_ne (ht 0 o (by omega) rfl)]
        · rw [show vs.length + (i + 1) = ((restr tm o.reads, u) :: vs).length + i by simp; omega]
          exact h6
    rcases e with ⟨hfl, h1, r, v, hc, hr, hsame, e⟩ | ⟨fl, pe, hfl, hr, e⟩
    · have hpd' : ∀ d ∈ l, ∀ f, d.fl = some f → lFind pd f.2.2 = none := fun d hd => hpd d (List.mem_cons_of_mem _ hd)
      simp only [numbered] at hn
      have hsub : (∀ j, (∀ d ∈ l, ∀ f, d.fl = some f → f.2.2 ≠ j) → lFind pdF j = lFind pd j) → ∀ j cs, lFind pd j = some cs → lFind pdF j = some cs := fun hP j cs hj => by
        rw [hP j fun d hd f hf e => ?_]; exact hj
        rw [← e, hpd' d hd f hf] at hj; cases hj
      have hP' : (∀ j, (∀ d ∈ l, ∀ f, d.fl = some f → f.2.2 ≠ j) → lFind pdF j = lFind pd j) → (∀ j, (∀ d ∈ o :: l, ∀ f, d.fl = some f → f.2.2 ≠ j) → lFind pdF j = lFind pd j) := fun hP j hj => hP j fun d hd => hj d (List.mem_cons_of_mem _ hd)
      cases he : o.eff with
      | true =>
        rw [he, cond_true] at e hn
        simp only [Bool.and_eq_true] at hn
        obtain ⟨hA, hB, hC, hV, hP, hD⟩ := runD_ok l _ _ (h :: hs) _ pd tmF hsF vsF pdF e (by simpa using hn.2) htl hftl ho.tail hof.tail hpd'
        have hlo := beq_t.1 hn.1
        have hA0 : hsF.reverse[hs.length]? = some h := hA _ _ (by simp)
        have hA1 : hsF.reverse[hs.length + 1]? = some r.2 := hA _ _ (by simp)
        obtain ⟨f1, f2, f3⟩ := fin v r.1 pd hC hV hD (.inl ⟨hfl, h, h1, r, pd, hc, hsub hP, hr, hsame, fun _ => by rw [hlo]; exact ⟨hA0, hA1⟩, rfl⟩)
        refine ⟨fun j x hx => hA j x ?_, ?_, f1, f2, hP' hP, f3⟩
        · simp only [List.reverse_cons]
          rw [List.getElem?_append_left (by have := (List.getElem?_eq_some_iff.1 hx).1; exact this)]
          exact hx
        · rw [hB]; simp [effCount, he]; omega
      | false =>
        rw [he, cond_false] at e hn
        obtain ⟨hdue, hqq⟩ := hq o List.mem_cons_self hfl he
        rw [hdue] at hc
        have hh1 : h1 = h := by cases hc; rfl
        rw [hh1] at hr
        have hqr := hqq _ _ _ _ _ hr
        obtain ⟨hA, hB, hC, hV, hP, hD⟩ := runD_ok l _ _ hs _ pd tmF hsF vsF pdF e hn htl hftl ho.tail hof.tail hpd'
        obtain ⟨f1, f2, f3⟩ := fin v r.1 pd hC hV hD (.inl ⟨hfl, h, h, r, pd, by rw [hdue]; rfl, hsub hP, hr, hsame, fun h => (by rw [he] at h; cases h), rfl⟩)
        rw [hqr] at hA
        refine ⟨hA, ?_, f1, f2, hP' hP, f3⟩
        rw [hB]; simp [effCount, he]
    · have he : o.eff = false := hfd o List.mem_cons_self (by rw [hfl]; simp)
      simp only [numbered] at hn
      rw [he, cond_false] at hn
      have hne := hof.head hfl
      have hpd0 := hpd o List.mem_cons_self fl hfl
      have hpd' : ∀ d ∈ l, ∀ f, d.fl = some f → lFind (flP fl pe pd) f.2.2 = none := fun d hd f hf => by
        have h0 := hpd d (List.mem_cons_of_mem _ hd) f hf
        cases pe with
        | none => exact h0
        | some cs => simp only [flP, lFind_cons]; rw [beq_f.2 (hne d hd f hf)]; exact h0
      obtain ⟨hA, hB, hC, hV, hP, hD⟩ := runD_ok l _ _ hs _ (flP fl pe pd) tmF hsF vsF pdF e hn htl hftl ho.tail hof.tail hpd'
      have hme : lFind pdF fl.2.2 = pe := by
        rw [hP fl.2.2 fun d hd f hf => Ne.symm (hne d hd f hf)]
        cases pe with
        | none => exact hpd0
        | some cs => simp only [flP, lFind_cons]; rw [beq_t.2 rfl]; rfl
      obtain ⟨f1, f2, f3⟩ := fin (flV base fl pe) (flV base fl pe) pd hC hV hD (.inr ⟨fl, pe, hfl, hr, rfl, hme⟩)
      refine ⟨hA, ?_, f1, f2, fun j hj => ?_, f3⟩
      · rw [hB]; simp [effCount, he]
      · rw [hP j fun d hd => hj d (List.mem_cons_of_mem _ hd)]
        cases pe with
        | none => rfl
        | some cs => simp only [flP, lFind_cons]; rw [beq_f.2 (hj o List.mem_cons_self fl hfl)]; rfl

/-- what is laid is laid by one of the list -/
theorem runD_pend {ρ : Rho} {cx : Cx} {base : Nat} : ∀ (l : List DI) (tm : Tm) (h : Heap) (hs : List Heap) (vs : List (Tm × AV)) (pd : List (Nat × List AV)) (R : DR), RunsD ρ cx base l tm h hs vs pd R →
    ∀ j cs, lFind R.2.2.2 j = some cs → lFind pd j = some cs ∨ ∃ d ∈ l, ∃ f, d.fl = some f ∧ f.2.2 = j
  | [], tm, h, hs, vs, pd, R, e, j, cs, hj => by
    have e' : R = (tm, h :: hs, vs, pd) := e
    subst e'; exact .inl hj
  | o :: l, tm, h, hs, vs, pd, R, e, j, cs, hj => by
    rcases e with ⟨hfl, h1, r, v, hc, hr, hsame, e⟩ | ⟨fl, pe, hfl, hr, e⟩
    · rcases runD_pend l _ _ _ _ _ R e j cs hj with h | ⟨d, hd, h⟩
      · exact .inl h
      · exact .inr ⟨d, List.mem_cons_of_mem _ hd, h⟩
    · rcases runD_pend l _ _ _ _ _ R e j cs hj with h | ⟨d, hd, h⟩
      · cases pe with
        | none => exact .inl h
        | some cs' =>
          simp only [flP, lFind_cons] at h
          by_cases c : fl.2.2 = j
          · exact .inr ⟨o, List.mem_cons_self, fl, hfl, c⟩
          · rw [beq_f.2 c] at h; exact .inl h
      · exact .inr ⟨d, List.mem_cons_of_mem _ hd, h⟩

/-! ## Slots, some of them turned -/
structure TmX (n : Nat) (keep : List Nat) (E : Env) (tm : Tm) (arr : Array Value) (S : Nat → Prop) : Prop where
  size : n ≤ arr.size
  loc : ∀ i a, lFind tm.loc i = some a → ¬ S i → good E arr i a
  tree : ∀ i a, tm.tree.get i = some a → memN keep (some i) = true ∧ (¬ S i → good E arr i a)

theorem TmX.put {n : Nat} {keep : List Nat} {E : Env} {tm : Tm} {arr : Array Value} {S S' : Nat → Prop} (h : TmX n keep E tm arr S) {d : Nat} {a : AV} (hv : good E arr d a) (hS : ∀ i, i ≠ d → S i → S' i) :
    TmX n keep E (tm.put d (memN keep (some d)) a) arr S' := by
  have out : ∀ i, i ≠ d → ¬ S' i → ¬ S i := fun i hi hs h => hs (hS i hi h)
  refine ⟨h.size, fun i b e hs => ?_, fun i b e => ?_⟩
  · simp only [Tm.put, lFind_cons] at e
    by_cases c : d = i
    · subst c; rw [beq_t.2 rfl] at e; cases e; exact hv
    · rw [beq_f.2 c] at e; exact h.loc i b e (out i (Ne.symm c) hs)
  · simp only [Tm.put] at e
    cases hk : memN keep (some d) with
    | true =>
      rw [hk, cond_true, PT.get_set] at e
      by_cases c : i = d
      · subst c; rw [if_pos rfl] at e; cases e; exact ⟨hk, fun _ => hv⟩
      · rw [if_neg c] at e; exact ⟨(h.tree i b e).1, fun hs => (h.tree i b e).2 (out i c hs)⟩
    | false =>
      rw [hk, cond_false] at e
      have c : i ≠ d := by rintro rfl; rw [(h.tree i b e).1] at hk; cases hk
      exact ⟨(h.tree i b e).1, fun hs => (h.tree i b e).2 (out i c hs)⟩

theorem runD_tm {ρ : Rho} {cx : Cx} {base : Nat} {n : Nat} {keep : List Nat} {E : Env} {arr : Array Value} : ∀ (l : List DI) (tm : Tm) (h : Heap) (hs : List Heap) (vs : List (Tm × AV)) (pd : List (Nat × List AV)) (R : DR), RunsD ρ cx base l tm h hs vs pd R → Once l →
    (∀ d ∈ l, d.ci.keep = memN keep d.ci.dst) → (∀ d ∈ l, ∀ t v, d.ci.dst = some t → R.1.look t = some v → good E arr t v) → TmX n keep E tm arr (fun t => ∃ d ∈ l, d.ci.dst = some t) → TmOk n keep E R.1 arr
  | [], tm, h, hs, vs, pd, R, e, _, _, _, X => by
    have e' : R = (tm, h :: hs, vs, pd) := e
    subst e'
    exact ⟨X.size, fun i a e => X.loc i a e (by simp), ⟨fun i a e => ⟨(X.tree i a e).1, (X.tree i a e).2 (by simp)⟩⟩⟩
  | o :: l, tm, h, hs, vs, pd, R, e, ho, hk, hg, X => by
    have look : ∀ (l : List DI) (tm : Tm) (h : Heap) (hs : List Heap) (vs : List (Tm × AV)) (pd : List (Nat × List AV)), RunsD ρ cx base l tm h hs vs pd R → ∀ t, (∀ d ∈ l, d.ci.dst ≠ some t) → R.1.look t = tm.look t := by
      intro l
      induction l with
      | nil => intro tm h hs vs pd e t _; have e' : R = (tm, h :: hs, vs, pd) := e; subst e'; rfl
      | cons o l ih =>
        intro tm h hs vs pd e t ht
        rcases e with ⟨_, h1, r, v, _, _, _, e⟩ | ⟨fl, pe, _, _, e⟩
        · rw [ih _ _ _ _ _ e t fun d hd => ht d (List.mem_cons_of_mem _ hd), look_setDst_ne (ht o List.mem_cons_self)]
        · rw [ih _ _ _ _ _ e t fun d hd => ht d (List.mem_cons_of_mem _ hd), look_setDst_ne (ht o List.mem_cons_self)]
    have step : ∀ (v : AV) (h' : Heap) (hs' : List Heap) (vs' : List (Tm × AV)) (pd' : List (Nat × List AV)), RunsD ρ cx base l (setDst tm o.ci.dst o.ci.keep v) h' hs' vs' pd' R → TmOk n keep E R.1 arr := by
      intro v h' hs' vs' pd' e
      refine runD_tm l _ _ _ _ _ R e ho.tail (fun d hd => hk d (List.mem_cons_of_mem _ hd)) (fun d hd => hg d (List.mem_cons_of_mem _ hd)) ?_
      cases hdst : o.ci.dst with
      | none =>
        refine ⟨X.size, fun i a e hs => X.loc i a e ?_, fun i a e => ⟨(X.tree i a e).1, fun hs => (X.tree i a e).2 ?_⟩⟩
        all_goals
          rintro ⟨d, hd, hd2⟩
          rcases List.mem_cons.1 hd with rfl | hd
          · rw [hdst] at hd2; cases hd2
          · exact hs ⟨d, hd, hd2⟩
      | some t =>
        have hkk := hk o List.mem_cons_self
        rw [hdst] at hkk
        rw [hkk]
        have hfl : R.1.look t = some v := by
          rw [look l _ _ _ _ _ e t (ho.head hdst), hdst]
          exact look_put _ _ _ _
        refine X.put (hg o List.mem_cons_self t v hdst hfl) fun i hi ⟨d, hd, hd2⟩ => ?_
        rcases List.mem_cons.1 hd with rfl | hd
        · rw [hdst] at hd2; cases hd2; exact absurd rfl hi
        · exact ⟨d, hd, hd2⟩
    rcases e with ⟨_, h1, r, v, _, _, _, e⟩ | ⟨fl, pe, _, _, e⟩
    · exact step v _ _ _ _ e
    · exact step _ _ _ _ _ e

end Go.Sx
/-! ALLOCATIONS THAT NO ORDER BINDS: their numbers reserved; what they lay. -/
namespace Go.Sx
open Go.RowKit

def Env.atN (E : Env) (k : Nat) : Env := ⟨E.ρ, E.σ, E.κ, k, E.rc⟩
theorem Env.atN_le0 (E : Env) (k : Nat) : E.le0 (E.atN k) := ⟨rfl, fun _ _ h => h, fun _ _ _ => rfl, fun _ _ _ => rfl⟩
theorem Env.atN_le (E : Env) {k : Nat} (h : E.n ≤ k) : E.le (E.atN k) := ⟨E.atN_le0 k, h, fun _ _ h => h⟩

theorem HeapOk.resv1 {p : Par} {E : Env} {h : Heap} {w0 : Base} {w : World} (k : HeapOk p E h w0 w) : HeapOk p (E.atN (h.next + 1)) (h.new .resv) w0 w := by
  have hf : E.σ h.next = none := k.fresh _ (Nat.le_refl _)
  have f : ∀ i z, (h.new .resv).get i = some z → (i = h.next ∧ z = .resv) ∨ (i ≠ h.next ∧ h.get i = some z) := fun i z e => by
    rw [Heap.get_new] at e
    by_cases hi : i = h.next
    · rw [if_pos hi] at e; cases e; exact .inl ⟨hi, rfl⟩
    · rw [if_neg hi] at e; exact .inr ⟨hi, e⟩
  have no : ∀ c x, E.σ h.next ≠ some (c, x) := fun c x e => by rw [hf] at e; cases e
  refine ⟨fun b o e => ?_, fun b b' o1 o2 c x y h1 h2 w1 w2 e1 e2 => ?_, fun b o c x e ow s => ?_, fun b o c y hg hr s => ?_, fun b hb => ?_, fun b o c x g e => ?_, k.glob, k.below, Nat.le_refl _, k.ok⟩
  · rcases f b o e with ⟨rfl, rfl⟩ | ⟨_, g⟩
    · exact .inl hf
    · exact (k.obj b o g).mono (E.atN_le0 _) (fun hn => hn) (fun c x _ _ => rfl)
  · rcases f b o1 h1 with ⟨rfl, rfl⟩ | ⟨_, g1⟩
    · exact absurd e1 (no c x)
    · rcases f b' o2 h2 with ⟨rfl, rfl⟩ | ⟨_, g2⟩
      · exact absurd e2 (no c y)
      · exact k.inj b b' o1 o2 c x y g1 g2 w1 w2 e1 e2
  · rcases f b o e with ⟨rfl, rfl⟩ | ⟨_, g⟩
    · exact absurd s (no c x)
    · exact k.base b o c x g ow s
  · rcases f b _ hg with ⟨_, rfl⟩ | ⟨_, g⟩
    · cases hr
    · exact k.ro b o c y g hr s
  · exact k.fresh b (by rw [Heap.next_new] at hb; omega)
  · rcases f b o g with ⟨rfl, rfl⟩ | ⟨_, g⟩
    · exact absurd e (no c x)
    · exact k.lt b o c x g e

theorem resvN_next : ∀ (m : Nat) (h : Heap), (resvN m h).next = h.next + m
  | 0, h => rfl
  | m + 1, h => by rw [resvN, resvN_next m, Heap.next_new]; omega

theorem HeapOk.resvN {p : Par} {w0 : Base} {w : World} : ∀ (m : Nat) (E : Env) (h : Heap), HeapOk p E h w0 w → HeapOk p (E.atN (h.next + m)) (Sx.resvN m h) w0 w
  | 0, E, h, k => by
    refine ⟨fun b o e => (k.obj b o e).mono (E.atN_le0 _) (fun hn => hn) (fun _ _ _ _ => rfl), k.inj, k.base, k.ro, k.fresh, k.lt, k.glob, k.below, Nat.le_refl _, k.ok⟩
  | m + 1, E, h, k => by
    have := HeapOk.resvN m _ _ k.resv1
    rw [Heap.next_new] at this
    rw [show h.next + 1 + m = h.next + (m + 1) by omega] at this
    exact this

/-- a reserved number is turned to what was laid -/
theorem HeapOk.unresv {p : Par} {E : Env} {h : Heap} {w0 : Base} {w : World} (k : HeapOk p E h w0 w) {b c : Nat} {cs : List AV} {vs : List Value} (hg : h.get b = some .resv) (hσ : E.σ b = some (c, 0)) (hv : concL E cs = some vs) (hrc : E.rc b = vs.toArray) :
    HeapOk p E (h.put b (.cells cs 0 true false)) w0 w := by
  rcases k.obj b _ hg with hn | ⟨c', el, h1, h2⟩
  · rw [hσ] at hn; cases hn
  · rw [hσ] at h1; cases h1
    refine k.turn hg rfl hσ rfl ⟨c, 0, vs, vs.toArray, el, (0, 0), hσ, hv, by rw [← hrc]; exact h2, fun i _ => by simp, fun _ => ⟨rfl, rfl, fun _ => by simp, fun e => by cases e⟩⟩ (fun _ _ => rfl) rfl rfl rfl (Nat.le_refl _)

theorem convR_ok {p : Par} {E : Env} {w0 : Base} {w : World} {base : Nat} {pd : List (Nat × List AV)} : ∀ (l : List Nat) (h h1 : Heap), (∀ j ∈ l, ∀ cs, lFind pd j = some cs → ∃ c vs, E.σ (base + j) = some (c, 0) ∧ concL E cs = some vs ∧ E.rc (base + j) = vs.toArray) →
    HeapOk p E h w0 w → conv base pd l h = some h1 → HeapOk p E h1 w0 w
  | [], h, h1, _, k, e => by cases e; exact k
  | j :: l, h, h1, hj, k, e => by
    have htl : ∀ j' ∈ l, ∀ cs, lFind pd j' = some cs → ∃ c vs, E.σ (base + j') = some (c, 0) ∧ concL E cs = some vs ∧ E.rc (base + j') = vs.toArray := fun j' h' => hj j' (List.mem_cons_of_mem _ h')
    unfold conv at e
    split at e
    · exact convR_ok l h h1 htl k e
    · rename_i cs hf
      split at e
      · rename_i o hg
        split at e
        · obtain ⟨c, vs, g1, g2, g3⟩ := hj j List.mem_cons_self cs hf
          exact convR_ok l _ h1 htl (k.unresv hg g1 g2 g3) e
        · exact convR_ok l h h1 htl k e
        · cases e
      · cases e

/-- the block of a reserved number is laid -/
def Env.lay (E : Env) (b c : Nat) (vs : Array Value) : Env := ⟨E.ρ, fun i => if i = b then some (c, 0) else E.σ i, E.κ, E.n, fun i => if i = b then vs else E.rc i⟩
theorem Env.lay_le0 {E : Env} {b c : Nat} {vs : Array Value} (h : E.σ b = none) : E.le0 (E.lay b c vs) := by
  have hne : ∀ i p, E.σ i = some p → i ≠ b := fun i p e => by rintro rfl; rw [h] at e; cases e
  exact ⟨rfl, fun i p e => by simp only [Env.lay, if_neg (hne i p e)]; exact e, fun _ _ _ => rfl, fun i p e => by simp only [Env.lay, if_neg (hne i p e)]⟩
theorem Env.lay_σ (E : Env) (b c : Nat) (vs : Array Value) : (E.lay b c vs).σ b = some (c, 0) := by simp [Env.lay]
theorem Env.lay_rc (E : Env) (b c : Nat) (vs : Array Value) : (E.lay b c vs).rc b = vs := by simp [Env.lay]
theorem Env.lay_ne (E : Env) {b i : Nat} (c : Nat) (vs : Array Value) (h : i ≠ b) : (E.lay b c vs).σ i = E.σ i ∧ (E.lay b c vs).rc i = E.rc i := by simp [Env.lay, h]

theorem HeapOk.lay {p : Par} {E : Env} {h : Heap} {w0 : Base} {w : World} (k : HeapOk p E h w0 w) {b : Nat} (hσ : E.σ b = none) (hb : b < h.next) (hown : ∀ o, h.get b = some o → o = .resv ∨ o = .dead) (vs : Array Value) (el : TypeId) :
    HeapOk p (E.lay b w.heap.size vs) h w0 (w.alloc (.cells vs el)) := by
  have hle := Env.lay_le0 (c := w.heap.size) (vs := vs) hσ
  have hsz : (w.alloc (.cells vs el)).heap = w.heap.push (.cells vs el) := rfl
  have hold : ∀ c, c < w.heap.size → (w.heap.push (Obj.cells vs el))[c]? = w.heap[c]? := fun c hc => by rw [Array.getElem?_push, if_neg (by omega)]
  have h1000 : 1000 ≤ b := by
    rcases Nat.lt_or_ge b 1000 with h | h
    · rw [k.glob b h] at hσ; cases hσ
    · exact h
  have hs : ∀ i q, i ≠ b → (E.lay b w.heap.size vs).σ i = some q → E.σ i = some q := fun i q hi e => by rw [(Env.lay_ne E _ _ hi).1] at e; exact e
  refine ⟨fun i o e => ?_, fun i i' o1 o2 c x y h1 h2 w1 w2 e1 e2 => ?_, fun i o c x e ow s => ?_, fun i o c y hg hr s => ?_, fun i hi => ?_, fun i o c x g e => ?_, fun i hi => ?_, ?_, k.nx, k.ok⟩
  · by_cases hi : i = b
    · subst hi
      rcases hown o e with rfl | rfl
      · exact .inr ⟨w.heap.size, el, Env.lay_σ _ _ _ _, by rw [hsz, Env.lay_rc]; simp⟩
      · trivial
    · exact (k.obj i o e).mono hle (fun hn => by rw [(Env.lay_ne E _ _ hi).1]; exact hn) (fun c x hc _ => by rw [hsz]; exact hold c (k.lt i o c x e hc))
  · by_cases hi : i = b
    · by_cases hi' : i' = b
      · rw [hi, hi']
      · rw [hi, Env.lay_σ] at e1; cases e1
        exact absurd (k.lt i' _ _ _ h2 (hs i' _ hi' e2)) (Nat.lt_irrefl _)
    · by_cases hi' : i' = b
      · rw [hi', Env.lay_σ] at e2; cases e2
        exact absurd (k.lt i _ _ _ h1 (hs i _ hi e1)) (Nat.lt_irrefl _)
      · exact k.inj i i' o1 o2 c x y h1 h2 w1 w2 (hs i _ hi e1) (hs i' _ hi' e2)
  · by_cases hi : i = b
    · rw [hi, Env.lay_σ] at s; cases s; exact k.below.fresh
    · exact k.base i o c x e ow (hs i _ hi s)
  · by_cases hi : i = b
    · subst hi; rcases hown _ hg with h | h <;> subst h <;> cases hr
    · exact k.ro i o c y hg hr (hs i _ hi s)
  · rw [(Env.lay_ne E _ _ (by omega)).1]; exact k.fresh i hi
  · rw [hsz, Array.size_push]
    by_cases hi : i = b
    · rw [hi, Env.lay_σ] at e; cases e; omega
    · have := k.lt i o c x g (hs i _ hi e); omega
  · exact hle.σ _ _ (k.glob i hi)
  · exact k.below.alloc (fun c hc => k.below.lt hc) _

/-! ## What an allocation lays -/
def FK.vals (k : FK) (c : Nat) : Value :=
  match k with
  | .ptr => .pointer (some ⟨c, 0, none⟩)
  | .sl n => .slice (some ⟨c, 0, none⟩) n n
theorem FK.val_conc {k : FK} {E : Env} {b c : Nat} (h : E.σ b = some (c, 0)) : conc E (k.val b) = some (k.vals c) := by
  cases k <;> simp [FK.val, FK.vals, conc, h]

theorem cFl_ok {p : Par} {ty : Nat → Option TI} (T : TyOk p.P ty) {o : Oper} {f : FIns} {k : FK} (hf : cFl ty o.op = some (f, k)) {n : Nat} {keep : List Nat} {E : Env} {w0 : Base} {w : World} {tm : Tm} {h : Heap} {a : Act}
    (HT : TmOk n keep E tm a.tmps) (HH : HeapOk p E h w0 w) {cs : List AV} (hcs : f tm = some cs) :
    ∃ vs el, concL E cs = some vs ∧ ∀ K, K (k.vals w.heap.size) (w.alloc (.cells vs.toArray el)) → Does p.P ((execOp a.eval o).run p.P w) K := by
  have key : ∀ op, o.op = op → cFl ty op = some (f, k) → ∃ vs el, concL E cs = some vs ∧ ∀ K, K (k.vals w.heap.size) (w.alloc (.cells vs.toArray el)) → Does p.P ((execOp a.eval o).run p.P w) K := by
    intro op ho hf
    unfold cFl at hf
    split at hf
    · rename_i t
      split at hf
      · rename_i i ht
        split at hf
        · rename_i z hz
          cases hf
          unfold flAlloc at hcs
          cases hb : allOk z with
          | false => rw [hb] at hcs; cases hcs
          | true =>
            rw [hb] at hcs
            cases hcs
            obtain ⟨v, hv0, rfl, hok, _⟩ := zeroOf_some hz
            obtain ⟨u, hu, hrun⟩ := run_zero T ht hv0 E w
            have hc := conc_cells hu hok
            refine ⟨u.cells.toList, t, hc, fun K hK => ?_⟩
            have hex : execOp a.eval o = (do let x ← Instr.alloc t true (.tuple #[]); pure (Next.value x)) := by unfold execOp; rw [ho]
            rw [hex]
            refine does_value (v := .pointer (some ⟨w.heap.size, 0, none⟩)) (w' := w.alloc (.cells u.cells t)) ?_ (by simpa [FK.vals] using hK)
            unfold Instr.alloc
            simp only [Sem.run_bind, hrun, Result.andThen_ok]
            rfl
        · cases hf
      · cases hf
    · rename_i t x
      split at hf
      · rename_i y hy
        cases hf
        unfold flBox at hcs
        cases hb : allOk (ev tm y).cellsOf with
        | false => rw [hb] at hcs; cases hcs
        | true =>
          rw [hb] at hcs
          cases hcs
          have hu := opd_some HT hy (cells_bad hb) HH.glob
          have hc := conc_cells hu hb
          refine ⟨(a.eval x).cells.toList, t, hc, fun K hK => ?_⟩
          have hex : execOp a.eval o = (do let x ← Instr.box t (a.eval x); pure (Next.value x)) := by unfold execOp; rw [ho]
          rw [hex]
          exact does_value (v := .pointer (some ⟨w.heap.size, 0, none⟩)) (w' := w.alloc (.cells (a.eval x).cells t)) rfl (by simpa [FK.vals] using hK)
      · cases hf
    · rename_i t len parts
      split at hf
      · rename_i i ht
        split at hf
        · rename_i e hd
          split at hf
          · rename_i j he
            split at hf
            · rename_i z hz
              cases hlen : Nat.ble (len * j.size) 1000000 with
              | false => rw [hlen] at hf; cases hf
              | true =>
                rw [hlen, cond_true] at hf
                have hlen := ble_t.1 hlen
                split at hf
                · rename_i ps hp
                  cases hf
                  unfold flSlice at hcs
                  have hu := T.und t i ht
                  rw [hd] at hu
                  obtain ⟨zv, hzv, hzrun, hzs⟩ := zero_cells T he hz E w
                  have hcells : concL E (rep z len) = some (rep zv.cells.toList len) := concL_rep hzv len
                  obtain ⟨cl, hcl, hfill⟩ := fill_ok HT HH.glob _ hp hcs hcells
                  have hex : execOp a.eval o = (do let x ← Instr.buildSlice t len (parts.map fun (i, x) => (i, a.eval x)); pure (Next.value x)) := by unfold execOp; rw [ho]
                  have hl : (parts.map fun (i, x) => (i, a.eval x)).toList = parts.toList.map fun q => (q.1, a.eval q.2) := by simp
                  refine ⟨cl, e, hcl, fun K hK => ?_⟩
                  rw [hex]
                  refine does_value (v := .slice (some ⟨w.heap.size, 0, none⟩) len len) (w' := w.alloc (.cells cl.toArray e)) ?_ (by simpa [FK.vals] using hK)
                  unfold Instr.buildSlice
                  simp only [Sem.run_bind, run_underlying hu, Result.andThen_ok, run_size T he]
                  rw [if_neg (by omega)]
                  rw [hl]
                  have hz' : ∀ x : Array Value, x = zv.cells ∨ (x = #[] ∧ len * j.size = 0) → ((Array.range (len * j.size)).map fun i => x[i % x.size]!) = (rep zv.cells.toList len).toArray := by
                    rintro x (rfl | ⟨rfl, h0⟩)
                    · rw [← hzs, zeros_eq]
                    · rw [← zeros_eq, hzs, h0]; simp
                  by_cases h0 : len * j.size = 0
                  · rw [if_pos h0]
                    simp only [Sem.run_bind, pure, Sem.run, Result.andThen_ok]
                    rw [hz' #[] (.inr ⟨rfl, h0⟩), hfill]
                    rfl
                  · rw [if_neg h0]
                    simp only [Sem.run_bind, pure, Sem.run, Result.andThen_ok, hzrun]
                    rw [hz' zv.cells (.inl rfl), hfill]
                    rfl
                · cases hf
            · cases hf
          · cases hf
        · cases hf
      · cases hf
    · rename_i t x1 x2
      unfold cFlMk at hf
      split at hf
      · rename_i l c
        cases hb : and (decide (l = c)) (and (decide (0 ≤ l)) (Nat.ble l.toNat 1000000)) with
        | false => rw [hb] at hf; cases hf
        | true =>
          rw [hb, cond_true] at hf
          simp only [Bool.and_eq_true, decide_eq_true_eq] at hb
          obtain ⟨rfl, h0, h1⟩ := hb
          split at hf
          · rename_i i ht
            split at hf
            · rename_i e hd
              split at hf
              · rename_i j he
                split at hf
                · rename_i z hz
                  cases hb2 : and (Nat.ble j.bytes 1000000) (Nat.ble (l.toNat * j.size) 1000000) with
                  | false => rw [hb2] at hf; cases hf
                  | true =>
                    rw [hb2, cond_true] at hf
                    cases hf
                    cases hcs
                    obtain ⟨vs, hv, hrun⟩ := run_mkslice (k1 := .i64) (k2 := .i64) (l := l.toNat) T ht hd he hz E w (ble_t.1 h1) (ble_t.1 (Bool.and_eq_true_iff.1 hb2).1) (Nat.le_refl _)
                    refine ⟨vs, e, hv, fun K hK => ?_⟩
                    have hex : execOp a.eval o = (do let x ← Instr.makeSlice t (a.eval (.const (.int .i64 l))) (a.eval (.const (.int .i64 l))); pure (Next.value x)) := by unfold execOp; rw [ho]
                    rw [hex]
                    have hl : a.eval (.const (.int .i64 l)) = .int .i64 (Int.ofNat l.toNat) := by rw [Int.ofNat_eq_natCast, Int.toNat_of_nonneg h0]; rfl
                    rw [hl]
                    exact does_value hrun (by simpa [FK.vals] using hK)
                · cases hf
              · cases hf
            · cases hf
          · cases hf
      · cases hf
    · cases hf
  exact key o.op rfl hf

end Go.Sx
