/- REGIONS IN THE ORDER OF THEIR LIST. -/
import Derived.Test.YtjbagflebkiplaaDoorSxOp
import Derived.TacticsIn
import Derived.LoopNIn
import Derived.RangeFuncLeaves
import Derived.OrdersIn
/-! REGIONS IN THE ORDER OF THEIR LIST. -/
namespace Go.Sx
open Go.RowKit

theorem fence_all (rd : Option Nat) (o : Option FuncId) : ∀ f, o = some f → (fence rd).fn f := fun f _ => fence_fn rd f

theorem not_defer {ty : Nat → Option TI} {o : Oper} {f : Ins} (h : cOp ty o.op = some f) (c : Call) : o.op ≠ .defer c := by
  intro e; rw [e] at h; cases h
theorem not_select {ty : Nat → Option TI} {o : Oper} {f : Ins} (h : cOp ty o.op = some f) (c : Array SelectCase) (b : Bool) : o.op ≠ .select c b := by
  intro e; rw [e] at h; cases h

theorem cOper_some {ty : Nat → Option TI} {n : Nat} {keep : List Nat} {ops : List Oper} {o : Oper} {c : CI} (h : cOper ty n keep ops o = some c) :
    ∃ f g, cOp ty o.op = some f ∧ cGuard ops o.guard = some g ∧ okDst n o.dst = true ∧ c = ⟨o.dst, memN keep o.dst, g, f⟩ := by
  unfold cOper at h
  split at h
  · rename_i f g hf hg
    cases hd : okDst n o.dst with
    | false => rw [hd] at h; cases h
    | true => rw [hd] at h; cases h; exact ⟨f, g, hf, hg, rfl, rfl⟩
  · cases h

theorem TmOk.setDst {n : Nat} {keep : List Nat} {E : Env} {tm : Tm} {a : Act} (H : TmOk n keep E tm a.tmps) {dst : Option Nat} (hd : okDst n dst = true) {v : AV} {cv : Value} (hv : conc E v = some cv) :
    TmOk n keep E (setDst tm dst (memN keep dst) v) (a.put dst cv).tmps := by
  cases dst with
  | none => exact H
  | some d => exact H.put (ble_t.1 hd) hv

theorem guardOf_some {n : Nat} {keep : List Nat} {E : Env} {tm : Tm} {arr : Array Value} (H : TmOk n keep E tm arr) {ops : Array Oper} {j d : Nat} {want : Bool} (hd : (ops[j]?).bind (·.dst) = some d) {c : BE} (hc : guardOf tm (d, want) = some c) :
    (yielded ops arr j == some want) = c.den E.ρ := by
  unfold guardOf at hc
  unfold yielded
  rw [hd]
  split at hc
  · rename_i b hb
    obtain ⟨v, h1, h2⟩ := H.look hb
    simp only [conc, Option.some.injEq] at h1
    subst h1
    cases hc
    simp only [Option.bind_some, h2]
    cases want with
    | true => simp
    | false => simp [mkNot_den]
  · rename_i hb
    obtain ⟨v, h1, h2⟩ := H.look hb
    simp only [conc, concL, Option.map_some, Option.some.injEq] at h1
    subst h1
    cases hc
    simp only [Option.bind_some, h2]
    rfl
  · cases hc

/-- ONE OPERATION OF A REGION, WANTED OR NOT. -/
theorem oper_ok {p : Par} {ty : Nat → Option TI} (TT : TyOk p.P ty) {n : Nat} {keep : List Nat} {ops : Array Oper} {o : Oper} {c : CI} (hc : cOper ty n keep ops.toList o = some c)
    {cx : Cx} (CX : CxOk p cx) {E : Env} {w0 : Base} {w : World} {tm : Tm} {h : Heap} {a : Act} (HT : TmOk n keep E tm a.tmps) (HH : HeapOk p E h w0 w) {Q : AV × Heap → Prop} (k : (runC cx tm h c).Holds E.ρ Q)
    {rd : Option Nat} {next : Act → World → Prop} {Q' : Exit → Act → World → Prop} (P : Post p E w0 Q fun v w' => next (a.put o.dst v) w') :
    if Region.wanted o (yielded ops a.tmps) then o.wpIn (fence rd) 0 p.P a w next Q' else (∀ f, o.about p.P w a.eval = some f → (fence rd).fn f) ∧ next (a.put o.dst undef) w := by
  obtain ⟨f, g, hf, hg, hd, rfl⟩ := cOper_some hc
  have yes : (f cx tm h).Holds E.ρ Q → o.wpIn (fence rd) 0 p.P a w next Q' := fun k => by
    refine ⟨fence_all rd _, ?_⟩
    rw [Oper.semAt_eq _ _ _ (not_defer hf)]
    exact Does.upon (cOp_ok TT hf cx n keep E w0 tm h a w Q _ CX HT HH k P)
  unfold runC at k
  cases hgo : o.guard with
  | none =>
    rw [hgo] at hg
    cases hg
    rw [show Region.wanted o (yielded ops a.tmps) = true from by unfold Region.wanted; rw [hgo], if_pos rfl]
    exact yes k
  | some q =>
    obtain ⟨j, want⟩ := q
    rw [hgo] at hg
    simp only [cGuard] at hg
    cases hb : (ops.toList[j]?).bind (·.dst) with
    | none => rw [hb] at hg; cases hg
    | some d =>
      rw [hb] at hg
      cases hg
      simp only at k
      cases hcb : guardOf tm (d, want) with
      | none => rw [hcb] at k; exact k.elim
      | some cb =>
        rw [hcb] at k
        simp only [T.holds_ite] at k
        have hw : Region.wanted o (yielded ops a.tmps) = cb.den E.ρ := by
          unfold Region.wanted
          rw [hgo]
          exact guardOf_some HT (by simpa using hb) hcb
        rw [hw]
        cases hden : cb.den E.ρ with
        | true => rw [hden] at k; rw [if_pos rfl]; exact yes k
        | false =>
          rw [hden] at k
          rw [if_neg (by simp)]
          exact ⟨fence_all rd _, P undefA h E w undef k (Env.le.refl E) HH rfl⟩

/-- the same value, whatever is not known being as said -/
def Same (ρ : Rho) (v u : AV) : Prop := ∀ E : Env, E.ρ = ρ → conc E v = conc E u
theorem Same.refl (ρ : Rho) (v : AV) : Same ρ v v := fun _ _ => rfl

theorem fork_br {β : Type} {ρ : Rho} {c : BE} {k : AV → T β} {Q : β → Prop} (h : (T.br c (k (.bool (.lit true))) (k (.bool (.lit false)))).Holds ρ Q) : ∃ v', (k v').Holds ρ Q ∧ Same ρ v' (.bool c) := by
  cases hc : c.den ρ with
  | true =>
    rw [T.Holds, hc, if_pos rfl] at h
    exact ⟨_, h, fun E e => by simp only [conc, BE.den, e, hc]⟩
  | false =>
    rw [T.Holds, hc, if_neg (by simp)] at h
    exact ⟨_, h, fun E e => by simp only [conc, BE.den, e, hc]⟩

theorem holds_fork {β : Type} {ρ : Rho} {v : AV} {k : AV → T β} {Q : β → Prop} (h : (fork v k).Holds ρ Q) : ∃ v', (k v').Holds ρ Q ∧ Same ρ v' v := by
  cases v with
  | bool c => cases c with
    | lit b => exact ⟨_, h, Same.refl _ _⟩
    | _ => exact fork_br h
  | _ => exact ⟨_, h, Same.refl _ _⟩

theorem runOps_cons (cx : Cx) (o : CI) (l : List CI) (tm : Tm) (h : Heap) : runOps cx (o :: l) tm h = (runC cx tm h o).bind fun r => fork r.1 fun v => runOps cx l (setDst tm o.dst o.keep v) r.2 := rfl

theorem region_ok {p : Par} {ty : Nat → Option TI} (TT : TyOk p.P ty) {n : Nat} {keep : List Nat} {ops : Array Oper} {cx : Cx} (CX : CxOk p cx) {w0 : Base} {rd : Option Nat} {Q' : Exit → Act → World → Prop} {Q : Tm × Heap → Prop} {ds : List Deferred} {sz : Nat} :
    ∀ (l : List Oper) (cs : List CI), cOpers ty n keep ops.toList l = some cs → ∀ (E : Env) (w : World) (tm : Tm) (h : Heap) (a : Act), TmOk n keep E tm a.tmps → HeapOk p E h w0 w → (runOps cx cs tm h).Holds E.ρ Q → a.defers = ds → a.tmps.size = sz →
      (∀ E' w' tm' h' a', Q (tm', h') → E.le E' → HeapOk p E' h' w0 w' → TmOk n keep E' tm' a'.tmps → a'.defers = ds → a'.tmps.size = sz → Q' .normal a' w') → wpListIn (fence rd) 0 p.P ops Q' l a w
  | [], cs, hcs, E, w, tm, h, a, HT, HH, k, hds, hsz, P => by
    cases hcs
    exact P E w tm h a k (Env.le.refl E) HH HT hds hsz
  | o :: l, cs, hcs, E, w, tm, h, a, HT, HH, k, hds, hsz, P => by
    simp only [cOpers] at hcs
    split at hcs
    · rename_i c cl hc hcl
      cases hcs
      rw [runOps_cons] at k
      rw [T.holds_bind] at k
      obtain ⟨f, g, hf, hg, hd, hce⟩ := cOper_some hc
      unfold wpListIn
      refine oper_ok TT hc CX HT HH k ?_
      intro v0 h' E' w' cv q0 hle HH' hv0
      obtain ⟨v, q, hsame⟩ := holds_fork q0
      have hv : conc E' v = some cv := by rw [hsame E' hle.ρ]; exact hv0
      have HT' := (HT.mono hle).setDst hd hv
      have hk : c.keep = memN keep o.dst := by rw [hce]
      have hdst : c.dst = o.dst := by rw [hce]
      rw [hdst, hk] at q
      refine region_ok TT CX l cl hcl E' w' _ h' (a.put o.dst cv) HT' HH' (by rw [hle.ρ]; exact q) ?_ ?_ fun E2 w2 tm2 h2 a2 q2 hle2 HH2 HT2 => P E2 w2 tm2 h2 a2 q2 (hle.trans hle2) HH2 HT2
      · cases o.dst <;> exact hds
      · cases hdd : o.dst with
        | none => exact hsz
        | some d => simp [Act.put, hsz]
    · cases hcs

/-! ## Code: what is asked -/
def DfOk (E : Env) : List Nat → List Deferred → Prop
  | [], [] => True
  | b :: l, d :: ds => (∃ c, E.σ b = some (c, 0) ∧ d.target = .collected c) ∧ DfOk E l ds
  | _, _ => False
theorem DfOk.mono {E E' : Env} (le : E.le0 E') : ∀ (l : List Nat) (ds : List Deferred), DfOk E l ds → DfOk E' l ds
  | [], [], _ => trivial
  | _ :: l, _ :: ds, ⟨⟨c, h1, h2⟩, h3⟩ => ⟨⟨c, le.σ _ _ h1, h2⟩, DfOk.mono le l ds h3⟩
  | [], _ :: _, h => h.elim
  | _ :: _, [], h => h.elim

def RdOk (E : Env) (x : Option Nat) (rd : Option Nat) : Prop :=
  match x, rd with
  | none, none => True
  | some b, some l => E.σ b = some (l, 0)
  | _, _ => False
theorem RdOk.mono {E E' : Env} (le : E.le E') {x rd : Option Nat} (h : RdOk E x rd) : RdOk E' x rd := by
  cases x <;> cases rd <;> first | exact h | exact le.σ _ _ h

def exOf (x : Ex) : Exit :=
  match x with
  | .norm => .normal
  | .exit id => .exit id
  | .ret => .ret

structure StOk (p : Par) (n : Nat) (keep : List Nat) (E : Env) (w0 : Base) (s : St) (a : Act) (w : World) : Prop where
  tm : TmOk n keep E s.tm a.tmps
  df : DfOk E s.df a.defers
  hp : HeapOk p E s.h w0 w

def CPost (p : Par) (n : Nat) (keep : List Nat) (E : Env) (w0 : Base) (Q : Ex × St → Prop) (Q' : Exit → Act → World → Prop) : Prop :=
  ∀ x s' E' w' a', Q (x, s') → E.le E' → StOk p n keep E' w0 s' a' w' → Q' (exOf x) a' w'

/-- A PIECE OF CODE AND WHAT RUNS IT. -/
def COk (p : Par) (n : Nat) (keep : List Nat) (f : C) (c : Code) : Prop :=
  ∀ cx, CxOk p cx → ∀ wh rd E w0 w s a Q Q', RdOk E wh.rd rd → StOk p n keep E w0 s a w → (f cx wh s).Holds E.ρ Q → CPost p n keep E w0 Q Q' → c.wpIn (fence rd) 0 p.P Q' a w

theorem cOps_ok {p : Par} {ty : Nat → Option TI} (TT : TyOk p.P ty) {n : Nat} {keep : List Nat} {id : Nat} {ops : Array Oper} {cs : List CI} (h : cOpers ty n keep ops.toList ops.toList = some cs) : COk p n keep (cOps cs) (.region id ops false) := by
  intro cx CX wh rd E w0 w s a Q Q' hrd S k P
  have k' : ((runOps cx cs s.tm s.h).bind fun r => T.ret (Ex.norm, (⟨r.1.shut, s.df, r.2⟩ : St))).Holds E.ρ Q := k
  rw [T.holds_bind] at k'
  refine wpIn_region_list (region_ok TT CX (ds := a.defers) (sz := a.tmps.size) ops.toList cs h E w s.tm s.h a S.tm S.hp k' rfl rfl ?_)
  intro E' w' tm' h' a' q hle HH HT hds hsz
  exact P .norm _ E' w' a' q hle ⟨HT.shut, hds ▸ DfOk.mono hle.tole0 _ _ S.df, HH⟩

end Go.Sx
