/- CODE WHOSE LOOPS ARE TAKEN AS SAID. -/
import Derived.Test.YtanhchkdglglhaaDoorSxEnt
/-! CODE WHOSE LOOPS ARE TAKEN AS SAID. -/
namespace Go.Sx
open Go.RowKit

/-- as 'cCode', but each loop is the given piece -/
noncomputable def cCodeX (lc : C) (ty : Nat → Option TI) (n : Nat) (keep : List Nat) (fid : FuncId) : Code → Option C
  | .skip => some cSkip
  | .label _ => some cSkip
  | .region _ ops draw => cond draw (cDraw ty n keep ops.toList) ((cOpers ty n keep ops.toList ops.toList).map cOps)
  | .seq a b => match cCodeX lc ty n keep fid a, cCodeX lc ty n keep fid b with
    | some a, some b => some (cSeq a b)
    | _, _ => none
  | .cond c a b => match cOpd c, cCodeX lc ty n keep fid a, cCodeX lc ty n keep fid b with
    | some c, some a, some b => some (cCond c a b)
    | _, _, _ => none
  | .block id a => (cCodeX lc ty n keep fid a).map (cBlock id)
  | .loop _ => some lc
  | .scope a => cCodeX lc ty n keep fid a
  | .exit id => some (cExit id)
  | .ret => some cRet
  | _ => none

def LoopsOk (p : Par) (n : Nat) (keep : List Nat) (lc : C) : Code → Prop
  | .seq a b => LoopsOk p n keep lc a ∧ LoopsOk p n keep lc b
  | .cond _ a b => LoopsOk p n keep lc a ∧ LoopsOk p n keep lc b
  | .block _ a => LoopsOk p n keep lc a
  | .loop a => COk p n keep lc (.loop a)
  | .scope a => LoopsOk p n keep lc a
  | _ => True

/-- the loops of a piece of code, but for those inside of others -/
def loopsOf : Code → List Code
  | .seq a b => loopsOf a ++ loopsOf b
  | .cond _ a b => loopsOf a ++ loopsOf b
  | .block _ a => loopsOf a
  | .loop a => [a]
  | .scope a => loopsOf a
  | _ => []

theorem loopsOk_of {p : Par} {n : Nat} {keep : List Nat} {lc : C} : ∀ (c : Code), (∀ a ∈ loopsOf c, COk p n keep lc (.loop a)) → LoopsOk p n keep lc c := by
  intro c
  induction c with
  | seq a b iha ihb => exact fun h => ⟨iha fun x hx => h x (by simp [loopsOf, hx]), ihb fun x hx => h x (by simp [loopsOf, hx])⟩
  | cond c a b iha ihb => exact fun h => ⟨iha fun x hx => h x (by simp [loopsOf, hx]), ihb fun x hx => h x (by simp [loopsOf, hx])⟩
  | block id a ih => exact fun h => ih fun x hx => h x (by simpa [loopsOf] using hx)
  | loop a => exact fun h => h a (by simp [loopsOf])
  | scope a ih => exact fun h => ih fun x hx => h x (by simpa [loopsOf] using hx)
  | _ => exact fun _ => trivial

theorem cCodeX_ok {p : Par} {ty : Nat → Option TI} (TT : TyOk p.P ty) (hm : p.P.follows .mixedOrders = true) {lc : C} {n : Nat} {keep : List Nat} {fid : FuncId} :
    ∀ (c : Code) (f : C), cCodeX lc ty n keep fid c = some f → LoopsOk p n keep lc c → COk p n keep f c := by
  intro c
  induction c with
  | skip => intro f h _; simp only [cCodeX, Option.some.injEq] at h; subst h; exact skip_ok
  | label l => intro f h _; simp only [cCodeX, Option.some.injEq] at h; subst h; exact label_ok
  | region id ops draw =>
    intro f h _
    simp only [cCodeX] at h
    cases draw with
    | true => exact draw_ok TT hm h
    | false =>
      simp only [cond_false, Option.map_eq_some_iff] at h
      obtain ⟨cs, hcs, rfl⟩ := h
      exact cOps_ok TT hcs
  | seq a b iha ihb =>
    intro f h R
    simp only [cCodeX] at h
    split at h
    · rename_i x y hx hy; cases h; exact seq_ok (iha x hx R.1) (ihb y hy R.2)
    · cases h
  | cond c a b iha ihb =>
    intro f h R
    simp only [cCodeX] at h
    split at h
    · rename_i y x z hy hx hz; cases h; exact cond_ok hy (iha x hx R.1) (ihb z hz R.2)
    · cases h
  | block id a ih =>
    intro f h R
    simp only [cCodeX, Option.map_eq_some_iff] at h
    obtain ⟨x, hx, rfl⟩ := h
    exact block_ok (ih x hx R)
  | loop a ih =>
    intro f h R
    simp only [cCodeX, Option.some.injEq] at h
    subst h
    exact R
  | scope a ih => exact fun f h R => scope_ok (ih f h R)
  | exit id => intro f h _; simp only [cCodeX, Option.some.injEq] at h; subst h; exact exit_ok
  | ret => intro f h _; simp only [cCodeX, Option.some.injEq] at h; subst h; exact ret_ok
  | _ => intro f h _; simp only [cCodeX] at h; cases h

/-- as 'callBody_ok', for code that is known to be what runs -/
theorem bodyOf_ok {p : Par} {ty : Nat → Option TI} (TT : TyOk p.P ty) {cx : Cx} (CX : CxOk p cx) {f : FuncId} {fn : Func} {c : Code} {keep : List Nat} {g : C} {rs : List RV} (hfn : p.P.funcs[f]? = some fn) (hb : fn.body = some c)
    (hname : (fn.name == "runtime.NumGoroutine") = false) (hg : COk p fn.ntmps keep g c) (hrs : cRes ty fn.results.toList = some rs) (hkeep : ((List.range (fn.params.size + fn.nfree)).all fun i => memN keep (some i)) = true)
    {args : List AV} {h : Heap} (hlen : args.length ≤ fn.params.size + fn.nfree) :
    CallOk p f args h ((g cx ⟨f, none⟩ ⟨⟨[], tmOf args 0 .nil⟩, [], h⟩).bind (finish ⟨fn.params.size + fn.nfree, g, rs⟩)) := by
  intro vs E w0 w Q K k HH ha P
  refine ⟨run_callFunc hfn hb hname _ w, ?_⟩
  rw [T.holds_bind] at k
  refine callsIn_wide.1 (callsIn_of_wp_marks (F := Fence.wide) (n := 0) hfn hb trivial ?_)
  refine hg cx CX ⟨f, none⟩ none E w0 w ⟨⟨[], tmOf args 0 .nil⟩, [], h⟩ _ _ _ trivial ⟨args_ok ha hkeep hlen, trivial, HH⟩ k ?_
  intro x s' E' w' a' q hle S'
  have fin : (finish ⟨fn.params.size + fn.nfree, g, rs⟩ (x, s')).Holds E'.ρ Q := by rw [hle.ρ]; exact q
  have go : ((undefer s'.df s'.h).bind fun h2 => match resultsA s'.tm h2 rs with
      | some vs => T.ret (one vs, h2)
      | none => .fail 64).Holds E'.ρ Q → LeavesInM Fence.wide 0 p.P fn a'.tmps (fun e w' => ∃ v, e = .returned v ∧ K v w') a'.defers .returning w' := fun kk => by
    rw [T.holds_bind] at kk
    refine undefer_ok s'.df a'.defers s'.h w' S'.df S'.hp kk ?_
    intro h2 w2 q2 HH2
    cases hres : resultsA s'.tm h2 rs with
    | none => rw [hres] at q2; exact q2.elim
    | some vs' =>
      rw [hres] at q2
      obtain ⟨v, hv1, hv2⟩ := run_results TT S'.tm HH2 hrs hres
      exact ⟨v, hv2, v, rfl, P _ _ E' w2 v q2 hle HH2 hv1⟩
  cases x with
  | norm => exact go fin
  | ret => exact go fin
  | exit id => exact fin.elim

end Go.Sx
