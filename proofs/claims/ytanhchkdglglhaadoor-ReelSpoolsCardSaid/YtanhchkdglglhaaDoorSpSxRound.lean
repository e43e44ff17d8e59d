/- WHAT A ROUND LEAVES, as values: its kind of end, and some slots and blocks. -/
import Derived.Test.YtanhchkdglglhaaDoorSpSxTree
/-! CALLS, AS THEY ARE SAID: what a call leads to, told by variables, held against its run. -/
namespace Go.Sx
open Go.RowKit

/-- A CALL, AS IT IS SAID: what it is called with, the blocks that it reads, on what terms, and what it hands back. -/
structure CSpec where
  f : Nat
  args : List AV
  view : List (Nat × List AV)
  nv : Nat
  cs : List BE
  u : T AV

noncomputable def addAll : List BE → List Asm → List Asm
  | [], l => l
  | c :: cs, l => addB true c (addAll cs l)
theorem addAll_ok {ρ : Rho} : ∀ (cs : List BE) (l : List Asm), AsmOk ρ l → (∀ c ∈ cs, c.den ρ = true) → AsmOk ρ (addAll cs l)
  | [], l, H, _ => H
  | c :: cs, l, H, h => addB_ok c true _ (addAll_ok cs l H fun d hd => h d (List.mem_cons_of_mem _ hd)) (h c List.mem_cons_self)

noncomputable def sT (n : Nat) (B : Bd) (t : T AV) : Option (T AV) :=
  @T.rec AV (fun _ => Option (T AV)) (fun a => match sV n B a with
    | some x => some (.ret x)
    | none => none)
    (fun c _ _ x y => match sB B c, x, y with
      | some d, some x, some y => some (.br d x y)
      | _, _, _ => none) (fun w => some (.fail w)) t

theorem sT_holds {n : Nat} {E ES : Env} {B : Bd} (R : RelD n E ES B) (hfi : ES.ρ.fi = E.ρ.fi) (hfb : ES.ρ.fb = E.ρ.fb) {P : AV → Prop} : ∀ (t t' : T AV), sT n B t = some t' → t'.Holds E.ρ P → t.Holds ES.ρ fun v => ∃ v', sV n B v = some v' ∧ P v'
  | .ret a, t', h, k => by
    have h : (match sV n B a with
      | some x => some (T.ret x)
      | none => none) = some t' := h
    split at h
    · rename_i x hx; cases h; exact ⟨x, hx, k⟩
    · cases h
  | .fail w, t', h, k => by
    have h : some (T.fail w) = some t' := h
    cases h; exact k.elim
  | .br c x y, t', h, k => by
    have h : (match sB B c, sT n B x, sT n B y with
      | some d, some x, some y => some (T.br d x y)
      | _, _, _ => none) = some t' := h
    split at h
    · rename_i d x' y' hd hx hy
      cases h
      simp only [T.Holds] at k ⊢
      rw [sB_ok R hfi hfb c d hd] at k
      split at k
      · rename_i hc; rw [if_pos hc]; exact sT_holds R hfi hfb x x' hx k
      · rename_i hc; rw [if_neg hc]; exact sT_holds R hfi hfb y y' hy k
    · cases h

noncomputable def CSpec.vs (c : CSpec) : List VS := c.view.map fun g => ⟨g.1, none, g.2, g.2, g.2⟩

noncomputable def CSpec.orc (c : CSpec) (args : List AV) (h : Heap) : Option (T (AV × Heap)) :=
  match bdL c.nv c.args args ⟨[], [], [], []⟩ with
  | none => none
  | some B0 => (match bdVw c.nv h c.vs B0 with
    | none => none
    | some B => (match sBs B c.cs, sT c.nv B c.u with
      | some cs, some u => some (brAll (u.bind fun v => .ret (v, h)) cs)
      | _, _ => none))

/-- does the said tree serve for the run's? its values name no block -/
noncomputable def CSpec.chk (c : CSpec) (run : T (AV × Heap)) : Bool :=
  serves (fun a b => and (eqAV a b) (pureAV b)) c.u (run.bind fun r => .ret r.1) (addAll c.cs [])

/-- what holds of whatever numbers is so where some more is known of them -/
theorem CSpec.ok {p0 p : Par} {c : CSpec} {run : T (AV × Heap)} (hc : CallOk p0 c.f c.args (viewHeap c.nv c.view) run) (hchk : c.chk run = true) (hnv : 1000 ≤ c.nv) {args : List AV} {h : Heap} {t : T (AV × Heap)} (ho : c.orc args h = some t) (hP : p0.P = p.P := by rfl) (hfree : ∀ ρ m, p0.ok ρ m := by exact fun _ _ => trivial) : CallOk p c.f args h t := by
  unfold CSpec.orc at ho
  split at ho
  · cases ho
  · rename_i B0 h0
    split at ho
    · cases ho
    · rename_i B hB
      split at ho
      · rename_i cs u hcs hu
        cases ho
        intro vs E w0 w Q K k HH ha P
        obtain ⟨hdom, hret⟩ := brAll_holds k
        rw [T.holds_bind] at hret
        obtain ⟨a1, a2, a3⟩ := bdL_ok _ _ _ _ h0
        obtain ⟨c1, c2, c3⟩ := bdVw_ok _ _ _ hB
        have G0 : GoodD E B0 := a2 E vs ha (fun j v h => by cases h)
        have G : GoodD E B := c2 HH G0
        have R : RelD c.nv E (envD c.nv E B) B := envD_rel HH.glob G
        have hargs : concL (envD c.nv E B) c.args = some vs := a3 E (envD c.nv E B) vs (R.sub c1) ha
        have hdom' : ∀ d ∈ c.cs, d.den (rhoD E B) = true := fun d hd => by
          obtain ⟨d', h1, h2⟩ := sBs_ok _ _ hcs d hd
          have := sB_ok R rfl rfl d d' h2
          rw [hdom d' h1] at this
          exact this.symm
        have hV := c3 R HH
        have hview : ∀ g ∈ c.view, ViewIn w (envD c.nv E B) g := fun g hg => by
          have hm : (⟨g.1, none, g.2, g.2, g.2⟩ : VS) ∈ c.vs := List.mem_map.2 ⟨g, hg, rfl⟩
          obtain ⟨c', base, vs', cells, el, fz, k1, k2, k3, k4, k5⟩ := (hV _ hm).obj
          exact ⟨c', base, vs', cells, el, fz, k1, k2, k3, k4⟩
        have HS : HeapOk p0 (envD c.nv E B) (viewHeap c.nv c.view) (Base.of w) w := view_ok hview
          (fun b hb => by simp only [envD, sigD]; rw [if_neg (by omega), if_neg (by omega)]) (fun b hb => by simp only [envD, sigD, if_pos hb]) (Nat.le_refl _) (Par.okB_all hfree _ _)
        have hu' := sT_holds R rfl rfl c.u u hu hret
        -- the run, under the conditions
        have hrun : (run.bind fun r => T.ret r.1).Holds (rhoD E B) fun v => pureAV v = true ∧ ∃ v', sV c.nv B v = some v' ∧ (T.ret (v', h)).Holds E.ρ Q := by
          unfold CSpec.chk at hchk
          have key : ∀ (t : T AV) (l : List Asm), AsmOk (rhoD E B) l → serves (fun a b => and (eqAV a b) (pureAV b)) c.u t l = true → t.Holds (rhoD E B) fun v => pureAV v = true ∧ ∃ v', sV c.nv B v = some v' ∧ (T.ret (v', h)).Holds E.ρ Q := by
            intro t l H hs
            have hu2 : c.u.Holds (rhoD E B) (fun v => pureAV v = true → pureAV v = true ∧ ∃ v', sV c.nv B v = some v' ∧ (T.ret (v', h)).Holds E.ρ Q) := T.holds_weak hu' fun v hv hp => ⟨hp, hv⟩
            have : t.Holds (rhoD E B) (fun v => pureAV v = true ∧ (pureAV v = true → pureAV v = true ∧ ∃ v', sV c.nv B v = some v' ∧ (T.ret (v', h)).Holds E.ρ Q)) :=
              serves_ok2 (P := fun v => pureAV v = true → pureAV v = true ∧ ∃ v', sV c.nv B v = some v' ∧ (T.ret (v', h)).Holds E.ρ Q) (R := fun v => pureAV v = true) (fun a b hab => by
                simp only [Bool.and_eq_true] at hab
                have := eqAV_eq _ _ hab.1
                exact ⟨this, this ▸ hab.2⟩) hu2 t l H hs
            exact T.holds_weak this fun v hv => hv.2 hv.1
          exact key _ _ (addAll_ok _ _ (fun a ha => by cases ha) hdom') hchk
        rw [T.holds_bind] at hrun
        obtain ⟨r1, r2⟩ := hc vs (envD c.nv E B) (Base.of w) w (fun r => pureAV r.1 = true ∧ ∃ v', sV c.nv B r.1 = some v' ∧ (T.ret (v', h)).Holds E.ρ Q) (fun cv w' => ∃ v v', pureAV v = true ∧ sV c.nv B v = some v' ∧ Q (v', h) ∧ conc (envD c.nv E B) v = some cv ∧ Below w.heap.size w w') hrun HS hargs
          (fun v h' E' w' cv hq hle HH' hv => by
            obtain ⟨hp, v', hs, hQ⟩ := hq
            exact ⟨v, v', hp, hs, hQ, by rw [← hv]; exact (conc_pure hle.ρ v hp).symm, Base.keeps_below HH'.below⟩)
        rw [hP] at r1 r2
        refine ⟨r1, r2.mono ?_⟩
        rintro e w' ⟨cv, rfl, v, v', hp, hs, hQ, hv, hb⟩
        exact ⟨cv, rfl, P v' h E w' cv hQ (Env.le.refl E) (HH.world hb) (by rw [sV_ok R rfl rfl v v' hs]; exact hv)⟩
      · cases ho

end Go.Sx
/-! WHAT A ROUND LEAVES, as values: its kind of end, and some slots and blocks. -/
namespace Go.Sx
open Go.RowKit

noncomputable def tagE (x : Ex) : Nat :=
  match x with
  | .norm => 0
  | .ret => 1
  | .exit id => id + 2
noncomputable def optA (v : Option AV) : AV :=
  match v with
  | some v => .tup [v]
  | none => .tup []
noncomputable def blkA (o : Option AObj) : AV :=
  match o with
  | some (.cells cs el own ext) => .tup [.tup cs, li el, .bool (.lit own), .bool (.lit ext)]
  | _ => .nilptr
noncomputable def dfA (l : List Nat) : AV :=
  match l with
  | [] => .nilslice
  | _ => .nilmap
noncomputable def extr (ids bs : List Nat) (r : Ex × St) : AV :=
  .tup (li (tagE r.1) :: dfA r.2.df :: (lMap (fun i => optA (r.2.tm.tree.get i)) ids ++ lMap (fun b => blkA (r.2.h.get b)) bs))

theorem tagE_inj {x y : Ex} (h : tagE x = tagE y) : x = y := by
  cases x <;> cases y <;> simp only [tagE] at h <;> first | rfl | omega | (congr 1; omega)
theorem optA_some {v : Option AV} {a : AV} (h : optA v = .tup [a]) : v = some a := by
  cases v with
  | none => simp [optA] at h
  | some b => simp only [optA, AV.tup.injEq, List.cons.injEq, and_true] at h; rw [h]
theorem dfA_nil {l : List Nat} (h : dfA l = .nilslice) : l = [] := by
  cases l with
  | nil => rfl
  | cons a l => simp [dfA] at h
theorem blkA_some {o : Option AObj} {cs : List AV} {el : TypeId} {own ext : Bool} (h : blkA o = .tup [.tup cs, li el, .bool (.lit own), .bool (.lit ext)]) : o = some (.cells cs el own ext) := by
  unfold blkA at h
  split at h
  · simp only [AV.tup.injEq, List.cons.injEq, li, AV.int.injEq, IE.lit.injEq, AV.bool.injEq, BE.lit.injEq, and_true, true_and] at h
    obtain ⟨h1, h2, h3, h4⟩ := h
    have h2 := Int.ofNat_inj.1 h2
    rw [h1, h2, h3, h4]
  · cases h

/-- a tree's ends, as values -/
noncomputable def extT (ids bs : List Nat) (t : T (Ex × St)) : T AV := t.bind fun r => .ret (extr ids bs r)
theorem extT_holds {ρ : Rho} {ids bs : List Nat} {t : T (Ex × St)} {P : AV → Prop} (h : (extT ids bs t).Holds ρ P) : t.Holds ρ fun r => P (extr ids bs r) := T.holds_bind.1 h

end Go.Sx
