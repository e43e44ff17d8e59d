/- THE SEARCH FOR AN ORDER, by whoever looks for one: what is said of it follows from its run. -/
import Derived.Test.YtlaakbmimplceaaDoorFiF
import Derived.Test.YtlaakbmimplceaaDoorSxRound
import Derived.Test.YtlaakbmimplceaaDoorTabFn
import Derived.Test.YtlaakbmimplceaaDoorFiP
/-! CALLS, AS THEY ARE SAID: checks of what a run leaves, and maps whose test speaks of what lies there. -/
namespace Go.Sx
open Go.RowKit

/-! ## Objects alike, to the letter -/
noncomputable def eqPT : PT AV → PT AV → Bool
  | .nil, .nil => true
  | .node none l r, .node none l' r' => and (eqPT l l') (eqPT r r')
  | .node (some a) l r, .node (some b) l' r' => and (eqAV a b) (and (eqPT l l') (eqPT r r'))
  | _, _ => false
theorem eqPT_eq : ∀ (t u : PT AV), eqPT t u = true → t = u
  | .nil, u, h => by cases u with | nil => rfl | node v l r => simp [eqPT] at h
  | .node none l r, u, h => by
    cases u with
    | nil => simp [eqPT] at h
    | node v l' r' => cases v with
      | none =>
        simp only [eqPT, Bool.and_eq_true] at h
        rw [eqPT_eq l l' h.1, eqPT_eq r r' h.2]
      | some b => simp [eqPT] at h
  | .node (some a) l r, u, h => by
    cases u with
    | nil => simp [eqPT] at h
    | node v l' r' => cases v with
      | none => simp [eqPT] at h
      | some b =>
        simp only [eqPT, Bool.and_eq_true] at h
        rw [eqAV_eq a b h.1, eqPT_eq l l' h.2.1, eqPT_eq r r' h.2.2]
def eqSt (a b : LoopState) : Bool :=
  match a, b with
  | .ready, .ready => true
  | .busy, .busy => true
  | .done, .done => true
  | .exhausted, .exhausted => true
  | _, _ => false
theorem eqSt_eq {a b : LoopState} (h : eqSt a b = true) : a = b := by cases a <;> cases b <;> first | rfl | cases h
def eqEx (a b : Ex) : Bool :=
  match a, b with
  | .norm, .norm => true
  | .exit i, .exit j => Nat.beq i j
  | .ret, .ret => true
  | _, _ => false
theorem eqEx_eq {a b : Ex} (h : eqEx a b = true) : a = b := by
  cases a <;> cases b <;> first | rfl | (cases h; done) | (rw [beq_t.1 h])
def eqNs : List Nat → List Nat → Bool
  | [], [] => true
  | a :: l, b :: m => and (Nat.beq a b) (eqNs l m)
  | _, _ => false
theorem eqNs_eq : ∀ (l m : List Nat), eqNs l m = true → l = m
  | [], [], _ => rfl
  | [], _ :: _, h => by cases h
  | _ :: _, [], h => by cases h
  | a :: l, b :: m, h => by
    simp only [eqNs, Bool.and_eq_true] at h
    rw [beq_t.1 h.1, eqNs_eq l m h.2]
noncomputable def eqFs : List (Bool × Nat) → List (Bool × Nat) → Bool
  | [], [] => true
  | a :: l, b :: m => and (beqB a.1 b.1) (and (Nat.beq a.2 b.2) (eqFs l m))
  | _, _ => false
theorem eqFs_eq : ∀ (l m : List (Bool × Nat)), eqFs l m = true → l = m
  | [], [], _ => rfl
  | [], _ :: _, h => by cases h
  | _ :: _, [], h => by cases h
  | a :: l, b :: m, h => by
    simp only [eqFs, Bool.and_eq_true] at h
    obtain ⟨a1, a2⟩ := a; obtain ⟨b1, b2⟩ := b
    have h1 := beqB_eq h.1; have h2 := beq_t.1 h.2.1
    simp only at h1 h2
    rw [h1, h2, eqFs_eq l m h.2.2]
noncomputable def eqMU (a b : MU) : Bool := and (Nat.beq a.fb b.fb) (and (eqFs a.fi b.fi) (and (beqB a.ag b.ag) (and (Nat.beq a.nk b.nk) (beqB a.live b.live))))
theorem eqMU_eq {a b : MU} (h : eqMU a b = true) : a = b := by
  simp only [eqMU, Bool.and_eq_true] at h
  obtain ⟨h1, h2, h3, h4, h5⟩ := h
  cases a; cases b
  simp only at h1 h2 h3 h4 h5
  rw [beq_t.1 h1, eqFs_eq _ _ h2, beqB_eq h3, beq_t.1 h4, beqB_eq h5]
noncomputable def eqO (a b : AObj) : Bool :=
  match a, b with
  | .cells cs el own ext, .cells cs' el' own' ext' => and (eqAVs cs cs') (and (Nat.beq el el') (and (beqB own own') (beqB ext ext')))
  | .umap m, .umap m' => eqMU m m'
  | .loop st p f tm ps c d, .loop st' p' f' tm' ps' c' d' => and (eqSt st st') (and (eqEx p p') (and (Nat.beq f f') (and (eqPT tm tm') (and (eqNs ps ps') (and (Nat.beq c c') (Nat.beq d d'))))))
  | .defd a, .defd b => beqB a b
  | _, _ => false
theorem eqO_eq {a b : AObj} (h : eqO a b = true) : a = b := by
  cases a <;> cases b <;> simp only [eqO, Bool.and_eq_true] at h <;> first | (cases h; done) | skip
  · rw [eqMU_eq h]
  · rw [eqAVs_eq _ _ h.1, beq_t.1 h.2.1, beqB_eq h.2.2.1, beqB_eq h.2.2.2]
  · obtain ⟨h1, h2, h3, h4, h5, h6, h7⟩ := h
    rw [eqSt_eq h1, eqEx_eq h2, beq_t.1 h3, eqPT_eq _ _ h4, eqNs_eq _ _ h5, beq_t.1 h6, beq_t.1 h7]
  · rw [beqB_eq h]
noncomputable def isO (o : Option AObj) (q : AObj) : Bool :=
  match o with
  | some x => eqO x q
  | none => false
theorem isO_eq {o : Option AObj} {q : AObj} (h : isO o q = true) : o = some q := by
  cases o with
  | none => cases h
  | some x => rw [eqO_eq h]

/-- what is told is no more than what lies there -/
noncomputable def lessO (q : AObj) (o : Option AObj) : Bool :=
  match o with
  | none => false
  | some x => cond (eqO x q) true (match q, x with
    | .cells cs 0 false false, .cells cs' _ _ _ => eqAVs cs' cs
    | .umap m, .umap m' => eqMU m'.dull m
    | _, _ => false)
theorem lessO_ok {q : AObj} {o : Option AObj} (h : lessO q o = true) : ∃ x, o = some x ∧ Less q x := by
  cases o with
  | none => cases h
  | some x =>
    refine ⟨x, rfl, ?_⟩
    simp only [lessO] at h
    cases h1 : eqO x q with
    | true => rw [eqO_eq h1]; exact .refl _
    | false =>
      rw [h1, cond_false] at h
      split at h
      · rw [eqAVs_eq _ _ h]; exact .read _ _ _ _
      · rw [← eqMU_eq h]; exact .dull _
      · cases h
noncomputable def lessAll (h : Heap) (l : List (Nat × AObj)) : Bool := lAll (fun g : Nat × AObj => lessO g.2 (h.get g.1)) l
theorem lessAll_ok {h : Heap} {l : List (Nat × AObj)} (e : lessAll h l = true) : ∀ g ∈ l, ∃ o, h.get g.1 = some o ∧ Less g.2 o := fun g hg => lessO_ok (lAll_mem e g hg)

/-- an object tells what it tells, on whatever terms -/
theorem SameA.refl {P : Program} {RC : Nat → Nat → List Nat → Code → Code → Prop} {ok ok' : Rho → (Nat → Obj → Prop) → Prop} {ρ : Rho} (o : AObj) : SameA ⟨P, RC, ok⟩ ⟨P, RC, ok'⟩ ρ o ρ o :=
  ⟨fun h => h, fun h => h, fun σ κ n rc heap b h => by cases o <;> exact h⟩
theorem SameA.cells {p0 p : Par} {ρ0 ρ : Rho} {cs0 cs : List AV} {el : TypeId} {own ext : Bool} (hP : p0.P = p.P) (h : SameL ρ0 cs0 ρ cs) : SameA p0 p ρ0 (.cells cs0 el own ext) ρ (.cells cs el own ext) :=
  ⟨fun h => h, fun h => h, fun σ κ n rc heap b ⟨c, base, vs, cells, el', fz, k1, k2, k3, k4, k5⟩ => ⟨c, base, vs, cells, el', fz, k1, (h σ κ n n rc rc).symm.trans k2, k3, k4, by rw [← hP]; exact k5⟩⟩
theorem SameA.dead {p0 p : Par} {ρ0 ρ : Rho} {o : AObj} : SameA p0 p ρ0 o ρ .dead := ⟨fun h => (by cases h), fun h => (by cases h), fun _ _ _ _ _ _ _ => trivial⟩
/-- a new map tells nothing wrong -/
theorem SameA.empty {p0 p : Par} {ρ0 ρ : Rho} {k : Nat} {m : MU} (hm : m.live = false) : SameA p0 p ρ0 (.map [] k) ρ (.umap m) :=
  ⟨fun _ => rfl, fun h => (by cases h), fun σ κ n rc heap b ⟨c, ms, k1, k2, k3⟩ => ⟨c, [], ms, k, k1, (by cases ms with | nil => trivial | cons _ _ => exact k2.elim), k3, fun e he => (by cases he), fun h => by rw [hm] at h; cases h⟩⟩

mutual
theorem conc_bare {ρ : Rho} {σ : Nat → Option (Nat × Nat)} {κ : Nat → Nat} {n m : Nat} {rc rc' : Nat → Array Value} : ∀ (a : AV), conc ⟨ρ, σ, κ, n, rc⟩ a = conc ⟨ρ, σ, κ, m, rc'⟩ a
  | .bool _ => rfl
  | .int _ _ => rfl
  | .ptr _ _ => rfl
  | .nilptr => rfl
  | .slice _ _ _ _ => rfl
  | .sliceX _ _ _ _ => rfl
  | .nilslice => rfl
  | .map _ => rfl
  | .nilmap => rfl
  | .func fn x y => by simp only [conc, show concL ⟨ρ, σ, κ, n, rc⟩ x = concL ⟨ρ, σ, κ, m, rc'⟩ x from concL_bare x, show concL ⟨ρ, σ, κ, n, rc⟩ y = concL ⟨ρ, σ, κ, m, rc'⟩ y from concL_bare y]
  | .yieldF _ => rfl
  | .nilFunc => rfl
  | .agg l => by simp only [conc, show concL ⟨ρ, σ, κ, n, rc⟩ l = concL ⟨ρ, σ, κ, m, rc'⟩ l from concL_bare l]
  | .tup l => by simp only [conc, show concL ⟨ρ, σ, κ, n, rc⟩ l = concL ⟨ρ, σ, κ, m, rc'⟩ l from concL_bare l]
  | .opq _ => rfl
  | .sliceU _ => rfl
  | .sliceV _ _ => rfl
  | .ptrV _ _ _ _ _ => rfl
  | .bad => rfl
theorem concL_bare {ρ : Rho} {σ : Nat → Option (Nat × Nat)} {κ : Nat → Nat} {n m : Nat} {rc rc' : Nat → Array Value} : ∀ (l : List AV), concL ⟨ρ, σ, κ, n, rc⟩ l = concL ⟨ρ, σ, κ, m, rc'⟩ l
  | [] => rfl
  | a :: l => by simp only [concL, show conc ⟨ρ, σ, κ, n, rc⟩ a = conc ⟨ρ, σ, κ, m, rc'⟩ a from conc_bare a, show concL ⟨ρ, σ, κ, n, rc⟩ l = concL ⟨ρ, σ, κ, m, rc'⟩ l from concL_bare l]
end
theorem SameV.refl (ρ : Rho) (v : AV) : SameV ρ v ρ v := fun _ _ _ _ _ _ => conc_bare v
theorem SameL.refl (ρ : Rho) (l : List AV) : SameL ρ l ρ l := fun _ _ _ _ _ _ => concL_bare l

/-! ## Trees alike -/
noncomputable def eqTF (t u : T AV) : Bool :=
  match t, u with
  | .ret a, .ret b => eqAV a b
  | .fail a, .fail b => Nat.beq a b
  | .br c x y, .br c' x' y' => and (eqBE c c') (and (eqTF x x') (eqTF y y'))
  | _, _ => false
theorem eqTF_eq : ∀ (t u : T AV), eqTF t u = true → t = u
  | .ret a, u, h => by
    cases u <;> simp only [eqTF] at h <;> first | (cases h; done) | skip
    rw [eqAV_eq _ _ h]
  | .fail w, u, h => by
    cases u <;> simp only [eqTF] at h <;> first | (cases h; done) | skip
    rw [beq_t.1 h]
  | .br c x y, u, h => by
    cases u <;> simp only [eqTF, Bool.and_eq_true] at h <;> first | (cases h; done) | skip
    rw [eqBE_eq _ _ h.1, eqTF_eq x _ h.2.1, eqTF_eq y _ h.2.2]
/-- what is asked of a run, asked of what its ends look like -/
theorem T.holds_enc {α : Type} {ρ : Rho} {t : T α} {enc : α → AV} {u : T AV} (h : (t.bind fun r => T.ret (enc r)) = u) {P : α → Prop} (k : u.Holds ρ fun a => ∀ r, enc r = a → P r) : t.Holds ρ P := by
  rw [← h, T.holds_bind] at k
  exact T.holds_mono (fun r hr => hr r rfl) k

/-! ## A map's test, made to speak of what lies there -/
def Rho.setB (ρ : Rho) (i : Nat) (B : Int → Int → Int → Bool) : Rho := ⟨ρ.iv, ρ.bv, ρ.fi, fun j => if j = i then B else ρ.fb j, ρ.ov⟩

theorem UOk.live {ρ : Rho} {m : MU} {es : List (AV × AV × Nat)} (h : UOk ρ m.dull es) (h1 : 1000 ≤ m.fb) (hfi : ∀ q ∈ m.fi, q.2 ≠ m.fb) : ∃ B, UOk (ρ.setB m.fb B) m es := by
  classical
  refine ⟨fun a b c => decide (∃ e ∈ es, e.1 = keyU m.nk a b c), fun e he => ?_, fun _ a b c _ _ => ?_⟩
  · obtain ⟨a, b, c, k1, k2, k3, k4⟩ := h.1 e he
    refine ⟨a, b, c, k1, k2, k3, k4.trans ?_⟩
    have hc : ∀ q ∈ m.fi, umCellL ρ a b c q = umCellL (ρ.setB m.fb fun a b c => decide (∃ e ∈ es, e.1 = keyU m.nk a b c)) a b c q := fun q hq => by
      unfold umCellL FB FI Rho.setB
      simp only [if_neg (hfi q hq)]
    unfold umValL MU.dull
    simp only
    rw [List.map_congr_left hc]
    cases m.ag with
    | true => rfl
    | false =>
      simp only [cond_false]
      have := hc
      revert this
      cases m.fi with
      | nil => intro _; rfl
      | cons q l => cases l with
        | nil => intro hh; exact hh q List.mem_cons_self
        | cons _ _ => intro _; rfl
  · unfold FB Rho.setB
    simp only [if_pos h1, if_true, decide_eq_true_eq]

/-- A CALL THAT LOOKS INTO A MAP, where the map's test need speak of nothing. -/
theorem CallOk.live {p : Par} {f : FuncId} {args : List AV} {h : Heap} {t : T (AV × Heap)} {b : Nat} {m : MU} (h1 : 1000 ≤ m.fb) (hfi : ∀ q ∈ m.fi, q.2 ≠ m.fb) (hc : CallOk p f args (h.put b (.umap m)) t)
    (hst : ∀ ρ B c, p.okB ρ c → p.okB (ρ.setB m.fb B) c) (hargs : ∀ ρ B, SameL ρ args (ρ.setB m.fb B) args) (hh : ∀ ρ B j o, j ≠ b → h.get j = some o → SameA p p ρ o (ρ.setB m.fb B) o)
    (ht : ∀ ρ B (Q : AV × Heap → Prop), t.Holds ρ Q → t.Holds (ρ.setB m.fb B) fun r0 => ∃ r, Q r ∧ SameV (ρ.setB m.fb B) r0.1 ρ r.1 ∧ SameH p p (ρ.setB m.fb B) r0.2 ρ r.2) : CallOk p f args (h.put b (.umap m.dull)) t := by
  intro vs E w0 w Q K k HH ha P
  have hg : (h.put b (.umap m.dull)).get b = some (.umap m.dull) := by rw [Heap.get_put, if_pos rfl]
  obtain ⟨c, es, ms, clock, g1, g2, g3, g4⟩ := HH.obj _ _ hg
  obtain ⟨B, hU⟩ := g4.live h1 hfi
  let E' : Env := ⟨E.ρ.setB m.fb B, E.σ, E.κ, E.n, E.rc⟩
  have back : ∀ j o, (h.put b (.umap m)).get j = some o → ∃ o0, (h.put b (.umap m.dull)).get j = some o0 ∧ ownO o0 = ownO o ∧ roO o0 = roO o := fun j o g => by
    rw [Heap.get_put] at g
    rw [Heap.get_put]
    by_cases hj : j = b
    · rw [if_pos hj] at g ⊢; cases g; exact ⟨_, rfl, rfl, rfl⟩
    · rw [if_neg hj] at g ⊢; exact ⟨o, g, rfl, rfl⟩
  have HH' : HeapOk p E' (h.put b (.umap m)) w0 w := by
    refine ⟨fun j o g => ?_, fun j j' o o' c x y k1 k2 w1 w2 s1 s2 => ?_, fun j o c x g hw s => ?_, fun j o c y g hr s => ?_, HH.fresh, fun j o c x g s => ?_, HH.glob, HH.below, HH.nx, hst _ _ _ HH.ok⟩
    · by_cases hj : j = b
      · subst hj
        rw [Heap.get_put, if_pos rfl] at g; cases g
        have lit : ∀ (es : List (AV × AV × Nat)) (ms : List MapEntry), (∀ e ∈ es, ∃ a b c, (m.nk < 2 → b = 0) ∧ (m.nk < 3 → c = 0) ∧ e.1 = keyU m.nk a b c ∧ e.2.1 = umValL (E.ρ.setB m.fb B) m a b c) → concE E es ms → concE E' es ms := by
          intro es
          induction es with
          | nil => intro ms _ h; cases ms with | nil => trivial | cons _ _ => exact h.elim
          | cons e es ih =>
            intro ms hl h
            cases ms with
            | nil => exact h.elim
            | cons m' ms =>
              obtain ⟨q1, q2, q3, q4⟩ := h
              obtain ⟨x, y, z, _, _, e1, e2⟩ := hl e List.mem_cons_self
              have hk : conc E' e.1 = conc E e.1 := by rw [e1]; unfold keyU; split <;> rfl
              have hc : ∀ q, conc E' (umCellL (E.ρ.setB m.fb B) x y z q) = conc E (umCellL (E.ρ.setB m.fb B) x y z q) := fun q => by unfold umCellL; cases q.1 <;> rfl
              have hcs : ∀ l : List (Bool × Nat), concL E' (l.map (umCellL (E.ρ.setB m.fb B) x y z)) = concL E (l.map (umCellL (E.ρ.setB m.fb B) x y z)) := fun l => by
                induction l with
                | nil => rfl
                | cons q l ih => simp only [List.map_cons, concL, hc, ih]
              have hv : conc E' e.2.1 = conc E e.2.1 := by
                rw [e2]; unfold umValL
                cases m.ag with
                | true => simp only [cond_true, conc, hcs]
                | false =>
                  simp only [cond_false]
                  cases m.fi with
                  | nil => rfl
                  | cons q l => cases l with
                    | nil => exact hc q
                    | cons _ _ => rfl
              exact ⟨hk.trans q1, hv.trans q2, q3, ih ms (fun e' he' => hl e' (List.mem_cons_of_mem _ he')) q4⟩
        exact ⟨c, es, ms, clock, g1, lit es ms hU.1 g2, g3, hU⟩
      · have g' : h.get j = some o := by rw [Heap.get_put, if_neg hj] at g; exact g
        have g0 : (h.put b (.umap m.dull)).get j = some o := by rw [Heap.get_put, if_neg hj]; exact g'
        exact (hh E.ρ B j o hj g').2.2 E.σ E.κ E.n E.rc w.heap j (HH.obj j o g0)
    · obtain ⟨o1, a1, a2, _⟩ := back j o k1
      obtain ⟨o2, c1, c2, _⟩ := back j' o' k2
      exact HH.inj _ _ _ _ _ _ _ a1 c1 (a2.trans w1) (c2.trans w2) s1 s2
    · obtain ⟨o1, a1, a2, _⟩ := back j o g
      exact HH.base _ _ _ _ a1 (a2.trans hw) s
    · obtain ⟨o1, a1, _, a3⟩ := back j o g
      exact HH.ro _ _ _ _ a1 (a3.trans hr) s
    · obtain ⟨o1, a1, _⟩ := back j o g
      exact HH.lt _ _ _ _ a1 s
  have ha' : concL E' args = some vs := by rw [← hargs E.ρ B E.σ E.κ E.n E.n E.rc E.rc]; exact ha
  refine hc vs E' w0 w _ K (ht E.ρ B Q k) HH' ha' ?_
  intro v' h' E1 w' cv q hle H1 hcv
  obtain ⟨r, hq, hv, hs⟩ := q
  have hρ1 : E1.ρ = E.ρ.setB m.fb B := hle.ρ
  have H2 : HeapOk p ⟨E.ρ, E1.σ, E1.κ, E1.n, E1.rc⟩ r.2 w0 w' := HeapOk.read (ρ0 := E.ρ.setB m.fb B) (σ := E1.σ) (κ := E1.κ) (n := E1.n) (rc := E1.rc) (by rw [← hρ1]; exact H1) hs HH.ok
  refine P r.1 r.2 ⟨E.ρ, E1.σ, E1.κ, E1.n, E1.rc⟩ w' cv hq ⟨⟨rfl, hle.σ, hle.κ, hle.rc⟩, hle.n, hle.none⟩ H2 ?_
  rw [← hv E1.σ E1.κ E1.n E1.n E1.rc E1.rc, ← hρ1]; exact hcv
end Go.Sx
/-! THE SCENES BEHIND A REEL: what 'after' hands back, with a map of what was found out already. -/
namespace Go.Sx
open Go.RowKit Go.Proofs
set_option maxRecDepth 100000
noncomputable def vj (j : Nat) : AV := .int .i64 (.var j)
noncomputable def ln (j : Nat) : AV := .int .i64 (.lit (Int.ofNat j))
noncomputable def filmK (b L : Nat) : AV := .agg [.sliceX 1001 6 0 L, vj 0, vj 1, vj 2, vj 3, vj 4, .map b]
noncomputable def rowsA (L : Nat) : AObj := .cells (lMap vj (upN (6 * L) 10)) 0 false false
def mU (live : Bool) : MU := ⟨3000, [(false, 3001), (false, 3002)], true, 3, live⟩
noncomputable def vA (b L : Nat) (live : Bool) : List (Nat × AObj) := [(1001, rowsA L), (b, .umap (mU live))]
noncomputable def af1 (r : Nat) (x1 x2 : IE) : IE := .app 3001 (.lit (Int.ofNat r)) x1 x2
noncomputable def af2 (r : Nat) (x1 x2 : IE) : IE := .app 3002 (.lit (Int.ofNat r)) x1 x2
noncomputable def aftE (r : Nat) (x1 x2 : IE) : AV := .agg [.int .i64 (af1 r x1 x2), .int .i64 (af2 r x1 x2)]
noncomputable def stepE (r : Nat) (x1 x2 : IE) : AV := .agg [ln r, .int .i64 x1, .int .i64 x2]

/-- what a film's rows are, and what the names mean -/
def reelOk (ρ : Rho) (r : Nat) : Prop := 0 ≤ ρ.iv (10 + 6 * r) ∧ ρ.iv (10 + 6 * r) ≤ ρ.iv (11 + 6 * r) ∧ ρ.iv (11 + 6 * r) ≤ 99 ∧ 0 ≤ ρ.iv (12 + 6 * r) ∧ ρ.iv (12 + 6 * r) ≤ ρ.iv (13 + 6 * r) ∧ ρ.iv (13 + 6 * r) ≤ 99
def aftF (ρ : Rho) (r : Nat) (a b : Int) : Int × Int :=
  if max a (ρ.iv (10 + 6 * r)) ≤ min b (ρ.iv (11 + 6 * r)) ∧ max (max a (ρ.iv (10 + 6 * r))) (ρ.iv (12 + 6 * r)) ≤ ρ.iv (13 + 6 * r) then (max (max a (ρ.iv (10 + 6 * r))) (ρ.iv (12 + 6 * r)), ρ.iv (13 + 6 * r) + 1) else (0, 0)
def okA (L : Nat) (ρ : Rho) : Prop := ∀ r, r < L → reelOk ρ r ∧ ∀ a b, ρ.fi 3001 r a b = (aftF ρ r a b).1 ∧ ρ.fi 3002 r a b = (aftF ρ r a b).2

noncomputable def pA (L : Nat) : Par := ⟨Tryd.prog, rcOf Tryd.rows, fun ρ _ => okA L ρ⟩
noncomputable def tbA : Tabs := ⟨Sx.Tryd.ft.get, lFind Sx.Tryd.rt, 2000, fun _ _ _ => none⟩
theorem tabsA (L : Nat) : TabOk (pA L) Sx.Tryd.tt.get tbA := Tryd.tab (fun _ _ _ => none) (fun _ _ _ _ h => by cases h) 2000

noncomputable def runA (b L r : Nat) : T (AV × Heap) := (evalN tbA 100 false 60 [filmK b L, stepE r (.var 500) (.var 501)] (viewA (b + 1) (vA b L true))).bind fun q => graftT (b + 1) (vA b L true) (viewA (b + 1) (vA b L true)) [] q
noncomputable def tag (b : Bool) : AV := .bool (.lit b)
noncomputable def encA (b L : Nat) (q : AV × Heap) : AV := .tup [q.1, tag (and (lessO (.umap (mU false)) (q.2.get b)) (and (isO (q.2.get 1001) (rowsA L)) (Nat.beq q.2.next (b + 1))))]
noncomputable def needE (r : Nat) (e1 e2 : IE) : T AV :=
  .br (.cmp .eql e1 (af1 r (.var 500) (.var 501))) (.br (.cmp .eql e2 (af2 r (.var 500) (.var 501))) (.ret (.tup [.agg [.int .i64 e1, .int .i64 e2], tag true])) (.fail 99)) (.fail 99)
noncomputable def expA (r : Nat) : T AV :=
  .br (.app 3000 (.lit (Int.ofNat r)) (.var 500) (.var 501)) (.ret (.tup [aftE r (.var 500) (.var 501), tag true]))
    (.br (.cmp .leq (.mx (.var 500) (.var (10 + 6 * r))) (.mn (.var 501) (.var (11 + 6 * r))))
      (.br (.cmp .leq (.mx (.mx (.var 500) (.var (10 + 6 * r))) (.var (12 + 6 * r))) (.var (13 + 6 * r)))
        (needE r (.mx (.mx (.var 500) (.var (10 + 6 * r))) (.var (12 + 6 * r))) (.bin .add .i64 (.var (13 + 6 * r)) (.lit 1)))
        (needE r (.lit 0) (.lit 0)))
      (needE r (.lit 0) (.lit 0)))
noncomputable def ckA (b L : Nat) : Bool := lAll (fun r => eqTF ((runA b L r).bind fun q => .ret (encA b L q)) (expA r)) (upN L 0)
theorem ckA2001_1 : ckA 2001 1 = true := by kernel_rfl
theorem ckA2001_2 : ckA 2001 2 = true := by kernel_rfl
theorem ckA2001_3 : ckA 2001 3 = true := by kernel_rfl
theorem ckA2001_4 : ckA 2001 4 = true := by kernel_rfl
theorem ckA2001_5 : ckA 2001 5 = true := by kernel_rfl
theorem ckA2001_6 : ckA 2001 6 = true := by kernel_rfl
theorem ckA2003_1 : ckA 2003 1 = true := by kernel_rfl
theorem ckA2003_2 : ckA 2003 2 = true := by kernel_rfl
theorem ckA2003_3 : ckA 2003 3 = true := by kernel_rfl
theorem ckA2003_4 : ckA 2003 4 = true := by kernel_rfl
theorem ckA2003_5 : ckA 2003 5 = true := by kernel_rfl
theorem ckA2003_6 : ckA 2003 6 = true := by kernel_rfl
theorem ckA2005_1 : ckA 2005 1 = true := by kernel_rfl
theorem ckA2005_2 : ckA 2005 2 = true := by kernel_rfl
theorem ckA2005_3 : ckA 2005 3 = true := by kernel_rfl
theorem ckA2005_4 : ckA 2005 4 = true := by kernel_rfl
theorem ckA2005_5 : ckA 2005 5 = true := by kernel_rfl
theorem ckA2005_6 : ckA 2005 6 = true := by kernel_rfl
theorem mem_upN : ∀ (m k r : Nat), k ≤ r → r < k + m → r ∈ upN m k
  | 0, k, r, h1, h2 => by omega
  | m + 1, k, r, h1, h2 => by
    simp only [upN]
    by_cases h : r = k
    · rw [h]; exact List.mem_cons_self
    · exact List.mem_cons_of_mem _ (mem_upN m (k + 1) r (by omega) (by omega))
theorem ckA_all {b L : Nat} (hb : b = 2001 ∨ b = 2003 ∨ b = 2005) (h0 : 1 ≤ L) (hL : L ≤ 6) : ckA b L = true := by
  have : L = 1 ∨ L = 2 ∨ L = 3 ∨ L = 4 ∨ L = 5 ∨ L = 6 := by omega
  rcases hb with rfl | rfl | rfl
  · rcases this with rfl | rfl | rfl | rfl | rfl | rfl
    · exact ckA2001_1
    · exact ckA2001_2
    · exact ckA2001_3
    · exact ckA2001_4
    · exact ckA2001_5
    · exact ckA2001_6
  · rcases this with rfl | rfl | rfl | rfl | rfl | rfl
    · exact ckA2003_1
    · exact ckA2003_2
    · exact ckA2003_3
    · exact ckA2003_4
    · exact ckA2003_5
    · exact ckA2003_6
  · rcases this with rfl | rfl | rfl | rfl | rfl | rfl
    · exact ckA2005_1
    · exact ckA2005_2
    · exact ckA2005_3
    · exact ckA2005_4
    · exact ckA2005_5
    · exact ckA2005_6
theorem runA_tree {b L r : Nat} (hb : b = 2001 ∨ b = 2003 ∨ b = 2005) (h0 : 1 ≤ L) (hL : L ≤ 6) (hr : r < L) : ((runA b L r).bind fun q => T.ret (encA b L q)) = expA r :=
  eqTF_eq _ _ (lAll_mem (ckA_all hb h0 hL) r (mem_upN L 0 r (Nat.zero_le _) (by omega)))
end Go.Sx
/-! THE SCENES BEHIND A REEL, as they are said: two numbers with names. -/
namespace Go.Sx
open Go.RowKit Go.Proofs
set_option maxRecDepth 100000
theorem six {L : Nat} (h0 : 1 ≤ L) (hL : L ≤ 6) : L = 1 ∨ L = 2 ∨ L = 3 ∨ L = 4 ∨ L = 5 ∨ L = 6 := by omega
theorem SameA.dull {p : Par} {ρ : Rho} {q x : AObj} (h : Less q x) (hq : roO q = false) : SameA p p ρ x ρ q :=
  ⟨h.own, fun k => absurd k (by rw [hq]; exact Bool.false_ne_true), fun _ _ _ _ _ _ k => h.obj k⟩
theorem IE.den_mn {ρ : Rho} {a b : IE} : (IE.mn a b).den ρ = min (a.den ρ) (b.den ρ) := by
  show (if b.den ρ < a.den ρ then b.den ρ else a.den ρ) = min (a.den ρ) (b.den ρ)
  split <;> omega
theorem af_den {L : Nat} {ρ : Rho} (h : okA L ρ) {r : Nat} (hr : r < L) (x1 x2 : IE) : (af1 r x1 x2).den ρ = (aftF ρ r (x1.den ρ) (x2.den ρ)).1 ∧ (af2 r x1 x2).den ρ = (aftF ρ r (x1.den ρ) (x2.den ρ)).2 := by
  have h1 := (h r hr).2 (x1.den ρ) (x2.den ρ)
  unfold af1 af2
  simp only [IE.den, FI]
  exact ⟨h1.1, h1.2⟩
theorem aftF_pos {ρ : Rho} {r : Nat} {a b : Int} (h1 : max a (ρ.iv (10 + 6 * r)) ≤ min b (ρ.iv (11 + 6 * r))) (h2 : max (max a (ρ.iv (10 + 6 * r))) (ρ.iv (12 + 6 * r)) ≤ ρ.iv (13 + 6 * r)) :
    aftF ρ r a b = (max (max a (ρ.iv (10 + 6 * r))) (ρ.iv (12 + 6 * r)), ρ.iv (13 + 6 * r) + 1) := if_pos ⟨h1, h2⟩
theorem aftF_neg {ρ : Rho} {r : Nat} {a b : Int} (h : ¬ (max a (ρ.iv (10 + 6 * r)) ≤ min b (ρ.iv (11 + 6 * r)) ∧ max (max a (ρ.iv (10 + 6 * r))) (ρ.iv (12 + 6 * r)) ≤ ρ.iv (13 + 6 * r))) : aftF ρ r a b = (0, 0) := if_neg h
theorem wrap_sm {n : Int} (h1 : -1000000000 ≤ n) (h2 : n ≤ 1000000000) : IntKind.i64.wrap n = n := IntWalk.i64_in _ (by omega)
theorem viewA_ok {b : Nat} (hb : b = 2001 ∨ b = 2003 ∨ b = 2005) (L : Nat) (h0 : 1 ≤ L) (hL : L ≤ 6) (t : Bool) : viewOk (b + 1) (vA b L t) = true := by
  rcases hb with rfl | rfl | rfl <;> rcases six h0 hL with rfl | rfl | rfl | rfl | rfl | rfl <;> cases t <;> rfl

/-- WHAT 'after' HANDS BACK, the map's test speaking of what lies there. -/
theorem after_var {b L r : Nat} (hb : b = 2001 ∨ b = 2003 ∨ b = 2005) (h0 : 1 ≤ L) (hL : L ≤ 6) (hr : r < L) : CallOk (pA L) 60 [filmK b L, stepE r (.var 500) (.var 501)] (viewA (b + 1) (vA b L true)) (.ret (aftE r (.var 500) (.var 501), viewA (b + 1) (vA b L false))) := by
  have base := eval_ok (tabsA L) 100 60 [filmK b L, stepE r (.var 500) (.var 501)] (viewA (b + 1) (vA b L true))
  have up : upA 0 (vA b L true) = true := by rcases hb with rfl | rfl | rfl <;> rfl
  have hb9 : 1000 ≤ b + 1 := by omega
  have fr : CallOk (pA L) 60 [filmK b L, stepE r (.var 500) (.var 501)] (viewA (b + 1) (vA b L true)) (runA b L r) := base.frame (n := (b + 1)) (l := vA b L true) hb9 (by rcases hb with rfl | rfl | rfl <;> rfl) (viewA_ok hb L h0 hL true)
    (fun g hg => ⟨g.2, viewA_mem (b + 1) _ 0 up g hg, .refl _⟩) (by rw [viewA_next]; exact Nat.le_refl _) (fun _ => [])
  refine CallOk.read rfl fr fun ρ b9 hok Q k => ⟨ρ, hok, SameL.refl _ _, ⟨rfl, fun j o g => ⟨o, g, SameA.refl o⟩⟩, T.holds_enc (runA_tree hb h0 hL hr) ?_⟩
  obtain ⟨_, hA, _⟩ := hok
  have hA : okA L ρ := hA
  have k : Q (aftE r (.var 500) (.var 501), viewA (b + 1) (vA b L false)) := k
  obtain ⟨d1, d2⟩ := af_den hA hr (.var 500) (.var 501)
  rw [IE.den_var, IE.den_var] at d1 d2
  obtain ⟨⟨r1, r2, r3, r4, r5, r6⟩, _⟩ := hA r hr
  have leaf : ∀ e1 e2 : IE, e1.den ρ = (af1 r (.var 500) (.var 501)).den ρ → e2.den ρ = (af2 r (.var 500) (.var 501)).den ρ → ∀ r0, encA b L r0 = .tup [.agg [.int .i64 e1, .int .i64 e2], tag true] → ∃ q, Q q ∧ SameV ρ r0.1 ρ q.1 ∧ SameH (pA L) (pA L) ρ r0.2 ρ q.2 := by
    intro e1 e2 h1 h2 r0 he
    unfold encA tag at he
    simp only [AV.tup.injEq, List.cons.injEq, AV.bool.injEq, BE.lit.injEq, and_true] at he
    obtain ⟨hv, hc⟩ := he
    simp only [Bool.and_eq_true] at hc
    obtain ⟨c1, c2, c3⟩ := hc
    refine ⟨_, k, ?_, beq_t.1 c3, fun j o g => ?_⟩
    · rw [hv]; exact SameV.agg (SameL.cons (SameV.int h1) (SameL.cons (SameV.int h2) SameL.nil))
    · have hm := viewA_get _ _ _ _ g
      rcases List.mem_cons.1 hm with h | hm
      · cases h; exact ⟨_, isO_eq c2, SameA.refl _⟩
      · rcases List.mem_cons.1 hm with h | hm
        · cases h
          obtain ⟨x, hx, hl⟩ := lessO_ok c1
          exact ⟨x, hx, SameA.dull hl rfl⟩
        · cases hm
  have need : ∀ e1 e2 : IE, e1.den ρ = (af1 r (.var 500) (.var 501)).den ρ → e2.den ρ = (af2 r (.var 500) (.var 501)).den ρ → (needE r e1 e2).Holds ρ fun a => ∀ r0, encA b L r0 = a → ∃ q, Q q ∧ SameV ρ r0.1 ρ q.1 ∧ SameH (pA L) (pA L) ρ r0.2 ρ q.2 := by
    intro e1 e2 h1 h2
    unfold needE
    simp only [T.Holds]
    rw [if_pos (BE.t_eql.2 h1), if_pos (BE.t_eql.2 h2)]
    exact leaf e1 e2 h1 h2
  unfold expA
  simp only [T.Holds]
  split
  · exact leaf _ _ rfl rfl
  · split
    · rename_i hc1
      split
      · rename_i hc2
        rw [BE.t_leq, IE.den_mx, IE.den_mn] at hc1
        rw [BE.t_leq, IE.den_mx, IE.den_mx] at hc2
        simp only [IE.den_var] at hc1 hc2
        refine need _ _ ?_ ?_
        · rw [d1, IE.den_mx, IE.den_mx]; simp only [IE.den_var]; rw [aftF_pos hc1 hc2]
        · rw [d2, IE.den_add]; simp only [IE.den_var, IE.den_lit]; rw [aftF_pos hc1 hc2]
          exact wrap_sm (by omega) (by omega)
      · rename_i hc2
        rw [BE.t_leq, IE.den_mx, IE.den_mx] at hc2
        simp only [IE.den_var] at hc2
        refine need _ _ ?_ ?_
        · rw [d1, aftF_neg (fun h => hc2 h.2)]; rfl
        · rw [d2, aftF_neg (fun h => hc2 h.2)]; rfl
    · rename_i hc1
      rw [BE.t_leq, IE.den_mx, IE.den_mn] at hc1
      simp only [IE.den_var] at hc1
      refine need _ _ ?_ ?_
      · rw [d1, aftF_neg (fun h => hc1 h.1)]; rfl
      · rw [d2, aftF_neg (fun h => hc1 h.1)]; rfl
end Go.Sx
/-! VALUES THAT NAME NO NUMBER FROM 500 ON: read alike, whatever those are. -/
namespace Go.Sx
open Go.RowKit
mutual
def plV : AV → Bool
  | .bool b => varsB 500 b
  | .int _ e => varsI 500 e
  | .ptr _ _ => true
  | .nilptr => true
  | .slice _ _ _ _ => true
  | .sliceX _ _ _ _ => true
  | .nilslice => true
  | .map _ => true
  | .nilmap => true
  | .func _ x y => and (plVs x) (plVs y)
  | .yieldF _ => true
  | .nilFunc => true
  | .agg l => plVs l
  | .tup l => plVs l
  | _ => false
def plVs : List AV → Bool
  | [] => true
  | a :: l => and (plV a) (plVs l)
end
/-- numbers alike below 500, and what names mean -/
structure Alike (ρ ρ' : Rho) : Prop where
  iv : ∀ i, i < 500 → ρ'.iv i = ρ.iv i
  bv : ρ'.bv = ρ.bv
  f : ρ'.fi = ρ.fi ∧ ρ'.fb = ρ.fb
theorem Alike.symm {ρ ρ' : Rho} (h : Alike ρ ρ') : Alike ρ' ρ := ⟨fun i hi => (h.iv i hi).symm, h.bv.symm, h.f.1.symm, h.f.2.symm⟩
mutual
theorem SameV.pl {ρ ρ' : Rho} (h : Alike ρ ρ') : ∀ v : AV, plV v = true → SameV ρ v ρ' v
  | .bool b, hp => SameV.bool (varsB_den h.iv h.bv h.f b hp).symm
  | .int k e, hp => SameV.int (varsI_den h.iv h.f e hp).symm
  | .ptr _ _, _ => SameV.ptr _ _
  | .nilptr, _ => fun _ _ _ _ _ _ => rfl
  | .slice _ _ _ _, _ => SameV.slice _ _ _ _
  | .sliceX _ _ _ _, _ => SameV.sliceX _ _ _ _
  | .nilslice, _ => SameV.nilslice
  | .map _, _ => SameV.map _
  | .nilmap, _ => fun _ _ _ _ _ _ => rfl
  | .func fn x y, hp => by
    simp only [plV, Bool.and_eq_true] at hp
    exact SameV.func (SameL.pl h x hp.1) (SameL.pl h y hp.2)
  | .yieldF _, _ => fun _ _ _ _ _ _ => rfl
  | .nilFunc, _ => SameV.nilFunc
  | .agg l, hp => SameV.agg (SameL.pl h l (by simpa [plV] using hp))
  | .tup l, hp => fun σ κ n m rc rc' => by
    have := SameL.pl h l (by simpa [plV] using hp) σ κ n m rc rc'
    simp only [conc, this]
  | .opq _, hp => by simp [plV] at hp
  | .sliceU _, hp => by simp [plV] at hp
  | .sliceV _ _, hp => by simp [plV] at hp
  | .ptrV _ _ _ _ _, hp => by simp [plV] at hp
  | .bad, hp => by simp [plV] at hp
theorem SameL.pl {ρ ρ' : Rho} (h : Alike ρ ρ') : ∀ l : List AV, plVs l = true → SameL ρ l ρ' l
  | [], _ => SameL.nil
  | a :: l, hp => by
    simp only [plVs, Bool.and_eq_true] at hp
    exact SameL.cons (SameV.pl h a hp.1) (SameL.pl h l hp.2)
end
def nbF : List (Bool × Nat) → Bool
  | [] => true
  | q :: l => and (Bool.not q.1) (nbF l)
theorem nbF_mem : ∀ (l : List (Bool × Nat)), nbF l = true → ∀ q ∈ l, q.1 = false
  | [], _, q, hq => by cases hq
  | p :: l, h, q, hq => by
    simp only [nbF, Bool.and_eq_true, Bool.not_eq_true'] at h
    rcases List.mem_cons.1 hq with rfl | hq
    · exact h.1
    · exact nbF_mem l h.2 q hq
def plO : AObj → Bool
  | .cells cs _ _ _ => plVs cs
  | .umap m => and (Bool.not m.live) (nbF m.fi)
  | .loop _ _ _ tm _ _ _ => ptAll plV tm
  | .defd _ => true
  | .dead => true
  | _ => false
theorem SameA.umap {p0 p : Par} {ρ0 ρ : Rho} {m : MU} (hl : m.live = false) (hfi : ρ.fi = ρ0.fi) (hnb : ∀ q ∈ m.fi, q.1 = false) : SameA p0 p ρ0 (.umap m) ρ (.umap m) := by
  refine ⟨fun _ => rfl, fun h => absurd h (by simp [roO]), fun σ κ n rc heap b ⟨c, es, ms, k, k1, k2, k3, k4⟩ => ?_⟩
  have hc : ∀ (a b c : Int) (q : Bool × Nat), q ∈ m.fi → umCellL ρ a b c q = umCellL ρ0 a b c q := fun a b c q hq => by
    unfold umCellL; rw [hnb q hq, hfi]; rfl
  have hv : ∀ a b c, umValL ρ m a b c = umValL ρ0 m a b c := fun a b c => by
    unfold umValL
    rw [List.map_congr_left (hc a b c)]
    cases m.ag with
    | true => rfl
    | false =>
      simp only [cond_false]
      have := hc a b c
      revert this
      cases m.fi with
      | nil => intro _; rfl
      | cons q l => cases l with
        | nil => intro hh; exact hh q List.mem_cons_self
        | cons _ _ => intro _; rfl
  have hU : UOk ρ m es := ⟨fun e he => by
    obtain ⟨a, b, c, z1, z2, z3, z4⟩ := k4.1 e he
    exact ⟨a, b, c, z1, z2, z3, by rw [hv]; exact z4⟩, fun h => by rw [hl] at h; cases h⟩
  refine ⟨c, es, ms, k, k1, ?_, k3, hU⟩
  have lit : ∀ (es : List (AV × AV × Nat)) (ms : List MapEntry), (∀ e ∈ es, ∃ a b c, (m.nk < 2 → b = 0) ∧ (m.nk < 3 → c = 0) ∧ e.1 = keyU m.nk a b c ∧ e.2.1 = umValL ρ m a b c) → concE ⟨ρ0, σ, κ, n, rc⟩ es ms → concE ⟨ρ, σ, κ, n, rc⟩ es ms := by
    intro es
    induction es with
    | nil => intro ms _ h; cases ms with | nil => trivial | cons _ _ => exact h.elim
    | cons e es ih =>
      intro ms hl h
      cases ms with
      | nil => exact h.elim
      | cons m' ms =>
        obtain ⟨q1, q2, q3, q4⟩ := h
        obtain ⟨x, y, z, _, _, e1, e2⟩ := hl e List.mem_cons_self
        have hk : conc ⟨ρ, σ, κ, n, rc⟩ e.1 = conc ⟨ρ0, σ, κ, n, rc⟩ e.1 := by rw [e1]; unfold keyU; split <;> rfl
        have hcc : ∀ q, conc ⟨ρ, σ, κ, n, rc⟩ (umCellL ρ x y z q) = conc ⟨ρ0, σ, κ, n, rc⟩ (umCellL ρ x y z q) := fun q => by unfold umCellL; cases q.1 <;> rfl
        have hcs : ∀ l : List (Bool × Nat), concL ⟨ρ, σ, κ, n, rc⟩ (l.map (umCellL ρ x y z)) = concL ⟨ρ0, σ, κ, n, rc⟩ (l.map (umCellL ρ x y z)) := fun l => by
          induction l with
          | nil => rfl
          | cons q l ih => simp only [List.map_cons, concL, hcc, ih]
        have hvv : conc ⟨ρ, σ, κ, n, rc⟩ e.2.1 = conc ⟨ρ0, σ, κ, n, rc⟩ e.2.1 := by
          rw [e2]; unfold umValL
          cases m.ag with
          | true => simp only [cond_true, conc, hcs]
          | false =>
            simp only [cond_false]
            cases m.fi with
            | nil => rfl
            | cons q l => cases l with
              | nil => exact hcc q
              | cons _ _ => rfl
        exact ⟨hk.trans q1, hvv.trans q2, q3, ih ms (fun e' he' => hl e' (List.mem_cons_of_mem _ he')) q4⟩
  exact lit es ms hU.1 k2
/-- an object that names no number from 500 on -/
theorem SameA.pl {P : Program} {RC : Nat → Nat → List Nat → Code → Code → Prop} {ok ok' : Rho → (Nat → Obj → Prop) → Prop} {ρ ρ' : Rho} (h : Alike ρ ρ') {o : AObj} (hp : plO o = true) : SameA ⟨P, RC, ok⟩ ⟨P, RC, ok'⟩ ρ o ρ' o := by
  cases o with
  | cells cs el own ext => exact SameA.cells rfl (SameL.pl h cs hp)
  | umap m =>
    simp only [plO, Bool.and_eq_true, Bool.not_eq_true'] at hp
    exact SameA.umap hp.1 h.f.1 (nbF_mem _ hp.2)
  | loop st p f tm ps c d =>
    refine ⟨fun h => h, fun h => h, fun σ κ n rc heap b ⟨c', d', nn, keep, r, k1, k2, k3, k4, k5, k6, k7, k8, k9, k10⟩ => ⟨c', d', nn, keep, r, k1, k2, k3, k4, k5, k6, ⟨fun i a e => ?_⟩, k8, k9, k10⟩⟩
    obtain ⟨m1, v, m2, m3⟩ := k7.at_ i a e
    exact ⟨m1, v, by rw [← SameV.pl h a (ptAll_get _ _ _ hp e) σ κ n n rc rc]; exact m2, m3⟩
  | defd t => exact ⟨fun h => h, fun h => h, fun σ κ n rc heap b h => h⟩
  | dead => exact SameA.dead
  | _ => cases hp
end Go.Sx
/-! THE SCENES BEHIND A REEL, whatever is asked; calls of it, taken as said. -/
namespace Go.Sx
open Go.RowKit Go.Proofs
set_option maxRecDepth 100000
theorem CallOk.congr {p : Par} {f : FuncId} {args : List AV} {h h' : Heap} {t : T (AV × Heap)} (hc : CallOk p f args h t) (hget : ∀ j, h'.get j = h.get j) (hn : h'.next = h.next) : CallOk p f args h' t :=
  fun vs E w0 w Q K k HH ha P => hc vs E w0 w Q K k (HH.congr (fun j => (hget j).symm) hn.symm) ha P
theorem rows_same {ρ ρ' : Rho} : ∀ {l : List Nat}, (∀ j ∈ l, ρ.iv j = ρ'.iv j) → SameL ρ (lMap vj l) ρ' (lMap vj l)
  | [], _ => SameL.nil
  | a :: _, h => SameL.cons (SameV.int (h a List.mem_cons_self)) (rows_same fun j hj => h j (List.mem_cons_of_mem _ hj))
theorem upN_lt : ∀ (m k r : Nat), r ∈ upN m k → k ≤ r ∧ r < k + m
  | 0, k, r, h => by cases h
  | m + 1, k, r, h => by
    simp only [upN] at h
    rcases List.mem_cons.1 h with rfl | h
    · omega
    · have := upN_lt m (k + 1) r h; omega
theorem rowsA_same {p0 p : Par} (hP : p0.P = p.P) {L : Nat} (hL : L ≤ 6) {ρ ρ' : Rho} (h : ∀ j, j < 500 → ρ.iv j = ρ'.iv j) : SameA p0 p ρ (rowsA L) ρ' (rowsA L) :=
  SameA.cells hP (rows_same fun j hj => h j (by have := upN_lt _ _ _ hj; omega))
theorem film_same {ρ ρ' : Rho} (h : ∀ j, j < 500 → ρ.iv j = ρ'.iv j) (b L : Nat) : SameV ρ (filmK b L) ρ' (filmK b L) :=
  SameV.agg (SameL.cons (SameV.sliceX _ _ _ _) (SameL.cons (SameV.int (h 0 (by omega))) (SameL.cons (SameV.int (h 1 (by omega))) (SameL.cons (SameV.int (h 2 (by omega))) (SameL.cons (SameV.int (h 3 (by omega))) (SameL.cons (SameV.int (h 4 (by omega))) (SameL.cons (SameV.map _) SameL.nil)))))))
theorem mU_nb : ∀ q ∈ (mU false).fi, q.1 = false := by
  intro q hq
  simp only [mU, List.mem_cons, List.not_mem_nil, or_false] at hq
  rcases hq with rfl | rfl <;> rfl

/-- WHAT 'after' HANDS BACK. -/
theorem after_dull {b L r : Nat} (hb : b = 2001 ∨ b = 2003 ∨ b = 2005) (h0 : 1 ≤ L) (hL : L ≤ 6) (hr : r < L) : CallOk (pA L) 60 [filmK b L, stepE r (.var 500) (.var 501)] (viewA (b + 1) (vA b L false)) (.ret (aftE r (.var 500) (.var 501), viewA (b + 1) (vA b L false))) := by
  have hv := after_var hb h0 hL hr
  let h0' : Heap := viewA (b + 1) [(1001, rowsA L)]
  have hb1 : b ≠ 1001 := by omega
  have get : ∀ (t : Bool) (j : Nat), (h0'.put b (.umap (mU t))).get j = (viewA (b + 1) (vA b L t)).get j := fun t j => by
    simp only [h0', vA, viewA, Heap.get_put]
    by_cases h1 : j = b
    · subst h1; rw [if_pos rfl, if_neg hb1, if_pos rfl]
    · simp only [if_neg h1]
  have hc : CallOk (pA L) 60 [filmK b L, stepE r (.var 500) (.var 501)] (h0'.put b (.umap (mU true))) (.ret (aftE r (.var 500) (.var 501), viewA (b + 1) (vA b L false))) := hv.congr (get true) rfl
  have hd := CallOk.live (p := pA L) (b := b) (m := mU true) (by simp [mU]) (by
      intro q hq
      simp only [mU, List.mem_cons, List.not_mem_nil, or_false] at hq
      rcases hq with rfl | rfl <;> simp [mU]) hc
    (fun ρ B c ⟨m, k1, k2⟩ => ⟨m, k1, k2⟩)
    (fun ρ B => SameL.cons (film_same (fun _ _ => rfl) b L) (SameL.cons (SameV.agg (SameL.cons (SameV.int rfl) (SameL.cons (SameV.int rfl) (SameL.cons (SameV.int rfl) SameL.nil)))) SameL.nil))
    (fun ρ B j o hj hg => by
      have hm := viewA_get _ _ _ _ hg
      rcases List.mem_cons.1 hm with h | hm
      · cases h; exact rowsA_same rfl hL fun _ _ => rfl
      · cases hm)
    (fun ρ B Q k => ⟨_, k, SameV.agg (SameL.cons (SameV.int rfl) (SameL.cons (SameV.int rfl) SameL.nil)), rfl, fun j o g => ⟨o, g, by
      have hm := viewA_get _ _ _ _ g
      rcases List.mem_cons.1 hm with h | hm
      · cases h; exact rowsA_same rfl hL fun _ _ => rfl
      · rcases List.mem_cons.1 hm with h | hm
        · cases h; exact SameA.umap rfl rfl mU_nb
        · cases hm⟩⟩)
  exact hd.congr (fun j => (get false j).symm) rfl

/-- some numbers read otherwise, from 500 on -/
def Rho.over (ρ : Rho) (g : Nat → Int) : Rho := ⟨fun j => if j < 500 then ρ.iv j else g j, ρ.bv, ρ.fi, ρ.fb, ρ.ov⟩
theorem over_lt {ρ : Rho} {g : Nat → Int} {j : Nat} (h : j < 500) : (ρ.over g).iv j = ρ.iv j := if_pos h
theorem over_ge {ρ : Rho} {g : Nat → Int} {j : Nat} (h : ¬ j < 500) : (ρ.over g).iv j = g j := if_neg h
theorem aftF_over {ρ : Rho} {g : Nat → Int} {r : Nat} (h : r < 6) (a b : Int) : aftF (ρ.over g) r a b = aftF ρ r a b := by
  unfold aftF
  rw [over_lt (show 10 + 6 * r < 500 by omega), over_lt (show 11 + 6 * r < 500 by omega), over_lt (show 12 + 6 * r < 500 by omega), over_lt (show 13 + 6 * r < 500 by omega)]
theorem okA_over {L : Nat} (hL : L ≤ 6) {ρ : Rho} (g : Nat → Int) (h : okA L ρ) : okA L (ρ.over g) := fun r hr => by
  obtain ⟨h1, h2⟩ := h r hr
  refine ⟨?_, fun a b => by rw [aftF_over (by omega)]; exact h2 a b⟩
  unfold reelOk
  rw [over_lt (show 10 + 6 * r < 500 by omega), over_lt (show 11 + 6 * r < 500 by omega), over_lt (show 12 + 6 * r < 500 by omega), over_lt (show 13 + 6 * r < 500 by omega)]
  exact h1

theorem after_said {p : Par} (hP : p.P = Tryd.prog) {b L r : Nat} (hb : b = 2001 ∨ b = 2003 ∨ b = 2005) (hok : ∀ ρ m, p.ok ρ m → okA L ρ) (h0 : 1 ≤ L) (hL : L ≤ 6) (hr : r < L) (x1 x2 : IE) : CallOk p 60 [filmK b L, stepE r x1 x2] (viewA (b + 1) (vA b L false)) (.ret (aftE r x1 x2, viewA (b + 1) (vA b L false))) := by
  refine CallOk.read (p0 := pA L) hP.symm (after_dull hb h0 hL hr) fun ρ b9 ⟨m, k1, k2⟩ Q k => ?_
  let g : Nat → Int := fun j => if j = 500 then x1.den ρ else x2.den ρ
  have iv : ∀ j, j < 500 → ρ.iv j = (ρ.over g).iv j := fun j hj => (over_lt hj).symm
  have e1 : (IE.var 500).den (ρ.over g) = x1.den ρ := rfl
  have e2 : (IE.var 501).den (ρ.over g) = x2.den ρ := rfl
  refine ⟨ρ.over g, ⟨m, okA_over hL g (hok ρ m k1), k2⟩, SameL.cons (film_same iv b L) (SameL.cons (SameV.agg (SameL.cons (SameV.int rfl) (SameL.cons (SameV.int e1.symm) (SameL.cons (SameV.int e2.symm) SameL.nil)))) SameL.nil), ⟨rfl, fun j o g => ⟨o, g, ?_⟩⟩, _, k, SameV.agg (SameL.cons (SameV.int rfl) (SameL.cons (SameV.int rfl) SameL.nil)), rfl, fun j o g => ⟨o, g, ?_⟩⟩
  · have hm := viewA_get _ _ _ _ g
    rcases List.mem_cons.1 hm with h | hm
    · cases h; exact rowsA_same hP hL iv
    · rcases List.mem_cons.1 hm with h | hm
      · cases h; exact SameA.umap rfl rfl mU_nb
      · cases hm
  · have hm := viewA_get _ _ _ _ g
    rcases List.mem_cons.1 hm with h | hm
    · cases h; exact rowsA_same hP.symm hL fun j hj => (iv j hj).symm
    · rcases List.mem_cons.1 hm with h | hm
      · cases h; exact SameA.umap rfl rfl mU_nb
      · cases hm

noncomputable def orcA (b L : Nat) (args : List AV) (h : Heap) : Option (T (AV × Heap)) :=
  match args with
  | [fa, .agg [.int k0 (.lit (.ofNat r)), .int k1 x1, .int k2 x2]] => cond (and (and (isI64 k0) (and (isI64 k1) (isI64 k2))) (and (eqAV fa (filmK b L)) (and (Nat.ble (r + 1) L) (and (lessAll h (vA b L false)) (Nat.ble (b + 1) h.next)))))
      (some ((T.ret (aftE r x1 x2, viewA (b + 1) (vA b L false))).bind (graftT (b + 1) (vA b L false) h []))) none
  | _ => none
theorem orcA_ok {p : Par} (hP : p.P = Tryd.prog) {b L : Nat} (hb : b = 2001 ∨ b = 2003 ∨ b = 2005) (hok : ∀ ρ m, p.ok ρ m → okA L ρ) (h0 : 1 ≤ L) (hL : L ≤ 6) {args : List AV} {h : Heap} {t : T (AV × Heap)} (e : orcA b L args h = some t) : CallOk p 60 args h t := by
  unfold orcA at e
  split at e
  · rename_i fa k0 r k1 x1 k2 x2
    obtain ⟨hc, e2⟩ := cond_some e
    clear e
    simp only [Bool.and_eq_true] at hc
    obtain ⟨⟨i0, i1, i2⟩, i3, i4, i5, i6⟩ := hc
    have i0 := isI64_eq i0; have i1 := isI64_eq i1; have i2 := isI64_eq i2
    subst i0; subst i1; subst i2
    have i3 := eqAV_eq _ _ i3; subst i3
    cases e2
    exact (after_said hP hb hok h0 hL (ble_t.1 i4) x1 x2).frame (n := (b + 1)) (by omega) (by rcases hb with rfl | rfl | rfl <;> rfl) (viewA_ok hb L h0 hL false) (lessAll_ok i5) (ble_t.1 i6) (fun _ => [])
  · cases e
end Go.Sx
/-! THE FIRST ORDER, as numbers: sets of reels, names and what they mean. -/
namespace Go.Sx
open Go.RowKit Go.Proofs
set_option maxRecDepth 100000
/-! ## Sets of reels -/
def bt (m i : Nat) : Bool := Nat.beq (Nat.mod (Nat.div m (Nat.pow 2 i)) 2) 1
def cnt (m : Nat) : Nat := (cond (bt m 0) 1 0) + (cond (bt m 1) 1 0) + (cond (bt m 2) 1 0) + (cond (bt m 3) 1 0) + (cond (bt m 4) 1 0) + (cond (bt m 5) 1 0)
def del (m r : Nat) : Nat := m - Nat.pow 2 r
noncomputable def lFilter (p : Nat → Bool) (l : List Nat) : List Nat := @List.rec Nat (fun _ => List Nat) [] (fun a _ ih => cond (p a) (a :: ih) ih) l
noncomputable def rsOf (m : Nat) : List Nat := lFilter (bt m) (upN 6 0)
noncomputable def bitsA (m : Nat) : AV := .agg (lMap (fun i => tag (bt m i)) (upN 6 0))

noncomputable def iA (x : IE) : AV := .int .i64 x
noncomputable def ro (cs : List AV) : AObj := .cells cs 0 false false
noncomputable def vs6 : List IE := lMap IE.var (upN 6 510)
noncomputable def allO (h : Heap) (l : List (Nat × AObj)) : Bool := lAll (fun g : Nat × AObj => isO (h.get g.1) g.2) l
noncomputable def cellsB (cs : List IE) (ext : Bool) : AV := .tup [.tup (lMap iA cs), ln 3, tag true, tag ext]
noncomputable def empE (r : Nat) (x1 x2 : IE) : BE := .and (.cmp .eql (af1 r x1 x2) (.lit (Int.ofNat 0))) (.and (.cmp .eql (af2 r x1 x2) (.lit (Int.ofNat 0))) (.lit true))
noncomputable def noneE (m : Nat) (x1 x2 : IE) : BE := .app (4000 + m) x1 x2 (.lit 0)
noncomputable def ordE (m : Nat) (x1 x2 : IE) (j : Nat) : IE := .app (4100 + 8 * m + j) x1 x2 (.lit 0)
noncomputable def leftE (K m : Nat) (x1 x2 : IE) (j : Nat) (o : IE) : IE := .app (5000 + 600 * K + 8 * m + j) x1 x2 o
noncomputable def mapI (f : Nat → IE → IE) : List IE → Nat → List IE := fun l => @List.rec IE (fun _ => Nat → List IE) (fun _ => []) (fun a _ ih j => f j a :: ih (j + 1)) l
noncomputable def leftL (K m p : Nat) (x1 x2 : IE) (xs : List IE) : List IE := mapI (fun j o => cond (Nat.ble p j) (leftE K m x1 x2 j o) o) xs 0
noncomputable def ordL (m : Nat) (x1 x2 : IE) : List IE := lMap (ordE m x1 x2) (upN (cnt m) 0)
noncomputable def updL (K m' p r : Nat) (y1 y2 : IE) (cs : List IE) : List IE := mapI (fun j o => cond (Nat.ble (p + 1) j) (leftE K m' y1 y2 j o) (cond (Nat.beq j p) (.lit (Int.ofNat r)) o)) cs 0
noncomputable def nextL (p r m' : Nat) (y1 y2 : IE) (cs : List IE) : List IE := lApp (lTake cs p) (.lit (Int.ofNat r) :: ordL m' y1 y2)
noncomputable def tSr (K : Nat) (fd : List IE → T AV) (m p : Nat) (x1 x2 : IE) (l : List Nat) : List IE → T AV :=
  @List.rec Nat (fun _ => List IE → T AV) (fun cs => .ret (.tup [tag true, tag true, cellsB cs false]))
    (fun r _ ih cs => .br (empE r x1 x2) (ih cs) (cond (Nat.beq (del m r) 0) (fd (nextL p r (del m r) (af1 r x1 x2) (af2 r x1 x2) cs))
      (.br (noneE (del m r) (af1 r x1 x2) (af2 r x1 x2)) (ih (updL K (del m r) p r (af1 r x1 x2) (af2 r x1 x2) cs)) (fd (nextL p r (del m r) (af1 r x1 x2) (af2 r x1 x2) cs))))) l
/-! ## Numbers -/
noncomputable def noneF (ρ : Rho) : Nat → Nat → Int → Int → Bool
  | 0, _, _, _ => false
  | k + 1, m, a, b => (rsOf m).all fun r => decide (aftF ρ r a b = (0, 0)) || noneF ρ k (del m r) (aftF ρ r a b).1 (aftF ρ r a b).2
noncomputable def ordF (ρ : Rho) : Nat → Nat → Int → Int → List Int
  | 0, _, _, _ => []
  | k + 1, m, a, b => match (rsOf m).find? fun r => !(decide (aftF ρ r a b = (0, 0)) || noneF ρ k (del m r) (aftF ρ r a b).1 (aftF ρ r a b).2) with
    | some r => (r : Int) :: ordF ρ k (del m r) (aftF ρ r a b).1 (aftF ρ r a b).2
    | none => []
noncomputable def leftF (ρ : Rho) : Nat → Nat → Nat → Nat → Int → Int → Int → Int
  | 0, _, _, _, _, _, o => o
  | k + 1, p, m, j, a, b, o => (rsOf m).foldl (fun o r => if aftF ρ r a b = (0, 0) then o else if j < p then o else if j = p then (r : Int) else leftF ρ k (p + 1) (del m r) j (aftF ρ r a b).1 (aftF ρ r a b).2 o) o
/-- what the names mean -/
def okT (L : Nat) (ρ : Rho) : Prop := okA L ρ ∧ ∀ m, m < 2 ^ L →
  (∀ a b, ρ.fb (4000 + m) a b 0 = noneF ρ (cnt m) m a b) ∧ (∀ j a b, j < 8 → ρ.fi (4100 + 8 * m + j) a b 0 = (ordF ρ (cnt m) m a b).getD j 0) ∧
  ∀ K j a b o, K ≤ 6 → j < 8 → ρ.fi (5000 + 600 * K + 8 * m + j) a b o = leftF ρ (cnt m) (K - cnt m) m j a b o

/-! ## Lists of numbers -/
def mapZ (f : Nat → Int → Int) : List Int → Nat → List Int
  | [], _ => []
  | a :: l, j => f j a :: mapZ f l (j + 1)
def dens (ρ : Rho) (l : List IE) : List Int := l.map (IE.den ρ)
theorem mapZ_comp (f g : Nat → Int → Int) : ∀ (l : List Int) (j : Nat), mapZ f (mapZ g l j) j = mapZ (fun j o => f j (g j o)) l j
  | [], _ => rfl
  | a :: l, j => by simp only [mapZ, mapZ_comp f g l]
theorem mapZ_id : ∀ (l : List Int) (j : Nat), mapZ (fun _ o => o) l j = l
  | [], _ => rfl
  | a :: l, j => by simp only [mapZ, mapZ_id l]
theorem mapZ_congr {f g : Nat → Int → Int} : ∀ (l : List Int) (j : Nat), (∀ i o, j ≤ i → i < j + l.length → f i o = g i o) → mapZ f l j = mapZ g l j
  | [], _, _ => rfl
  | a :: l, j, h => by
    simp only [mapZ, List.length_cons] at h ⊢
    rw [h j a (Nat.le_refl _) (by omega), mapZ_congr l (j + 1) fun i o h1 h2 => h i o (by omega) (by omega)]
theorem mapI_cons (f : Nat → IE → IE) (a : IE) (l : List IE) (j : Nat) : mapI f (a :: l) j = f j a :: mapI f l (j + 1) := rfl
theorem dens_mapI {ρ : Rho} {f : Nat → IE → IE} {g : Nat → Int → Int} : ∀ (l : List IE) (j : Nat), (∀ i o, j ≤ i → i < j + l.length → (f i o).den ρ = g i (o.den ρ)) → dens ρ (mapI f l j) = mapZ g (dens ρ l) j
  | [], _, _ => rfl
  | a :: l, j, h => by
    rw [mapI_cons]
    simp only [dens, List.map_cons, mapZ, List.length_cons] at h ⊢
    rw [h j a (Nat.le_refl _) (by omega)]
    have := dens_mapI (ρ := ρ) (f := f) (g := g) l (j + 1) fun i o h1 h2 => h i o (by omega) (by omega)
    simp only [dens] at this
    rw [this]
theorem mapI_len (f : Nat → IE → IE) : ∀ (l : List IE) (j : Nat), (mapI f l j).length = l.length
  | [], _ => rfl
  | a :: l, j => by rw [mapI_cons, List.length_cons, List.length_cons, mapI_len f l]
theorem same_ints {ρ ρ' : Rho} : ∀ {l l' : List IE}, l.map (IE.den ρ) = l'.map (IE.den ρ') → SameL ρ (lMap iA l) ρ' (lMap iA l')
  | [], [], _ => SameL.nil
  | [], _ :: _, h => by simp at h
  | _ :: _, [], h => by simp at h
  | a :: l, b :: l', h => by
    simp only [List.map_cons, List.cons.injEq] at h
    have e1 : lMap iA (a :: l) = iA a :: lMap iA l := rfl
    have e2 : lMap iA (b :: l') = iA b :: lMap iA l' := rfl
    rw [e1, e2]
    exact SameL.cons (SameV.int h.1) (same_ints h.2)
theorem foldl_mapZ (s : Nat → Int → Nat → Int) : ∀ (l : List Nat) (ds : List Int), l.foldl (fun ds r => mapZ (fun j o => s j o r) ds 0) ds = mapZ (fun j o => l.foldl (s j) o) ds 0
  | [], ds => by simp only [List.foldl_nil]; exact (mapZ_id ds 0).symm
  | r :: l, ds => by
    simp only [List.foldl_cons]
    rw [foldl_mapZ s l, mapZ_comp]

/-! ## The tree of a search -/
theorem lFilter_mem {p : Nat → Bool} : ∀ {l : List Nat} {a : Nat}, a ∈ lFilter p l → a ∈ l ∧ p a = true
  | [], a, h => by cases h
  | x :: l, a, h => by
    have e : lFilter p (x :: l) = cond (p x) (x :: lFilter p l) (lFilter p l) := rfl
    rw [e] at h
    cases hp : p x with
    | true =>
      rw [hp, cond_true] at h
      rcases List.mem_cons.1 h with rfl | h
      · exact ⟨List.mem_cons_self, hp⟩
      · have := lFilter_mem h; exact ⟨List.mem_cons_of_mem _ this.1, this.2⟩
    | false =>
      rw [hp, cond_false] at h
      have := lFilter_mem h; exact ⟨List.mem_cons_of_mem _ this.1, this.2⟩
noncomputable def skipF (ρ : Rho) (k m : Nat) (a b : Int) (r : Nat) : Bool := decide (aftF ρ r a b = (0, 0)) || noneF ρ k (del m r) (aftF ρ r a b).1 (aftF ρ r a b).2
noncomputable def stepF (ρ : Rho) (k p m : Nat) (a b : Int) (j : Nat) (o : Int) (r : Nat) : Int :=
  if aftF ρ r a b = (0, 0) then o else if j < p then o else if j = p then (r : Int) else leftF ρ k (p + 1) (del m r) j (aftF ρ r a b).1 (aftF ρ r a b).2 o

theorem emp_den {L : Nat} {ρ : Rho} (h : okA L ρ) {r : Nat} (hr : r < L) (x1 x2 : IE) : (empE r x1 x2).den ρ = true ↔ aftF ρ r (x1.den ρ) (x2.den ρ) = (0, 0) := by
  obtain ⟨d1, d2⟩ := af_den h hr x1 x2
  unfold empE
  rw [BE.t_and, BE.t_and, BE.t_eql, BE.t_eql, d1, d2, Prod.ext_iff]
  simp [IE.den, BE.den]
theorem none_den {L : Nat} {ρ : Rho} (h : okT L ρ) {m : Nat} (hm : m < 2 ^ L) (x1 x2 : IE) : (noneE m x1 x2).den ρ = noneF ρ (cnt m) m (x1.den ρ) (x2.den ρ) := by
  rw [← (h.2 m hm).1]
  unfold noneE
  simp only [BE.den, FB, IE.den]
  rw [if_pos (by omega)]
theorem left_den {L K : Nat} {ρ : Rho} (h : okT L ρ) {m : Nat} (hm : m < 2 ^ L) (hK : K ≤ 6) (x1 x2 : IE) {j : Nat} (hj : j < 8) (o : IE) : (leftE K m x1 x2 j o).den ρ = leftF ρ (cnt m) (K - cnt m) m j (x1.den ρ) (x2.den ρ) (o.den ρ) := by
  rw [← (h.2 m hm).2.2 K j _ _ _ hK hj]
  unfold leftE
  simp only [FI, IE.den]
  rw [if_pos (by omega)]
theorem ord_den {L : Nat} {ρ : Rho} (h : okT L ρ) {m : Nat} (hm : m < 2 ^ L) (x1 x2 : IE) {j : Nat} (hj : j < 8) : (ordE m x1 x2 j).den ρ = (ordF ρ (cnt m) m (x1.den ρ) (x2.den ρ)).getD j 0 := by
  rw [← (h.2 m hm).2.1 j _ _ hj]
  unfold ordE
  simp only [FI, IE.den]
  rw [if_pos (by omega)]

theorem tT_nil (K : Nat) (fd : List IE → T AV) (m p : Nat) (x1 x2 : IE) (cs : List IE) : tSr K fd m p x1 x2 [] cs = .ret (.tup [tag true, tag true, cellsB cs false]) := rfl
theorem tT_cons (K : Nat) (fd : List IE → T AV) (m p r : Nat) (x1 x2 : IE) (l : List Nat) (cs : List IE) : tSr K fd m p x1 x2 (r :: l) cs = .br (empE r x1 x2) (tSr K fd m p x1 x2 l cs) (cond (Nat.beq (del m r) 0) (fd (nextL p r (del m r) (af1 r x1 x2) (af2 r x1 x2) cs))
      (.br (noneE (del m r) (af1 r x1 x2) (af2 r x1 x2)) (tSr K fd m p x1 x2 l (updL K (del m r) p r (af1 r x1 x2) (af2 r x1 x2) cs)) (fd (nextL p r (del m r) (af1 r x1 x2) (af2 r x1 x2) cs)))) := rfl

theorem tT_holds {fd : List IE → T AV} {L K : Nat} {ρ : Rho} (h : okT L ρ) {m k p : Nat} {x1 x2 : IE} (hp : K - (k + 1) = p) (hkL : k + 1 ≤ K) (hK : K ≤ 6) {R : AV → Prop} : ∀ (l : List Nat) (cs : List IE), (∀ r ∈ l, r < L ∧ del m r < 2 ^ L ∧ cnt (del m r) = k ∧ (del m r = 0 → k = 0)) → cs.length = 6 →
    ((∀ r ∈ l, skipF ρ k m (x1.den ρ) (x2.den ρ) r = true) → ∀ cs' : List IE, cs'.length = 6 → dens ρ cs' = mapZ (fun j o => l.foldl (stepF ρ k p m (x1.den ρ) (x2.den ρ) j) o) (dens ρ cs) 0 → R (.tup [tag true, tag true, cellsB cs' false])) →
    (∀ r, l.find? (fun r => !skipF ρ k m (x1.den ρ) (x2.den ρ) r) = some r → ∀ cs' : List IE, cs'.length = 6 → (dens ρ cs').take p = (dens ρ cs).take p → (fd (nextL p r (del m r) (af1 r x1 x2) (af2 r x1 x2) cs')).Holds ρ R) → (tSr K fd m p x1 x2 l cs).Holds ρ R
  | [], cs, _, hc, hn, hf => by
    rw [tT_nil]
    exact hn (fun r hr => by cases hr) cs hc (by simp only [List.foldl_nil]; exact (mapZ_id _ 0).symm)
  | r :: l, cs, hl, hc, hn, hf => by
    obtain ⟨hr, hd, hk, h0⟩ := hl r List.mem_cons_self
    have hl' : ∀ r ∈ l, r < L ∧ del m r < 2 ^ L ∧ cnt (del m r) = k ∧ (del m r = 0 → k = 0) := fun r hr => hl r (List.mem_cons_of_mem _ hr)
    obtain ⟨d1, d2⟩ := af_den h.1 hr x1 x2
    rw [tT_cons]
    simp only [T.Holds]
    split
    · rename_i he
      have he := (emp_den h.1 hr x1 x2).1 he
      have hs : skipF ρ k m (x1.den ρ) (x2.den ρ) r = true := by unfold skipF; rw [he]; rfl
      refine tT_holds h hp hkL hK l cs hl' hc (fun ha cs' hc' hd' => hn (fun r' hr' => ?_) cs' hc' ?_) fun r' hr' cs' hc' ht => hf r' ?_ cs' hc' ht
      · rcases List.mem_cons.1 hr' with rfl | hr'
        · exact hs
        · exact ha r' hr'
      · rw [hd']
        refine mapZ_congr _ _ fun j o _ _ => ?_
        have : stepF ρ k p m (x1.den ρ) (x2.den ρ) j o r = o := by unfold stepF; rw [if_pos he]
        simp only [List.foldl_cons, this]
      · simp only [List.find?_cons, hs, Bool.not_true]; exact hr'
    · rename_i he
      have he : ¬ aftF ρ r (x1.den ρ) (x2.den ρ) = (0, 0) := fun h' => he ((emp_den h.1 hr x1 x2).2 h')
      have hs : skipF ρ k m (x1.den ρ) (x2.den ρ) r = noneF ρ k (del m r) (aftF ρ r (x1.den ρ) (x2.den ρ)).1 (aftF ρ r (x1.den ρ) (x2.den ρ)).2 := by unfold skipF; rw [decide_eq_false he, Bool.false_or]
      have found : skipF ρ k m (x1.den ρ) (x2.den ρ) r = false → (fd (nextL p r (del m r) (af1 r x1 x2) (af2 r x1 x2) cs)).Holds ρ R := fun hf' =>
        hf r (by simp only [List.find?_cons, hf', Bool.not_false]) cs hc rfl
      cases hz : Nat.beq (del m r) 0 with
      | true =>
        rw [cond_true]
        refine found ?_
        have := h0 (beq_t.1 hz)
        subst this
        rw [hs]; rfl
      | false =>
        rw [cond_false]
        simp only [T.Holds]
        have hnd := none_den h hd (af1 r x1 x2) (af2 r x1 x2)
        rw [hk, d1, d2, ← hs] at hnd
        split
        · rename_i hne
          rw [hnd] at hne
          have hu : dens ρ (updL K (del m r) p r (af1 r x1 x2) (af2 r x1 x2) cs) = mapZ (fun j o => stepF ρ k p m (x1.den ρ) (x2.den ρ) j o r) (dens ρ cs) 0 := by
            unfold updL
            refine dens_mapI cs 0 fun j o _ hj => ?_
            rw [hc] at hj
            unfold stepF
            rw [if_neg he]
            by_cases h1 : p + 1 ≤ j
            · rw [ble_t.2 h1, cond_true, if_neg (by omega), if_neg (by omega), left_den h hd hK _ _ (by omega), hk, d1, d2]
              have : K - k = p + 1 := by omega
              rw [this]
            · have : Nat.ble (p + 1) j = false := by
                cases hb : Nat.ble (p + 1) j with
                | false => rfl
                | true => exact absurd (ble_t.1 hb) h1
              rw [this, cond_false]
              by_cases h2 : j = p
              · rw [beq_t.2 h2, cond_true, if_neg (by omega), if_pos h2]; rfl
              · rw [beq_f.2 h2, cond_false, if_pos (by omega)]
          have hul : (updL K (del m r) p r (af1 r x1 x2) (af2 r x1 x2) cs).length = 6 := by unfold updL; rw [mapI_len]; exact hc
          refine tT_holds h hp hkL hK l _ hl' hul (fun ha cs' hc' hd' => hn (fun r' hr' => ?_) cs' hc' ?_) fun r' hr' cs' hc' ht => hf r' ?_ cs' hc' ?_
          · rcases List.mem_cons.1 hr' with rfl | hr'
            · exact hne
            · exact ha r' hr'
          · rw [hd', hu, mapZ_comp]
            rfl
          · simp only [List.find?_cons, hne, Bool.not_true]; exact hr'
          · rw [ht, hu]
            have key : ∀ (ds : List Int) (i q : Nat), i + q = p → (mapZ (fun j o => stepF ρ k p m (x1.den ρ) (x2.den ρ) j o r) ds i).take q = ds.take q := by
              intro ds
              induction ds with
              | nil => intro i q _; rfl
              | cons d ds ih =>
                intro i q hq
                cases q with
                | zero => simp
                | succ q =>
                  simp only [mapZ, List.take_succ_cons]
                  rw [ih (i + 1) q (by omega)]
                  have : stepF ρ k p m (x1.den ρ) (x2.den ρ) i d r = d := by unfold stepF; rw [if_neg he, if_pos (by omega)]
                  rw [this]
            exact key _ 0 p (by omega)
        · rename_i hne
          refine found ?_
          rw [hnd] at hne
          simpa using hne
end Go.Sx
/-! THE SEARCH FOR AN ORDER, by whoever looks for one: what a call of it sees, and what it leaves. -/
namespace Go.Sx
open Go.RowKit Go.Proofs
set_option maxRecDepth 100000
/-- who looks for an order: where its map of what is known lies, its order, the end of its heap; what is handed on; its other blocks; what an order leaves, and the block of a new list -/
structure Cons where
  b : Nat
  arr : Nat
  n : Nat
  ptrs : List AV
  pre : Nat → List (Nat × AObj)
  suf : Nat → List (Nat × AObj)
  fnd : Option (Nat → List (Nat × AObj))
  new : Option Nat
  fn : Nat
  size : Nat → Nat
  dom : Nat → Nat → Bool
  rw : AV × Heap → List Nat
noncomputable def vT (C : Cons) (L : Nat) (xs : List IE) : List (Nat × AObj) := C.pre L ++ (C.arr, .cells (lMap iA xs) 3 true false) :: C.suf L
noncomputable def newB (C : Cons) (cs : List IE) : List (Nat × AObj) :=
  match C.new with
  | some j => [(j, .cells (lMap iA cs) 3 true true)]
  | none => []
noncomputable def argsT (C : Cons) (L m : Nat) (x1 x2 : IE) : List AV := ln (C.size L - cnt m) :: bitsA m :: .agg [iA x1, iA x2] :: C.ptrs
noncomputable def noneLf (C : Cons) (L m : Nat) (x1 x2 : IE) (xs : List IE) : AV × Heap := (tag true, viewA C.n (vT C L (leftL (C.size L) m (C.size L - cnt m) x1 x2 xs)))
noncomputable def foundT (C : Cons) (L : Nat) (cs : List IE) : T (AV × Heap) :=
  match C.fnd with
  | none => .fail 9
  | some f => .ret (tag false, viewA C.fn (f L ++ newB C cs))
noncomputable def saidT (C : Cons) (L m : Nat) (x1 x2 : IE) (xs : List IE) : T (AV × Heap) :=
  cond (Nat.beq m 0) (foundT C L (lApp (lTake xs (C.size L - cnt m)) (ordL m x1 x2))) (.br (noneE m x1 x2) (.ret (noneLf C L m x1 x2 xs)) (foundT C L (lApp (lTake xs (C.size L - cnt m)) (ordL m x1 x2))))

/-! ## Calls, taken as said -/
noncomputable def intsI : List AV → Option (List IE)
  | [] => some []
  | a :: l => (match a with
    | .int k x => cond (isI64 k) (match intsI l with
      | some xs => some (x :: xs)
      | none => none) none
    | _ => none)
noncomputable def cellsI (o : Option AObj) : Option (List IE) :=
  match o with
  | some (.cells cs _ _ _) => intsI cs
  | _ => none
noncomputable def maskA : List AV → Nat → Option Nat
  | [], _ => some 0
  | a :: l, w => (match a with
    | .bool (.lit b) => (match maskA l (2 * w) with
      | some m => some (cond b (w + m) m)
      | none => none)
    | _ => none)
noncomputable def newN (C : Cons) : List Nat :=
  match C.new with
  | some j => [j]
  | none => []
noncomputable def nwT (C : Cons) (r : AV × Heap) : List Nat :=
  match r.1 with
  | .bool (.lit true) => []
  | _ => newN C
noncomputable def orcTs (C : Cons) (L k : Nat) (args : List AV) (h : Heap) : Option (T (AV × Heap)) :=
  match args with
  | (_ :: .agg bs :: .agg [.int _ x1, .int _ x2] :: _) => (match maskA bs 1, cellsI (h.get C.arr) with
    | some m, some xs => cond (and (and (eqAVs args (argsT C L m x1 x2)) (and (C.dom L m) (Nat.ble (cnt m + 1) k))) (and (and (Nat.beq (lLen xs) 6) (lessAll h (vT C L xs))) (Nat.ble C.n h.next)))
        (some ((saidT C L m x1 x2 xs).bind fun r => graftT C.n (vT C L xs) h (nwT C r) r)) none
    | _, _ => none)
  | _ => none
noncomputable def orcL (C : Cons) (L k : Nat) (f : FuncId) (args : List AV) (h : Heap) : Option (T (AV × Heap)) := cond (Nat.beq f 60) (orcA C.b L args h) (cond (Nat.beq f 76) (orcTs C L k args h) none)
noncomputable def tbTs (C : Cons) (L k : Nat) : Tabs := ⟨Sx.Tryd.ft.get, lFind Sx.Tryd.rt, 2000, orcL C L k⟩

/-! ## The run -/
noncomputable def runT (C : Cons) (L m : Nat) : T (AV × Heap) := (evalN (tbTs C L (cnt m)) 100 false 76 (argsT C L m (.var 500) (.var 501)) (viewA C.n (vT C L vs6))).bind fun r => graftT C.n (vT C L vs6) (viewA C.n (vT C L vs6)) (C.rw r) r
noncomputable def newA (C : Cons) (h : Heap) : AV :=
  match C.new with
  | some j => blkA (h.get j)
  | none => tag true
noncomputable def encT (C : Cons) (L : Nat) (q : AV × Heap) : AV :=
  match q.1 with
  | .bool (.lit true) => .tup [tag true, tag (and (allO q.2 (C.pre L)) (and (allO q.2 (C.suf L)) (Nat.beq q.2.next C.n))), blkA (q.2.get C.arr)]
  | v => .tup [v, tag (and (match C.fnd with | some f => allO q.2 (f L) | none => false) (Nat.beq q.2.next C.fn)), newA C q.2]
noncomputable def fdT (C : Cons) (cs : List IE) : T AV :=
  match C.fnd with
  | none => .fail 9
  | some _ => .ret (.tup [tag false, tag true, match C.new with | some _ => cellsB cs true | none => tag true])
noncomputable def expT (C : Cons) (L m : Nat) : T AV :=
  cond (Nat.beq m 0) (fdT C (lTake vs6 (C.size L))) (tSr (C.size L) (fdT C) m (C.size L - cnt m) (.var 500) (.var 501) (rsOf m) vs6)
noncomputable def ckT (C : Cons) (L m : Nat) : Bool := eqTF ((runT C L m).bind fun q => .ret (encT C L q)) (expT C L m)

/-! ## Films of one to six reels -/
theorem lAll_at {p : Nat → Bool} {n k r : Nat} (h : lAll p (upN n k) = true) (h1 : k ≤ r) (h2 : r < k + n) : p r = true := lAll_mem h r (mem_upN n k r h1 h2)
noncomputable def factM (m : Nat) : Bool := and (lAll (fun r => and (Nat.beq (cnt (del m r) + 1) (cnt m)) (and (Nat.ble (Nat.pow 2 r) m) (and (Nat.ble (del m r) m) (cond (Nat.beq (del m r) 0) (Nat.beq (cnt m) 1) true)))) (rsOf m)) (cond (Nat.beq m 0) (Nat.beq (cnt m) 0) (Nat.ble 1 (cnt m)))
theorem factM_all : lAll factM (upN 64 0) = true := by kernel_rfl
noncomputable def factC (L : Nat) : Bool := lAll (fun m => Nat.ble (cnt m) L) (upN (Nat.pow 2 L) 0)
theorem factC_all : lAll factC (upN 6 1) = true := by kernel_rfl
theorem cnt_le {L m : Nat} (h0 : 1 ≤ L) (hL : L ≤ 6) (hm : m < 2 ^ L) : cnt m ≤ L := by
  have h : factC L = true := lAll_at factC_all h0 (by omega)
  have h : lAll (fun m => Nat.ble (cnt m) L) (upN (Nat.pow 2 L) 0) = true := h
  exact ble_t.1 (lAll_at (p := fun m => Nat.ble (cnt m) L) h (Nat.zero_le _) (by rw [Nat.zero_add]; exact hm))
theorem lt64 {L m : Nat} (hL : L ≤ 6) (hm : m < 2 ^ L) : m < 64 := Nat.lt_of_lt_of_le hm (Nat.pow_le_pow_right (by omega) hL)
theorem facts_of {L m : Nat} (hL : L ≤ 6) (hm : m < 2 ^ L) : (∀ r ∈ rsOf m, r < L ∧ del m r < 2 ^ L ∧ cnt (del m r) + 1 = cnt m ∧ (del m r = 0 → cnt m = 1)) ∧ (m = 0 → cnt m = 0) ∧ (m ≠ 0 → 1 ≤ cnt m) := by
  have h := lAll_at factM_all (Nat.zero_le m) (by have := lt64 hL hm; omega)
  unfold factM at h
  simp only [Bool.and_eq_true] at h
  obtain ⟨h1, h2⟩ := h
  refine ⟨fun r hr => ?_, fun h0 => ?_, fun h0 => ?_⟩
  · have := lAll_mem h1 r hr
    simp only [Bool.and_eq_true] at this
    obtain ⟨q1, q2, q3, q4⟩ := this
    have q2 := ble_t.1 q2
    refine ⟨?_, Nat.lt_of_le_of_lt (ble_t.1 q3) hm, beq_t.1 q1, fun hz => ?_⟩
    · have : 2 ^ r < 2 ^ L := Nat.lt_of_le_of_lt q2 hm
      exact (Nat.pow_lt_pow_iff_right (by omega)).1 this
    · rw [beq_t.2 hz, cond_true] at q4; exact beq_t.1 q4
  · rw [beq_t.2 h0, cond_true] at h2; exact beq_t.1 h2
  · rw [beq_f.2 h0, cond_false] at h2; exact ble_t.1 h2
theorem idsI (n : Nat) : ∀ xs : List IE, idsLts n (lMap iA xs) = true
  | [] => rfl
  | x :: xs => by
    have e : lMap iA (x :: xs) = iA x :: lMap iA xs := rfl
    rw [e]; simp only [idsLts, idsI n xs, iA, idsLt, Bool.and_self]

/-- what must be so of one who looks for an order -/
structure ConsOk (C : Cons) : Prop where
  b : C.b = 2001 ∨ C.b = 2003 ∨ C.b = 2005
  ck : ∀ L m, 1 ≤ L → L ≤ 6 → C.dom L m = true → (C.fnd = none → m ≠ 0) → ckT C L m = true
  lt : ∀ L m, C.dom L m = true → m < 2 ^ L
  sub : ∀ L m r, C.dom L m = true → r ∈ rsOf m → C.dom L (del m r) = true
  le : ∀ L m, C.dom L m = true → cnt m ≤ C.size L
  six : ∀ L, L ≤ 6 → C.size L ≤ 6
  big : 1000 ≤ C.n
  ids : idsLts C.n C.ptrs = true
  ptrs : plVs C.ptrs = true
  arr : C.arr < C.n
  up : ∀ L xs, 1 ≤ L → L ≤ 6 → upA 0 (vT C L xs) = true
  pre : ∀ L, 1 ≤ L → L ≤ 6 → lAll (fun g : Nat × AObj => and (plO g.2) (and (Nat.ble (g.1 + 1) C.n) (idsO C.n g.2))) (C.pre L) = true
  suf : ∀ L, 1 ≤ L → L ≤ 6 → lAll (fun g : Nat × AObj => and (plO g.2) (and (Nat.ble (g.1 + 1) C.n) (idsO C.n g.2))) (C.suf L) = true
  fup : ∀ f, C.fnd = some f → ∀ L cs, 1 ≤ L → L ≤ 6 → upA 0 (f L ++ newB C cs) = true
  fpl : ∀ f, C.fnd = some f → ∀ L, 1 ≤ L → L ≤ 6 → lAll (fun g : Nat × AObj => plO g.2) (f L) = true
theorem lAll_app {α : Type} {p : α → Bool} : ∀ {l m : List α}, lAll p l = true → lAll p m = true → lAll p (l ++ m) = true
  | [], _, _, h => h
  | a :: l, m, h, k => by
    have e : lAll p (a :: l) = cond (p a) (lAll p l) false := rfl
    rw [e] at h
    cases hp : p a with
    | false => rw [hp] at h; cases h
    | true => rw [hp] at h; exact lAll_cons hp (lAll_app h k)
theorem lAll_imp {α : Type} {p q : α → Bool} (h : ∀ a, p a = true → q a = true) : ∀ {l : List α}, lAll p l = true → lAll q l = true
  | [], _ => rfl
  | a :: l, k => by
    have e : lAll p (a :: l) = cond (p a) (lAll p l) false := rfl
    rw [e] at k
    cases hp : p a with
    | false => rw [hp] at k; cases k
    | true => rw [hp] at k; exact lAll_cons (h a hp) (lAll_imp h k)
theorem allO_get {h : Heap} {l : List (Nat × AObj)} (e : allO h l = true) {b : Nat} {o : AObj} (hm : (b, o) ∈ l) : h.get b = some o := isO_eq (lAll_mem e (b, o) hm)
section
variable {C : Cons} (O : ConsOk C)
include O
theorem ConsOk.view {L : Nat} (h0 : 1 ≤ L) (hL : L ≤ 6) (xs : List IE) : viewOk C.n (vT C L xs) = true := by
  unfold viewOk
  rw [Bool.and_eq_true]
  refine ⟨O.up L xs h0 hL, ?_⟩
  unfold vT
  have imp : ∀ g : Nat × AObj, and (plO g.2) (and (Nat.ble (g.1 + 1) C.n) (idsO C.n g.2)) = true → and (Nat.ble (g.1 + 1) C.n) (idsO C.n g.2) = true := fun g h => by
    rw [Bool.and_eq_true] at h; exact h.2
  refine lAll_app (lAll_imp imp (O.pre L h0 hL)) (lAll_cons ?_ (lAll_imp imp (O.suf L h0 hL)))
  rw [Bool.and_eq_true]
  exact ⟨ble_t.2 O.arr, idsI C.n xs⟩
theorem ConsOk.args (L m : Nat) (x1 x2 : IE) : idsLts C.n (argsT C L m x1 x2) = true := by
  unfold argsT
  have e1 : idsLt C.n (ln (C.size L - cnt m)) = true := rfl
  have e2 : idsLt C.n (bitsA m) = true := rfl
  have e3 : idsLt C.n (.agg [iA x1, iA x2]) = true := rfl
  simp only [idsLts, e1, e2, e3, O.ids, Bool.and_self]
end
end Go.Sx
/-! THE SEARCH FOR AN ORDER, by whoever looks for one: what is said of it follows from its run. -/
namespace Go.Sx
open Go.RowKit Go.Proofs
set_option maxRecDepth 100000
noncomputable def pTs (L : Nat) : Par := ⟨Tryd.prog, rcOf Tryd.rows, fun ρ _ => okT L ρ⟩
theorem foldl_id {α β : Type} {f : α → β → α} : ∀ (l : List β) (a : α), (∀ a b, f a b = a) → l.foldl f a = a
  | [], _, _ => rfl
  | b :: l, a, h => by rw [List.foldl_cons, h]; exact foldl_id l a h
theorem upN_map {f : Nat → Int} : ∀ (k i : Nat), (upN k (i + 1)).map f = (upN k i).map fun j => f (j + 1)
  | 0, _ => rfl
  | k + 1, i => by simp only [upN, List.map_cons, upN_map k (i + 1)]
theorem dens_ordL {L : Nat} {ρ : Rho} (h : okT L ρ) {m : Nat} (hm : m < 2 ^ L) (hc : cnt m ≤ 6) (x1 x2 : IE) : dens ρ (ordL m x1 x2) = (upN (cnt m) 0).map fun j => (ordF ρ (cnt m) m (x1.den ρ) (x2.den ρ)).getD j 0 := by
  unfold dens ordL
  rw [lMap_eq, List.map_map]
  refine List.map_congr_left fun j hj => ?_
  have := upN_lt _ _ _ hj
  exact ord_den h hm x1 x2 (by omega)
theorem dens_app {ρ : Rho} (l m : List IE) : dens ρ (lApp l m) = dens ρ l ++ dens ρ m := by rw [lApp_eq]; exact List.map_append
theorem dens_take {ρ : Rho} (l : List IE) (n : Nat) : dens ρ (lTake l n) = (dens ρ l).take n := by rw [lTake_eq]; exact List.map_take
theorem vT_mem {C : Cons} {L : Nat} {xs : List IE} {b : Nat} {o : AObj} (h : (b, o) ∈ vT C L xs) : (b, o) ∈ C.pre L ∨ (b = C.arr ∧ o = .cells (lMap iA xs) 3 true false) ∨ (b, o) ∈ C.suf L := by
  unfold vT at h
  rcases List.mem_append.1 h with h | h
  · exact .inl h
  · rcases List.mem_cons.1 h with h | h
    · cases h; exact .inr (.inl ⟨rfl, rfl⟩)
    · exact .inr (.inr h)
theorem vT_pre {C : Cons} {L : Nat} {xs : List IE} {b : Nat} {o : AObj} (h : (b, o) ∈ C.pre L) : (b, o) ∈ vT C L xs := List.mem_append_left _ h
theorem vT_arr {C : Cons} {L : Nat} {xs : List IE} : (C.arr, AObj.cells (lMap iA xs) 3 true false) ∈ vT C L xs := List.mem_append_right _ List.mem_cons_self
theorem vT_suf {C : Cons} {L : Nat} {xs : List IE} {b : Nat} {o : AObj} (h : (b, o) ∈ C.suf L) : (b, o) ∈ vT C L xs := List.mem_append_right _ (List.mem_cons_of_mem _ h)
theorem newB_mem {C : Cons} {cs : List IE} {b : Nat} {o : AObj} (h : (b, o) ∈ newB C cs) : C.new = some b ∧ o = .cells (lMap iA cs) 3 true true := by
  unfold newB at h
  split at h
  · rename_i j hj; rw [List.mem_singleton] at h; cases h; exact ⟨hj, rfl⟩
  · cases h
theorem encT_true {C : Cons} {L : Nat} {q : AV × Heap} {cs : List IE} (h : encT C L q = .tup [tag true, tag true, cellsB cs false]) : q.1 = tag true ∧ allO q.2 (C.pre L) = true ∧ allO q.2 (C.suf L) = true ∧ q.2.next = C.n ∧ q.2.get C.arr = some (.cells (lMap iA cs) 3 true false) := by
  unfold encT at h
  split at h
  · rename_i hv
    simp only [AV.tup.injEq, List.cons.injEq, and_true] at h
    obtain ⟨_, h2, h3⟩ := h
    simp only [tag, AV.bool.injEq, BE.lit.injEq, Bool.and_eq_true] at h2
    exact ⟨hv, h2.1, h2.2.1, beq_t.1 h2.2.2, blkA_some h3⟩
  · rename_i hv
    simp only [AV.tup.injEq, List.cons.injEq, and_true] at h
    exact absurd h.1 hv
theorem encT_false {C : Cons} {L : Nat} {q : AV × Heap} {f : Nat → List (Nat × AObj)} (hf : C.fnd = some f) {x : AV} (h : encT C L q = .tup [tag false, tag true, x]) : q.1 = tag false ∧ allO q.2 (f L) = true ∧ q.2.next = C.fn ∧ newA C q.2 = x := by
  unfold encT at h
  split at h
  · simp only [AV.tup.injEq, List.cons.injEq, and_true] at h
    have := h.1
    simp only [tag, AV.bool.injEq, BE.lit.injEq] at this
    cases this
  · simp only [AV.tup.injEq, List.cons.injEq, and_true] at h
    obtain ⟨h1, h2, h3⟩ := h
    rw [hf] at h2
    simp only [tag, AV.bool.injEq, BE.lit.injEq, Bool.and_eq_true] at h2
    exact ⟨h1, h2.1, beq_t.1 h2.2, h3⟩
/-- what is asked of an end of the run -/
def EndR (C : Cons) (L : Nat) (ρ : Rho) (Q : AV × Heap → Prop) (a : AV) : Prop := ∀ r0, encT C L r0 = a → ∃ q, Q q ∧ SameV ρ r0.1 ρ q.1 ∧ SameH (pTs L) (pTs L) ρ r0.2 ρ q.2
theorem noneR {C : Cons} {L : Nat} {ρ : Rho} {m : Nat} {x1 x2 : IE} {xs : List IE} {Q : AV × Heap → Prop} (k : Q (noneLf C L m x1 x2 xs)) {cs : List IE} (hd : dens ρ cs = dens ρ (leftL (C.size L) m (C.size L - cnt m) x1 x2 xs)) :
    EndR C L ρ Q (.tup [tag true, tag true, cellsB cs false]) := by
  intro r0 he
  obtain ⟨h1, h2, h2', h3, h4⟩ := encT_true he
  refine ⟨_, k, by rw [h1]; exact SameV.refl _ _, h3.trans (viewA_next _ _).symm, fun j o g => ?_⟩
  rcases vT_mem (viewA_get _ _ _ _ g) with hm | ⟨rfl, rfl⟩ | hm
  · exact ⟨o, allO_get h2 hm, SameA.refl o⟩
  · exact ⟨_, h4, SameA.cells rfl (same_ints hd)⟩
  · exact ⟨o, allO_get h2' hm, SameA.refl o⟩
theorem foundR {C : Cons} {L : Nat} {ρ : Rho} {xs : List IE} {Q : AV × Heap → Prop} (k : (foundT C L xs).Holds ρ Q) {cs : List IE} (hd : dens ρ cs = dens ρ xs) : (fdT C cs).Holds ρ (EndR C L ρ Q) := by
  unfold foundT at k
  unfold fdT
  cases hf : C.fnd with
  | none => rw [hf] at k; exact k.elim
  | some f =>
    rw [hf] at k
    have k : Q (tag false, viewA C.fn (f L ++ newB C xs)) := k
    show EndR C L ρ Q _
    intro r0 he
    obtain ⟨h1, h2, h3, h4⟩ := encT_false hf he
    refine ⟨_, k, by rw [h1]; exact SameV.refl _ _, h3.trans (viewA_next _ _).symm, fun j o g => ?_⟩
    rcases List.mem_append.1 (viewA_get _ _ _ _ g) with hm | hm
    · exact ⟨o, allO_get h2 hm, SameA.refl o⟩
    · obtain ⟨hj, rfl⟩ := newB_mem hm
      unfold newA at h4
      rw [hj] at h4
      exact ⟨_, blkA_some h4, SameA.cells rfl (same_ints hd)⟩
section
variable {C : Cons} (O : ConsOk C) {L : Nat} (h0 : 1 ≤ L) (hL : L ≤ 6)
include O h0 hL
theorem T_base {m : Nat} (hd : C.dom L m = true) (B : TabOk (pTs L) Sx.Tryd.tt.get (tbTs C L (cnt m))) : CallOk (pTs L) 76 (argsT C L m (.var 500) (.var 501)) (viewA C.n (vT C L vs6)) (saidT C L m (.var 500) (.var 501) vs6) := by
  have hm := O.lt L m hd
  by_cases hz0 : C.fnd = none ∧ m = 0
  · obtain ⟨hz1, rfl⟩ := hz0
    have e : saidT C L 0 (.var 500) (.var 501) vs6 = .fail 9 := by unfold saidT foundT; rw [hz1]; rfl
    rw [e]
    intro vs E w0 w Q K k
    exact k.elim
  have base := eval_ok B 100 76 (argsT C L m (.var 500) (.var 501)) (viewA C.n (vT C L vs6))
  have fr : CallOk (pTs L) 76 (argsT C L m (.var 500) (.var 501)) (viewA C.n (vT C L vs6)) (runT C L m) := base.frame (n := C.n) (l := vT C L vs6) O.big (O.args L m _ _) (O.view h0 hL vs6)
    (fun g hg => ⟨g.2, viewA_mem C.n _ 0 (O.up L vs6 h0 hL) g hg, .refl _⟩) (by rw [viewA_next]; exact Nat.le_refl _) C.rw
  have tree : ((runT C L m).bind fun q => T.ret (encT C L q)) = expT C L m := eqTF_eq _ _ (O.ck L m h0 hL hd fun h h' => hz0 ⟨h, h'⟩)
  refine CallOk.read rfl fr fun ρ b hok Q k => ⟨ρ, hok, SameL.refl _ _, ⟨rfl, fun j o g => ⟨o, g, SameA.refl o⟩⟩, T.holds_enc tree ?_⟩
  obtain ⟨_, hT, _⟩ := hok
  have hT : okT L ρ := hT
  have hcl := O.le L m hd
  have hc6 := O.six L hL
  obtain ⟨f1, f2, f3⟩ := facts_of hL hm
  show (expT C L m).Holds ρ (EndR C L ρ Q)
  unfold expT
  unfold saidT at k
  cases hz : Nat.beq m 0 with
  | true =>
    rw [hz, cond_true] at k
    rw [cond_true]
    have hm0 : m = 0 := beq_t.1 hz
    subst hm0
    refine foundR k ?_
    rw [dens_app, dens_take, dens_take, dens_ordL hT hm (by omega), f2 rfl]
    simp [upN]
  | false =>
    rw [hz, cond_false] at k
    rw [cond_false]
    have hm0 : m ≠ 0 := fun h => by rw [beq_t.2 h] at hz; cases hz
    obtain ⟨n, hn⟩ : ∃ n, cnt m = n + 1 := ⟨cnt m - 1, by have := f3 hm0; omega⟩
    simp only [T.Holds] at k
    rw [none_den hT hm, hn] at k
    rw [hn]
    refine tT_holds (k := n) (p := C.size L - (n + 1)) hT rfl (by omega) hc6 (rsOf m) vs6 (fun r hr => ?_) rfl (fun hall cs' hlen hd => ?_) fun r hr cs' hlen ht => ?_
    · obtain ⟨q1, q2, q3, q4⟩ := f1 r hr
      exact ⟨q1, q2, by omega, fun h => by have := q4 h; omega⟩
    · have hN : noneF ρ (n + 1) m ((IE.var 500).den ρ) ((IE.var 501).den ρ) = true := List.all_eq_true.2 hall
      rw [if_pos hN] at k
      refine noneR k (hd.trans ?_)
      unfold leftL
      rw [hn]
      refine (dens_mapI vs6 0 fun j o _ hj => ?_).symm
      have hj : j < 6 := by have e : vs6.length = 6 := rfl; rw [e] at hj; omega
      by_cases hp : C.size L - (n + 1) ≤ j
      · rw [ble_t.2 hp, cond_true, left_den hT hm hc6 _ _ (by omega), hn]
        rfl
      · have : Nat.ble (C.size L - (n + 1)) j = false := by
          cases hb : Nat.ble (C.size L - (n + 1)) j with
          | false => rfl
          | true => exact absurd (ble_t.1 hb) hp
        rw [this, cond_false]
        refine (foldl_id _ _ fun o r => ?_).symm
        unfold stepF
        split
        · rfl
        · rw [if_pos (by omega)]
    · obtain ⟨hr1, hr2⟩ : r ∈ rsOf m ∧ skipF ρ n m ((IE.var 500).den ρ) ((IE.var 501).den ρ) r = false := ⟨List.mem_of_find?_eq_some hr, by have := List.find?_some hr; simpa using this⟩
      have hN : ¬ noneF ρ (n + 1) m ((IE.var 500).den ρ) ((IE.var 501).den ρ) = true := fun h => by
        have := List.all_eq_true.1 h r hr1
        have : skipF ρ n m ((IE.var 500).den ρ) ((IE.var 501).den ρ) r = true := this
        rw [hr2] at this; cases this
      rw [if_neg hN] at k
      obtain ⟨q1, q2, q3, q4⟩ := f1 r hr1
      obtain ⟨d1, d2⟩ := af_den hT.1 q1 (.var 500) (.var 501)
      refine foundR k ?_
      have hk : cnt (del m r) = n := by omega
      unfold nextL
      rw [dens_app, dens_app, dens_take, dens_take, ht, dens_ordL hT hm (by omega), hn]
      have eo : ordF ρ (n + 1) m ((IE.var 500).den ρ) ((IE.var 501).den ρ) = (r : Int) :: ordF ρ n (del m r) (aftF ρ r ((IE.var 500).den ρ) ((IE.var 501).den ρ)).1 (aftF ρ r ((IE.var 500).den ρ) ((IE.var 501).den ρ)).2 := by
        have hr' : (rsOf m).find? (fun r => !(decide (aftF ρ r ((IE.var 500).den ρ) ((IE.var 501).den ρ) = (0, 0)) || noneF ρ n (del m r) (aftF ρ r ((IE.var 500).den ρ) ((IE.var 501).den ρ)).1 (aftF ρ r ((IE.var 500).den ρ) ((IE.var 501).den ρ)).2)) = some r := hr
        rw [ordF]
        simp only [hr']
      rw [eo]
      congr 1
      have hdl := dens_ordL hT q2 (by omega) (af1 r (.var 500) (.var 501)) (af2 r (.var 500) (.var 501))
      rw [hk, d1, d2] at hdl
      have ec : dens ρ (IE.lit (Int.ofNat r) :: ordL (del m r) (af1 r (.var 500) (.var 501)) (af2 r (.var 500) (.var 501))) = (r : Int) :: dens ρ (ordL (del m r) (af1 r (.var 500) (.var 501)) (af2 r (.var 500) (.var 501))) := rfl
      rw [ec, hdl]
      simp only [upN, List.map_cons, upN_map]
      rfl
end
end Go.Sx
