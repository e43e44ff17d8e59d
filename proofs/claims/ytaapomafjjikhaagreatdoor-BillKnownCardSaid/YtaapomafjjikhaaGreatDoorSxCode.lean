/- CODE, BUT FOR REGIONS WHOSE ORDER IS DRAWN. -/
import Derived.Test.YtaapomafjjikhaaGreatDoorSxReg
import Derived.RangeFuncRecord
import Derived.Scope
import Derived.RangeFuncNested
/-! CODE, BUT FOR REGIONS WHOSE ORDER IS DRAWN. -/
namespace Go.Sx
open Go.RowKit

theorem skip_ok {p : Par} {n : Nat} {keep : List Nat} : COk p n keep cSkip .skip := by
  intro cx CX wh rd E w0 w s a Q Q' hrd S k P
  exact wpIn_skip (P .norm s E w a k (Env.le.refl E) S)
theorem label_ok {p : Par} {n : Nat} {keep : List Nat} {l : Nat} : COk p n keep cSkip (.label l) := by
  intro cx CX wh rd E w0 w s a Q Q' hrd S k P
  exact wpIn_label (P .norm s E w a k (Env.le.refl E) S)
theorem exit_ok {p : Par} {n : Nat} {keep : List Nat} {id : Nat} : COk p n keep (cExit id) (.exit id) := by
  intro cx CX wh rd E w0 w s a Q Q' hrd S k P
  exact wpIn_exit (P (.exit id) s E w a k (Env.le.refl E) S)
theorem ret_ok {p : Par} {n : Nat} {keep : List Nat} : COk p n keep cRet .ret := by
  intro cx CX wh rd E w0 w s a Q Q' hrd S k P
  exact wpIn_ret (P .ret s E w a k (Env.le.refl E) S)

theorem CPost.le {p : Par} {n : Nat} {keep : List Nat} {E E1 : Env} {w0 : Base} {Q : Ex × St → Prop} {Q' : Exit → Act → World → Prop} (P : CPost p n keep E w0 Q Q') (le : E.le E1) : CPost p n keep E1 w0 Q Q' :=
  fun x s' E' w' a' q hle S => P x s' E' w' a' q (le.trans hle) S

theorem seq_ok {p : Par} {n : Nat} {keep : List Nat} {f g : C} {c d : Code} (hf : COk p n keep f c) (hg : COk p n keep g d) : COk p n keep (cSeq f g) (.seq c d) := by
  intro cx CX wh rd E w0 w s a Q Q' hrd S k P
  have k' : ((f cx wh s).bind (afterSeq (g cx wh))).Holds E.ρ Q := k
  rw [T.holds_bind] at k'
  refine wpIn_seq (hf cx CX wh rd E w0 w s a _ _ hrd S k' ?_)
  intro x s1 E1 w1 a1 q1 hle S1
  cases x with
  | norm =>
    have q1' : (g cx wh s1).Holds E1.ρ Q := by rw [hle.ρ]; exact q1
    exact hg cx CX wh rd E1 w0 w1 s1 a1 Q Q' (hrd.mono hle) S1 q1' (P.le hle)
  | exit id => exact P (.exit id) s1 E1 w1 a1 q1 hle S1
  | ret => exact P .ret s1 E1 w1 a1 q1 hle S1

theorem cond_ok {p : Par} {n : Nat} {keep : List Nat} {x : Operand} {y : Opd} (hx : cOpd x = some y) {f g : C} {c d : Code} (hf : COk p n keep f c) (hg : COk p n keep g d) : COk p n keep (cCond y f g) (.cond x c d) := by
  intro cx CX wh rd E w0 w s a Q Q' hrd S k P
  have k' : (condA (ev s.tm y) (f cx wh s) (g cx wh s)).Holds E.ρ Q := k
  cases hv : ev s.tm y with
  | bool b =>
    rw [hv] at k'
    have k2 : (T.ite b (f cx wh s) (g cx wh s)).Holds E.ρ Q := k'
    rw [T.holds_ite] at k2
    have he : a.eval x = .bool (b.den E.ρ) := opd_ok S.tm hx (v := .bool (b.den E.ρ)) (by rw [hv]; rfl) S.hp.glob
    refine wpIn_cond he ?_
    cases hb : b.den E.ρ with
    | true => rw [hb] at k2; exact hf cx CX wh rd E w0 w s a Q Q' hrd S k2 P
    | false => rw [hb] at k2; exact hg cx CX wh rd E w0 w s a Q Q' hrd S k2 P
  | _ => rw [hv] at k'; exact k'.elim

theorem block_ok {p : Par} {n : Nat} {keep : List Nat} {id : Nat} {f : C} {c : Code} (hf : COk p n keep f c) : COk p n keep (cBlock id f) (.block id c) := by
  intro cx CX wh rd E w0 w s a Q Q' hrd S k P
  have k' : ((f cx wh s).bind (afterBlock id)).Holds E.ρ Q := k
  rw [T.holds_bind] at k'
  refine wpIn_block (hf cx CX wh rd E w0 w s a _ _ hrd S k' ?_)
  intro x s1 E1 w1 a1 q1 hle S1
  cases x with
  | norm => exact P .norm s1 E1 w1 a1 q1 hle S1
  | exit id' =>
    have q2 : (cond (Nat.beq id' id) (T.ret (Ex.norm, s1)) (T.ret (Ex.exit id', s1))).Holds E.ρ Q := q1
    show (if id' = id then _ else _)
    by_cases hi : id' = id
    · rw [beq_t.2 hi] at q2
      rw [if_pos hi]
      exact P .norm s1 E1 w1 a1 q2 hle S1
    · rw [beq_f.2 hi] at q2
      rw [if_neg hi]
      exact P (.exit id') s1 E1 w1 a1 q2 hle S1
  | ret => exact P .ret s1 E1 w1 a1 q1 hle S1

section
variable {F : Fence} {m : Nat} {P : Program} {Q : Exit → Act → World → Prop} {a : Act} {w : World} {b : Frame} {k : List Item} {cs : List Frame}
theorem stepR_scope {c : Code} : step P (lone (b.atR a (.code (.scope c) :: k)) cs w) = .next (lone (b.atR a (.code c :: .inScope c :: k)) cs w) :=
  step_lone_go (by simp [stepG, stepG.exec, Frame.atR])
theorem stepR_inScope {c : Code} : step P (lone (b.atR a (.inScope c :: k)) cs w) = .next (lone (b.atR a k) cs w) :=
  step_lone_go (by simp [stepG, stepG.exec, Frame.atR])

theorem wpIn_scope {c : Code} (h : c.wpIn F m P (Exit.noGoto Q) a w) : (Code.scope c).wpIn F m P Q a w := by
  intro b k cs hro hb hr
  have h0 : (lone (b.atR a (.code (.scope c) :: k)) cs w).fenced P F := fenced_calm hb hr rfl
  obtain ⟨e, a₁, w₁, hq, harr⟩ := h b (.inScope c :: k) cs hro hb hr
  cases e with
  | normal => exact ⟨.normal, a₁, w₁, hq, .head h0 stepR_scope (StepsIn.trans harr (.one (fenced_calm hb hr rfl) stepR_inScope))⟩
  | exit id =>
    have hx : exitTo id (.inScope c :: k) = exitTo id k := by simp [exitTo]
    exact ⟨.exit id, a₁, w₁, hq, fun k' hk => .head h0 stepR_scope (harr.1 k' (by rw [hx]; exact hk)),
      fun hr' hk => let ⟨k₁, h1, h2⟩ := harr.2 hr' (by rw [hx]; exact hk); ⟨k₁, h1, .head h0 stepR_scope h2⟩⟩
  | goto l => exact hq.elim
  | ret => exact ⟨_, a₁, w₁, hq, .of_steps (.one h0 stepR_scope) harr⟩
  | panic ch => exact ⟨_, a₁, w₁, hq, .of_steps (.one h0 stepR_scope) harr⟩
  | outgrown => exact ⟨_, a₁, w₁, hq, .of_steps (.one h0 stepR_scope) harr⟩
end

theorem scope_ok {p : Par} {n : Nat} {keep : List Nat} {f : C} {c : Code} (hf : COk p n keep f c) : COk p n keep f (.scope c) := by
  intro cx CX wh rd E w0 w s a Q Q' hrd S k P
  refine wpIn_scope (hf cx CX wh rd E w0 w s a Q _ hrd S k ?_)
  intro x s' E' w' a' q hle S'
  have := P x s' E' w' a' q hle S'
  cases x <;> exact this

theorem loopN_succ (body : St → T (Ex × St)) (n : Nat) (s : St) : loopN body (n + 1) s = (body s).bind fun r => match r.1 with
      | .norm => loopN body n r.2
      | x => .ret (x, r.2) := rfl

theorem loop_ok {p : Par} {n : Nat} {keep : List Nat} {f : C} {c : Code} (hf : COk p n keep f c) : COk p n keep (cLoop f) (.loop c) := by
  intro cx CX wh rd E w0 w s a Q Q' hrd S k P
  have k' : (loopN (f cx wh) cx.loops s).Holds E.ρ Q := k
  refine wpIn_loop_rounds cx.loops ?_
  clear k
  generalize cx.loops = m at k'
  induction m generalizing E w s a with
  | zero => exact k'.elim
  | succ m ih =>
    rw [loopN_succ, T.holds_bind] at k'
    rw [roundsIn_succ]
    refine hf cx CX wh rd E w0 w s a _ _ hrd S k' ?_
    intro x s1 E1 w1 a1 q1 hle S1
    cases x with
    | norm =>
      have q2 : (loopN (f cx wh) m s1).Holds E1.ρ Q := by rw [hle.ρ]; exact q1
      exact ih E1 w1 s1 a1 (hrd.mono hle) S1 (P.le hle) q2
    | exit id => exact P (.exit id) s1 E1 w1 a1 q1 hle S1
    | ret => exact P .ret s1 E1 w1 a1 q1 hle S1

/-! ## A range over a function -/
theorem HeapOk.loopTurn {p : Par} {E : Env} {h : Heap} {w0 : Base} {w : World} (H : HeapOk p E h w0 w) {b : Nat} {st : LoopState} {pend : Ex} {fn : FuncId} {tm : PT AV} {ps : List Nat} {code d : Nat} (hg : h.get b = some (.loop st pend fn tm ps code d)) :
    ∃ c d' n keep r, E.σ b = some (c, 0) ∧ E.σ d = some (d', 0) ∧ w.heap[c]? = some (.loop r) ∧ r.state = st ∧ r.pending = jumpOf pend ∧ n ≤ r.tmps.size ∧ TreeOk keep E tm r.tmps ∧ r.params.toList = ps ∧ (p.RC code n keep r.assign r.body ∧ psOk n keep ps = true) ∧ r.defers = d' ∧
      ∀ st' pend', HeapOk p E (h.put b (.loop st' pend' fn tm ps code d)) w0 (w.putObj c (.loop { r with state := st', pending := jumpOf pend' })) := by
  obtain ⟨c, d', n, keep, r, h1, h2, h3, h4, h5, hn, h6, h7, h8, h9⟩ := H.obj b _ hg
  refine ⟨c, d', n, keep, r, h1, h2, h3, h4, h5, hn, h6, h7, h8, h9, fun st' pend' => ?_⟩
  have hlt := H.lt b _ c 0 hg h1
  refine H.turn hg rfl h1 rfl ⟨c, d', n, keep, { r with state := st', pending := jumpOf pend' }, h1, h2, World.putObj_heap_same hlt, rfl, rfl, hn, h6, h7, h8, h9⟩ (fun i hi => World.putObj_heap_other hi) rfl rfl rfl (by simp)

theorem CallsIn.toFence {P : Program} {f : FuncId} {args : Array Value} {w : World} {R : Ending → World → Prop} (rd : Option Nat) (h : Calls P f args w R) : CallsIn (fence rd) 0 P f args w R := by
  cases rd with
  | none => exact callsIn_wide.2 h
  | some l => exact CallsIn.inRound l (callsIn_wide.2 h)

/-- THE STATEMENT, once the record is laid. -/
theorem range_go {p : Par} {n : Nat} {keep : List Nat} {cx : Cx} (CX : CxOk p cx) {g : Operand} {ps : Array Tmp} {assign body : Code} {code : Nat} (hRC : p.RC code n keep assign body ∧ psOk n keep ps.toList = true)
    {wh : Wh} {rd : Option Nat} {E : Env} {w0 : Base} {w : World} {tm : Tm} {df : List Nat} {h : Heap} {a : Act} {Q : Ex × St → Prop} {Q' : Exit → Act → World → Prop} {d d' : Nat} {fv : AV}
    {mark : List Deferred} (hfv : conc E fv = some (a.eval g))
    (HT : TmOk n keep E tm a.tmps) (HD : DfOk E df (mark ++ a.defers)) (HH : HeapOk p E h w0 w) (hd : E.σ d = some (d', 0))
    (k : (rangeGo cx wh fv ps.toList code tm d df h).Holds E.ρ Q) (P : CPost p n keep E w0 Q Q') {w₀ : World}
    (he : ∀ fn, (Instr.enterLoop fn a.tmps ps assign body (fence rd).round).run p.P w₀ = .ok (w.heap.size, mark) (w.alloc (.loop { state := .ready, pending := none, fn, tmps := a.tmps, params := ps, assign, body, defers := d' }))) :
    (Code.rangeFunc g ps assign body).wpIn (fence rd) 0 p.P Q' a w₀ := by
  refine wpIn_rangeFunc fun fn hfn => ?_
  unfold rangeGo at k
  rw [T.holds_bind] at k
  unfold callF at k
  split at k
  · rename_i fnv first captured
    split at k
    · rename_i fid
      obtain ⟨l1, l2, e1, e2, hv⟩ := func_conc' hfv
      let r0 : Loop := { state := .ready, pending := none, fn, tmps := a.tmps, params := ps, assign, body, defers := d' }
      have hf : E.σ h.next = none := HH.fresh _ (Nat.le_refl _)
      have hle := Env.with_le hf HH.nx (w.heap.size, 0) 0
      have HH1 : HeapOk p (E.with h.next (w.heap.size, 0) 0) (h.new (.loop .ready .norm wh.fn tm.tree ps.toList code d)) w0 (w.alloc (.loop r0)) := by
        refine HH.alloc rfl ⟨w.heap.size, d', n, keep, r0, Env.with_at _ _ _ _, hle.σ _ _ hd, by simp, rfl, rfl, HT.size, HT.tree.mono hle, rfl, hRC, rfl⟩
      have hargs : concL (E.with h.next (w.heap.size, 0) 0) (first ++ ([.yieldF h.next] ++ captured)) = some (l1 ++ ([Value.func (.yield w.heap.size) #[] #[]] ++ l2)) := by
        refine concL_app (concL_mono hle _ _ e1) (concL_app ?_ (concL_mono hle _ _ e2))
        exact concL_cons.2 ⟨_, [], by simp [conc, Env.with_at], rfl, rfl⟩
      rw [lApp_eq, lApp_eq] at k
      have key := CX.call fid _ _ _ (E.with h.next (w.heap.size, 0) 0) w0 (w.alloc (.loop r0)) _ (fun v w' => rangePost (fence rd) 0 p.P w.heap.size Q' { a with defers := mark ++ a.defers } (.returned v) w') k HH1 hargs ?_
      · obtain ⟨hc1, hc2⟩ := key
        refine ⟨w.heap.size, mark, w.alloc (.loop r0), { target := .fn (.func fid) l2.toArray, args := l1.toArray ++ #[Value.func (.yield w.heap.size) #[] #[]] }, w.alloc (.loop r0), fid, (l1 ++ ([Value.func (.yield w.heap.size) #[] #[]] ++ l2)).toArray, w.alloc (.loop r0), he fn, ?_, fun f' _ => fence_fn rd f', ?_, fun hdp => (by rw [fence_depth] at hdp; cases hdp), ?_⟩
        · show (Deferred.ofValue (a.eval g) _).run p.P _ = _
          rw [hv]
          have : (rangeCall g w.heap.size).args.map a.eval = #[Value.func (.yield w.heap.size) #[] #[]] := by simp [Act.eval]
          rw [this]
          rfl
        · show (callFunc fid ((l1.toArray ++ #[Value.func (.yield w.heap.size) #[] #[]]) ++ l2.toArray)).run p.P _ = _
          rw [show (l1.toArray ++ #[Value.func (.yield w.heap.size) #[] #[]]) ++ l2.toArray = (l1 ++ ([Value.func (.yield w.heap.size) #[] #[]] ++ l2)).toArray from by apply Array.ext'; simp]
          exact hc1
        · refine CallsIn.mono (CallsIn.toFence rd hc2) ?_
          rintro e w' ⟨v, rfl, hv⟩
          exact hv
      · intro v h' E' w' cv q hle' HH' hcv
        unfold endRange at q
        split at q
        · rename_i st pend f' tm' ps' c' d2 hg
          obtain ⟨c, d3, n', keep', r, g1, g2, g3, g4, g5, g6, g7, g8, g9, g10, ht⟩ := HH'.loopTurn hg
          have hc : c = w.heap.size := by
            have := hle'.σ _ _ (Env.with_at E h.next (w.heap.size, 0) 0)
            rw [this] at g1; cases g1; rfl
          subst hc
          have hst : r.state ≠ .busy := by
            rw [g4]; rintro rfl; exact q.elim
          have q2 : Q (pend, ⟨tm, df, h'.put h.next (.loop .exhausted pend f' tm' ps' c' d2)⟩) := by
            cases st <;> first | exact q.elim | exact q
          have HH2 := ht .exhausted pend
          have hre : (w'.putObj w.heap.size (.loop { r with state := .exhausted, pending := jumpOf pend })) = w'.putObj w.heap.size (.loop { r with state := .exhausted }) := by rw [← g5]
          rw [hre] at HH2
          have hres := P pend _ E' _ { a with defers := mark ++ a.defers } q2 (hle.trans hle') ⟨(HT.mono hle.tole0).mono hle'.tole0, DfOk.mono hle'.tole0 _ _ (DfOk.mono hle.tole0 _ _ HD), HH2⟩
          refine ⟨r.pending, _, run_endLoop g3 hst, ?_⟩
          revert hres
          generalize w'.putObj w.heap.size (.loop { r with state := .exhausted }) = W
          intro hres
          rw [g5]
          cases pend with
          | norm => exact hres
          | exit id => exact wpIn_exit hres
          | ret => exact wpIn_ret hres
        · exact q.elim
    · exact k.elim
  · exact k.elim

theorem range_ok {p : Par} {n : Nat} {keep : List Nat} {g : Operand} {y : Opd} (hy : cOpd g = some y) {ps : Array Tmp} {assign body : Code} {code : Nat} (hRC : p.RC code n keep assign body ∧ psOk n keep ps.toList = true) :
    COk p n keep (cRange y ps.toList code) (.rangeFunc g ps assign body) := by
  intro cx CX wh rd E w0 w s a Q Q' hrd S k P
  have k' : (rangeF cx wh (ev s.tm y) ps.toList code s).Holds E.ρ Q := k
  unfold rangeF at k'
  have fvok : ∀ {E1 : Env} {d : Nat} {df : List Nat} {h : Heap}, (rangeGo cx wh (ev s.tm y) ps.toList code s.tm d df h).Holds E1.ρ Q → conc E (ev s.tm y) = some (a.eval g) := fun {E1 d df h} kk => by
    refine opd_some S.tm hy ?_ S.hp.glob
    cases hb : ev s.tm y with
    | bad => rw [hb] at kk; exact kk.elim
    | _ => rfl
  split at k'
  · rename_i hr
    cases rd with
    | some l => rw [hr] at hrd; exact hrd.elim
    | none =>
      have hv := fvok (E1 := E) k'
      have hf : E.σ s.h.next = none := S.hp.fresh _ (Nat.le_refl _)
      have hle := Env.with_le hf S.hp.nx (w.heap.size, 0) 0
      have HH1 : HeapOk p (E.with s.h.next (w.heap.size, 0) 0) (s.h.new (.defd true)) w0 (w.alloc (.deferred (some []))) :=
        S.hp.alloc rfl ⟨w.heap.size, Env.with_at _ _ _ _, by simp⟩
      have hdf : DfOk (E.with s.h.next (w.heap.size, 0) 0) (s.h.next :: s.df) (({ target := .collected w.heap.size, args := #[] } : Deferred) :: a.defers) := by
        refine And.intro ⟨w.heap.size, Env.with_at _ _ _ _, rfl⟩ (DfOk.mono hle.tole0 _ _ S.df)
      refine range_go CX hRC (E := E.with s.h.next (w.heap.size, 0) 0) (mark := [{ target := .collected w.heap.size, args := #[] }]) (d' := w.heap.size) (conc_mono hle _ _ hv) (S.tm.mono hle) hdf HH1 (Env.with_at _ _ _ _) k' (P.le hle) (rd := none) (fun fn => ?_)
      have := run_enterLoop_outer (P := p.P) (w := w) fn a.tmps ps assign body
      simp only [World.size_alloc]
      exact this
  · rename_i l hr
    split at k'
    · rename_i st pend f' tm' ps' c' d hg
      cases rd with
      | none => rw [hr] at hrd; exact hrd.elim
      | some l' =>
        rw [hr] at hrd
        have hv := fvok (E1 := E) k'
        obtain ⟨c, d3, n', keep', r, g1, g2, g3, g4, g5, g6, g7, g8, g9, g10, ht⟩ := S.hp.loopTurn hg
        have : c = l' := by
          have h1 : E.σ l = some (l', 0) := hrd
          rw [h1] at g1; cases g1; rfl
        subst this
        refine range_go CX hRC (E := E) (mark := []) (d' := d3) hv S.tm S.df S.hp g2 k' P (rd := some c) (fun fn => ?_)
        have := run_enterLoop_inner (P := p.P) g3 fn a.tmps ps assign body
        rw [g10] at this
        exact this
    · exact k'.elim

end Go.Sx
