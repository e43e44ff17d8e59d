/- MAPS: a store. -/
import Derived.Test.YtegeacnehkpinaaDoorSxMap2
/-! MAPS: a store. -/
namespace Go.Sx
open Go.RowKit

theorem run_setMap {P : Program} {w : World} {r : Nat} {es : Array MapEntry} {clock : Nat} (o : Obj) (hb : w.heap[r]? = some (.map es clock)) : (setObj r o).run P w = .ok () { w with heap := w.heap.setIfInBounds r o } := by
  simp [setObj, Sem.run, hb]

theorem find_at {whole : Bool} {n : Nat} {ls : List (Nat × Leaf)} {k : AV} : ∀ {es : List (AV × AV × Nat)} {i : Nat} {p : Nat × AV}, findKeyA whole n ls k es i = some (some p) →
    ∃ e, i ≤ p.1 ∧ es[p.1 - i]? = some e ∧ eqV whole n ls k e.1 = some (.lit true)
  | [], i, p, h => by
    have : (none : Option (Nat × AV)) = some p := Option.some.inj h
    cases this
  | e :: es, i, p, h => by
    obtain ⟨c, hc, hr⟩ := find_step h
    rcases hr with ⟨rfl, hp⟩ | ⟨rfl, hp⟩
    · cases hp
      exact ⟨e, Nat.le_refl _, by simp, hc⟩
    · obtain ⟨e', h1, h2, h3⟩ := find_at hp
      refine ⟨e', by omega, ?_, h3⟩
      have : p.1 - i = (p.1 - (i + 1)) + 1 := by omega
      rw [this, List.getElem?_cons_succ]
      exact h2

theorem concE_get {E : Env} : ∀ {es : List (AV × AV × Nat)} {ms : List MapEntry} {i : Nat} {e : AV × AV × Nat}, concE E es ms → es[i]? = some e → ∃ m, ms[i]? = some m ∧ conc E e.1 = some m.key
  | [], [], i, e, _, h => by simp at h
  | e' :: es, m :: ms, i, e, ⟨h1, _, _, h4⟩, h => by
    cases i with
    | zero => simp at h; subst h; exact ⟨m, rfl, h1⟩
    | succ i => simp at h; simpa using concE_get h4 h

theorem concE_app {E : Env} {f : List (AV × AV × Nat)} {n : List MapEntry} (h' : concE E f n) : ∀ {es : List (AV × AV × Nat)} {ms : List MapEntry}, concE E es ms → concE E (es ++ f) (ms ++ n)
  | [], [], _ => h'
  | _ :: _, _ :: _, ⟨h1, h2, h3, h4⟩ => ⟨h1, h2, h3, concE_app h' h4⟩

theorem concE_mod {E : Env} {k v : AV} {kv vv : Value} (hk : conc E k = some kv) (hv : conc E v = some vv) : ∀ {es : List (AV × AV × Nat)} {ms : List MapEntry} (i : Nat), concE E es ms →
    concE E (modAt (fun e => (k, v, e.2.2)) es i) (ms.modify i fun e => { e with key := kv, val := vv })
  | [], [], i, _ => by cases i <;> simp [modAt, concE]
  | _ :: _, _ :: _, 0, ⟨_, _, h3, h4⟩ => by simp only [modAt, List.modify_zero_cons, concE]; exact ⟨hk, hv, h3, h4⟩
  | _ :: _, _ :: _, i + 1, ⟨h1, h2, h3, h4⟩ => by simp only [modAt, List.modify_succ_cons, concE]; exact ⟨h1, h2, h3, concE_mod hk hv i h4⟩

theorem HeapOk.setMap {p : Par} {E : Env} {h : Heap} {w0 : Base} {w : World} (H : HeapOk p E h w0 w) {b clock clock' : Nat} {es es' : List (AV × AV × Nat)} (hg : h.get b = some (.map es clock)) {q : Nat × Nat} (hq : E.σ b = some q) {ms' : List MapEntry} (he : concE E es' ms') {arr : Array MapEntry} (harr : arr = ms'.toArray) :
    HeapOk p E (h.put b (.map es' clock')) w0 { w with heap := w.heap.setIfInBounds q.1 (.map arr clock') } := by
  obtain ⟨ms, h0, hms, hheap⟩ := H.mapAt hg hq
  have hlt : q.1 < w.heap.size := (Array.getElem?_eq_some_iff.1 hheap).1
  have hq' : E.σ b = some (q.1, 0) := by rw [hq, ← h0]
  subst harr
  refine H.turn hg rfl hq' rfl ⟨q.1, ms', hq', he, by simp [hlt]⟩ (fun i hi => by simp [Array.getElem?_setIfInBounds_ne (Ne.symm hi)]) rfl rfl rfl (by simp)

theorem rMapset_holds {ρ : Rho} {h : Heap} {whole : Bool} {n : Nat} {ls : List (Nat × Leaf)} {m k v : AV} {Q : AV × Heap → Prop} (kk : (rMapset h whole n ls m k v).Holds ρ Q) : ∃ h', amapset h whole n ls m k v = some h' ∧ Q (undefA, h') := by
  unfold rMapset at kk
  split at kk
  · rename_i h' e; exact ⟨h', e, kk⟩
  · exact kk.elim

theorem mapset_ok {p : Par} {ty : Nat → Option TI} (T : TyOk p.P ty) {t : Nat} {q : TI × List (Nat × Leaf) × TI} (hq : cMap ty t = some q) {x1 x2 x3 : Operand} {y1 y2 y3 : Opd}
    (h1 : cOpd x1 = some y1) (h2 : cOpd x2 = some y2) (h3 : cOpd x3 = some y3) {o : Oper} (ho : o.op = .mapUpdate t x1 x2 x3 ∨ o.op = .insert t x1 x2 x3) : InsOk p (iMapset q.1.isAgg q.1.size q.2.1 y1 y2 y3) o := by
  intro cx n keep E w0 tm h a w Q K _ HT HH k P
  obtain ⟨h', hr, qq⟩ := rMapset_holds k
  have hex : execOp a.eval o = (do Instr.mapUpdate t (a.eval x1) (a.eval x2) (a.eval x3); pure Next.skip) := by unfold execOp; rcases ho with ho | ho <;> rw [ho]
  rw [hex]
  obtain ⟨i, kt, e, ht, hd, hk, hl, he, hcov⟩ := cMap_some hq
  have hu := T.und t i ht
  rw [hd] at hu
  unfold amapset at hr
  split at hr
  · rename_i b hb
    cases hc : and (keyOk q.1.isAgg q.1.size q.2.1 (ev tm y2)) (notBad (ev tm y3)) with
    | false => rw [hc] at hr; cases hr
    | true =>
      rw [hc, cond_true] at hr
      obtain ⟨hko, hnb⟩ := Bool.and_eq_true_iff.1 hc
      have hkv := opd_some HT h2 (keyOk_nb hko (leaves_ne hk hl)) HH.glob
      have hvv := opd_some HT h3 hnb HH.glob
      have hmv := opd_some HT h1 (by rw [hb]; rfl) HH.glob
      rw [hb] at hmv
      obtain ⟨qq', hqq, hmv'⟩ := map_conc hmv
      have hck := key_check T w false hk hl hko hkv
      split at hr
      · rename_i es clock hg
        obtain ⟨ms, h0, hms, hheap⟩ := HH.mapAt hg hqq
        have pre : ∀ {r' : Option (Nat × Value)}, (Instr.findKey kt (a.eval x2) ms).run p.P w = .ok r' w → (Instr.mapUpdate t (a.eval x1) (a.eval x2) (a.eval x3)).run p.P w =
            (match r' with
            | some pr => (do
              let key ← Instr.keyThatStays (((ms.toArray[pr.1]?).map (·.key)).getD (a.eval x2)) (a.eval x2)
              setObj qq'.1 (.map (ms.toArray.modify pr.1 fun e => { e with key, val := a.eval x3 }) clock) : Sem Unit).run p.P w
            | none => (setObj qq'.1 (.map (ms.toArray.push { key := a.eval x2, val := a.eval x3, born := clock }) (clock + 1))).run p.P w) := by
          intro r' hrun
          rw [hmv']
          have hf' : (Instr.findKey kt (a.eval x2) ms.toArray.toList).run p.P w = .ok r' w := by simpa using hrun
          unfold Instr.mapUpdate
          simp only [Sem.run_bind, run_underlying hu, Result.andThen_ok, run_getObj hheap (by simp), hck, hf']
          cases r' with
          | none => rfl
          | some pr => simp only [Sem.run_bind]
        split at hr
        · rename_i pr hf
          cases hr
          obtain ⟨r', hfa, hrun⟩ := findKey_ok T w hk hl hkv hms hf
          cases r' with
          | none => exact hfa.elim
          | some pv =>
            obtain ⟨e', _, he1, he2⟩ := find_at hf
            obtain ⟨m, hm1, hm2⟩ := concE_get hms he1
            obtain ⟨hs, _⟩ := same_key hk hl hcov he2 hkv hm2
            rw [Nat.sub_zero, hfa.1] at hm1
            have hold : ((ms.toArray[pv.1]?).map (·.key)).getD (a.eval x2) = m.key := by simp [hm1]
            refine does_unit (w' := { w with heap := w.heap.setIfInBounds qq'.1 (.map (ms.toArray.modify pv.1 fun e => { e with key := a.eval x2, val := a.eval x3 }) clock) }) ?_ ?_
            · rw [pre hrun]
              simp only [hold]
              unfold Instr.keyThatStays
              simp only [hs, if_true, Sem.run_bind, pure, Sem.run, Result.andThen_ok]
              exact run_setMap _ hheap
            · refine P _ _ E _ undef qq (Env.le.refl E) ?_ rfl
              rw [hfa.1]
              refine HH.setMap hg hqq (concE_mod hkv hvv pv.1 hms) ?_
              apply Array.ext'
              simp
        · rename_i hf
          cases hr
          obtain ⟨r', hfa, hrun⟩ := findKey_ok T w hk hl hkv hms hf
          cases r' with
          | some pv => exact hfa.elim
          | none =>
            refine does_unit (w' := { w with heap := w.heap.setIfInBounds qq'.1 (.map (ms.toArray.push { key := a.eval x2, val := a.eval x3, born := clock }) (clock + 1)) }) ?_ ?_
            · rw [pre hrun]
              exact run_setMap _ hheap
            · refine P _ _ E _ undef qq (Env.le.refl E) ?_ rfl
              rw [lApp_eq]
              refine HH.setMap hg hqq (concE_app (f := [(ev tm y2, ev tm y3, clock)]) (n := [{ key := a.eval x2, val := a.eval x3, born := clock }]) ⟨hkv, hvv, rfl, trivial⟩ hms) ?_
              apply Array.ext'
              simp
        · cases hr
      · cases hr
  · cases hr

end Go.Sx
