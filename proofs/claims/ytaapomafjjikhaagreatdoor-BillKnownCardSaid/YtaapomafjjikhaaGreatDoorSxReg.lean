/- REGIONS IN THE ORDER OF THEIR LIST. -/
import Derived.Test.YtaapomafjjikhaaGreatDoorSxApp
import Derived.TacticsIn
import Derived.LoopNIn
import Derived.RangeFuncLeaves
import Derived.OrdersIn
/-! EVERY INSTRUCTION THAT THE COMPILER MAKES STANDS FOR ITS OPERATION. -/
namespace Go.Sx
open Go.RowKit

theorem func_conc' {E : Env} {f : FuncId} {x y : List AV} {v : Value} (h : conc E (.func (.func f) x y) = some v) : ∃ a b, concL E x = some a ∧ concL E y = some b ∧ v = .func (.func f) a.toArray b.toArray := by
  simp only [conc] at h
  cases hx : concL E x with
  | none => rw [hx] at h; simp at h
  | some l =>
    cases hy : concL E y with
    | none => rw [hx, hy] at h; simp at h
    | some m => rw [hx, hy] at h; simp at h; exact ⟨l, m, rfl, rfl, h.symm⟩

theorem call_ok {p : Par} {c : Call} {f : Operand} {yf : Opd} {ys : List Opd} (hf : cOpd f = some yf) (hys : cOpds c.args.toList = some ys) (hc : c.callee = .value f) {o : Oper} (ho : o.op = .call c) : InsOk p (iCall yf ys) o := by
  intro cx n keep E w0 tm h a w Q K CX HT HH k P
  simp only [iCall, rCall] at k
  cases hb : lAll notBad (evs tm ys) with
  | false => rw [hb] at k; exact k.elim
  | true =>
    rw [hb, cond_true] at k
    have hargs := cOpds_some HT HH.glob hys hb
    have hex : (execOp a.eval o).run p.P w = (do let d ← Deferred.ofValue (a.eval f) (c.args.map a.eval); invoke d.target d.args : Sem Next).run p.P w := by
      unfold execOp
      rw [ho]
      unfold resolve
      simp only [hc]
    rw [hex]
    unfold callA at k
    split at k
    · rename_i fn first captured he
      split at k
      · rename_i fid
        have hv := opd_some HT hf (by rw [he]; rfl) HH.glob
        rw [he] at hv
        obtain ⟨l1, l2, e1, e2, hv'⟩ := func_conc' hv
        rw [hv']
        rw [run_bind_ok (a := { target := .fn (.func fid) l2.toArray, args := l1.toArray ++ c.args.map a.eval }) (w' := w) rfl]
        have : (invoke (.fn (.func fid) l2.toArray) (l1.toArray ++ c.args.map a.eval)).run p.P w = (callFunc fid ((l1.toArray ++ c.args.map a.eval) ++ l2.toArray)).run p.P w := rfl
        rw [this]
        have harr : ((l1.toArray ++ c.args.map a.eval) ++ l2.toArray) = (l1 ++ (c.args.toList.map a.eval ++ l2)).toArray := by
          apply Array.ext'
          simp
        rw [harr]
        rw [lApp_eq, lApp_eq] at k
        obtain ⟨hc1, hc2⟩ := CX.call fid _ h _ E w0 w Q K k HH (concL_app e1 (concL_app hargs e2)) P
        rw [hc1]
        exact hc2
      · exact k.elim
    · rename_i l he
      have hv := opd_some HT hf (by rw [he]; rfl) HH.glob
      rw [he] at hv
      obtain ⟨q, hq, hv'⟩ := yield_conc hv
      rw [hv']
      rw [run_bind_ok (a := { target := .fn (.yield q.1) #[], args := #[] ++ c.args.map a.eval }) (w' := w) rfl]
      have : (invoke (.fn (.yield q.1) #[]) (#[] ++ c.args.map a.eval)).run p.P w = (Instr.yield q.1 (#[] ++ c.args.map a.eval)).run p.P w := rfl
      rw [this]
      have harr : (#[] ++ c.args.map a.eval) = (c.args.toList.map a.eval).toArray := by
        apply Array.ext'
        simp
      rw [harr]
      exact CX.yield l _ h _ E w0 w Q K q k HH hargs hq P
    · exact k.elim

theorem cCall_ok {p : Par} {ty : Nat → Option TI} (T : TyOk p.P ty) {c : Call} {f : Ins} (h : cCall ty c = some f) {o : Oper} (ho : o.op = .call c) : InsOk p f o := by
  unfold cCall at h
  split at h
  · cases h
  · rename_i args hargs
    split at h
    · rename_i g hg
      split at h
      · rename_i yg hyg
        cases h
        exact call_ok hyg hargs hg ho
      · cases h
    · cases h
    · rename_i b hb
      split at h
      · -- len
        split at h
        · rename_i t ts x hts
          have hone : ∃ z, c.args.toList = [z] ∧ cOpd z = some x := by
            cases hl : c.args.toList with
            | nil => rw [hl] at hargs; cases hargs
            | cons z l =>
              rw [hl] at hargs
              simp only [cOpds] at hargs
              cases hz : cOpd z with
              | none => rw [hz] at hargs; cases hargs
              | some y =>
                cases hl' : cOpds l with
                | none => rw [hz, hl'] at hargs; cases hargs
                | some m =>
                  rw [hz, hl'] at hargs
                  cases hargs
                  cases l with
                  | nil => exact ⟨z, rfl, hz⟩
                  | cons z' l' =>
                    simp only [cOpds] at hl'
                    split at hl' <;> cases hl'
          obtain ⟨z, hz1, hz2⟩ := hone
          split at h
          · rename_i i hi
            split at h
            · rename_i n e hd; cases h; exact lenA_ok T hts hi hd hz1 hb ho
            · rename_i e hd; cases h; exact lenS_ok T hts hi hd hz1 hz2 hb ho
            · rename_i k e hd; cases h; exact lenM_ok T hts hi hd hz1 hz2 hb ho
            · cases h
          · cases h
        · cases h
      · cases h2 : Nat.ble 2 args.length with
        | false => rw [h2] at h; cases h
        | true => rw [h2] at h; cases h; exact max_ok hargs (ble_t.1 h2) hb ho
      · cases h2 : Nat.ble 2 args.length with
        | false => rw [h2] at h; cases h
        | true => rw [h2] at h; cases h; exact min_ok hargs (ble_t.1 h2) hb ho
      · split at h
        · rename_i t u s x hts
          have htwo : ∃ z1 z2, c.args.toList = [z1, z2] ∧ cOpd z1 = some s ∧ cOpd z2 = some x := by
            cases hl : c.args.toList with
            | nil => rw [hl] at hargs; cases hargs
            | cons z1 l =>
              rw [hl] at hargs
              simp only [cOpds] at hargs
              split at hargs
              · rename_i y1 m h1 h2
                cases hargs
                cases l with
                | nil => cases h2
                | cons z2 l =>
                  simp only [cOpds] at h2
                  split at h2
                  · rename_i y2 m' h3 h4
                    cases h2
                    cases l with
                    | nil => exact ⟨z1, z2, rfl, h1, h3⟩
                    | cons z3 l =>
                      simp only [cOpds] at h4
                      split at h4 <;> cases h4
                  · cases h2
              · cases hargs
          obtain ⟨z1, z2, hz1, hz2, hz3⟩ := htwo
          split at h
          · rename_i i iu hi hiu
            split at h
            · rename_i e e' hd hdu
              split at h
              · rename_i j hj
                split at h
                · rename_i z hz; cases h; exact append_ok T hts hi hd hiu hdu hj hz hz1 hz2 hz3 hb ho
                · cases h
              · cases h
            · cases h
          · cases h
        · cases h
      · split at h
        · rename_i t u s x hts
          have htwo : ∃ z1 z2, c.args.toList = [z1, z2] ∧ cOpd z1 = some s ∧ cOpd z2 = some x := by
            cases hl : c.args.toList with
            | nil => rw [hl] at hargs; cases hargs
            | cons z1 l =>
              rw [hl] at hargs
              simp only [cOpds] at hargs
              split at hargs
              · rename_i y1 m h1 h2
                cases hargs
                cases l with
                | nil => cases h2
                | cons z2 l =>
                  simp only [cOpds] at h2
                  split at h2
                  · rename_i y2 m' h3 h4
                    cases h2
                    cases l with
                    | nil => exact ⟨z1, z2, rfl, h1, h3⟩
                    | cons z3 l =>
                      simp only [cOpds] at h4
                      split at h4 <;> cases h4
                  · cases h2
              · cases hargs
          obtain ⟨z1, z2, hz1, hz2, hz3⟩ := htwo
          split at h
          · rename_i i hi
            split at h
            · rename_i e hd
              split at h
              · rename_i j hj
                cases h; exact copy_ok T hts hi hd hj hz1 hz2 hz3 hb ho
              · cases h
            · cases h
          · cases h
        · cases h
      · cases h

theorem cBin_ok {p : Par} {ty : Nat → Option TI} (T : TyOk p.P ty) {op : BinOp} {t t' : TypeId} {x1 x2 : Operand} {y1 y2 : Opd} (h1 : cOpd x1 = some y1) (h2 : cOpd x2 = some y2) {f : Ins} (h : cBin ty op t y1 y2 = some f) {o : Oper} (ho : o.op = .binOp op t x1 x2 t') : InsOk p f o := by
  unfold cBin at h
  split at h
  · cases h; exact shift_ok (.inl rfl) h1 h2 ho
  · cases h; exact shift_ok (.inr rfl) h1 h2 ho
  · cases h; exact cmp_ok h1 h2 ho
  · cases h; exact cmp_ok h1 h2 ho
  · cases h; exact cmp_ok h1 h2 ho
  · cases h; exact cmp_ok h1 h2 ho
  · split at h
    · rename_i i hi
      cases hint : isInt i with
      | true => rw [hint] at h; cases h; exact cmp_ok h1 h2 ho
      | false =>
        rw [hint, cond_false] at h
        split at h
        · rename_i ls hls; cases h; exact eq_ok (ng := false) T hi hint hls h1 h2 (by rw [ho]; rfl)
        · cases h
    · cases h
  · split at h
    · rename_i i hi
      cases hint : isInt i with
      | true => rw [hint] at h; cases h; exact cmp_ok h1 h2 ho
      | false =>
        rw [hint, cond_false] at h
        split at h
        · rename_i ls hls; cases h; exact eq_ok (ng := true) T hi hint hls h1 h2 (by rw [ho]; rfl)
        · cases h
    · cases h
  · rename_i n1 n2 n3 n4 n5 n6 n7 n8
    cases h
    refine arith_ok ?_ h1 h2 ho
    cases op <;> first | rfl | (exfalso; simp at *; done)

theorem places_ok {P : Program} {ty : Nat → Option TI} (T : TyOk P ty) : ∀ (fs : List Field), (fs.all fun f => (ty f.type).isSome) = true →
    ∃ places, fs.mapM (fun f => (P.info? f.type).map fun i => (f.offset, i.size)) = some places ∧ ∀ i, places[i]? = placeF ty fs i
  | [], _ => ⟨[], rfl, fun i => by simp [placeF]⟩
  | f :: fs, h => by
    simp only [List.all_cons, Bool.and_eq_true] at h
    obtain ⟨l, hl, hp⟩ := places_ok T fs h.2
    cases ht : ty f.type with
    | none => rw [ht] at h; cases h.1
    | some j =>
      obtain ⟨i, hi, hs, _, _⟩ := T.info _ _ ht
      refine ⟨(f.offset, j.size) :: l, by simp [List.mapM_cons, hi, hl, hs], fun n => ?_⟩
      cases n with
      | zero => simp [placeF, ht]
      | succ n => rw [List.getElem?_cons_succ, hp n]; simp [placeF]

theorem cBuild_ok {p : Par} {ty : Nat → Option TI} (T : TyOk p.P ty) {t : Nat} {parts : Array (Nat × Operand)} {f : Ins} (h : cBuild ty t parts.toList = some f) {o : Oper} (ho : o.op = .build t parts) : InsOk p f o := by
  unfold cBuild at h
  split at h
  · rename_i i hi
    split at h
    · rename_i z hz
      split at h
      · rename_i fs hd
        cases ha : (fs.toList.all fun f => (ty f.type).isSome) with
        | false => rw [ha] at h; cases h
        | true =>
          rw [ha, cond_true] at h
          cases hp : cParts (placeF ty fs.toList) parts.toList with
          | none => rw [hp] at h; cases h
          | some ps =>
            rw [hp, Option.map_some, Option.some.injEq] at h
            subst h
            refine build_ok T hi hz hp ?_ ho
            rintro v l cs ⟨j, hj, hv⟩ hf
            obtain ⟨places, hp1, hp2⟩ := places_ok T fs.toList ha
            have hu := T.und t i hi
            rw [hd] at hu
            unfold Program.built
            rw [hj, hu]
            simp only [hv, hp1]
            rw [← hf]
            congr 1
            funext n
            simp [hp2]
      · rename_i n e hd
        split at h
        · rename_i j hj
          cases hp : cParts (fun n => some (n * j.size, j.size)) parts.toList with
          | none => rw [hp] at h; cases h
          | some ps =>
            rw [hp, Option.map_some, Option.some.injEq] at h
            subst h
            refine build_ok T hi hz hp ?_ ho
            rintro v l cs ⟨k, hk, hv⟩ hf
            obtain ⟨i', hi', hs, _, _⟩ := T.info _ _ hj
            have hu := T.und t i hi
            rw [hd] at hu
            unfold Program.built
            rw [hk, hu]
            simp only [hv, hi', hs]
            exact hf
        · cases h
      · cases h
    · cases h
  · cases h

theorem cBslice_ok {p : Par} {ty : Nat → Option TI} (T : TyOk p.P ty) {t len : Nat} {parts : Array (Nat × Operand)} {f : Ins} (h : cBslice ty t len parts.toList = some f) {o : Oper} (ho : o.op = .buildSlice t len parts) : InsOk p f o := by
  unfold cBslice at h
  split at h
  · rename_i i hi
    split at h
    · rename_i e hd
      split at h
      · rename_i j hj
        split at h
        · rename_i z hz
          cases hb : Nat.ble (len * j.size) 1000000 with
          | false => rw [hb] at h; cases h
          | true =>
            rw [hb, cond_true] at h
            cases hp : cParts (fun n => some (n * j.size, j.size)) parts.toList with
            | none => rw [hp] at h; cases h
            | some ps =>
              rw [hp, Option.map_some, Option.some.injEq] at h
              subst h
              exact bslice_ok T hi hd hj hz (ble_t.1 hb) hp ho
        · cases h
      · cases h
    · cases h
  · cases h

theorem cMkslice_ok {p : Par} {ty : Nat → Option TI} (T : TyOk p.P ty) {t : Nat} {x1 x2 : Operand} {y1 y2 : Opd} (h1 : cOpd x1 = some y1) (h2 : cOpd x2 = some y2) {f : Ins} (h : cMkslice ty t y1 y2 = some f) {o : Oper} (ho : o.op = .makeSlice t x1 x2) : InsOk p f o := by
  unfold cMkslice at h
  split at h
  · rename_i i hi
    split at h
    · rename_i e hd
      split at h
      · rename_i j hj
        split at h
        · rename_i z hz
          cases h
          exact mkslice_ok T hi hd hj hz h1 h2 ho
        · cases h
      · cases h
    · cases h
  · cases h

theorem cSlice_ok {p : Par} {ty : Nat → Option TI} (T : TyOk p.P ty) {t : Nat} {x : Operand} {y : Opd} (hx : cOpd x = some y) {lo hi mx : Option Operand} {ylo yhi ymx : Option Opd} (h1 : cOpt lo = some ylo) (h2 : cOpt hi = some yhi) (h3 : cOpt mx = some ymx)
    {f : Ins} (h : cSlice ty t y ylo yhi ymx = some f) {o : Oper} (ho : o.op = .slice t x lo hi mx) : InsOk p f o := by
  have iso : ∀ {z : Option Operand} {u : Option Opd}, cOpt z = some u → z.isSome = u.isSome := fun {z u} e => by
    cases z with
    | none => simp only [cOpt, Option.some.injEq] at e; subst e; rfl
    | some z =>
      simp only [cOpt, Option.map_eq_some_iff] at e
      obtain ⟨b, _, rfl⟩ := e
      rfl
  unfold cSlice at h
  cases hc : (ymx.isNone || yhi.isSome) with
  | false => rw [hc] at h; cases h
  | true =>
    rw [hc, cond_true] at h
    have hmx : mx.isSome = true → hi.isSome = true := by
      rw [iso h3, iso h2]
      intro hm
      cases ymx with
      | none => cases hm
      | some m => simpa using hc
    split at h
    · rename_i i ht
      split at h
      · rename_i e hd
        split at h
        · rename_i j hj
          cases hb : Nat.ble 1 j.size with
          | false => rw [hb] at h; cases h
          | true =>
            rw [hb, cond_true, Option.some.injEq] at h
            subst h
            exact slice_ok T ht hd hj hx h1 h2 h3 hmx ho
        · cases h
      · rename_i n e hd
        split at h
        · rename_i j hj
          cases h
          exact sliceA_ok T ht hd hj hx h1 h2 h3 hmx ho
        · cases h
      · cases h
    · cases h

theorem cIaddr_ok {p : Par} {ty : Nat → Option TI} (T : TyOk p.P ty) {t : Nat} {x1 x2 : Operand} {y1 y2 : Opd} (h1 : cOpd x1 = some y1) (h2 : cOpd x2 = some y2) {f : Ins} (h : cIaddr ty t y1 y2 = some f) {o : Oper} (ho : o.op = .indexAddr t x1 x2) : InsOk p f o := by
  unfold cIaddr at h
  split at h
  · rename_i i hi
    split at h
    · rename_i e hd
      split at h
      · rename_i j hj; cases h; exact iaddr_ok T hi hd hj h1 h2 ho
      · cases h
    · rename_i n e hd
      split at h
      · rename_i j hj; cases h; exact iaddrA_ok T hi hd hj h1 h2 ho
      · cases h
    · cases h
  · cases h

theorem cIndex_ok {p : Par} {ty : Nat → Option TI} (T : TyOk p.P ty) {t : Nat} {x1 x2 : Operand} {y1 y2 : Opd} (h1 : cOpd x1 = some y1) (h2 : cOpd x2 = some y2) {f : Ins} (h : cIndex ty t y1 y2 = some f) {o : Oper} (ho : o.op = .index t x1 x2) : InsOk p f o := by
  unfold cIndex at h
  split at h
  · rename_i i hi
    split at h
    · rename_i n e hd
      split at h
      · rename_i j hj; cases h; exact index_ok T hi hd hj h1 h2 ho
      · cases h
    · cases h
  · cases h

/-- EVERY OPERATION THAT IS COMPILED. -/
theorem cOp_ok {p : Par} {ty : Nat → Option TI} (T : TyOk p.P ty) {o : Oper} {f : Ins} (h : cOp ty o.op = some f) : InsOk p f o := by
  generalize hop : o.op = op at h
  cases op with
  | move x => obtain ⟨y, hy, hk⟩ := with1_some h; cases hk; exact mov_ok hy (.inl hop)
  | assign x => obtain ⟨y, hy, hk⟩ := with1_some h; cases hk; exact mov_ok hy (.inr hop)
  | pick c a b => obtain ⟨y1, y2, y3, e1, e2, e3, hk⟩ := with3_some h; cases hk; exact pick_ok e1 e2 e3 hop
  | alloc t =>
    simp only [cOp] at h
    split at h
    · rename_i i hi
      cases hz : zeroOf i with
      | none => rw [hz] at h; cases h
      | some z => rw [hz] at h; cases h; exact alloc_ok T hi hz hop
    · cases h
  | box t x => obtain ⟨y, hy, hk⟩ := with1_some h; cases hk; exact box_ok hy hop
  | build t ps => exact cBuild_ok T h hop
  | buildSlice t len ps => exact cBslice_ok T h hop
  | load t x =>
    obtain ⟨y, hy, hk⟩ := with1_some h
    split at hk
    · rename_i i hi
      cases ha : i.isAgg with
      | true => rw [ha] at hk; cases hk; exact loadN_ok T hi ha hy hop
      | false => rw [ha] at hk; cases hk; exact load_ok T hi ha hy hop
    · cases hk
  | store t a x =>
    obtain ⟨y1, y2, e1, e2, hk⟩ := with2_some h
    split at hk
    · rename_i i hi; cases hk; exact store_ok T hi e1 e2 hop
    · cases hk
  | binOp op t x y t' => obtain ⟨y1, y2, e1, e2, hk⟩ := with2_some h; exact cBin_ok T e1 e2 hk hop
  | unOp op t x =>
    obtain ⟨y, hy, hk⟩ := with1_some h
    split at hk
    · cases hk; exact not_ok hy hop
    · cases hk; exact neg_ok hy hop
    · cases hk
  | convert s d x =>
    obtain ⟨y, hy, hk⟩ := with1_some h
    split at hk
    · rename_i i k hi hc; cases hk; exact conv_ok T hc hy ⟨_, T.und _ _ hi⟩ hop
    · cases hk
  | makeFunc fn first captured =>
    simp only [cOp] at h
    cases hn : notYield fn with
    | false => rw [hn] at h; cases h
    | true =>
      rw [hn, cond_true] at h
      split at h
      · rename_i a b ha hb; cases h; exact func_ok hn ha hb hop
      · cases h
  | makeMap t r =>
    simp only [cOp] at h
    split at h
    · cases h; exact mkmap_ok hop
    · cases h
  | makeSlice t l c => obtain ⟨y1, y2, e1, e2, hk⟩ := with2_some h; exact cMkslice_ok T e1 e2 hk hop
  | slice t x lo hi mx =>
    simp only [cOp] at h
    split at h
    · rename_i y l u m h1 h2 h3 h4; exact cSlice_ok T h1 h2 h3 h4 h hop
    · cases h
  | fieldAddr t x f =>
    obtain ⟨y, hy, hk⟩ := with1_some h
    split at hk
    · rename_i q hq
      cases hb : Nat.ble 1 q.2.size with
      | false => rw [hb] at hk; cases hk
      | true => rw [hb] at hk; cases hk; exact faddr_ok T hq (ble_t.1 hb) hy hop
    · cases hk
  | field t x f =>
    obtain ⟨y, hy, hk⟩ := with1_some h
    split at hk
    · rename_i q hq; cases hk; exact field_ok T hq hy hop
    · cases hk
  | indexAddr t x ix => obtain ⟨y1, y2, e1, e2, hk⟩ := with2_some h; exact cIaddr_ok T e1 e2 hk hop
  | index t x ix => obtain ⟨y1, y2, e1, e2, hk⟩ := with2_some h; exact cIndex_ok T e1 e2 hk hop
  | lookup t x k ok =>
    obtain ⟨y1, y2, e1, e2, hk⟩ := with2_some h
    split at hk
    · rename_i q hq
      split at hk
      · rename_i z hz; cases hk; exact lookup_ok T hq hz e1 e2 hop
      · cases hk
    · cases hk
  | mapUpdate t m k v =>
    obtain ⟨y1, y2, y3, e1, e2, e3, hk⟩ := with3_some h
    split at hk
    · rename_i q hq; cases hk; exact mapset_ok T hq e1 e2 e3 (.inl hop)
    · cases hk
  | insert t m k v =>
    obtain ⟨y1, y2, y3, e1, e2, e3, hk⟩ := with3_some h
    split at hk
    · rename_i q hq; cases hk; exact mapset_ok T hq e1 e2 e3 (.inr hop)
    · cases hk
  | extract t ix => obtain ⟨y, hy, hk⟩ := with1_some h; cases hk; exact extract_ok hy hop
  | call c => exact cCall_ok T h hop
  | _ => cases h

end Go.Sx
/-! REGIONS IN THE ORDER OF THEIR LIST. -/
namespace Go.Sx
open Go.RowKit

theorem fence_all (rd : Option Nat) (o : Option FuncId) : ∀ f, o = some f → (fence rd).fn f := fun f _ => fence_fn rd f

theorem not_defer {ty : Nat → Option TI} {o : Oper} {f : Ins} (h : cOp ty o.op = some f) (c : Call) : o.op ≠ .defer c := by
  intro e; rw [e] at h; cases h
theorem not_select {ty : Nat → Option TI} {o : Oper} {f : Ins} (h : cOp ty o.op = some f) (c : Array SelectCase) (b : Bool) : o.op ≠ .select c b := by
  intro e; rw [e] at h; cases h

theorem cOper_some {ty : Nat → Option TI} {n : Nat} {keep : List Nat} {ops : List Oper} {o : Oper} {c : CI} (h : cOper ty n keep ops o = some c) :
    ∃ f g, cOp ty o.op = some f ∧ cGuard ops o.guard = some g ∧ okDst n o.dst = true ∧ c = ⟨o.dst, memN keep o.dst, g, f⟩ := by
  unfold cOper at h
  split at h
  · rename_i f g hf hg
    cases hd : okDst n o.dst with
    | false => rw [hd] at h; cases h
    | true => rw [hd] at h; cases h; exact ⟨f, g, hf, hg, rfl, rfl⟩
  · cases h

theorem TmOk.setDst {n : Nat} {keep : List Nat} {E : Env} {tm : Tm} {a : Act} (H : TmOk n keep E tm a.tmps) {dst : Option Nat} (hd : okDst n dst = true) {v : AV} {cv : Value} (hv : conc E v = some cv) :
    TmOk n keep E (setDst tm dst (memN keep dst) v) (a.put dst cv).tmps := by
  cases dst with
  | none => exact H
  | some d => exact H.put (ble_t.1 hd) hv

theorem guardOf_some {n : Nat} {keep : List Nat} {E : Env} {tm : Tm} {arr : Array Value} (H : TmOk n keep E tm arr) {ops : Array Oper} {j d : Nat} {want : Bool} (hd : (ops[j]?).bind (·.dst) = some d) {c : BE} (hc : guardOf tm (d, want) = some c) :
    (yielded ops arr j == some want) = c.den E.ρ := by
  unfold guardOf at hc
  unfold yielded
  rw [hd]
  split at hc
  · rename_i b hb
    obtain ⟨v, h1, h2⟩ := H.look hb
    simp only [conc, Option.some.injEq] at h1
    subst h1
    cases hc
    simp only [Option.bind_some, h2]
    cases want with
    | true => simp
    | false => simp [mkNot_den]
  · rename_i hb
    obtain ⟨v, h1, h2⟩ := H.look hb
    simp only [conc, concL, Option.map_some, Option.some.injEq] at h1
    subst h1
    cases hc
    simp only [Option.bind_some, h2]
    rfl
  · cases hc

/-- ONE OPERATION OF A REGION, WANTED OR NOT. -/
theorem oper_ok {p : Par} {ty : Nat → Option TI} (TT : TyOk p.P ty) {n : Nat} {keep : List Nat} {ops : Array Oper} {o : Oper} {c : CI} (hc : cOper ty n keep ops.toList o = some c)
    {cx : Cx} (CX : CxOk p cx) {E : Env} {w0 : Base} {w : World} {tm : Tm} {h : Heap} {a : Act} (HT : TmOk n keep E tm a.tmps) (HH : HeapOk p E h w0 w) {Q : AV × Heap → Prop} (k : (runC cx tm h c).Holds E.ρ Q)
    {rd : Option Nat} {next : Act → World → Prop} {Q' : Exit → Act → World → Prop} (P : Post p E w0 Q fun v w' => next (a.put o.dst v) w') :
    if Region.wanted o (yielded ops a.tmps) then o.wpIn (fence rd) 0 p.P a w next Q' else (∀ f, o.about p.P w a.eval = some f → (fence rd).fn f) ∧ next (a.put o.dst undef) w := by
  obtain ⟨f, g, hf, hg, hd, rfl⟩ := cOper_some hc
  have yes : (f cx tm h).Holds E.ρ Q → o.wpIn (fence rd) 0 p.P a w next Q' := fun k => by
    refine ⟨fence_all rd _, ?_⟩
    rw [Oper.semAt_eq _ _ _ (not_defer hf)]
    exact Does.upon (cOp_ok TT hf cx n keep E w0 tm h a w Q _ CX HT HH k P)
  unfold runC at k
  cases hgo : o.guard with
  | none =>
    rw [hgo] at hg
    cases hg
    rw [show Region.wanted o (yielded ops a.tmps) = true from by unfold Region.wanted; rw [hgo], if_pos rfl]
    exact yes k
  | some q =>
    obtain ⟨j, want⟩ := q
    rw [hgo] at hg
    simp only [cGuard] at hg
    cases hb : (ops.toList[j]?).bind (·.dst) with
    | none => rw [hb] at hg; cases hg
    | some d =>
      rw [hb] at hg
      cases hg
      simp only at k
      cases hcb : guardOf tm (d, want) with
      | none => rw [hcb] at k; exact k.elim
      | some cb =>
        rw [hcb] at k
        simp only [T.holds_ite] at k
        have hw : Region.wanted o (yielded ops a.tmps) = cb.den E.ρ := by
          unfold Region.wanted
          rw [hgo]
          exact guardOf_some HT (by simpa using hb) hcb
        rw [hw]
        cases hden : cb.den E.ρ with
        | true => rw [hden] at k; rw [if_pos rfl]; exact yes k
        | false =>
          rw [hden] at k
          rw [if_neg (by simp)]
          exact ⟨fence_all rd _, P undefA h E w undef k (Env.le.refl E) HH rfl⟩

/-- the same value, whatever is not known being as said -/
def Same (ρ : Rho) (v u : AV) : Prop := ∀ E : Env, E.ρ = ρ → conc E v = conc E u
theorem Same.refl (ρ : Rho) (v : AV) : Same ρ v v := fun _ _ => rfl

theorem fork_br {β : Type} {ρ : Rho} {c : BE} {k : AV → T β} {Q : β → Prop} (h : (T.br c (k (.bool (.lit true))) (k (.bool (.lit false)))).Holds ρ Q) : ∃ v', (k v').Holds ρ Q ∧ Same ρ v' (.bool c) := by
  cases hc : c.den ρ with
  | true =>
    rw [T.Holds, hc, if_pos rfl] at h
    exact ⟨_, h, fun E e => by simp only [conc, BE.den, e, hc]⟩
  | false =>
    rw [T.Holds, hc, if_neg (by simp)] at h
    exact ⟨_, h, fun E e => by simp only [conc, BE.den, e, hc]⟩

theorem holds_fork {β : Type} {ρ : Rho} {v : AV} {k : AV → T β} {Q : β → Prop} (h : (fork v k).Holds ρ Q) : ∃ v', (k v').Holds ρ Q ∧ Same ρ v' v := by
  cases v with
  | bool c => cases c with
    | lit b => exact ⟨_, h, Same.refl _ _⟩
    | _ => exact fork_br h
  | _ => exact ⟨_, h, Same.refl _ _⟩

theorem runOps_cons (cx : Cx) (o : CI) (l : List CI) (tm : Tm) (h : Heap) : runOps cx (o :: l) tm h = (runC cx tm h o).bind fun r => fork r.1 fun v => runOps cx l (setDst tm o.dst o.keep v) r.2 := rfl

theorem region_ok {p : Par} {ty : Nat → Option TI} (TT : TyOk p.P ty) {n : Nat} {keep : List Nat} {ops : Array Oper} {cx : Cx} (CX : CxOk p cx) {w0 : Base} {rd : Option Nat} {Q' : Exit → Act → World → Prop} {Q : Tm × Heap → Prop} {ds : List Deferred} {sz : Nat} :
    ∀ (l : List Oper) (cs : List CI), cOpers ty n keep ops.toList l = some cs → ∀ (E : Env) (w : World) (tm : Tm) (h : Heap) (a : Act), TmOk n keep E tm a.tmps → HeapOk p E h w0 w → (runOps cx cs tm h).Holds E.ρ Q → a.defers = ds → a.tmps.size = sz →
      (∀ E' w' tm' h' a', Q (tm', h') → E.le E' → HeapOk p E' h' w0 w' → TmOk n keep E' tm' a'.tmps → a'.defers = ds → a'.tmps.size = sz → Q' .normal a' w') → wpListIn (fence rd) 0 p.P ops Q' l a w
  | [], cs, hcs, E, w, tm, h, a, HT, HH, k, hds, hsz, P => by
    cases hcs
    exact P E w tm h a k (Env.le.refl E) HH HT hds hsz
  | o :: l, cs, hcs, E, w, tm, h, a, HT, HH, k, hds, hsz, P => by
    simp only [cOpers] at hcs
    split at hcs
    · rename_i c cl hc hcl
      cases hcs
      rw [runOps_cons] at k
      rw [T.holds_bind] at k
      obtain ⟨f, g, hf, hg, hd, hce⟩ := cOper_some hc
      unfold wpListIn
      refine oper_ok TT hc CX HT HH k ?_
      intro v0 h' E' w' cv q0 hle HH' hv0
      obtain ⟨v, q, hsame⟩ := holds_fork q0
      have hv : conc E' v = some cv := by rw [hsame E' hle.ρ]; exact hv0
      have HT' := (HT.mono hle).setDst hd hv
      have hk : c.keep = memN keep o.dst := by rw [hce]
      have hdst : c.dst = o.dst := by rw [hce]
      rw [hdst, hk] at q
      refine region_ok TT CX l cl hcl E' w' _ h' (a.put o.dst cv) HT' HH' (by rw [hle.ρ]; exact q) ?_ ?_ fun E2 w2 tm2 h2 a2 q2 hle2 HH2 HT2 => P E2 w2 tm2 h2 a2 q2 (hle.trans hle2) HH2 HT2
      · cases o.dst <;> exact hds
      · cases hdd : o.dst with
        | none => exact hsz
        | some d => simp [Act.put, hsz]
    · cases hcs

/-! ## Code: what is asked -/
def DfOk (E : Env) : List Nat → List Deferred → Prop
  | [], [] => True
  | b :: l, d :: ds => (∃ c, E.σ b = some (c, 0) ∧ d.target = .collected c) ∧ DfOk E l ds
  | _, _ => False
theorem DfOk.mono {E E' : Env} (le : E.le0 E') : ∀ (l : List Nat) (ds : List Deferred), DfOk E l ds → DfOk E' l ds
  | [], [], _ => trivial
  | _ :: l, _ :: ds, ⟨⟨c, h1, h2⟩, h3⟩ => ⟨⟨c, le.σ _ _ h1, h2⟩, DfOk.mono le l ds h3⟩
  | [], _ :: _, h => h.elim
  | _ :: _, [], h => h.elim

def RdOk (E : Env) (x : Option Nat) (rd : Option Nat) : Prop :=
  match x, rd with
  | none, none => True
  | some b, some l => E.σ b = some (l, 0)
  | _, _ => False
theorem RdOk.mono {E E' : Env} (le : E.le E') {x rd : Option Nat} (h : RdOk E x rd) : RdOk E' x rd := by
  cases x <;> cases rd <;> first | exact h | exact le.σ _ _ h

def exOf (x : Ex) : Exit :=
  match x with
  | .norm => .normal
  | .exit id => .exit id
  | .ret => .ret

structure StOk (p : Par) (n : Nat) (keep : List Nat) (E : Env) (w0 : Base) (s : St) (a : Act) (w : World) : Prop where
  tm : TmOk n keep E s.tm a.tmps
  df : DfOk E s.df a.defers
  hp : HeapOk p E s.h w0 w

def CPost (p : Par) (n : Nat) (keep : List Nat) (E : Env) (w0 : Base) (Q : Ex × St → Prop) (Q' : Exit → Act → World → Prop) : Prop :=
  ∀ x s' E' w' a', Q (x, s') → E.le E' → StOk p n keep E' w0 s' a' w' → Q' (exOf x) a' w'

/-- A PIECE OF CODE AND WHAT RUNS IT. -/
def COk (p : Par) (n : Nat) (keep : List Nat) (f : C) (c : Code) : Prop :=
  ∀ cx, CxOk p cx → ∀ wh rd E w0 w s a Q Q', RdOk E wh.rd rd → StOk p n keep E w0 s a w → (f cx wh s).Holds E.ρ Q → CPost p n keep E w0 Q Q' → c.wpIn (fence rd) 0 p.P Q' a w

theorem cOps_ok {p : Par} {ty : Nat → Option TI} (TT : TyOk p.P ty) {n : Nat} {keep : List Nat} {id : Nat} {ops : Array Oper} {cs : List CI} (h : cOpers ty n keep ops.toList ops.toList = some cs) : COk p n keep (cOps cs) (.region id ops false) := by
  intro cx CX wh rd E w0 w s a Q Q' hrd S k P
  have k' : ((runOps cx cs s.tm s.h).bind fun r => T.ret (Ex.norm, (⟨r.1.shut, s.df, r.2⟩ : St))).Holds E.ρ Q := k
  rw [T.holds_bind] at k'
  refine wpIn_region_list (region_ok TT CX (ds := a.defers) (sz := a.tmps.size) ops.toList cs h E w s.tm s.h a S.tm S.hp k' rfl rfl ?_)
  intro E' w' tm' h' a' q hle HH HT hds hsz
  exact P .norm _ E' w' a' q hle ⟨HT.shut, hds ▸ DfOk.mono hle.tole0 _ _ S.df, HH⟩

end Go.Sx
