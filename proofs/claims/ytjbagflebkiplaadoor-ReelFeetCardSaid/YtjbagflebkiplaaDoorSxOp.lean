/- EVERY INSTRUCTION THAT THE COMPILER MAKES STANDS FOR ITS OPERATION. -/
import Derived.Test.YtjbagflebkiplaaDoorSxApp
/-! EVERY INSTRUCTION THAT THE COMPILER MAKES STANDS FOR ITS OPERATION. -/
namespace Go.Sx
open Go.RowKit

theorem func_conc' {E : Env} {f : FuncId} {x y : List AV} {v : Value} (h : conc E (.func (.func f) x y) = some v) : ∃ a b, concL E x = some a ∧ concL E y = some b ∧ v = .func (.func f) a.toArray b.toArray := by
  simp only [conc] at h
  cases hx : concL E x with
  | none => rw [hx] at h; simp at h
  | some l =>
    cases hy : concL E y with
    | none => rw [hx, hy] at h; simp at h
    | some m => rw [hx, hy] at h; simp at h; exact ⟨l, m, rfl, rfl, h.symm⟩

theorem call_ok {p : Par} {c : Call} {f : Operand} {yf : Opd} {ys : List Opd} (hf : cOpd f = some yf) (hys : cOpds c.args.toList = some ys) (hc : c.callee = .value f) {o : Oper} (ho : o.op = .call c) : InsOk p (iCall yf ys) o := by
  intro cx n keep E w0 tm h a w Q K CX HT HH k P
  simp only [iCall, rCall] at k
  cases hb : lAll notBad (evs tm ys) with
  | false => rw [hb] at k; exact k.elim
  | true =>
    rw [hb, cond_true] at k
    have hargs := cOpds_some HT HH.glob hys hb
    have hex : (execOp a.eval o).run p.P w = (do let d ← Deferred.ofValue (a.eval f) (c.args.map a.eval); invoke d.target d.args : Sem Next).run p.P w := by
      unfold execOp
      rw [ho]
      unfold resolve
      simp only [hc]
    rw [hex]
    unfold callA at k
    split at k
    · rename_i fn first captured he
      split at k
      · rename_i fid
        have hv := opd_some HT hf (by rw [he]; rfl) HH.glob
        rw [he] at hv
        obtain ⟨l1, l2, e1, e2, hv'⟩ := func_conc' hv
        rw [hv']
        rw [run_bind_ok (a := { target := .fn (.func fid) l2.toArray, args := l1.toArray ++ c.args.map a.eval }) (w' := w) rfl]
        have : (invoke (.fn (.func fid) l2.toArray) (l1.toArray ++ c.args.map a.eval)).run p.P w = (callFunc fid ((l1.toArray ++ c.args.map a.eval) ++ l2.toArray)).run p.P w := rfl
        rw [this]
        have harr : ((l1.toArray ++ c.args.map a.eval) ++ l2.toArray) = (l1 ++ (c.args.toList.map a.eval ++ l2)).toArray := by
          apply Array.ext'
          simp
        rw [harr]
        rw [lApp_eq, lApp_eq] at k
        obtain ⟨hc1, hc2⟩ := CX.call fid _ h _ E w0 w Q K k HH (concL_app e1 (concL_app hargs e2)) P
        rw [hc1]
        exact hc2
      · exact k.elim
    · rename_i l he
      have hv := opd_some HT hf (by rw [he]; rfl) HH.glob
      rw [he] at hv
      obtain ⟨q, hq, hv'⟩ := yield_conc hv
      rw [hv']
      rw [run_bind_ok (a := { target := .fn (.yield q.1) #[], args := #[] ++ c.args.map a.eval }) (w' := w) rfl]
      have : (invoke (.fn (.yield q.1) #[]) (#[] ++ c.args.map a.eval)).run p.P w = (Instr.yield q.1 (#[] ++ c.args.map a.eval)).run p.P w := rfl
      rw [this]
      have harr : (#[] ++ c.args.map a.eval) = (c.args.toList.map a.eval).toArray := by
        apply Array.ext'
        simp
      rw [harr]
      exact CX.yield l _ h _ E w0 w Q K q k HH hargs hq P
    · exact k.elim

theorem cCall_ok {p : Par} {ty : Nat → Option TI} (T : TyOk p.P ty) {c : Call} {f : Ins} (h : cCall ty c = some f) {o : Oper} (ho : o.op = .call c) : InsOk p f o := by
  unfold cCall at h
  split at h
  · cases h
  · rename_i args hargs
    split at h
    · rename_i g hg
      split at h
      · rename_i yg hyg
        cases h
        exact call_ok hyg hargs hg ho
      · cases h
    · cases h
    · rename_i b hb
      split at h
      · -- len
        split at h
        · rename_i t ts x hts
          have hone : ∃ z, c.args.toList = [z] ∧ cOpd z = some x := by
            cases hl : c.args.toList with
            | nil => rw [hl] at hargs; cases hargs
            | cons z l =>
              rw [hl] at hargs
              simp only [cOpds] at hargs
              cases hz : cOpd z with
              | none => rw [hz] at hargs; cases hargs
              | some y =>
                cases hl' : cOpds l with
                | none => rw [hz, hl'] at hargs; cases hargs
                | some m =>
                  rw [hz, hl'] at hargs
                  cases hargs
                  cases l with
                  | nil => exact ⟨z, rfl, hz⟩
                  | cons z' l' =>
                    simp only [cOpds] at hl'
                    split at hl' <;> cases hl'
          obtain ⟨z, hz1, hz2⟩ := hone
          split at h
          · rename_i i hi
            split at h
            · rename_i n e hd; cases h; exact lenA_ok T hts hi hd hz1 hb ho
            · rename_i e hd; cases h; exact lenS_ok T hts hi hd hz1 hz2 hb ho
            · rename_i k e hd; cases h; exact lenM_ok T hts hi hd hz1 hz2 hb ho
            · cases h
          · cases h
        · cases h
      · cases h2 : Nat.ble 2 args.length with
        | false => rw [h2] at h; cases h
        | true => rw [h2] at h; cases h; exact max_ok hargs (ble_t.1 h2) hb ho
      · cases h2 : Nat.ble 2 args.length with
        | false => rw [h2] at h; cases h
        | true => rw [h2] at h; cases h; exact min_ok hargs (ble_t.1 h2) hb ho
      · split at h
        · rename_i t u s x hts
          have htwo : ∃ z1 z2, c.args.toList = [z1, z2] ∧ cOpd z1 = some s ∧ cOpd z2 = some x := by
            cases hl : c.args.toList with
            | nil => rw [hl] at hargs; cases hargs
            | cons z1 l =>
              rw [hl] at hargs
              simp only [cOpds] at hargs
              split at hargs
              · rename_i y1 m h1 h2
                cases hargs
                cases l with
                | nil => cases h2
                | cons z2 l =>
                  simp only [cOpds] at h2
                  split at h2
                  · rename_i y2 m' h3 h4
                    cases h2
                    cases l with
                    | nil => exact ⟨z1, z2, rfl, h1, h3⟩
                    | cons z3 l =>
                      simp only [cOpds] at h4
                      split at h4 <;> cases h4
                  · cases h2
              · cases hargs
          obtain ⟨z1, z2, hz1, hz2, hz3⟩ := htwo
          split at h
          · rename_i i iu hi hiu
            split at h
            · rename_i e e' hd hdu
              split at h
              · rename_i j hj
                split at h
                · rename_i z hz; cases h; exact append_ok T hts hi hd hiu hdu hj hz hz1 hz2 hz3 hb ho
                · cases h
              · cases h
            · cases h
          · cases h
        · cases h
      · split at h
        · rename_i t u s x hts
          have htwo : ∃ z1 z2, c.args.toList = [z1, z2] ∧ cOpd z1 = some s ∧ cOpd z2 = some x := by
            cases hl : c.args.toList with
            | nil => rw [hl] at hargs; cases hargs
            | cons z1 l =>
              rw [hl] at hargs
              simp only [cOpds] at hargs
              split at hargs
              · rename_i y1 m h1 h2
                cases hargs
                cases l with
                | nil => cases h2
                | cons z2 l =>
                  simp only [cOpds] at h2
                  split at h2
                  · rename_i y2 m' h3 h4
                    cases h2
                    cases l with
                    | nil => exact ⟨z1, z2, rfl, h1, h3⟩
                    | cons z3 l =>
                      simp only [cOpds] at h4
                      split at h4 <;> cases h4
                  · cases h2
              · cases hargs
          obtain ⟨z1, z2, hz1, hz2, hz3⟩ := htwo
          split at h
          · rename_i i hi
            split at h
            · rename_i e hd
              split at h
              · rename_i j hj
                cases h; exact copy_ok T hts hi hd hj hz1 hz2 hz3 hb ho
              · cases h
            · cases h
          · cases h
        · cases h
      · cases h

theorem cBin_ok {p : Par} {ty : Nat → Option TI} (T : TyOk p.P ty) {op : BinOp} {t t' : TypeId} {x1 x2 : Operand} {y1 y2 : Opd} (h1 : cOpd x1 = some y1) (h2 : cOpd x2 = some y2) {f : Ins} (h : cBin ty op t y1 y2 = some f) {o : Oper} (ho : o.op = .binOp op t x1 x2 t') : InsOk p f o := by
  unfold cBin at h
  split at h
  · cases h; exact shift_ok (.inl rfl) h1 h2 ho
  · cases h; exact shift_ok (.inr rfl) h1 h2 ho
  · cases h; exact cmp_ok h1 h2 ho
  · cases h; exact cmp_ok h1 h2 ho
  · cases h; exact cmp_ok h1 h2 ho
  · cases h; exact cmp_ok h1 h2 ho
  · split at h
    · rename_i i hi
      cases hint : isInt i with
      | true => rw [hint] at h; cases h; exact cmp_ok h1 h2 ho
      | false =>
        rw [hint, cond_false] at h
        split at h
        · rename_i ls hls; cases h; exact eq_ok (ng := false) T hi hint hls h1 h2 (by rw [ho]; rfl)
        · cases h
    · cases h
  · split at h
    · rename_i i hi
      cases hint : isInt i with
      | true => rw [hint] at h; cases h; exact cmp_ok h1 h2 ho
      | false =>
        rw [hint, cond_false] at h
        split at h
        · rename_i ls hls; cases h; exact eq_ok (ng := true) T hi hint hls h1 h2 (by rw [ho]; rfl)
        · cases h
    · cases h
  · rename_i n1 n2 n3 n4 n5 n6 n7 n8
    cases h
    refine arith_ok ?_ h1 h2 ho
    cases op <;> first | rfl | (exfalso; simp at *; done)

theorem places_ok {P : Program} {ty : Nat → Option TI} (T : TyOk P ty) : ∀ (fs : List Field), (fs.all fun f => (ty f.type).isSome) = true →
    ∃ places, fs.mapM (fun f => (P.info? f.type).map fun i => (f.offset, i.size)) = some places ∧ ∀ i, places[i]? = placeF ty fs i
  | [], _ => ⟨[], rfl, fun i => by simp [placeF]⟩
  | f :: fs, h => by
    simp only [List.all_cons, Bool.and_eq_true] at h
    obtain ⟨l, hl, hp⟩ := places_ok T fs h.2
    cases ht : ty f.type with
    | none => rw [ht] at h; cases h.1
    | some j =>
      obtain ⟨i, hi, hs, _, _⟩ := T.info _ _ ht
      refine ⟨(f.offset, j.size) :: l, by simp [List.mapM_cons, hi, hl, hs], fun n => ?_⟩
      cases n with
      | zero => simp [placeF, ht]
      | succ n => rw [List.getElem?_cons_succ, hp n]; simp [placeF]

theorem cBuild_ok {p : Par} {ty : Nat → Option TI} (T : TyOk p.P ty) {t : Nat} {parts : Array (Nat × Operand)} {f : Ins} (h : cBuild ty t parts.toList = some f) {o : Oper} (ho : o.op = .build t parts) : InsOk p f o := by
  unfold cBuild at h
  split at h
  · rename_i i hi
    split at h
    · rename_i z hz
      split at h
      · rename_i fs hd
        cases ha : (fs.toList.all fun f => (ty f.type).isSome) with
        | false => rw [ha] at h; cases h
        | true =>
          rw [ha, cond_true] at h
          cases hp : cParts (placeF ty fs.toList) parts.toList with
          | none => rw [hp] at h; cases h
          | some ps =>
            rw [hp, Option.map_some, Option.some.injEq] at h
            subst h
            refine build_ok T hi hz hp ?_ ho
            rintro v l cs ⟨j, hj, hv⟩ hf
            obtain ⟨places, hp1, hp2⟩ := places_ok T fs.toList ha
            have hu := T.und t i hi
            rw [hd] at hu
            unfold Program.built
            rw [hj, hu]
            simp only [hv, hp1]
            rw [← hf]
            congr 1
            funext n
            simp [hp2]
      · rename_i n e hd
        split at h
        · rename_i j hj
          cases hp : cParts (fun n => some (n * j.size, j.size)) parts.toList with
          | none => rw [hp] at h; cases h
          | some ps =>
            rw [hp, Option.map_some, Option.some.injEq] at h
            subst h
            refine build_ok T hi hz hp ?_ ho
            rintro v l cs ⟨k, hk, hv⟩ hf
            obtain ⟨i', hi', hs, _, _⟩ := T.info _ _ hj
            have hu := T.und t i hi
            rw [hd] at hu
            unfold Program.built
            rw [hk, hu]
            simp only [hv, hi', hs]
            exact hf
        · cases h
      · cases h
    · cases h
  · cases h

theorem cBslice_ok {p : Par} {ty : Nat → Option TI} (T : TyOk p.P ty) {t len : Nat} {parts : Array (Nat × Operand)} {f : Ins} (h : cBslice ty t len parts.toList = some f) {o : Oper} (ho : o.op = .buildSlice t len parts) : InsOk p f o := by
  unfold cBslice at h
  split at h
  · rename_i i hi
    split at h
    · rename_i e hd
      split at h
      · rename_i j hj
        split at h
        · rename_i z hz
          cases hb : Nat.ble (len * j.size) 1000000 with
          | false => rw [hb] at h; cases h
          | true =>
            rw [hb, cond_true] at h
            cases hp : cParts (fun n => some (n * j.size, j.size)) parts.toList with
            | none => rw [hp] at h; cases h
            | some ps =>
              rw [hp, Option.map_some, Option.some.injEq] at h
              subst h
              exact bslice_ok T hi hd hj hz (ble_t.1 hb) hp ho
        · cases h
      · cases h
    · cases h
  · cases h

theorem cMkslice_ok {p : Par} {ty : Nat → Option TI} (T : TyOk p.P ty) {t : Nat} {x1 x2 : Operand} {y1 y2 : Opd} (h1 : cOpd x1 = some y1) (h2 : cOpd x2 = some y2) {f : Ins} (h : cMkslice ty t y1 y2 = some f) {o : Oper} (ho : o.op = .makeSlice t x1 x2) : InsOk p f o := by
  unfold cMkslice at h
  split at h
  · rename_i i hi
    split at h
    · rename_i e hd
      split at h
      · rename_i j hj
        split at h
        · rename_i z hz
          cases h
          exact mkslice_ok T hi hd hj hz h1 h2 ho
        · cases h
      · cases h
    · cases h
  · cases h

theorem cSlice_ok {p : Par} {ty : Nat → Option TI} (T : TyOk p.P ty) {t : Nat} {x : Operand} {y : Opd} (hx : cOpd x = some y) {lo hi mx : Option Operand} {ylo yhi ymx : Option Opd} (h1 : cOpt lo = some ylo) (h2 : cOpt hi = some yhi) (h3 : cOpt mx = some ymx)
    {f : Ins} (h : cSlice ty t y ylo yhi ymx = some f) {o : Oper} (ho : o.op = .slice t x lo hi mx) : InsOk p f o := by
  have iso : ∀ {z : Option Operand} {u : Option Opd}, cOpt z = some u → z.isSome = u.isSome := fun {z u} e => by
    cases z with
    | none => simp only [cOpt, Option.some.injEq] at e; subst e; rfl
    | some z =>
      simp only [cOpt, Option.map_eq_some_iff] at e
      obtain ⟨b, _, rfl⟩ := e
      rfl
  unfold cSlice at h
  cases hc : (ymx.isNone || yhi.isSome) with
  | false => rw [hc] at h; cases h
  | true =>
    rw [hc, cond_true] at h
    have hmx : mx.isSome = true → hi.isSome = true := by
      rw [iso h3, iso h2]
      intro hm
      cases ymx with
      | none => cases hm
      | some m => simpa using hc
    split at h
    · rename_i i ht
      split at h
      · rename_i e hd
        split at h
        · rename_i j hj
          cases hb : Nat.ble 1 j.size with
          | false => rw [hb] at h; cases h
          | true =>
            rw [hb, cond_true, Option.some.injEq] at h
            subst h
            exact slice_ok T ht hd hj hx h1 h2 h3 hmx ho
        · cases h
      · rename_i n e hd
        split at h
        · rename_i j hj
          cases h
          exact sliceA_ok T ht hd hj hx h1 h2 h3 hmx ho
        · cases h
      · cases h
    · cases h

theorem cIaddr_ok {p : Par} {ty : Nat → Option TI} (T : TyOk p.P ty) {t : Nat} {x1 x2 : Operand} {y1 y2 : Opd} (h1 : cOpd x1 = some y1) (h2 : cOpd x2 = some y2) {f : Ins} (h : cIaddr ty t y1 y2 = some f) {o : Oper} (ho : o.op = .indexAddr t x1 x2) : InsOk p f o := by
  unfold cIaddr at h
  split at h
  · rename_i i hi
    split at h
    · rename_i e hd
      split at h
      · rename_i j hj; cases h; exact iaddr_ok T hi hd hj h1 h2 ho
      · cases h
    · rename_i n e hd
      split at h
      · rename_i j hj; cases h; exact iaddrA_ok T hi hd hj h1 h2 ho
      · cases h
    · cases h
  · cases h

theorem cIndex_ok {p : Par} {ty : Nat → Option TI} (T : TyOk p.P ty) {t : Nat} {x1 x2 : Operand} {y1 y2 : Opd} (h1 : cOpd x1 = some y1) (h2 : cOpd x2 = some y2) {f : Ins} (h : cIndex ty t y1 y2 = some f) {o : Oper} (ho : o.op = .index t x1 x2) : InsOk p f o := by
  unfold cIndex at h
  split at h
  · rename_i i hi
    split at h
    · rename_i n e hd
      split at h
      · rename_i j hj; cases h; exact index_ok T hi hd hj h1 h2 ho
      · cases h
    · cases h
  · cases h

/-- EVERY OPERATION THAT IS COMPILED. -/
theorem cOp_ok {p : Par} {ty : Nat → Option TI} (T : TyOk p.P ty) {o : Oper} {f : Ins} (h : cOp ty o.op = some f) : InsOk p f o := by
  generalize hop : o.op = op at h
  cases op with
  | move x => obtain ⟨y, hy, hk⟩ := with1_some h; cases hk; exact mov_ok hy (.inl hop)
  | assign x => obtain ⟨y, hy, hk⟩ := with1_some h; cases hk; exact mov_ok hy (.inr hop)
  | pick c a b => obtain ⟨y1, y2, y3, e1, e2, e3, hk⟩ := with3_some h; cases hk; exact pick_ok e1 e2 e3 hop
  | alloc t =>
    simp only [cOp] at h
    split at h
    · rename_i i hi
      cases hz : zeroOf i with
      | none => rw [hz] at h; cases h
      | some z => rw [hz] at h; cases h; exact alloc_ok T hi hz hop
    · cases h
  | box t x => obtain ⟨y, hy, hk⟩ := with1_some h; cases hk; exact box_ok hy hop
  | build t ps => exact cBuild_ok T h hop
  | buildSlice t len ps => exact cBslice_ok T h hop
  | load t x =>
    obtain ⟨y, hy, hk⟩ := with1_some h
    split at hk
    · rename_i i hi
      cases ha : i.isAgg with
      | true => rw [ha] at hk; cases hk; exact loadN_ok T hi ha hy hop
      | false => rw [ha] at hk; cases hk; exact load_ok T hi ha hy hop
    · cases hk
  | store t a x =>
    obtain ⟨y1, y2, e1, e2, hk⟩ := with2_some h
    split at hk
    · rename_i i hi; cases hk; exact store_ok T hi e1 e2 hop
    · cases hk
  | binOp op t x y t' => obtain ⟨y1, y2, e1, e2, hk⟩ := with2_some h; exact cBin_ok T e1 e2 hk hop
  | unOp op t x =>
    obtain ⟨y, hy, hk⟩ := with1_some h
    split at hk
    · cases hk; exact not_ok hy hop
    · cases hk; exact neg_ok hy hop
    · cases hk
  | convert s d x =>
    obtain ⟨y, hy, hk⟩ := with1_some h
    split at hk
    · rename_i i k hi hc; cases hk; exact conv_ok T hc hy ⟨_, T.und _ _ hi⟩ hop
    · cases hk
  | makeFunc fn first captured =>
    simp only [cOp] at h
    cases hn : notYield fn with
    | false => rw [hn] at h; cases h
    | true =>
      rw [hn, cond_true] at h
      split at h
      · rename_i a b ha hb; cases h; exact func_ok hn ha hb hop
      · cases h
  | makeMap t r =>
    simp only [cOp] at h
    split at h
    · cases h; exact mkmap_ok hop
    · cases h
  | makeSlice t l c => obtain ⟨y1, y2, e1, e2, hk⟩ := with2_some h; exact cMkslice_ok T e1 e2 hk hop
  | slice t x lo hi mx =>
    simp only [cOp] at h
    split at h
    · rename_i y l u m h1 h2 h3 h4; exact cSlice_ok T h1 h2 h3 h4 h hop
    · cases h
  | fieldAddr t x f =>
    obtain ⟨y, hy, hk⟩ := with1_some h
    split at hk
    · rename_i q hq
      cases hb : Nat.ble 1 q.2.size with
      | false => rw [hb] at hk; cases hk
      | true => rw [hb] at hk; cases hk; exact faddr_ok T hq (ble_t.1 hb) hy hop
    · cases hk
  | field t x f =>
    obtain ⟨y, hy, hk⟩ := with1_some h
    split at hk
    · rename_i q hq; cases hk; exact field_ok T hq hy hop
    · cases hk
  | indexAddr t x ix => obtain ⟨y1, y2, e1, e2, hk⟩ := with2_some h; exact cIaddr_ok T e1 e2 hk hop
  | index t x ix => obtain ⟨y1, y2, e1, e2, hk⟩ := with2_some h; exact cIndex_ok T e1 e2 hk hop
  | lookup t x k ok =>
    obtain ⟨y1, y2, e1, e2, hk⟩ := with2_some h
    split at hk
    · rename_i q hq
      split at hk
      · rename_i z hz; cases hk; exact lookup_ok T hq hz e1 e2 hop
      · cases hk
    · cases hk
  | mapUpdate t m k v =>
    obtain ⟨y1, y2, y3, e1, e2, e3, hk⟩ := with3_some h
    split at hk
    · rename_i q hq; cases hk; exact mapset_ok T hq e1 e2 e3 (.inl hop)
    · cases hk
  | insert t m k v =>
    obtain ⟨y1, y2, y3, e1, e2, e3, hk⟩ := with3_some h
    split at hk
    · rename_i q hq; cases hk; exact mapset_ok T hq e1 e2 e3 (.inr hop)
    · cases hk
  | extract t ix => obtain ⟨y, hy, hk⟩ := with1_some h; cases hk; exact extract_ok hy hop
  | call c => exact cCall_ok T h hop
  | _ => cases h

end Go.Sx
