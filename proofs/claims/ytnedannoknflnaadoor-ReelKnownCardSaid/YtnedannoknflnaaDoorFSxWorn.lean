/- AN ORACLE: one call run once with an unknown number, and used for every number. -/
import Derived.Test.YtnedannoknflnaaDoorFTabFn
import Derived.Test.YtnedannoknflnaaDoorFSxStart
/-! AN ORACLE: one call run once with an unknown number, and used for every number. -/
namespace Go.Sx
open Go.RowKit Go.Proofs
set_option maxRecDepth 100000

noncomputable def li (n : Int) : AV := .int .i64 (.lit n)
noncomputable def reelsS : List AV := [li 10, li 12, li 20, li 20, li 900, li 900, li 1, li 1, li 9, li 11, li 950, li 1000, li 20, li 22, li 20, li 30, li 800, li 820, li 20, li 31, li 20, li 40, li 700, li 700]
noncomputable def argsS : List AV := [.agg [.slice 1000 0 4 4, li 6, li 8, li 1, li 3, li 2000, .map 1001], li 3, .int .i64 (.var 0)]
noncomputable def hS : Heap := (⟨.nil, 2000⟩ : Heap).put 1000 (.cells reelsS 0 false false)
noncomputable def e1S : IE := .mx (.lit 0) (.bin .sub .i64 (.lit 700) (.bin .mul .i64 (.var 0) (.lit 3)))
noncomputable def e2S : IE := .mx (.lit 0) (.bin .sub .i64 (.lit 700) (.bin .mul .i64 (.var 0) (.lit 1)))
noncomputable def wornS : AV := .agg [.int .i64 e1S, .int .i64 e2S]
noncomputable def ρn (n : Int) : Rho := ⟨fun _ => n, fun _ => false, fun _ _ _ _ => 0, fun _ _ _ _ => false, fun _ => .tuple #[]⟩

noncomputable def retIs (v : AV) (t : T (AV × Heap)) : Bool :=
  match t with
  | .ret r => eqAV r.1 v
  | _ => false
theorem retIs_some {v : AV} {t : T (AV × Heap)} (h : retIs v t = true) : ∃ h1, t = .ret (v, h1) := by
  unfold retIs at h
  split at h
  · rename_i r
    exact ⟨r.2, by rw [← eqAV_eq _ _ h]⟩
  · cases h

noncomputable def tb0 : Tabs := ⟨Sx.Tryd.ft.get, lFind Sx.Tryd.rt, 2000, fun _ _ _ => none⟩
noncomputable def pT : Par := ⟨Tryd.prog, rcOf Tryd.rows⟩
theorem worn_run : retIs wornS (evalN tb0 20 false 80 argsS hS) = true := by kernel_rfl

noncomputable def wornOrc (args : List AV) (h : Heap) : Option (T (AV × Heap)) :=
  match args with
  | [.agg [.slice b 0 len cap, t1, t2, t3, t4, t5, .map m], r, .int .i64 (.lit n)] => (match h.cells b with
    | some cs => cond (and (eqAVs [.slice 1000 0 len cap, t1, t2, t3, t4, t5, r] [.slice 1000 0 4 4, li 6, li 8, li 1, li 3, li 2000, li 3]) (eqAVs cs reelsS))
        (some (.ret (.agg [.int .i64 (.lit (e1S.den (ρn n))), .int .i64 (.lit (e2S.den (ρn n)))], h))) none
    | none => none)
  | _ => none

theorem hS_get (b : Nat) (o : AObj) (h : hS.get b = some o) : b = 1000 ∧ o = .cells reelsS 0 false false := by
  unfold hS at h
  rw [Heap.get_put] at h
  by_cases c : b = 1000
  · rw [if_pos c] at h; cases h; exact ⟨c, rfl⟩
  · rw [if_neg c] at h
    have : (PT.nil : PT AObj).get b = some o := h
    rw [PT.get_nil] at this; cases this

theorem wornOrc_ok (B : TabOk pT Sx.Tryd.tt.get tb0) {args : List AV} {h : Heap} {t : T (AV × Heap)} (ho : wornOrc args h = some t) : CallOk pT 80 args h t := by
  intro vs E w0 w Q K k HH ha P
  unfold wornOrc at ho
  split at ho
  · rename_i b len cap t1 t2 t3 t4 t5 m r n
    cases hc : h.cells b with
    | none => rw [hc] at ho; cases ho
    | some cs =>
      rw [hc] at ho
      simp only at ho
      cases h1 : eqAVs [AV.slice 1000 0 len cap, t1, t2, t3, t4, t5, r] [.slice 1000 0 4 4, li 6, li 8, li 1, li 3, li 2000, li 3] with
      | false => rw [h1] at ho; cases ho
      | true =>
        cases h2 : eqAVs cs reelsS with
        | false => rw [h1, h2] at ho; cases ho
        | true =>
          rw [h1, h2] at ho
          have e1 := eqAVs_eq _ _ h1
          have e2 := eqAVs_eq _ _ h2
          cases ho
          simp only [List.cons.injEq, AV.slice.injEq, and_true, true_and] at e1
          obtain ⟨⟨rfl, rfl⟩, rfl, rfl, rfl, rfl, rfl, rfl⟩ := e1
          subst e2
          let ES : Env := ⟨ρn n, fun i => if i < 1000 then some (i, 0) else if i = 1000 then E.σ b else if i = 1001 then E.σ m else none, fun _ => 0, 2000, fun _ => #[]⟩
          have s0 : ES.σ 1000 = E.σ b := by simp [ES]
          have s1 : ES.σ 1001 = E.σ m := by simp [ES]
          have hargs : concL ES argsS = some vs := by
            rw [← ha]
            simp only [argsS, concL, conc, s0, s1, li, IE.den]
            rfl
          have hcs : ∃ c base us cells el fz, E.σ b = some (c, base) ∧ concL ES reelsS = some us ∧ w.heap[c]? = some (.cells cells el fz) ∧ (∀ i, i < us.length → cells[base + i]? = us[i]?) ∧ c < w.heap.size := by
            unfold Heap.cells at hc
            cases hg : h.get b with
            | none => rw [hg] at hc; cases hc
            | some o =>
              rw [hg] at hc
              cases o with
              | cells l e own ext =>
                cases hc
                obtain ⟨c, base, us, cells, el, fz, g1, g2, g3, g4, _⟩ := HH.obj b _ hg
                refine ⟨c, base, us, cells, el, fz, g1, ?_, g3, g4, HH.lt b _ c base hg g1⟩
                rw [← g2]
                simp only [reelsS, concL, conc, li, IE.den]
              | _ => cases hc
          obtain ⟨c, base, us, cells, el, fz, g1, g2, g3, g4, g5⟩ := hcs
          have HS0 : HeapOk pT ES hS w w := by
            refine ⟨fun i o e => ?_, fun i i' o o' cc x y q1 q2 w1 => ?_, fun i o cc x e ow => ?_, fun i l e x cc y hg s => ?_, fun i hi => ?_, fun i o cc x e s => ?_, fun i hi => by simp [ES, hi], Below.refl _ _, Nat.le_refl _⟩
            · obtain ⟨rfl, rfl⟩ := hS_get i o e
              exact ⟨c, base, us, cells, el, fz, by rw [s0]; exact g1, g2, g3, g4, fun h => by cases h⟩
            · obtain ⟨rfl, rfl⟩ := hS_get i o q1; cases w1
            · obtain ⟨rfl, rfl⟩ := hS_get i o e; cases ow
            · obtain ⟨rfl, _⟩ := hS_get i _ hg
              rw [s0, g1] at s; cases s; exact g5
            · have hi' : 2000 ≤ i := hi
              simp only [ES]
              rw [if_neg (by omega), if_neg (by omega), if_neg (by omega)]
            · obtain ⟨rfl, rfl⟩ := hS_get i o e
              rw [s0, g1] at s; cases s; exact g5
          obtain ⟨hh, hrun⟩ := retIs_some worn_run
          refine eval_ok B 20 80 argsS hS vs ES w w (fun q => q = (wornS, hh)) K (by rw [hrun]; rfl) HS0 hargs ?_
          intro v h' E' w' cv q hle HH' hcv
          cases q
          refine P _ h E w' cv k (Env.le.refl E) (HH.world HH'.below) ?_
          rw [← hcv]
          simp only [wornS, conc, concL, hle.ρ, IE.den]
          rfl
  · cases ho

noncomputable def orcT (f : FuncId) (args : List AV) (h : Heap) : Option (T (AV × Heap)) := cond (Nat.beq f 80) (wornOrc args h) none

theorem orcT_ok (B : TabOk pT Sx.Tryd.tt.get tb0) : ∀ f args h t, orcT f args h = some t → CallOk pT f args h t := by
  intro f args h t e
  unfold orcT at e
  cases hf : Nat.beq f 80 with
  | false => rw [hf] at e; cases e
  | true =>
    rw [hf] at e
    have := beq_t.1 hf
    subst this
    exact wornOrc_ok B e

noncomputable def tb1 : Tabs := ⟨Sx.Tryd.ft.get, lFind Sx.Tryd.rt, 2000, orcT⟩
noncomputable def gl : List (Nat × List AV) := [(0, [li 1, li 20, li 0, li 50]), (1, [li 0, li 99, li 0, li 99, li 1, li 1200])]

end Go.Sx
