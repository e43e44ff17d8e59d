/- THE LAW OF WHAT CAN BE SEEN BETTER: its run, for a valid film, a reel, and the places that it has. -/
import Derived.Test.YtlaakbmimplceaaDoorRyEn
import Derived.Test.YtlaakbmimplceaaDoorNwX
import Derived.Test.YtlaakbmimplceaaDoorFiTu
/-! A VALID FILM IS SOUND, as the law finds. -/
namespace Go.Sx
open Go.RowKit Go.Proofs
set_option maxRecDepth 100000
noncomputable def runSo (L : Nat) : T (AV × Heap) := (evalN tbA 100 false 7 [filmF L] (viewA 2000 (vK L))).bind fun r => graftT 2000 (vK L) (viewA 2000 (vK L)) [] r
noncomputable def endSo (L : Nat) (_ : Kn) (q : AV × Heap) : Bool := and (eqAV q.1 (tag true)) (and (allO q.2 (vK L)) (Nat.beq q.2.next 2000))
noncomputable def ckSo (L : Nat) : Bool := allW [] (endSo L) (runSo L) (knOf (filmQ L) (filmC L))
theorem ckSo1 : ckSo 1 = true := by kernel_rfl
theorem ckSo2 : ckSo 2 = true := by kernel_rfl
theorem ckSo3 : ckSo 3 = true := by kernel_rfl
theorem ckSo4 : ckSo 4 = true := by kernel_rfl
theorem ckSo5 : ckSo 5 = true := by kernel_rfl
theorem ckSo6 : ckSo 6 = true := by kernel_rfl
theorem ckSo_all {L : Nat} (h0 : 1 ≤ L) (hL : L ≤ 6) : ckSo L = true := by
  rcases six h0 hL with rfl | rfl | rfl | rfl | rfl | rfl
  · exact ckSo1
  · exact ckSo2
  · exact ckSo3
  · exact ckSo4
  · exact ckSo5
  · exact ckSo6
noncomputable def saidSo (L : Nat) : T (AV × Heap) := .ret (tag true, viewA 2000 (vK L))
theorem sound_said {L : Nat} (h0 : 1 ≤ L) (hL : L ≤ 6) : CallOk (pK L) 7 [filmF L] (viewA 2000 (vK L)) (saidSo L) := by
  have base := eval_ok (tabsK L) 100 7 [filmF L] (viewA 2000 (vK L))
  have up : upA 0 (vK L) = true := rfl
  have fr : CallOk (pK L) 7 [filmF L] (viewA 2000 (vK L)) (runSo L) := base.frame (n := 2000) (l := vK L) (by omega) rfl (viewK_ok h0 hL)
    (fun g hg => ⟨g.2, viewA_mem 2000 _ 0 up g hg, .refl _⟩) (by rw [viewA_next]; exact Nat.le_refl _) (fun _ => [])
  refine CallOk.read rfl fr fun ρ b hok Q k => ⟨ρ, hok, SameL.refl _ _, ⟨rfl, fun j o g => ⟨o, g, SameA.refl o⟩⟩, ?_⟩
  obtain ⟨_, hA, _⟩ := hok
  have k : Q (tag true, viewA 2000 (vK L)) := k
  refine allW_ok (rules_nil ρ) (fun K q _ hq => ?_) (runSo L) _ (okFilm_kn hA) (ckSo_all h0 hL)
  unfold endSo at hq
  simp only [Bool.and_eq_true] at hq
  obtain ⟨q1, q2, q3⟩ := hq
  exact ⟨_, k, by rw [eqAV_eq _ _ q1]; exact SameV.refl _ _, (beq_t.1 q3).trans (viewA_next _ _).symm, fun j o g => ⟨o, allO_get q2 (viewA_get _ _ _ _ g), SameA.refl o⟩⟩
end Go.Sx
/-! THE LAW OF WHAT CAN BE SEEN BETTER: its run, for a valid film, a reel, and the places that it has. -/
namespace Go.Sx
open Go.RowKit Go.Proofs
set_option maxRecDepth 100000
noncomputable def lenE (a b : Nat) : IE := .bin .add .i64 (.bin .sub .i64 (.var a) (.var b)) (.lit 1)
noncomputable def retO (args args0 : List AV) (v : AV) (h : Heap) : Option (T (AV × Heap)) := cond (eqAVs args args0) (some (.ret (v, h))) none
noncomputable def orTry (a b : Option (T (AV × Heap))) : Option (T (AV × Heap)) :=
  match a with
  | some t => some t
  | none => b
theorem orTry_some {a b : Option (T (AV × Heap))} {t : T (AV × Heap)} (h : orTry a b = some t) : a = some t ∨ b = some t := by
  unfold orTry at h
  split at h
  · exact .inl h
  · exact .inr h
noncomputable def seenX (L k : Nat) (h : Heap) (c : Nat) : Bool := and (lessAll h v2) (and (lessO (rowsX L k) (h.get c)) (Nat.ble 2000 h.next))
noncomputable def ordX (L k : Nat) (args : List AV) (h : Heap) : Option (T (AV × Heap)) :=
  match args with
  | [.agg (.sliceX c _ _ _ :: _)] => cond (and (eqAVs args [filmAt c L]) (seenX L k h c)) (some (.ret (valE (.var 313), h))) none
  | _ => none
noncomputable def plX (L k s : Nat) (args : List AV) (h : Heap) : Option (T (AV × Heap)) :=
  match args with
  | [.agg (.sliceX c _ _ _ :: _), _] => cond (and (eqAVs args [filmAt c L, ln k]) (seenX L k h c)) (some ((treeX L k s).bind fun r => mvT 2000 h r)) none
  | _ => none
noncomputable def nwOne (_ : AV × Heap) : List Nat := [2000]
noncomputable def nwNo (_ : AV × Heap) : List Nat := []
noncomputable def orcNw (b : Bool) (L k s : Nat) (f : FuncId) (args : List AV) (h : Heap) : Option (T (AV × Heap)) :=
  cond (Nat.beq f 8) (closedOrc glV args h) (cond (Nat.beq f 7) (smallO 2000 [filmF L] (vK L) (saidSo L) nwNo args h)
    (cond (Nat.beq f 18) (orTry (retO args [vi 301, ln L] (ln k) h) (orTry (retO args [vi 302, .int .i64 (lenE (11 + 6 * k) (10 + 6 * k))] (vi 320) h) (retO args [vi 303, .int .i64 (lenE (13 + 6 * k) (12 + 6 * k))] (vi 321) h)))
    (cond (Nat.beq f 11) (orTry (smallO 2000 [filmF L] (vK L) (.ret (valE (.var 312), viewA 2000 (vK L))) nwNo args h) (ordX L k args h))
    (cond (and b (Nat.beq f 15)) (orTry (smallO 2000 [filmF L, ln k] (vK L) (.ret (leafS L (some (rsOf s)))) nwOne args h) (plX L k s args h)) none))))
noncomputable def tbNw (b : Bool) (L k s : Nat) : Tabs := ⟨Sx.Tryd.ft.get, lFind Sx.Tryd.rt, 2000, orcNw b L k s⟩
noncomputable def runNw (b : Bool) (L k s : Nat) : T (AV × Heap) := evalN (tbNw b L k s) 60 false 6 [filmV L, .agg [vi 301, vi 302, vi 303]] (viewHeap 2000 (viewV L))
noncomputable def knNw (b : Bool) (L : Nat) : Kn := knOf ((312, 0, 46656) :: (313, cond b (1, 46656) (0, 0)) :: filmQ L) (leV 313 312 :: filmC L)
noncomputable def lawNw (b : Bool) (L k s : Nat) : Bool := allK isTrueK (runNw b L k s) (knNw b L)
/-- for each set of places -/
noncomputable def rowNw (L k : Nat) : Bool := and (lawNw false L k 0) (lAll (lawNw true L k) (upN (Nat.pow 2 L - 1) 1))
theorem lawNw1 : lAll (rowNw 1) (upN 1 0) = true := by kernel_rfl
theorem lawNw2 : lAll (rowNw 2) (upN 2 0) = true := by kernel_rfl
theorem lawNw3 : lAll (rowNw 3) (upN 3 0) = true := by kernel_rfl
end Go.Sx
