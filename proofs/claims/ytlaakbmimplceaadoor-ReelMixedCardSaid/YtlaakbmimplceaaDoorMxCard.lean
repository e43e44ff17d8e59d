/- The statement ReelMixed: called with whatever film, list of numbers and pair of numbers can be read, it hands back true and leaves what lay, in whatever world the listed package variables lie as their initialisers lay them; no other condition. -/
import Derived.Test.YtlaakbmimplceaaDoorMxE
import Derived.Test.YtlaakbmimplceaaDoorRyI
import Derived.Test.YtlaakbmimplceaaDoorTie
import Derived.Test.YtlaakbmimplceaaDoorCards
import Derived.ProofKit
import Derived.LaidMore
import Derived.LaidHandle
import Derived.MakeChecks
import Derived.SevenTiedAt
import Derived.Stop.Joined
/-! The statement ReelMixed: called with whatever film, list of numbers and pair of numbers can be read, it hands back true and leaves what lay, in whatever world the listed package variables lie as their initialisers lay them; no other condition. -/
namespace Go.Proofs.YtlaakbmimplceaaDoor
open Go Go.ChangeShapes Go.WideShapes Go.ChangeAt Go.RowKit Go.Sx
set_option maxRecDepth 100000
theorem own : ownKnob Tryd.prog.godebug = none := by kernel_rfl
theorem laidOut : laidOutB Tryd.prog = true := by kernel_rfl
theorem gFilm : Tryd.prog.globalNamed "bioscope/reel.filmBounds" = some 0 := by kernel_rfl
theorem gReel : Tryd.prog.globalNamed "bioscope/reel.reelBounds" = some 1 := by kernel_rfl
noncomputable def tyOf (g : Nat) : TypeId := match (Tryd.prog.globals[g]?).map (·.type) with | some t => t | none => 0
theorem tFilm : (Tryd.prog.globals[0]?).map (·.type) = some (tyOf 0) := by kernel_rfl
theorem tReel : (Tryd.prog.globals[1]?).map (·.type) = some (tyOf 1) := by kernel_rfl
def laid2 {H : Type} : List (String × DataW H) := [("bioscope/reel.reelBounds", Rows.laid_bioscope_reel_reelBounds), ("bioscope/reel.filmBounds", Rows.laid_bioscope_reel_filmBounds)]
theorem var_cells {P : Program} {W : World} {n : String} {g : Nat} {cs : Array Value} (hg : P.globalNamed n = some g) (h : W.var? P n = some cs) : ∃ el fz, W.heap[g]? = some (.cells cs el fz) := by
  simp only [World.var?, hg, Option.bind_some] at h
  split at h
  · rename_i c el fz hh; cases h; exact ⟨el, fz, hh⟩
  · cases h
noncomputable def ρ0 : Rho := ⟨fun _ => 0, fun _ => false, fun _ _ _ _ => 0, fun _ _ _ _ => false, fun _ => .tuple #[]⟩
/-- what the listed variables hold, as the law's run wants it -/
theorem glob_of_laid {W : World} (h : laidMetH Tryd.prog laid2 W) : ∀ g ∈ glV, GlobIn W ρ0 g := by
  rw [MakeChecks.laidMetH_plain _ _ _ (by kernel_rfl)] at h
  obtain ⟨ps, ⟨g0, t0, cs0, f0, p0, q0, hg0, ht0, hv0, hd0, ⟨g1, t1, cs1, f1, p1, q1, hg1, ht1, hv1, hd1, _, _⟩, _⟩, _, _⟩ := h
  obtain rfl := Option.some.inj (gReel.symm.trans hg0)
  obtain rfl := Option.some.inj (gFilm.symm.trans hg1)
  obtain rfl := Option.some.inj (tReel.symm.trans ht0)
  obtain rfl := Option.some.inj (tFilm.symm.trans ht1)
  obtain ⟨e0, _, _⟩ := flat_trod 6 (tyOf 1) f0 _ _ (by kernel_rfl) hd0
  obtain ⟨e1, _, _⟩ := flat_trod 6 (tyOf 0) f1 _ _ (by kernel_rfl) hd1
  obtain ⟨el0, fz0, h0⟩ := var_cells gReel hv0
  obtain ⟨el1, fz1, h1⟩ := var_cells gFilm hv1
  intro g hg
  simp only [glV, List.mem_cons, List.not_mem_nil, or_false] at hg
  rcases hg with rfl | rfl
  · refine ⟨by omega, _, cs1, el1, fz1, rfl, h1, fun i hi => ?_⟩
    rw [← Array.getElem?_toList, e1]; rfl
  · refine ⟨by omega, _, cs0, el0, fz0, rfl, h0, fun i hi => ?_⟩
    rw [← Array.getElem?_toList, e0]; rfl
/-- The door's own heap meets the condition. -/
theorem door_met (os : Os) (args : Array Value) : laidMetH Tryd.prog laid2 ((World.doorLaid Tryd.prog 400 os).forCall (fun _ _ => 0) ⟨#[], args, []⟩).memory :=
  laidMetH_of_parts3 (fuel := 8) (laidMet_of_run' 8 (by kernel_rfl) (by kernel_rfl)) (by kernel_rfl) (by kernel_rfl)
theorem mix_lifted (os : Os) (started : os.Started) (H : Type) (enc : TypeId × Value → H) :
    ReturnsInHanded {} Tryd.checked os 3 .any (fun w args => (Rows.reelMixedSpec.pre enc Tryd.prog Tryd.f3 [] false w args ∧ laidMetH Tryd.prog laid2 w) ∧ sizedMet enc Tryd.prog Tryd.f3 (OpenSpec.ofChange Rows.reelMixedSpec) false w args)
      (Rows.reelMixedSpec.post enc Tryd.prog Tryd.f3 false true false false) := by
  refine returnsInHanded_of_change_and (C := Tryd.checked) (X := fun w _ => laidMetH Tryd.prog laid2 w) (fun _ _ _ hh h => h.of_heap hh) own started (by kernel_rfl) Tryd.func3
    (ChangeSpec.witness_shaped (enc := enc) (C := Tryd.checked) (os := os) (X := fun w _ => laidMetH Tryd.prog laid2 w) false (World.doorLaid Tryd.prog 400 os)
      #[.agg #[.slice none 0 0, .int .i64 0, .int .i64 0, .int .i64 0, .int .i64 0, .int .i64 0], .slice none 0 0, .agg #[.int .i64 0, .int .i64 0]] 8 rfl (World.shaped_of_RefB (by kernel_rfl) (by kernel_rfl)) (by kernel_rfl) (by kernel_rfl) (by kernel_rfl) (door_met os _)) ?_
  intro W base args ds gs before hval0 hW _ _ hL _
  have hval : ∀ (j : Nat) t v, Tryd.f3.params[j]? = some t → args[j]? = some v → Value.okWide Tryd.prog W .any base t v := hval0
  have hW' := hW
  have hlt := hW.lt
  obtain ⟨p, q, hA0, hV, rfl, hfz, hnd⟩ := hW
  have hA : DataW.TrodAll enc Tryd.prog W 0 (fun _ => true) true Tryd.f3.params.toList args.toList ds p := hA0
  rw [Tryd.params3] at hA hval
  obtain ⟨v0, v1, v2, d0, d1, d2, p0, p1, p2, rfl, rfl, rfl, h0, h1, h2⟩ := trodAll_three hA
  obtain ⟨rfl, rfl⟩ := trodVars_none hV
  obtain ⟨s, n0, n1, n2, n3, n4, rfl, hs⟩ := film_open h0 (hval 0 26 v0 rfl rfl)
  obtain ⟨bb, bl, bc, y, rfl, hbl, hbc, hb⟩ := ints_open Tryd.underlying27 (by kernel_rfl) h1 (hval 1 27 v1 rfl rfl)
  obtain ⟨m0, m1, rfl⟩ := pair_open Tryd.underlying28 (by kernel_rfl) (by kernel_rfl) (hval 2 28 v2 rfl rfl)
  clear hA0 hval0
  simp only [List.append_nil] at hW' hlt
  refine (mix_any (nf := fun i => if i = 0 then n0 else if i = 1 then n1 else if i = 2 then n2 else if i = 3 then n3 else n4) (glob_of_laid hL) hs rfl hbl hbc hb).mono fun e W' ⟨he, hb⟩ => ?_
  subst he
  have e1 : Rows.reelMixedSpec.fn H ([d0, d1, d2] ++ []) = { results := [.lit (.bool true)], args := [d0, d1, d2] } := by simp [Rows.reelMixedSpec]
  refine ⟨_, rfl, _, _, _, [], p0 ++ p1 ++ p2, [], hW', ?_, ?_, ?_, hb.frame _, fun h => by cases h⟩
  · rw [e1]; exact trodAll_mk1 (shut_bool Tryd.underlying4 true)
  · rw [e1, List.append_assoc p0 p1 p2]
    exact trodAll_mk3 (Below.trod laidOut (by kernel_rfl) (of_decide_eq_true (by kernel_rfl)) h0 hb (fun x hx => hlt x (by simp [hx]))) (Below.trod laidOut (by kernel_rfl) (of_decide_eq_true (by kernel_rfl)) h1 hb (fun x hx => hlt x (by simp [hx])))
      (Below.trod laidOut (by kernel_rfl) (of_decide_eq_true (by kernel_rfl)) h2 hb (fun x hx => hlt x (by simp [hx])))
  · rw [e1]; rfl
theorem reelMixed_holds : Rows.ReelMixedSaid :=
  OpenClaim.holds_of_wide 3 Tryd.f3 rfl rfl rfl rfl rfl rfl rfl ⟨rfl, rfl, rfl, rfl, rfl⟩ rfl rfl rfl rfl rfl (by kernel_rfl) Tryd.func3 (by kernel_rfl)
    (of_decide_eq_true (by kernel_rfl)) (by unfold Func.isWrapper; first | (rw [if_pos (by decide +kernel)]; kernel_rfl) | (rw [if_neg (by decide +kernel)]; exact ⟨rfl, rfl⟩))
    (fun os started H enc _ => mix_lifted os started H enc)
/-- ████ THE TIED CARD -/
theorem reelMixed_card_holds : Rows.ReelMixedCardSaid :=
  Claim7.holds_tied_plain_at .later [] [.data, .data] true (true, "bb2a8a6c5ad0a017603140182c3627988196634078cfbcc964ef856d0b84f3f9") false
    reelMixed_holds (fun _ h => by cases h) (by kernel_rfl) (fun _ h => by cases h) reelMixed_row_tie rfl ⟨rfl, rfl⟩ (by kernel_rfl) rfl
    (fun f fn hf hfn => by
      obtain rfl : f = 3 := Option.some.inj ((show Tryd.prog.funcNamed "bioscope/bioscopelaw01.ReelMixed" = some 3 by kernel_rfl).symm.trans hf) |>.symm
      obtain rfl : fn = Tryd.f3 := (Option.some.inj (Tryd.func3.symm.trans hfn)).symm
      exact ⟨by kernel_rfl, fun j t ht => by
        rw [Tryd.params3] at ht
        have hm : t ∈ [26, 27, 28] := by simpa using Array.mem_of_getElem? ht
        have hall : ([26, 27, 28].all fun u => !Tryd.prog.wantsStandIn u) = true := by kernel_rfl
        exact (show Tryd.prog.wantsStandIn t = false by simpa using List.all_eq_true.1 hall t hm)⟩)
    (by kernel_rfl)
#print axioms reelMixed_card_holds
end Go.Proofs.YtlaakbmimplceaaDoor
