/- BestCard -/
import Derived.Test.YtoefmmmfefdcdaaDoorBeZ
import Derived.Test.YtoefmmmfefdcdaaDoorRyI
import Derived.Test.YtoefmmmfefdcdaaDoorTie
import Derived.Test.YtoefmmmfefdcdaaDoorCards
import Derived.ProofKit
import Derived.LaidMore
import Derived.LaidHandle
import Derived.MakeChecks
import Derived.SevenTiedAt
import Derived.Stop.Joined
namespace Go.Proofs.YtoefmmmfefdcdaaDoor
open Go Go.ChangeShapes Go.WideShapes Go.ChangeAt Go.RowKit Go.Sx
set_option maxRecDepth 100000
theorem own : ownKnob Tryd.prog.godebug = none := by kernel_rfl
theorem laidOut : laidOutB Tryd.prog = true := by kernel_rfl
noncomputable def tyOf (g : Nat) : TypeId := match (Tryd.prog.globals[g]?).map (·.type) with | some t => t | none => 0
theorem gn3 : Tryd.prog.globalNamed "bioscope/reel.reelBounds" = some 3 := by kernel_rfl
theorem gt3 : (Tryd.prog.globals[3]?).map (·.type) = some (tyOf 3) := by kernel_rfl
theorem gn2 : Tryd.prog.globalNamed "bioscope/reel.filmBounds" = some 2 := by kernel_rfl
theorem gt2 : (Tryd.prog.globals[2]?).map (·.type) = some (tyOf 2) := by kernel_rfl
theorem gn0 : Tryd.prog.globalNamed "bioscope/relay.bookBounds" = some 0 := by kernel_rfl
theorem gt0 : (Tryd.prog.globals[0]?).map (·.type) = some (tyOf 0) := by kernel_rfl
theorem gn1 : Tryd.prog.globalNamed "bioscope/relay.rideBounds" = some 1 := by kernel_rfl
theorem gt1 : (Tryd.prog.globals[1]?).map (·.type) = some (tyOf 1) := by kernel_rfl
def laid2 {H : Type} : List (String × DataW H) := [("bioscope/reel.reelBounds", Rows.laid_bioscope_reel_reelBounds), ("bioscope/reel.filmBounds", Rows.laid_bioscope_reel_filmBounds), ("bioscope/relay.bookBounds", Rows.laid_bioscope_relay_bookBounds), ("bioscope/relay.rideBounds", Rows.laid_bioscope_relay_rideBounds)]
theorem var_cells {P : Program} {W : World} {n : String} {g : Nat} {cs : Array Value} (hg : P.globalNamed n = some g) (h : W.var? P n = some cs) : ∃ el fz, W.heap[g]? = some (.cells cs el fz) := by
  simp only [World.var?, hg, Option.bind_some] at h
  split at h
  · rename_i c el fz hh; cases h; exact ⟨el, fz, hh⟩
  · cases h
noncomputable def ρ0 : Rho := ⟨fun _ => 0, fun _ => false, fun _ _ _ _ => 0, fun _ _ _ _ => false, fun _ => .tuple #[]⟩
theorem glob_of_laid {W : World} (h : laidMetH Tryd.prog laid2 W) : ∀ g ∈ glR, GlobIn W ρ0 g := by
  rw [MakeChecks.laidMetH_plain _ _ _ (by kernel_rfl)] at h
  obtain ⟨ps, ⟨g0, t0, cs0, f0, p0, q0, hg0, ht0, hv0, hd0, ⟨g1, t1, cs1, f1, p1, q1, hg1, ht1, hv1, hd1, ⟨g2, t2, cs2, f2, p2, q2, hg2, ht2, hv2, hd2, ⟨g3, t3, cs3, f3, p3, q3, hg3, ht3, hv3, hd3, _, _⟩, _⟩, _⟩, _⟩, _, _⟩ := h
  obtain rfl := Option.some.inj (gn3.symm.trans hg0)
  obtain rfl := Option.some.inj (gn2.symm.trans hg1)
  obtain rfl := Option.some.inj (gn0.symm.trans hg2)
  obtain rfl := Option.some.inj (gn1.symm.trans hg3)
  obtain rfl := Option.some.inj (gt3.symm.trans ht0)
  obtain rfl := Option.some.inj (gt2.symm.trans ht1)
  obtain rfl := Option.some.inj (gt0.symm.trans ht2)
  obtain rfl := Option.some.inj (gt1.symm.trans ht3)
  obtain ⟨e0, _, _⟩ := flat_trod 6 (tyOf 3) f0 _ _ (by kernel_rfl) hd0
  obtain ⟨el0, fz0, h0⟩ := var_cells gn3 hv0
  obtain ⟨e1, _, _⟩ := flat_trod 6 (tyOf 2) f1 _ _ (by kernel_rfl) hd1
  obtain ⟨el1, fz1, h1⟩ := var_cells gn2 hv1
  obtain ⟨e2, _, _⟩ := flat_trod 6 (tyOf 0) f2 _ _ (by kernel_rfl) hd2
  obtain ⟨el2, fz2, h2⟩ := var_cells gn0 hv2
  obtain ⟨e3, _, _⟩ := flat_trod 6 (tyOf 1) f3 _ _ (by kernel_rfl) hd3
  obtain ⟨el3, fz3, h3⟩ := var_cells gn1 hv3
  intro g hg
  simp only [glR, List.mem_cons, List.not_mem_nil, or_false] at hg
  rcases hg with rfl | rfl | rfl | rfl
  · refine ⟨by omega, _, cs2, el2, fz2, rfl, h2, fun i hi => ?_⟩
    rw [← Array.getElem?_toList, e2]; rfl
  · refine ⟨by omega, _, cs3, el3, fz3, rfl, h3, fun i hi => ?_⟩
    rw [← Array.getElem?_toList, e3]; rfl
  · refine ⟨by omega, _, cs1, el1, fz1, rfl, h1, fun i hi => ?_⟩
    rw [← Array.getElem?_toList, e1]; rfl
  · refine ⟨by omega, _, cs0, el0, fz0, rfl, h0, fun i hi => ?_⟩
    rw [← Array.getElem?_toList, e0]; rfl
theorem door_met (os : Os) (args : Array Value) : laidMetH Tryd.prog laid2 ((World.doorLaid Tryd.prog 400 os).forCall (fun _ _ => 0) ⟨#[], args, []⟩).memory :=
  laidMetH_of_parts3 (fuel := 8) (laidMet_of_run' 8 (by kernel_rfl) (by kernel_rfl)) (by kernel_rfl) (by kernel_rfl)
theorem best_lifted (os : Os) (started : os.Started) (H : Type) (enc : TypeId × Value → H) :
    ReturnsInHanded {} Tryd.checked os 3 .any (fun w args => (Rows.relayBestSpec.pre enc Tryd.prog Tryd.f3 [] false w args ∧ laidMetH Tryd.prog laid2 w) ∧ sizedMet enc Tryd.prog Tryd.f3 (OpenSpec.ofChange Rows.relayBestSpec) false w args)
      (Rows.relayBestSpec.post enc Tryd.prog Tryd.f3 false true false false) := by
  refine returnsInHanded_of_change_and (C := Tryd.checked) (X := fun w _ => laidMetH Tryd.prog laid2 w) (fun _ _ _ hh h => h.of_heap hh) own started (by kernel_rfl) Tryd.func3
    (ChangeSpec.witness_shaped (enc := enc) (C := Tryd.checked) (os := os) (X := fun w _ => laidMetH Tryd.prog laid2 w) false (World.doorLaid Tryd.prog 400 os)
      #[.agg #[.slice none 0 0, .int .i64 0, .int .i64 0, .int .i64 0, .int .i64 0, .int .i64 0, .int .i64 0, .int .i64 0, .int .i64 0, .int .i64 0, .int .i64 0, .int .i64 0], .slice none 0 0] 8 rfl (World.shaped_of_RefB (by kernel_rfl) (by kernel_rfl)) (by kernel_rfl) (by kernel_rfl) (by kernel_rfl) (door_met os _)) ?_
  intro W base args ds gs before hval0 hW _ _ hL _
  have hval : ∀ (j : Nat) t v, Tryd.f3.params[j]? = some t → args[j]? = some v → Value.okWide Tryd.prog W .any base t v := hval0
  have hW' := hW
  have hlt := hW.lt
  obtain ⟨p, q, hA0, hV, rfl, hfz, hnd⟩ := hW
  have hA : DataW.TrodAll enc Tryd.prog W 0 (fun _ => true) true Tryd.f3.params.toList args.toList ds p := hA0
  rw [Tryd.params3] at hA hval
  obtain ⟨v0, v1, d0, d1, p0, p1, rfl, rfl, rfl, h0, h1⟩ := trodAll_two hA
  obtain ⟨rfl, rfl⟩ := trodVars_none hV
  obtain ⟨s, n0, n1, n2, n3, n4, m0, m1, m2, m3, m4, m5, rfl, hs⟩ := book_open h0 (hval 0 28 v0 rfl rfl)
  obtain ⟨bb, bl, bc, y, rfl, hbl, hbc, hb⟩ := ints_open Tryd.underlying29 (by kernel_rfl) h1 (hval 1 29 v1 rfl rfl)
  clear hA0 hval0
  simp only [List.append_nil] at hW' hlt
  refine (best_any (nf := fun i => if i = 0 then n0 else if i = 1 then n1 else if i = 2 then n2 else if i = 3 then n3 else n4) (bk := fun i => if i = 0 then m0 else if i = 1 then m1 else if i = 2 then m2 else if i = 3 then m3 else if i = 4 then m4 else m5) (glob_of_laid hL) hs rfl hbl hbc hb).mono fun e W' ⟨he, hb⟩ => ?_
  subst he
  have e1 : Rows.relayBestSpec.fn H ([d0, d1] ++ []) = { results := [.lit (.bool true)], args := [d0, d1] } := by simp [Rows.relayBestSpec]
  refine ⟨_, rfl, _, _, _, [], p0 ++ p1, [], hW', ?_, ?_, ?_, hb.frame _, fun h => by cases h⟩
  · rw [e1]; exact trodAll_mk1 (shut_bool Tryd.underlying4 true)
  · rw [e1]
    exact trodAll_mk2 (Below.trod laidOut (by kernel_rfl) (of_decide_eq_true (by kernel_rfl)) h0 hb (fun x hx => hlt x (by simp [hx]))) (Below.trod laidOut (by kernel_rfl) (of_decide_eq_true (by kernel_rfl)) h1 hb (fun x hx => hlt x (by simp [hx])))
  · rw [e1]; rfl
theorem relayBest_holds : Rows.RelayBestSaid :=
  OpenClaim.holds_of_wide 3 Tryd.f3 rfl rfl rfl rfl rfl rfl rfl ⟨rfl, rfl, rfl, rfl, rfl⟩ rfl rfl rfl rfl rfl (by kernel_rfl) Tryd.func3 (by kernel_rfl)
    (of_decide_eq_true (by kernel_rfl)) (by unfold Func.isWrapper; first | (rw [if_pos (by decide +kernel)]; kernel_rfl) | (rw [if_neg (by decide +kernel)]; exact ⟨rfl, rfl⟩))
    (fun os started H enc _ => best_lifted os started H enc)
theorem relayBest_card_holds : Rows.RelayBestCardSaid :=
  Claim7.holds_tied_plain_at .later [] [.data, .data, .data, .data] true (true, "990ba42512ac0f7597b050bde61cb1c8ad349569958634aa9c7123315648b959") false
    relayBest_holds (fun _ h => by cases h) (by kernel_rfl) (fun _ h => by cases h) relayBest_row_tie rfl ⟨rfl, rfl⟩ (by kernel_rfl) rfl
    (fun f fn hf hfn => by
      obtain rfl : f = 3 := Option.some.inj ((show Tryd.prog.funcNamed "bioscope/bioscopelaw08.RelayBest" = some 3 by kernel_rfl).symm.trans hf) |>.symm
      obtain rfl : fn = Tryd.f3 := (Option.some.inj (Tryd.func3.symm.trans hfn)).symm
      exact ⟨by kernel_rfl, fun j t ht => by
        rw [Tryd.params3] at ht
        have hm : t ∈ [28, 29] := by simpa using Array.mem_of_getElem? ht
        have hall : ([28, 29].all fun u => !Tryd.prog.wantsStandIn u) = true := by kernel_rfl
        exact (show Tryd.prog.wantsStandIn t = false by simpa using List.all_eq_true.1 hall t hm)⟩)
    (by kernel_rfl)
#print axioms relayBest_card_holds
end Go.Proofs.YtoefmmmfefdcdaaDoor
