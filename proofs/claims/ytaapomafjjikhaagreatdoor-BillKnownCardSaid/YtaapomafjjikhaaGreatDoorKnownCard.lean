/- The closed statement BillKnown hands back true, in whatever world the listed package variables lie as their initialisers lay them, and leaves what lay there; no other condition. -/
import Derived.Test.YtaapomafjjikhaaGreatDoorKnown
import Derived.Test.YtaapomafjjikhaaGreatDoorSxOpen
import Derived.Test.YtaapomafjjikhaaGreatDoorTie
import Derived.Test.YtaapomafjjikhaaGreatDoorCards
import Derived.ProofKit
import Derived.LaidMore
import Derived.LaidHandle
import Derived.MakeChecks
import Derived.SevenTiedAt
import Derived.Stop.Joined
/-! The closed statement BillKnown hands back true, in whatever world the listed package variables lie as their initialisers lay them, and leaves what lay there; no other condition. -/
namespace Go.Proofs.YtaapomafjjikhaaGreatDoor
open Go Go.ChangeShapes Go.WideShapes Go.ChangeAt Go.RowKit Go.Sx
set_option maxRecDepth 100000

theorem own : ownKnob Tryz.prog.godebug = none := by kernel_rfl
noncomputable def tyOf (g : Nat) : TypeId := match (Tryz.prog.globals[g]?).map (·.type) with | some t => t | none => 0
theorem gn6 : Tryz.prog.globalNamed "bioscope/reel.reelBounds" = some 6 := by kernel_rfl
theorem gt6 : (Tryz.prog.globals[6]?).map (·.type) = some (tyOf 6) := by kernel_rfl
theorem gn3 : Tryz.prog.globalNamed "bioscope/reel.filmBounds" = some 3 := by kernel_rfl
theorem gt3 : (Tryz.prog.globals[3]?).map (·.type) = some (tyOf 3) := by kernel_rfl
theorem gn4 : Tryz.prog.globalNamed "bioscope/licence.townBounds" = some 4 := by kernel_rfl
theorem gt4 : (Tryz.prog.globals[4]?).map (·.type) = some (tyOf 4) := by kernel_rfl
theorem gn7 : Tryz.prog.globalNamed "bioscope/licence.kindBounds" = some 7 := by kernel_rfl
theorem gt7 : (Tryz.prog.globals[7]?).map (·.type) = some (tyOf 7) := by kernel_rfl
theorem gn1 : Tryz.prog.globalNamed "bioscope/bill.bookBounds" = some 1 := by kernel_rfl
theorem gt1 : (Tryz.prog.globals[1]?).map (·.type) = some (tyOf 1) := by kernel_rfl
theorem gn2 : Tryz.prog.globalNamed "bioscope/bill.spanBounds" = some 2 := by kernel_rfl
theorem gt2 : (Tryz.prog.globals[2]?).map (·.type) = some (tyOf 2) := by kernel_rfl
theorem gn5 : Tryz.prog.globalNamed "bioscope/bill.filmBounds" = some 5 := by kernel_rfl
theorem gt5 : (Tryz.prog.globals[5]?).map (·.type) = some (tyOf 5) := by kernel_rfl

def laid2 {H : Type} : List (String × DataW H) := [("bioscope/reel.reelBounds", Rows.laid_bioscope_reel_reelBounds), ("bioscope/reel.filmBounds", Rows.laid_bioscope_reel_filmBounds), ("bioscope/licence.townBounds", Rows.laid_bioscope_licence_townBounds), ("bioscope/licence.kindBounds", Rows.laid_bioscope_licence_kindBounds), ("bioscope/bill.bookBounds", Rows.laid_bioscope_bill_bookBounds), ("bioscope/bill.spanBounds", Rows.laid_bioscope_bill_spanBounds), ("bioscope/bill.filmBounds", Rows.laid_bioscope_bill_filmBounds)]

theorem var_cells {P : Program} {W : World} {n : String} {g : Nat} {cs : Array Value} (hg : P.globalNamed n = some g) (h : W.var? P n = some cs) : ∃ el fz, W.heap[g]? = some (.cells cs el fz) := by
  simp only [World.var?, hg, Option.bind_some] at h
  split at h
  · rename_i c el fz hh; cases h; exact ⟨el, fz, hh⟩
  · cases h

noncomputable def ρ0 : Rho := ⟨fun _ => 0, fun _ => false, fun _ _ _ _ => 0, fun _ _ _ _ => false, fun _ => .tuple #[]⟩

/-- what the listed variables hold, as the closed call wants it -/
theorem glob_of_laid {W : World} (h : laidMetH Tryz.prog laid2 W) : ∀ g ∈ gl, GlobIn W ρ0 g := by
  rw [MakeChecks.laidMetH_plain _ _ _ (by kernel_rfl)] at h
  obtain ⟨ps, ⟨g0, t0, cs0, f0, p0, q0, hg0, ht0, hv0, hd0, ⟨g1, t1, cs1, f1, p1, q1, hg1, ht1, hv1, hd1, ⟨g2, t2, cs2, f2, p2, q2, hg2, ht2, hv2, hd2, ⟨g3, t3, cs3, f3, p3, q3, hg3, ht3, hv3, hd3, ⟨g4, t4, cs4, f4, p4, q4, hg4, ht4, hv4, hd4, ⟨g5, t5, cs5, f5, p5, q5, hg5, ht5, hv5, hd5, ⟨g6, t6, cs6, f6, p6, q6, hg6, ht6, hv6, hd6, _, _⟩, _⟩, _⟩, _⟩, _⟩, _⟩, _⟩, _, _⟩ := h
  obtain rfl := Option.some.inj (gn6.symm.trans hg0)
  obtain rfl := Option.some.inj (gn3.symm.trans hg1)
  obtain rfl := Option.some.inj (gn4.symm.trans hg2)
  obtain rfl := Option.some.inj (gn7.symm.trans hg3)
  obtain rfl := Option.some.inj (gn1.symm.trans hg4)
  obtain rfl := Option.some.inj (gn2.symm.trans hg5)
  obtain rfl := Option.some.inj (gn5.symm.trans hg6)
  obtain rfl := Option.some.inj (gt6.symm.trans ht0)
  obtain rfl := Option.some.inj (gt3.symm.trans ht1)
  obtain rfl := Option.some.inj (gt4.symm.trans ht2)
  obtain rfl := Option.some.inj (gt7.symm.trans ht3)
  obtain rfl := Option.some.inj (gt1.symm.trans ht4)
  obtain rfl := Option.some.inj (gt2.symm.trans ht5)
  obtain rfl := Option.some.inj (gt5.symm.trans ht6)
  obtain ⟨e0, _, _⟩ := flat_trod 6 (tyOf 6) f0 _ _ (by kernel_rfl) hd0
  obtain ⟨el0, fz0, h0⟩ := var_cells gn6 hv0
  obtain ⟨e1, _, _⟩ := flat_trod 6 (tyOf 3) f1 _ _ (by kernel_rfl) hd1
  obtain ⟨el1, fz1, h1⟩ := var_cells gn3 hv1
  obtain ⟨e2, _, _⟩ := flat_trod 6 (tyOf 4) f2 _ _ (by kernel_rfl) hd2
  obtain ⟨el2, fz2, h2⟩ := var_cells gn4 hv2
  obtain ⟨e3, _, _⟩ := flat_trod 6 (tyOf 7) f3 _ _ (by kernel_rfl) hd3
  obtain ⟨el3, fz3, h3⟩ := var_cells gn7 hv3
  obtain ⟨e4, _, _⟩ := flat_trod 6 (tyOf 1) f4 _ _ (by kernel_rfl) hd4
  obtain ⟨el4, fz4, h4⟩ := var_cells gn1 hv4
  obtain ⟨e5, _, _⟩ := flat_trod 6 (tyOf 2) f5 _ _ (by kernel_rfl) hd5
  obtain ⟨el5, fz5, h5⟩ := var_cells gn2 hv5
  obtain ⟨e6, _, _⟩ := flat_trod 6 (tyOf 5) f6 _ _ (by kernel_rfl) hd6
  obtain ⟨el6, fz6, h6⟩ := var_cells gn5 hv6
  intro g hg
  simp only [gl, List.mem_cons, List.not_mem_nil, or_false] at hg
  rcases hg with rfl | rfl | rfl | rfl | rfl | rfl | rfl
  · refine ⟨by omega, _, cs4, el4, fz4, rfl, h4, fun i hi => ?_⟩
    rw [← Array.getElem?_toList, e4]; rfl
  · refine ⟨by omega, _, cs5, el5, fz5, rfl, h5, fun i hi => ?_⟩
    rw [← Array.getElem?_toList, e5]; rfl
  · refine ⟨by omega, _, cs1, el1, fz1, rfl, h1, fun i hi => ?_⟩
    rw [← Array.getElem?_toList, e1]; rfl
  · refine ⟨by omega, _, cs2, el2, fz2, rfl, h2, fun i hi => ?_⟩
    rw [← Array.getElem?_toList, e2]; rfl
  · refine ⟨by omega, _, cs6, el6, fz6, rfl, h6, fun i hi => ?_⟩
    rw [← Array.getElem?_toList, e6]; rfl
  · refine ⟨by omega, _, cs0, el0, fz0, rfl, h0, fun i hi => ?_⟩
    rw [← Array.getElem?_toList, e0]; rfl
  · refine ⟨by omega, _, cs3, el3, fz3, rfl, h3, fun i hi => ?_⟩
    rw [← Array.getElem?_toList, e3]; rfl

/-- The door's own heap meets the condition. -/
theorem door_met (os : Os) (args : Array Value) : laidMetH Tryz.prog laid2 ((World.doorLaid Tryz.prog 400 os).forCall (fun _ _ => 0) ⟨#[], args, []⟩).memory :=
  laidMetH_of_parts3 (fuel := 8) (laidMet_of_run' 8 (by kernel_rfl) (by kernel_rfl)) (by kernel_rfl) (by kernel_rfl)

theorem known_lifted (os : Os) (started : os.Started) (H : Type) (enc : TypeId × Value → H) :
    ReturnsInHanded {} Tryz.checked os 11 .any (fun w args => (Rows.billKnownSpec.pre enc Tryz.prog Tryz.f11 [] false w args ∧ laidMetH Tryz.prog laid2 w) ∧ sizedMet enc Tryz.prog Tryz.f11 (OpenSpec.ofChange Rows.billKnownSpec) false w args)
      (Rows.billKnownSpec.post enc Tryz.prog Tryz.f11 false true false false) := by
  refine returnsInHanded_of_change_and (C := Tryz.checked) (X := fun w _ => laidMetH Tryz.prog laid2 w) (fun _ _ _ hh h => h.of_heap hh) own started (by kernel_rfl) Tryz.func11
    (ChangeSpec.witness_shaped (enc := enc) (C := Tryz.checked) (os := os) (X := fun w _ => laidMetH Tryz.prog laid2 w) false (World.doorLaid Tryz.prog 400 os)
      #[] 8 rfl (World.shaped_of_RefB (by kernel_rfl) (by kernel_rfl)) (by kernel_rfl) (by kernel_rfl) (by kernel_rfl) (door_met os _)) ?_
  intro W base args ds gs before hval0 hW _ _ hL _
  have hW' := hW
  obtain ⟨p, q, hA0, hV, rfl, hfz, hnd⟩ := hW
  have hA : DataW.TrodAll enc Tryz.prog W 0 (fun _ => true) true Tryz.f11.params.toList args.toList ds p := hA0
  rw [Tryz.params11] at hA
  obtain ⟨ha, rfl, rfl⟩ : args.toList = [] ∧ ds = [] ∧ p = [] := by
    revert hA
    cases args.toList <;> cases ds <;> intro hA <;> first | exact ⟨rfl, rfl, hA⟩ | exact hA.elim
  obtain ⟨rfl, rfl⟩ := trodVars_none hV
  obtain rfl : args = #[] := Array.toList_inj.1 ha
  simp only [List.append_nil] at hW'
  refine (known_ok (glob_of_laid hL)).mono fun e W' ⟨he, hb⟩ => ?_
  subst he
  have e1 : Rows.billKnownSpec.fn H ([] ++ []) = { results := [.lit (.bool true)], args := [] } := by simp [Rows.billKnownSpec]
  refine ⟨_, rfl, _, _, _, [], [], [], hW', ?_, ?_, ?_, hb.frame _, fun h => by cases h⟩
  · rw [e1]; exact trodAll_mk1 (shut_bool Tryz.underlying4 true)
  · rw [e1, Tryz.params11]; rfl
  · rw [e1]; rfl

theorem billKnown_holds : Rows.BillKnownSaid :=
  OpenClaim.holds_of_wide 11 Tryz.f11 rfl rfl rfl rfl rfl rfl rfl ⟨rfl, rfl, rfl, rfl, rfl⟩ rfl rfl rfl rfl rfl (by kernel_rfl) Tryz.func11 (by kernel_rfl)
    (of_decide_eq_true (by kernel_rfl)) (by unfold Func.isWrapper; first | (rw [if_pos (by decide +kernel)]; kernel_rfl) | (rw [if_neg (by decide +kernel)]; exact ⟨rfl, rfl⟩))
    (fun os started H enc _ => known_lifted os started H enc)

/-- ████ THE TIED CARD -/
theorem billKnown_card_holds : Rows.BillKnownCardSaid :=
  Claim7.holds_tied_plain_at .later [] [.data, .data, .data, .data, .data, .data, .data] true (true, "8ce4e0283f8c31cbb939d976c73fd01a1f61e21a25209d0e298f8eaccfa804d3") false
    billKnown_holds (fun _ h => by cases h) (by kernel_rfl) (fun _ h => by cases h) billKnown_row_tie rfl ⟨rfl, rfl⟩ (by kernel_rfl) rfl
    (fun f fn hf hfn => by
      obtain rfl : f = 11 := Option.some.inj ((show Tryz.prog.funcNamed "bioscope/bioscopelaw06.BillKnown" = some 11 by kernel_rfl).symm.trans hf) |>.symm
      obtain rfl : fn = Tryz.f11 := (Option.some.inj (Tryz.func11.symm.trans hfn)).symm
      exact ⟨by kernel_rfl, fun j t ht => by
        rw [Tryz.params11] at ht
        simp at ht⟩)
    (by kernel_rfl)
#print axioms billKnown_card_holds
end Go.Proofs.YtaapomafjjikhaaGreatDoor
