/- The closed statement LostKnown hands back true, in whatever world the listed package variables lie as their initialisers lay them, and leaves what lay there; no other condition. -/
import Derived.Test.YtedkhkeaioppnaaDoorEntT2
import Derived.Test.YtedkhkeaioppnaaDoorEnt0
import Derived.Test.YtedkhkeaioppnaaDoorTie
import Derived.Test.YtedkhkeaioppnaaDoorCards
import Derived.ProofKit
import Derived.LaidMore
import Derived.LaidHandle
import Derived.MakeChecks
import Derived.SevenTiedAt
import Derived.Stop.Joined
/-! THE CLOSED CALL. -/
namespace Go.Sx
open Go.RowKit Go.Proofs
set_option maxRecDepth 100000
theorem known_run : isTrue1 (evalN tb2 100 false 3 [] (globHeap gl)) = true := by kernel_rfl

/-- IN WHATEVER WORLD the package variables lie as said. -/
theorem known_ok {ρ : Rho} {w : World} (hg : ∀ g ∈ gl, GlobIn w ρ g) : Calls Tryd.prog 3 #[] w fun e w' => e = .returned (.bool true) ∧ Below w.heap.size w w' :=
  closed_true1 tabs2 known_run hg (Par.okB_all (fun _ _ => trivial) _ _)
end Go.Sx
/-! The closed statement LostKnown hands back true, in whatever world the listed package variables lie as their initialisers lay them, and leaves what lay there; no other condition. -/
namespace Go.Proofs.YtedkhkeaioppnaaDoor
open Go Go.ChangeShapes Go.WideShapes Go.ChangeAt Go.RowKit Go.Sx
set_option maxRecDepth 100000

theorem own : ownKnob Tryd.prog.godebug = none := by kernel_rfl
noncomputable def tyOf (g : Nat) : TypeId := match (Tryd.prog.globals[g]?).map (·.type) with | some t => t | none => 0
theorem gn1 : Tryd.prog.globalNamed "bioscope/train.tableBounds" = some 1 := by kernel_rfl
theorem gt1 : (Tryd.prog.globals[1]?).map (·.type) = some (tyOf 1) := by kernel_rfl
theorem gn2 : Tryd.prog.globalNamed "bioscope/train.trainBounds" = some 2 := by kernel_rfl
theorem gt2 : (Tryd.prog.globals[2]?).map (·.type) = some (tyOf 2) := by kernel_rfl
theorem gn0 : Tryd.prog.globalNamed "bioscope/lost.bookBounds" = some 0 := by kernel_rfl
theorem gt0 : (Tryd.prog.globals[0]?).map (·.type) = some (tyOf 0) := by kernel_rfl

def laid2 {H : Type} : List (String × DataW H) := [("bioscope/train.tableBounds", Rows.laid_bioscope_train_tableBounds), ("bioscope/train.trainBounds", Rows.laid_bioscope_train_trainBounds), ("bioscope/lost.bookBounds", Rows.laid_bioscope_lost_bookBounds)]

theorem var_cells {P : Program} {W : World} {n : String} {g : Nat} {cs : Array Value} (hg : P.globalNamed n = some g) (h : W.var? P n = some cs) : ∃ el fz, W.heap[g]? = some (.cells cs el fz) := by
  simp only [World.var?, hg, Option.bind_some] at h
  split at h
  · rename_i c el fz hh; cases h; exact ⟨el, fz, hh⟩
  · cases h

noncomputable def ρ0 : Rho := ⟨fun _ => 0, fun _ => false, fun _ _ _ _ => 0, fun _ _ _ _ => false, fun _ => .tuple #[]⟩

/-- what the listed variables hold, as the closed call wants it -/
theorem glob_of_laid {W : World} (h : laidMetH Tryd.prog laid2 W) : ∀ g ∈ gl, GlobIn W ρ0 g := by
  rw [MakeChecks.laidMetH_plain _ _ _ (by kernel_rfl)] at h
  obtain ⟨ps, ⟨g0, t0, cs0, f0, p0, q0, hg0, ht0, hv0, hd0, ⟨g1, t1, cs1, f1, p1, q1, hg1, ht1, hv1, hd1, ⟨g2, t2, cs2, f2, p2, q2, hg2, ht2, hv2, hd2, _, _⟩, _⟩, _⟩, _, _⟩ := h
  obtain rfl := Option.some.inj (gn1.symm.trans hg0)
  obtain rfl := Option.some.inj (gn2.symm.trans hg1)
  obtain rfl := Option.some.inj (gn0.symm.trans hg2)
  obtain rfl := Option.some.inj (gt1.symm.trans ht0)
  obtain rfl := Option.some.inj (gt2.symm.trans ht1)
  obtain rfl := Option.some.inj (gt0.symm.trans ht2)
  obtain ⟨e0, _, _⟩ := flat_trod 6 (tyOf 1) f0 _ _ (by kernel_rfl) hd0
  obtain ⟨el0, fz0, h0⟩ := var_cells gn1 hv0
  obtain ⟨e1, _, _⟩ := flat_trod 6 (tyOf 2) f1 _ _ (by kernel_rfl) hd1
  obtain ⟨el1, fz1, h1⟩ := var_cells gn2 hv1
  obtain ⟨e2, _, _⟩ := flat_trod 6 (tyOf 0) f2 _ _ (by kernel_rfl) hd2
  obtain ⟨el2, fz2, h2⟩ := var_cells gn0 hv2
  intro g hg
  simp only [gl, List.mem_cons, List.not_mem_nil, or_false] at hg
  rcases hg with rfl | rfl | rfl
  · refine ⟨by omega, _, cs2, el2, fz2, rfl, h2, fun i hi => ?_⟩
    rw [← Array.getElem?_toList, e2]; rfl
  · refine ⟨by omega, _, cs0, el0, fz0, rfl, h0, fun i hi => ?_⟩
    rw [← Array.getElem?_toList, e0]; rfl
  · refine ⟨by omega, _, cs1, el1, fz1, rfl, h1, fun i hi => ?_⟩
    rw [← Array.getElem?_toList, e1]; rfl

/-- The door's own heap meets the condition. -/
theorem door_met (os : Os) (args : Array Value) : laidMetH Tryd.prog laid2 ((World.doorLaid Tryd.prog 400 os).forCall (fun _ _ => 0) ⟨#[], args, []⟩).memory :=
  laidMetH_of_parts3 (fuel := 8) (laidMet_of_run' 8 (by kernel_rfl) (by kernel_rfl)) (by kernel_rfl) (by kernel_rfl)

theorem known_lifted (os : Os) (started : os.Started) (H : Type) (enc : TypeId × Value → H) :
    ReturnsInHanded {} Tryd.checked os 3 .any (fun w args => (Rows.lostKnownSpec.pre enc Tryd.prog Tryd.f3 [] false w args ∧ laidMetH Tryd.prog laid2 w) ∧ sizedMet enc Tryd.prog Tryd.f3 (OpenSpec.ofChange Rows.lostKnownSpec) false w args)
      (Rows.lostKnownSpec.post enc Tryd.prog Tryd.f3 false true false false) := by
  refine returnsInHanded_of_change_and (C := Tryd.checked) (X := fun w _ => laidMetH Tryd.prog laid2 w) (fun _ _ _ hh h => h.of_heap hh) own started (by kernel_rfl) Tryd.func3
    (ChangeSpec.witness_shaped (enc := enc) (C := Tryd.checked) (os := os) (X := fun w _ => laidMetH Tryd.prog laid2 w) false (World.doorLaid Tryd.prog 400 os)
      #[] 8 rfl (World.shaped_of_RefB (by kernel_rfl) (by kernel_rfl)) (by kernel_rfl) (by kernel_rfl) (by kernel_rfl) (door_met os _)) ?_
  intro W base args ds gs before hval0 hW _ _ hL _
  have hW' := hW
  obtain ⟨p, q, hA0, hV, rfl, hfz, hnd⟩ := hW
  have hA : DataW.TrodAll enc Tryd.prog W 0 (fun _ => true) true Tryd.f3.params.toList args.toList ds p := hA0
  rw [Tryd.params3] at hA
  obtain ⟨ha, rfl, rfl⟩ : args.toList = [] ∧ ds = [] ∧ p = [] := by
    revert hA
    cases args.toList <;> cases ds <;> intro hA <;> first | exact ⟨rfl, rfl, hA⟩ | exact hA.elim
  obtain ⟨rfl, rfl⟩ := trodVars_none hV
  obtain rfl : args = #[] := Array.toList_inj.1 ha
  simp only [List.append_nil] at hW'
  refine (known_ok (glob_of_laid hL)).mono fun e W' ⟨he, hb⟩ => ?_
  subst he
  have e1 : Rows.lostKnownSpec.fn H ([] ++ []) = { results := [.lit (.bool true)], args := [] } := by simp [Rows.lostKnownSpec]
  refine ⟨_, rfl, _, _, _, [], [], [], hW', ?_, ?_, ?_, hb.frame _, fun h => by cases h⟩
  · rw [e1]; exact trodAll_mk1 (shut_bool Tryd.underlying4 true)
  · rw [e1, Tryd.params3]; rfl
  · rw [e1]; rfl

theorem lostKnown_holds : Rows.LostKnownSaid :=
  OpenClaim.holds_of_wide 3 Tryd.f3 rfl rfl rfl rfl rfl rfl rfl ⟨rfl, rfl, rfl, rfl, rfl⟩ rfl rfl rfl rfl rfl (by kernel_rfl) Tryd.func3 (by kernel_rfl)
    (of_decide_eq_true (by kernel_rfl)) (by unfold Func.isWrapper; first | (rw [if_pos (by decide +kernel)]; kernel_rfl) | (rw [if_neg (by decide +kernel)]; exact ⟨rfl, rfl⟩))
    (fun os started H enc _ => known_lifted os started H enc)

/-- ████ THE TIED CARD -/
theorem lostKnown_card_holds : Rows.LostKnownCardSaid :=
  Claim7.holds_tied_plain_at .later [] [.data, .data, .data] true (true, "d8f0e53e1ead29fd6b3d1fc52c35a25358aee4e531feacdedb22d54abceb0fba") false
    lostKnown_holds (fun _ h => by cases h) (by kernel_rfl) (fun _ h => by cases h) lostKnown_row_tie rfl ⟨rfl, rfl⟩ (by kernel_rfl) rfl
    (fun f fn hf hfn => by
      obtain rfl : f = 3 := Option.some.inj ((show Tryd.prog.funcNamed "bioscope/bioscopelaw10.LostKnown" = some 3 by kernel_rfl).symm.trans hf) |>.symm
      obtain rfl : fn = Tryd.f3 := (Option.some.inj (Tryd.func3.symm.trans hfn)).symm
      exact ⟨by kernel_rfl, fun j t ht => by
        rw [Tryd.params3] at ht
        simp at ht⟩)
    (by kernel_rfl)
#print axioms lostKnown_card_holds
end Go.Proofs.YtedkhkeaioppnaaDoor
