/-
  DERIVED. GIVEN WITH THE SEED: THE PROGRAM's TIES (one call each: nine closed facts by the kernel) AND EACH ROW's TIE, after the 31st guide's Derived/Test/Toyas{Tie, Card}.lean. No idea stands in it: it is a product of the set-up. Laid BY PROGRAM, IN A SANDBOX (cutbox-door.mjs). By AI agents, Wed Nov 11 2026. No macro, syntax, notation, axiom, sorry.
-/
import Derived.Test.YtkobhpalangomaaDoorRows
import Derived.LaidByTextLater
import Derived.SevenTiedAt
import Derived.LaidSub
import Derived.LaidOnce
namespace Go.Proofs.YtkobhpalangomaaDoor
open Go
set_option maxRecDepth 100000
theorem seatTie1 : Tryd.prog.laidByTextLater [("bioscope/pitch.groundBounds", Rows.laid_bioscope_pitch_groundBounds), ("bioscope/pitch.thingBounds", Rows.laid_bioscope_pitch_thingBounds)] [.data, .data] true :=
  Program.laidByTextLater_by_one 26 8 9 (by kernel_rfl) (by kernel_rfl) (by kernel_rfl) (by kernel_rfl) (by kernel_rfl) (by kernel_rfl) (fun _ _ => by kernel_rfl)
theorem noOwnUnsafe : Tryd.pinned.checked.prog.headLifts.contains "ownunsafe" = false := by kernel_rfl
theorem tie : Tryd.prog.laidByTextLater [("bioscope/pitch.groundBounds", Rows.laid_bioscope_pitch_groundBounds), ("bioscope/pitch.thingBounds", Rows.laid_bioscope_pitch_thingBounds)] [.data, .data] true :=
  Program.laidByTextLater.sub seatTie1 ["bioscope/pitch.groundBounds", "bioscope/pitch.thingBounds"] (by kernel_rfl) (by kernel_rfl)
theorem pitchKnown_row_tie : Rows.pitchKnownRow.laidByTextAt .later Tryd.pinned [.data, .data] true :=
  OpenClaim.laidByTextAt_later rfl rfl tie noOwnUnsafe
theorem pitchKnownUpto_row_tie : Rows.pitchKnownUptoRow.laidByTextAt .later Tryd.pinned [.data, .data] true :=
  OpenClaim.laidByTextAt_later rfl rfl tie noOwnUnsafe
end Go.Proofs.YtkobhpalangomaaDoor
