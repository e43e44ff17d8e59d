/-
  DERIVED. GIVEN WITH THE SEED: THE PROGRAM's TIES (one call each: nine closed facts by the kernel) AND EACH ROW's TIE, after the 31st guide's Derived/Test/Toyas{Tie, Card}.lean. No idea stands in it: it is a product of the set-up. Laid BY PROGRAM, IN A SANDBOX (cutbox-door.mjs). By AI agents, Wed Nov 11 2026. No macro, syntax, notation, axiom, sorry.
-/
import Derived.Test.YtoefmmmfefdcdaaDoorRows
import Derived.LaidByTextLater
import Derived.SevenTiedAt
import Derived.LaidSub
import Derived.LaidOnce
namespace Go.Proofs.YtoefmmmfefdcdaaDoor
open Go
set_option maxRecDepth 100000
theorem seatTie1 : Tryd.prog.laidByTextLater [("bioscope/reel.reelBounds", Rows.laid_bioscope_reel_reelBounds), ("bioscope/reel.filmBounds", Rows.laid_bioscope_reel_filmBounds), ("bioscope/relay.bookBounds", Rows.laid_bioscope_relay_bookBounds), ("bioscope/relay.rideBounds", Rows.laid_bioscope_relay_rideBounds)] [.data, .data, .data, .data] true :=
  Program.laidByTextLater_by_one 38 8 7 (by kernel_rfl) (by kernel_rfl) (by kernel_rfl) (by kernel_rfl) (by kernel_rfl) (by kernel_rfl) (fun _ _ => by kernel_rfl)
theorem noOwnUnsafe : Tryd.pinned.checked.prog.headLifts.contains "ownunsafe" = false := by kernel_rfl
theorem tie : Tryd.prog.laidByTextLater [("bioscope/reel.reelBounds", Rows.laid_bioscope_reel_reelBounds), ("bioscope/reel.filmBounds", Rows.laid_bioscope_reel_filmBounds), ("bioscope/relay.bookBounds", Rows.laid_bioscope_relay_bookBounds), ("bioscope/relay.rideBounds", Rows.laid_bioscope_relay_rideBounds)] [.data, .data, .data, .data] true :=
  Program.laidByTextLater.sub seatTie1 ["bioscope/reel.reelBounds", "bioscope/reel.filmBounds", "bioscope/relay.bookBounds", "bioscope/relay.rideBounds"] (by kernel_rfl) (by kernel_rfl)
theorem relayBest_row_tie : Rows.relayBestRow.laidByTextAt .later Tryd.pinned [.data, .data, .data, .data] true :=
  OpenClaim.laidByTextAt_later rfl rfl tie noOwnUnsafe
theorem relayFew_row_tie : Rows.relayFewRow.laidByTextAt .later Tryd.pinned [.data, .data, .data, .data] true :=
  OpenClaim.laidByTextAt_later rfl rfl tie noOwnUnsafe
theorem relayEasier_row_tie : Rows.relayEasierRow.laidByTextAt .later Tryd.pinned [.data, .data, .data, .data] true :=
  OpenClaim.laidByTextAt_later rfl rfl tie noOwnUnsafe
theorem relayBestUpto_row_tie : Rows.relayBestUptoRow.laidByTextAt .later Tryd.pinned [.data, .data, .data, .data] true :=
  OpenClaim.laidByTextAt_later rfl rfl tie noOwnUnsafe
theorem relayFewUpto_row_tie : Rows.relayFewUptoRow.laidByTextAt .later Tryd.pinned [.data, .data, .data, .data] true :=
  OpenClaim.laidByTextAt_later rfl rfl tie noOwnUnsafe
theorem relayEasierUpto_row_tie : Rows.relayEasierUptoRow.laidByTextAt .later Tryd.pinned [.data, .data, .data, .data] true :=
  OpenClaim.laidByTextAt_later rfl rfl tie noOwnUnsafe
end Go.Proofs.YtoefmmmfefdcdaaDoor
