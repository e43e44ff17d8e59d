/-
  DERIVED. GIVEN WITH THE SEED: THE PROGRAM's TIES (one call each: nine closed facts by the kernel) AND EACH ROW's TIE, after the 31st guide's Derived/Test/Toyas{Tie, Card}.lean. No idea stands in it: it is a product of the set-up. Laid BY PROGRAM, IN A SANDBOX (cutbox-door.mjs). By AI agents, Wed Nov 11 2026. No macro, syntax, notation, axiom, sorry.
-/
import Derived.Test.YtaapomafjjikhaaGreatDoorRows
import Derived.LaidByTextLater
import Derived.SevenTiedAt
import Derived.LaidSub
import Derived.LaidOnce
namespace Go.Proofs.YtaapomafjjikhaaGreatDoor
open Go
set_option maxRecDepth 100000
theorem seatTie1 : Tryz.prog.laidByTextLater [("bioscope/reel.reelBounds", Rows.laid_bioscope_reel_reelBounds), ("bioscope/reel.filmBounds", Rows.laid_bioscope_reel_filmBounds), ("bioscope/engine.bookBounds", Rows.laid_bioscope_engine_bookBounds), ("bioscope/licence.townBounds", Rows.laid_bioscope_licence_townBounds), ("bioscope/licence.kindBounds", Rows.laid_bioscope_licence_kindBounds), ("bioscope/bill.bookBounds", Rows.laid_bioscope_bill_bookBounds), ("bioscope/bill.spanBounds", Rows.laid_bioscope_bill_spanBounds), ("bioscope/bill.filmBounds", Rows.laid_bioscope_bill_filmBounds)] [.data, .data, .data, .data, .data, .data, .data, .data] true :=
  Program.laidByTextLater_by_one 77 8 13 (by kernel_rfl) (by kernel_rfl) (by kernel_rfl) (by kernel_rfl) (by kernel_rfl) (by kernel_rfl) (fun _ _ => by kernel_rfl)
theorem noOwnUnsafe : Tryz.pinned.checked.prog.headLifts.contains "ownunsafe" = false := by kernel_rfl
theorem tie : Tryz.prog.laidByTextLater [("bioscope/reel.reelBounds", Rows.laid_bioscope_reel_reelBounds), ("bioscope/reel.filmBounds", Rows.laid_bioscope_reel_filmBounds), ("bioscope/licence.townBounds", Rows.laid_bioscope_licence_townBounds), ("bioscope/licence.kindBounds", Rows.laid_bioscope_licence_kindBounds), ("bioscope/bill.bookBounds", Rows.laid_bioscope_bill_bookBounds), ("bioscope/bill.spanBounds", Rows.laid_bioscope_bill_spanBounds), ("bioscope/bill.filmBounds", Rows.laid_bioscope_bill_filmBounds)] [.data, .data, .data, .data, .data, .data, .data] true :=
  Program.laidByTextLater.sub seatTie1 ["bioscope/reel.reelBounds", "bioscope/reel.filmBounds", "bioscope/licence.townBounds", "bioscope/licence.kindBounds", "bioscope/bill.bookBounds", "bioscope/bill.spanBounds", "bioscope/bill.filmBounds"] (by kernel_rfl) (by kernel_rfl)
theorem billEnds_row_tie : Rows.billEndsRow.laidByTextAt .later Tryz.pinned [.data, .data, .data, .data, .data, .data, .data] true :=
  OpenClaim.laidByTextAt_later rfl rfl tie noOwnUnsafe
theorem billBests_row_tie : Rows.billBestsRow.laidByTextAt .later Tryz.pinned [.data, .data, .data, .data, .data, .data, .data] true :=
  OpenClaim.laidByTextAt_later rfl rfl tie noOwnUnsafe
theorem billTrue_row_tie : Rows.billTrueRow.laidByTextAt .later Tryz.pinned [.data, .data, .data, .data, .data, .data, .data] true :=
  OpenClaim.laidByTextAt_later rfl rfl tie noOwnUnsafe
theorem billReached_row_tie : Rows.billReachedRow.laidByTextAt .later Tryz.pinned [.data, .data, .data, .data, .data, .data, .data] true :=
  OpenClaim.laidByTextAt_later rfl rfl tie noOwnUnsafe
theorem billLatest_row_tie : Rows.billLatestRow.laidByTextAt .later Tryz.pinned [.data, .data, .data, .data, .data, .data, .data] true :=
  OpenClaim.laidByTextAt_later rfl rfl tie noOwnUnsafe
theorem billBest_row_tie : Rows.billBestRow.laidByTextAt .later Tryz.pinned [.data, .data, .data, .data, .data, .data, .data] true :=
  OpenClaim.laidByTextAt_later rfl rfl tie noOwnUnsafe
theorem billLeave_row_tie : Rows.billLeaveRow.laidByTextAt .later Tryz.pinned [.data, .data, .data, .data, .data, .data, .data] true :=
  OpenClaim.laidByTextAt_later rfl rfl tie noOwnUnsafe
theorem billEasier_row_tie : Rows.billEasierRow.laidByTextAt .later Tryz.pinned [.data, .data, .data, .data, .data, .data, .data] true :=
  OpenClaim.laidByTextAt_later rfl rfl tie noOwnUnsafe
theorem billKnown_row_tie : Rows.billKnownRow.laidByTextAt .later Tryz.pinned [.data, .data, .data, .data, .data, .data, .data] true :=
  OpenClaim.laidByTextAt_later rfl rfl tie noOwnUnsafe
theorem tie2 : Tryz.prog.laidByTextLater [("bioscope/reel.reelBounds", Rows.laid_bioscope_reel_reelBounds), ("bioscope/reel.filmBounds", Rows.laid_bioscope_reel_filmBounds), ("bioscope/engine.bookBounds", Rows.laid_bioscope_engine_bookBounds), ("bioscope/licence.townBounds", Rows.laid_bioscope_licence_townBounds), ("bioscope/licence.kindBounds", Rows.laid_bioscope_licence_kindBounds), ("bioscope/bill.bookBounds", Rows.laid_bioscope_bill_bookBounds), ("bioscope/bill.spanBounds", Rows.laid_bioscope_bill_spanBounds), ("bioscope/bill.filmBounds", Rows.laid_bioscope_bill_filmBounds)] [.data, .data, .data, .data, .data, .data, .data, .data] true :=
  Program.laidByTextLater.sub seatTie1 ["bioscope/reel.reelBounds", "bioscope/reel.filmBounds", "bioscope/engine.bookBounds", "bioscope/licence.townBounds", "bioscope/licence.kindBounds", "bioscope/bill.bookBounds", "bioscope/bill.spanBounds", "bioscope/bill.filmBounds"] (by kernel_rfl) (by kernel_rfl)
theorem topLit_row_tie : Rows.topLitRow.laidByTextAt .later Tryz.pinned [.data, .data, .data, .data, .data, .data, .data, .data] true :=
  OpenClaim.laidByTextAt_later rfl rfl tie2 noOwnUnsafe
theorem topCovered_row_tie : Rows.topCoveredRow.laidByTextAt .later Tryz.pinned [.data, .data, .data, .data, .data, .data, .data, .data] true :=
  OpenClaim.laidByTextAt_later rfl rfl tie2 noOwnUnsafe
theorem billEndsUpto_row_tie : Rows.billEndsUptoRow.laidByTextAt .later Tryz.pinned [.data, .data, .data, .data, .data, .data, .data] true :=
  OpenClaim.laidByTextAt_later rfl rfl tie noOwnUnsafe
theorem billBestsUpto_row_tie : Rows.billBestsUptoRow.laidByTextAt .later Tryz.pinned [.data, .data, .data, .data, .data, .data, .data] true :=
  OpenClaim.laidByTextAt_later rfl rfl tie noOwnUnsafe
theorem billTrueUpto_row_tie : Rows.billTrueUptoRow.laidByTextAt .later Tryz.pinned [.data, .data, .data, .data, .data, .data, .data] true :=
  OpenClaim.laidByTextAt_later rfl rfl tie noOwnUnsafe
theorem billReachedUpto_row_tie : Rows.billReachedUptoRow.laidByTextAt .later Tryz.pinned [.data, .data, .data, .data, .data, .data, .data] true :=
  OpenClaim.laidByTextAt_later rfl rfl tie noOwnUnsafe
theorem billLatestUpto_row_tie : Rows.billLatestUptoRow.laidByTextAt .later Tryz.pinned [.data, .data, .data, .data, .data, .data, .data] true :=
  OpenClaim.laidByTextAt_later rfl rfl tie noOwnUnsafe
theorem billBestUpto_row_tie : Rows.billBestUptoRow.laidByTextAt .later Tryz.pinned [.data, .data, .data, .data, .data, .data, .data] true :=
  OpenClaim.laidByTextAt_later rfl rfl tie noOwnUnsafe
theorem billLeaveUpto_row_tie : Rows.billLeaveUptoRow.laidByTextAt .later Tryz.pinned [.data, .data, .data, .data, .data, .data, .data] true :=
  OpenClaim.laidByTextAt_later rfl rfl tie noOwnUnsafe
theorem billEasierUpto_row_tie : Rows.billEasierUptoRow.laidByTextAt .later Tryz.pinned [.data, .data, .data, .data, .data, .data, .data] true :=
  OpenClaim.laidByTextAt_later rfl rfl tie noOwnUnsafe
theorem billKnownUpto_row_tie : Rows.billKnownUptoRow.laidByTextAt .later Tryz.pinned [.data, .data, .data, .data, .data, .data, .data] true :=
  OpenClaim.laidByTextAt_later rfl rfl tie noOwnUnsafe
theorem topLitUpto_row_tie : Rows.topLitUptoRow.laidByTextAt .later Tryz.pinned [.data, .data, .data, .data, .data, .data, .data, .data] true :=
  OpenClaim.laidByTextAt_later rfl rfl tie2 noOwnUnsafe
theorem topCoveredUpto_row_tie : Rows.topCoveredUptoRow.laidByTextAt .later Tryz.pinned [.data, .data, .data, .data, .data, .data, .data, .data] true :=
  OpenClaim.laidByTextAt_later rfl rfl tie2 noOwnUnsafe
end Go.Proofs.YtaapomafjjikhaaGreatDoor
