/-
  DERIVED. GIVEN WITH THE SEED: THE PROGRAM's TIES (one call each: nine closed facts by the kernel) AND EACH ROW's TIE, after the 31st guide's Derived/Test/Toyas{Tie, Card}.lean. No idea stands in it: it is a product of the set-up. Laid BY PROGRAM, IN A SANDBOX (cutbox-door.mjs). By AI agents, Wed Nov 11 2026. No macro, syntax, notation, axiom, sorry.
-/
import Derived.Test.YtedkhkeaioppnaaDoorRows
import Derived.LaidByTextLater
import Derived.SevenTiedAt
import Derived.LaidSub
import Derived.LaidOnce
namespace Go.Proofs.YtedkhkeaioppnaaDoor
open Go
set_option maxRecDepth 100000
theorem seatTie1 : Tryd.prog.laidByTextLater [("bioscope/train.tableBounds", Rows.laid_bioscope_train_tableBounds), ("bioscope/train.trainBounds", Rows.laid_bioscope_train_trainBounds), ("bioscope/lost.bookBounds", Rows.laid_bioscope_lost_bookBounds)] [.data, .data, .data] true :=
  Program.laidByTextLater_by_one 33 8 7 (by kernel_rfl) (by kernel_rfl) (by kernel_rfl) (by kernel_rfl) (by kernel_rfl) (by kernel_rfl) (fun _ _ => by kernel_rfl)
theorem noOwnUnsafe : Tryd.pinned.checked.prog.headLifts.contains "ownunsafe" = false := by kernel_rfl
theorem tie : Tryd.prog.laidByTextLater [("bioscope/train.tableBounds", Rows.laid_bioscope_train_tableBounds), ("bioscope/train.trainBounds", Rows.laid_bioscope_train_trainBounds), ("bioscope/lost.bookBounds", Rows.laid_bioscope_lost_bookBounds)] [.data, .data, .data] true :=
  Program.laidByTextLater.sub seatTie1 ["bioscope/train.tableBounds", "bioscope/train.trainBounds", "bioscope/lost.bookBounds"] (by kernel_rfl) (by kernel_rfl)
theorem lostKnown_row_tie : Rows.lostKnownRow.laidByTextAt .later Tryd.pinned [.data, .data, .data] true :=
  OpenClaim.laidByTextAt_later rfl rfl tie noOwnUnsafe
theorem lostKnownUpto_row_tie : Rows.lostKnownUptoRow.laidByTextAt .later Tryd.pinned [.data, .data, .data] true :=
  OpenClaim.laidByTextAt_later rfl rfl tie noOwnUnsafe
end Go.Proofs.YtedkhkeaioppnaaDoor
