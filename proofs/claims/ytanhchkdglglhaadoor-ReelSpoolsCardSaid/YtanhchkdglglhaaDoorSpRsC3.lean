/- REELS, EACH ONCE, with another spool, six of them: checked. -/
import Derived.Test.YtanhchkdglglhaaDoorSpRsS
/-! REELS, EACH ONCE, with another spool: checked. -/
namespace Go.Sx
open Go.RowKit Go.Proofs
set_option maxRecDepth 100000
theorem reelsX1 : lAll (reelsCkX 1 spX) (permsUp 1 1) = true := by kernel_rfl
theorem reelsX2 : lAll (reelsCkX 2 spX) (permsUp 2 2) = true := by kernel_rfl
theorem reelsX3 : lAll (reelsCkX 3 spX) (permsUp 3 3) = true := by kernel_rfl
theorem reelsX4 : lAll (reelsCkX 4 spX) (permsUp 4 4) = true := by kernel_rfl
theorem reelsX5 : lAll (reelsCkX 5 spX) (permsUp 5 5) = true := by kernel_rfl
theorem reelsX6_0 : lAll (reelsCkX 6 spX) ((permsUp 6 6).filter (headQ 0)) = true := by kernel_rfl
theorem reelsX6_1 : lAll (reelsCkX 6 spX) ((permsUp 6 6).filter (headQ 1)) = true := by kernel_rfl
end Go.Sx
/-! REELS, EACH ONCE, with another spool, six of them: checked. -/
namespace Go.Sx
open Go.RowKit Go.Proofs
set_option maxRecDepth 100000
theorem reelsX6_2 : lAll (reelsCkX 6 spX) ((permsUp 6 6).filter (headQ 2)) = true := by kernel_rfl
theorem reelsX6_3 : lAll (reelsCkX 6 spX) ((permsUp 6 6).filter (headQ 3)) = true := by kernel_rfl
theorem reelsX6_4 : lAll (reelsCkX 6 spX) ((permsUp 6 6).filter (headQ 4)) = true := by kernel_rfl
theorem reelsX6_5 : lAll (reelsCkX 6 spX) ((permsUp 6 6).filter (headQ 5)) = true := by kernel_rfl
end Go.Sx
