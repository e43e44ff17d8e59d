/- ReK5 -/
import Derived.Test.YtpdednocbpoikaaDoorReB
namespace Go.Sx
open Go.RowKit Go.Proofs
set_option maxRecDepth 100000
theorem ckEd_all : lAll ckEd [1, 2, 3, 4, 5, 6] = true := by kernel_rfl
theorem lawEn1 : lAll (lawEn 1) (plansL 1) = true := by kernel_rfl
theorem lawEn2 : lAll (lawEn 2) (plansL 2) = true := by kernel_rfl
theorem lawEn3 : lAll (lawEn 3) (plansL 3) = true := by kernel_rfl
theorem lawEn4 : lAll (lawEn 4) (plansL 4) = true := by kernel_rfl
end Go.Sx
namespace Go.Sx
open Go.RowKit Go.Proofs
set_option maxRecDepth 100000
theorem lawEn5a : lAll (lawEn 5) (lTake (lDrop (plansL 5) 0) 8) = true := by kernel_rfl
theorem lawEn5b : lAll (lawEn 5) (lTake (lDrop (plansL 5) 8) 8) = true := by kernel_rfl
end Go.Sx
