/- TabTy -/
import Derived.Test.YtlaakbmimplceaaDoorSxOpen
import Derived.Test.YtlaakbmimplceaaDoorTab
import Derived.Test.YtlaakbmimplceaaDoorTie
namespace Go.Sx
noncomputable section
open Go.Proofs
set_option maxRecDepth 100000
theorem Tryd.tyk3 : TyRow Tryd.prog 3 Sx.Tryd.ti3 := TyRow.of' Sx.Tryd.ti3 Tryd.t3 Tryd.underlying3 Tryd.type3 rfl rfl (fun _ => by kernel_rfl) (fun h => by cases h)
theorem Tryd.tyk4 : TyRow Tryd.prog 4 Sx.Tryd.ti4 := TyRow.of' Sx.Tryd.ti4 Tryd.t4 Tryd.underlying4 Tryd.type4 rfl rfl (fun _ => by kernel_rfl) (fun h => by cases h)
theorem Tryd.tyk22 : TyRow Tryd.prog 22 Sx.Tryd.ti22 := TyRow.of' Sx.Tryd.ti22 Tryd.t22 Tryd.underlying22 Tryd.type22 rfl rfl (fun _ => by kernel_rfl) (fun h => by cases h)
theorem Tryd.tyk24 : TyRow Tryd.prog 24 Sx.Tryd.ti24 := TyRow.of' Sx.Tryd.ti24 Tryd.t24 Tryd.underlying24 Tryd.type24 rfl rfl (fun _ => by kernel_rfl) (fun _ => ⟨by kernel_rfl, by kernel_rfl⟩)
theorem Tryd.tyk26 : TyRow Tryd.prog 26 Sx.Tryd.ti26 := TyRow.of' Sx.Tryd.ti26 Tryd.t26 Tryd.underlying26 Tryd.type26 rfl rfl (fun _ => by kernel_rfl) (fun _ => ⟨by kernel_rfl, by kernel_rfl⟩)
theorem Tryd.tyk27 : TyRow Tryd.prog 27 Sx.Tryd.ti27 := TyRow.of' Sx.Tryd.ti27 Tryd.t27 Tryd.underlying27 Tryd.type27 rfl rfl (fun _ => by kernel_rfl) (fun h => by cases h)
theorem Tryd.tyk28 : TyRow Tryd.prog 28 Sx.Tryd.ti28 := TyRow.of' Sx.Tryd.ti28 Tryd.t28 Tryd.underlying28 Tryd.type28 rfl rfl (fun _ => by kernel_rfl) (fun _ => ⟨by kernel_rfl, by kernel_rfl⟩)
theorem Tryd.tyk33 : TyRow Tryd.prog 33 Sx.Tryd.ti33 := TyRow.of' Sx.Tryd.ti33 Tryd.t33 Tryd.underlying33 Tryd.type33 rfl rfl (fun _ => by kernel_rfl) (fun h => by cases h)
theorem Tryd.tyk53 : TyRow Tryd.prog 53 Sx.Tryd.ti53 := TyRow.of' Sx.Tryd.ti53 Tryd.t53 Tryd.underlying53 Tryd.type53 rfl rfl (fun _ => by kernel_rfl) (fun _ => ⟨by kernel_rfl, by kernel_rfl⟩)
theorem Tryd.tyk67 : TyRow Tryd.prog 67 Sx.Tryd.ti67 := TyRow.of' Sx.Tryd.ti67 Tryd.t67 Tryd.underlying67 Tryd.type67 rfl rfl (fun _ => by kernel_rfl) (fun h => by cases h)
theorem Tryd.tyk71 : TyRow Tryd.prog 71 Sx.Tryd.ti71 := TyRow.of' Sx.Tryd.ti71 Tryd.t71 Tryd.underlying71 Tryd.type71 rfl rfl (fun _ => by kernel_rfl) (fun h => by cases h)
theorem Tryd.tyk73 : TyRow Tryd.prog 73 Sx.Tryd.ti73 := TyRow.of' Sx.Tryd.ti73 Tryd.t73 Tryd.underlying73 Tryd.type73 rfl rfl (fun _ => by kernel_rfl) (fun _ => ⟨by kernel_rfl, by kernel_rfl⟩)
theorem Tryd.tyk76 : TyRow Tryd.prog 76 Sx.Tryd.ti76 := TyRow.of' Sx.Tryd.ti76 Tryd.t76 Tryd.underlying76 Tryd.type76 rfl rfl (fun _ => by kernel_rfl) (fun h => by cases h)
theorem Tryd.tyk84 : TyRow Tryd.prog 84 Sx.Tryd.ti84 := TyRow.of' Sx.Tryd.ti84 Tryd.t84 Tryd.underlying84 Tryd.type84 rfl rfl (fun _ => by kernel_rfl) (fun _ => ⟨by kernel_rfl, by kernel_rfl⟩)
theorem Tryd.tyk86 : TyRow Tryd.prog 86 Sx.Tryd.ti86 := TyRow.of' Sx.Tryd.ti86 Tryd.t86 Tryd.underlying86 Tryd.type86 rfl rfl (fun _ => by kernel_rfl) (fun h => by cases h)
theorem Tryd.tyk88 : TyRow Tryd.prog 88 Sx.Tryd.ti88 := TyRow.of' Sx.Tryd.ti88 Tryd.t88 Tryd.underlying88 Tryd.type88 rfl rfl (fun _ => by kernel_rfl) (fun h => by cases h)
theorem Tryd.tyk90 : TyRow Tryd.prog 90 Sx.Tryd.ti90 := TyRow.of' Sx.Tryd.ti90 Tryd.t90 Tryd.underlying90 Tryd.type90 rfl rfl (fun _ => by kernel_rfl) (fun _ => ⟨by kernel_rfl, by kernel_rfl⟩)
theorem Tryd.tyk100 : TyRow Tryd.prog 100 Sx.Tryd.ti100 := TyRow.of' Sx.Tryd.ti100 Tryd.t100 Tryd.underlying100 Tryd.type100 rfl rfl (fun _ => by kernel_rfl) (fun _ => ⟨by kernel_rfl, by kernel_rfl⟩)
theorem Tryd.tyk102 : TyRow Tryd.prog 102 Sx.Tryd.ti102 := TyRow.of' Sx.Tryd.ti102 Tryd.t102 Tryd.underlying102 Tryd.type102 rfl rfl (fun _ => by kernel_rfl) (fun h => by cases h)
theorem Tryd.tyk104 : TyRow Tryd.prog 104 Sx.Tryd.ti104 := TyRow.of' Sx.Tryd.ti104 Tryd.t104 Tryd.underlying104 Tryd.type104 rfl rfl (fun _ => by kernel_rfl) (fun _ => ⟨by kernel_rfl, by kernel_rfl⟩)
theorem Tryd.tyk110 : TyRow Tryd.prog 110 Sx.Tryd.ti110 := TyRow.of' Sx.Tryd.ti110 Tryd.t110 Tryd.underlying110 Tryd.type110 rfl rfl (fun _ => by kernel_rfl) (fun _ => ⟨by kernel_rfl, by kernel_rfl⟩)
theorem Tryd.tyk115 : TyRow Tryd.prog 115 Sx.Tryd.ti115 := TyRow.of' Sx.Tryd.ti115 Tryd.t115 Tryd.underlying115 Tryd.type115 rfl rfl (fun _ => by kernel_rfl) (fun _ => ⟨by kernel_rfl, by kernel_rfl⟩)
theorem Tryd.tyk116 : TyRow Tryd.prog 116 Sx.Tryd.ti116 := TyRow.of' Sx.Tryd.ti116 Tryd.t116 Tryd.underlying116 Tryd.type116 rfl rfl (fun _ => by kernel_rfl) (fun _ => ⟨by kernel_rfl, by kernel_rfl⟩)
theorem Tryd.tyk119 : TyRow Tryd.prog 119 Sx.Tryd.ti119 := TyRow.of' Sx.Tryd.ti119 Tryd.t119 Tryd.underlying119 Tryd.type119 rfl rfl (fun _ => by kernel_rfl) (fun h => by cases h)
theorem Tryd.tyk120 : TyRow Tryd.prog 120 Sx.Tryd.ti120 := TyRow.of' Sx.Tryd.ti120 Tryd.t120 Tryd.underlying120 Tryd.type120 rfl rfl (fun _ => by kernel_rfl) (fun _ => ⟨by kernel_rfl, by kernel_rfl⟩)
theorem Tryd.tyks : Sx.Tryd.tt.Every (TyRow Tryd.prog) := ⟨ev0, ⟨ev0, ⟨ev1 Tryd.tyk3, ⟨ev0, trivial, ⟨ev0, ⟨ev0, ⟨ev1 Tryd.tyk71, trivial, trivial⟩, trivial⟩, ⟨ev0, trivial, ⟨ev1 Tryd.tyk119, trivial, trivial⟩⟩⟩⟩, ⟨ev0, ⟨ev0, ⟨ev0, ⟨ev1 Tryd.tyk67, trivial, trivial⟩, trivial⟩, ⟨ev0, trivial, ⟨ev1 Tryd.tyk115, trivial, trivial⟩⟩⟩, ⟨ev1 Tryd.tyk27, trivial, trivial⟩⟩⟩, ⟨ev0, ⟨ev0, ⟨ev0, ⟨ev1 Tryd.tyk33, trivial, trivial⟩, trivial⟩, ⟨ev0, ⟨ev0, ⟨ev1 Tryd.tyk73, trivial, trivial⟩, trivial⟩, trivial⟩⟩, ⟨ev0, ⟨ev0, trivial, ⟨ev1 Tryd.tyk53, trivial, trivial⟩⟩, trivial⟩⟩⟩, ⟨ev0, ⟨ev1 Tryd.tyk4, ⟨ev0, trivial, ⟨ev1 Tryd.tyk24, ⟨ev0, trivial, ⟨ev1 Tryd.tyk104, trivial, trivial⟩⟩, ⟨ev0, ⟨ev1 Tryd.tyk88, trivial, trivial⟩, ⟨ev1 Tryd.tyk120, trivial, trivial⟩⟩⟩⟩, ⟨ev0, ⟨ev0, ⟨ev0, trivial, ⟨ev1 Tryd.tyk100, trivial, trivial⟩⟩, ⟨ev0, ⟨ev1 Tryd.tyk84, trivial, trivial⟩, ⟨ev1 Tryd.tyk116, trivial, trivial⟩⟩⟩, ⟨ev1 Tryd.tyk28, ⟨ev0, ⟨ev1 Tryd.tyk76, trivial, trivial⟩, trivial⟩, trivial⟩⟩⟩, ⟨ev0, ⟨ev0, trivial, ⟨ev1 Tryd.tyk26, trivial, ⟨ev0, ⟨ev1 Tryd.tyk90, trivial, trivial⟩, trivial⟩⟩⟩, ⟨ev0, ⟨ev1 Tryd.tyk22, ⟨ev0, trivial, ⟨ev1 Tryd.tyk102, trivial, trivial⟩⟩, ⟨ev0, ⟨ev1 Tryd.tyk86, trivial, trivial⟩, trivial⟩⟩, ⟨ev0, ⟨ev0, trivial, ⟨ev1 Tryd.tyk110, trivial, trivial⟩⟩, trivial⟩⟩⟩⟩⟩
end
end Go.Sx
