/- TabTy -/
import Derived.Test.YtpdednocbpoikaaDoorSxView
import Derived.Test.YtpdednocbpoikaaDoorTab
import Derived.Test.YtpdednocbpoikaaDoorTie
namespace Go.Sx
open Go.Proofs
set_option maxRecDepth 100000
theorem Tryd.tyk3 : TyRow Tryd.prog 3 Sx.Tryd.ti3 := TyRow.of' Sx.Tryd.ti3 Tryd.t3 Tryd.underlying3 Tryd.type3 rfl rfl (fun _ => by kernel_rfl) (fun h => by cases h)
theorem Tryd.tyk4 : TyRow Tryd.prog 4 Sx.Tryd.ti4 := TyRow.of' Sx.Tryd.ti4 Tryd.t4 Tryd.underlying4 Tryd.type4 rfl rfl (fun _ => by kernel_rfl) (fun h => by cases h)
theorem Tryd.tyk22 : TyRow Tryd.prog 22 Sx.Tryd.ti22 := TyRow.of' Sx.Tryd.ti22 Tryd.t22 Tryd.underlying22 Tryd.type22 rfl rfl (fun _ => by kernel_rfl) (fun h => by cases h)
theorem Tryd.tyk24 : TyRow Tryd.prog 24 Sx.Tryd.ti24 := TyRow.of' Sx.Tryd.ti24 Tryd.t24 Tryd.underlying24 Tryd.type24 rfl rfl (fun _ => by kernel_rfl) (fun _ => ⟨by kernel_rfl, by kernel_rfl⟩)
theorem Tryd.tyk26 : TyRow Tryd.prog 26 Sx.Tryd.ti26 := TyRow.of' Sx.Tryd.ti26 Tryd.t26 Tryd.underlying26 Tryd.type26 rfl rfl (fun _ => by kernel_rfl) (fun _ => ⟨by kernel_rfl, by kernel_rfl⟩)
theorem Tryd.tyk28 : TyRow Tryd.prog 28 Sx.Tryd.ti28 := TyRow.of' Sx.Tryd.ti28 Tryd.t28 Tryd.underlying28 Tryd.type28 rfl rfl (fun _ => by kernel_rfl) (fun _ => ⟨by kernel_rfl, by kernel_rfl⟩)
theorem Tryd.tyk29 : TyRow Tryd.prog 29 Sx.Tryd.ti29 := TyRow.of' Sx.Tryd.ti29 Tryd.t29 Tryd.underlying29 Tryd.type29 rfl rfl (fun _ => by kernel_rfl) (fun h => by cases h)
theorem Tryd.tyk33 : TyRow Tryd.prog 33 Sx.Tryd.ti33 := TyRow.of' Sx.Tryd.ti33 Tryd.t33 Tryd.underlying33 Tryd.type33 rfl rfl (fun _ => by kernel_rfl) (fun h => by cases h)
theorem Tryd.tyk34 : TyRow Tryd.prog 34 Sx.Tryd.ti34 := TyRow.of' Sx.Tryd.ti34 Tryd.t34 Tryd.underlying34 Tryd.type34 rfl rfl (fun _ => by kernel_rfl) (fun h => by cases h)
theorem Tryd.tyk48 : TyRow Tryd.prog 48 Sx.Tryd.ti48 := TyRow.of' Sx.Tryd.ti48 Tryd.t48 Tryd.underlying48 Tryd.type48 rfl rfl (fun _ => by kernel_rfl) (fun _ => ⟨by kernel_rfl, by kernel_rfl⟩)
theorem Tryd.tyk71 : TyRow Tryd.prog 71 Sx.Tryd.ti71 := TyRow.of' Sx.Tryd.ti71 Tryd.t71 Tryd.underlying71 Tryd.type71 rfl rfl (fun _ => by kernel_rfl) (fun h => by cases h)
theorem Tryd.tyk73 : TyRow Tryd.prog 73 Sx.Tryd.ti73 := TyRow.of' Sx.Tryd.ti73 Tryd.t73 Tryd.underlying73 Tryd.type73 rfl rfl (fun _ => by kernel_rfl) (fun _ => ⟨by kernel_rfl, by kernel_rfl⟩)
theorem Tryd.tyk76 : TyRow Tryd.prog 76 Sx.Tryd.ti76 := TyRow.of' Sx.Tryd.ti76 Tryd.t76 Tryd.underlying76 Tryd.type76 rfl rfl (fun _ => by kernel_rfl) (fun h => by cases h)
theorem Tryd.tyk77 : TyRow Tryd.prog 77 Sx.Tryd.ti77 := TyRow.of' Sx.Tryd.ti77 Tryd.t77 Tryd.underlying77 Tryd.type77 rfl rfl (fun _ => by kernel_rfl) (fun _ => ⟨by kernel_rfl, by kernel_rfl⟩)
theorem Tryd.tyk79 : TyRow Tryd.prog 79 Sx.Tryd.ti79 := TyRow.of' Sx.Tryd.ti79 Tryd.t79 Tryd.underlying79 Tryd.type79 rfl rfl (fun _ => by kernel_rfl) (fun _ => ⟨by kernel_rfl, by kernel_rfl⟩)
theorem Tryd.tyk86 : TyRow Tryd.prog 86 Sx.Tryd.ti86 := TyRow.of' Sx.Tryd.ti86 Tryd.t86 Tryd.underlying86 Tryd.type86 rfl rfl (fun _ => by kernel_rfl) (fun _ => ⟨by kernel_rfl, by kernel_rfl⟩)
theorem Tryd.tyk91 : TyRow Tryd.prog 91 Sx.Tryd.ti91 := TyRow.of' Sx.Tryd.ti91 Tryd.t91 Tryd.underlying91 Tryd.type91 rfl rfl (fun _ => by kernel_rfl) (fun h => by cases h)
theorem Tryd.tyk94 : TyRow Tryd.prog 94 Sx.Tryd.ti94 := TyRow.of' Sx.Tryd.ti94 Tryd.t94 Tryd.underlying94 Tryd.type94 rfl rfl (fun _ => by kernel_rfl) (fun h => by cases h)
theorem Tryd.tyk96 : TyRow Tryd.prog 96 Sx.Tryd.ti96 := TyRow.of' Sx.Tryd.ti96 Tryd.t96 Tryd.underlying96 Tryd.type96 rfl rfl (fun _ => by kernel_rfl) (fun _ => ⟨by kernel_rfl, by kernel_rfl⟩)
theorem Tryd.tyk103 : TyRow Tryd.prog 103 Sx.Tryd.ti103 := TyRow.of' Sx.Tryd.ti103 Tryd.t103 Tryd.underlying103 Tryd.type103 rfl rfl (fun _ => by kernel_rfl) (fun _ => ⟨by kernel_rfl, by kernel_rfl⟩)
theorem Tryd.tyk107 : TyRow Tryd.prog 107 Sx.Tryd.ti107 := TyRow.of' Sx.Tryd.ti107 Tryd.t107 Tryd.underlying107 Tryd.type107 rfl rfl (fun _ => by kernel_rfl) (fun _ => ⟨by kernel_rfl, by kernel_rfl⟩)
theorem Tryd.tyk112 : TyRow Tryd.prog 112 Sx.Tryd.ti112 := TyRow.of' Sx.Tryd.ti112 Tryd.t112 Tryd.underlying112 Tryd.type112 rfl rfl (fun _ => by kernel_rfl) (fun h => by cases h)
theorem Tryd.tyk114 : TyRow Tryd.prog 114 Sx.Tryd.ti114 := TyRow.of' Sx.Tryd.ti114 Tryd.t114 Tryd.underlying114 Tryd.type114 rfl rfl (fun _ => by kernel_rfl) (fun _ => ⟨by kernel_rfl, by kernel_rfl⟩)
theorem Tryd.tyk122 : TyRow Tryd.prog 122 Sx.Tryd.ti122 := TyRow.of' Sx.Tryd.ti122 Tryd.t122 Tryd.underlying122 Tryd.type122 rfl rfl (fun _ => by kernel_rfl) (fun _ => ⟨by kernel_rfl, by kernel_rfl⟩)
theorem Tryd.tyk125 : TyRow Tryd.prog 125 Sx.Tryd.ti125 := TyRow.of' Sx.Tryd.ti125 Tryd.t125 Tryd.underlying125 Tryd.type125 rfl rfl (fun _ => by kernel_rfl) (fun _ => ⟨by kernel_rfl, by kernel_rfl⟩)
theorem Tryd.tyk126 : TyRow Tryd.prog 126 Sx.Tryd.ti126 := TyRow.of' Sx.Tryd.ti126 Tryd.t126 Tryd.underlying126 Tryd.type126 rfl rfl (fun _ => by kernel_rfl) (fun h => by cases h)
theorem Tryd.tyk127 : TyRow Tryd.prog 127 Sx.Tryd.ti127 := TyRow.of' Sx.Tryd.ti127 Tryd.t127 Tryd.underlying127 Tryd.type127 rfl rfl (fun _ => by kernel_rfl) (fun _ => ⟨by kernel_rfl, by kernel_rfl⟩)
theorem Tryd.tyk131 : TyRow Tryd.prog 131 Sx.Tryd.ti131 := TyRow.of' Sx.Tryd.ti131 Tryd.t131 Tryd.underlying131 Tryd.type131 rfl rfl (fun _ => by kernel_rfl) (fun _ => ⟨by kernel_rfl, by kernel_rfl⟩)
theorem Tryd.tyk133 : TyRow Tryd.prog 133 Sx.Tryd.ti133 := TyRow.of' Sx.Tryd.ti133 Tryd.t133 Tryd.underlying133 Tryd.type133 rfl rfl (fun _ => by kernel_rfl) (fun h => by cases h)
theorem Tryd.tyk135 : TyRow Tryd.prog 135 Sx.Tryd.ti135 := TyRow.of' Sx.Tryd.ti135 Tryd.t135 Tryd.underlying135 Tryd.type135 rfl rfl (fun _ => by kernel_rfl) (fun h => by cases h)
theorem Tryd.tyk137 : TyRow Tryd.prog 137 Sx.Tryd.ti137 := TyRow.of' Sx.Tryd.ti137 Tryd.t137 Tryd.underlying137 Tryd.type137 rfl rfl (fun _ => by kernel_rfl) (fun _ => ⟨by kernel_rfl, by kernel_rfl⟩)
theorem Tryd.tyk140 : TyRow Tryd.prog 140 Sx.Tryd.ti140 := TyRow.of' Sx.Tryd.ti140 Tryd.t140 Tryd.underlying140 Tryd.type140 rfl rfl (fun _ => by kernel_rfl) (fun _ => ⟨by kernel_rfl, by kernel_rfl⟩)
theorem Tryd.tyk143 : TyRow Tryd.prog 143 Sx.Tryd.ti143 := TyRow.of' Sx.Tryd.ti143 Tryd.t143 Tryd.underlying143 Tryd.type143 rfl rfl (fun _ => by kernel_rfl) (fun _ => ⟨by kernel_rfl, by kernel_rfl⟩)
theorem Tryd.tyk144 : TyRow Tryd.prog 144 Sx.Tryd.ti144 := TyRow.of' Sx.Tryd.ti144 Tryd.t144 Tryd.underlying144 Tryd.type144 rfl rfl (fun _ => by kernel_rfl) (fun _ => ⟨by kernel_rfl, by kernel_rfl⟩)
theorem Tryd.tyk145 : TyRow Tryd.prog 145 Sx.Tryd.ti145 := TyRow.of' Sx.Tryd.ti145 Tryd.t145 Tryd.underlying145 Tryd.type145 rfl rfl (fun _ => by kernel_rfl) (fun h => by cases h)
theorem Tryd.tyk146 : TyRow Tryd.prog 146 Sx.Tryd.ti146 := TyRow.of' Sx.Tryd.ti146 Tryd.t146 Tryd.underlying146 Tryd.type146 rfl rfl (fun _ => by kernel_rfl) (fun h => by cases h)
theorem Tryd.tyk148 : TyRow Tryd.prog 148 Sx.Tryd.ti148 := TyRow.of' Sx.Tryd.ti148 Tryd.t148 Tryd.underlying148 Tryd.type148 rfl rfl (fun _ => by kernel_rfl) (fun _ => ⟨by kernel_rfl, by kernel_rfl⟩)
theorem Tryd.tyk150 : TyRow Tryd.prog 150 Sx.Tryd.ti150 := TyRow.of' Sx.Tryd.ti150 Tryd.t150 Tryd.underlying150 Tryd.type150 rfl rfl (fun _ => by kernel_rfl) (fun _ => ⟨by kernel_rfl, by kernel_rfl⟩)
theorem Tryd.tyk156 : TyRow Tryd.prog 156 Sx.Tryd.ti156 := TyRow.of' Sx.Tryd.ti156 Tryd.t156 Tryd.underlying156 Tryd.type156 rfl rfl (fun _ => by kernel_rfl) (fun _ => ⟨by kernel_rfl, by kernel_rfl⟩)
theorem Tryd.tyks : Sx.Tryd.tt.Every (TyRow Tryd.prog) := ⟨ev0, ⟨ev0, ⟨ev1 Tryd.tyk3, ⟨ev0, ⟨ev0, ⟨ev0, ⟨ev0, ⟨ev1 Tryd.tyk127, trivial, trivial⟩, trivial⟩, trivial⟩, ⟨ev0, ⟨ev1 Tryd.tyk79, ⟨ev1 Tryd.tyk143, trivial, trivial⟩, trivial⟩, trivial⟩⟩, ⟨ev0, ⟨ev0, ⟨ev1 Tryd.tyk71, ⟨ev1 Tryd.tyk135, trivial, trivial⟩, trivial⟩, ⟨ev1 Tryd.tyk103, trivial, trivial⟩⟩, trivial⟩⟩, ⟨ev0, ⟨ev0, ⟨ev0, ⟨ev0, ⟨ev1 Tryd.tyk131, trivial, trivial⟩, trivial⟩, trivial⟩, trivial⟩, ⟨ev0, ⟨ev0, trivial, ⟨ev1 Tryd.tyk107, trivial, trivial⟩⟩, ⟨ev0, ⟨ev1 Tryd.tyk91, trivial, trivial⟩, trivial⟩⟩⟩⟩, ⟨ev0, ⟨ev0, ⟨ev0, ⟨ev1 Tryd.tyk33, trivial, trivial⟩, ⟨ev0, ⟨ev0, ⟨ev1 Tryd.tyk145, trivial, trivial⟩, trivial⟩, trivial⟩⟩, ⟨ev0, ⟨ev0, ⟨ev1 Tryd.tyk73, ⟨ev1 Tryd.tyk137, trivial, trivial⟩, trivial⟩, trivial⟩, trivial⟩⟩, ⟨ev0, ⟨ev0, ⟨ev0, ⟨ev0, ⟨ev1 Tryd.tyk133, trivial, trivial⟩, trivial⟩, trivial⟩, trivial⟩, ⟨ev1 Tryd.tyk29, ⟨ev0, ⟨ev1 Tryd.tyk77, trivial, trivial⟩, trivial⟩, ⟨ev0, trivial, ⟨ev1 Tryd.tyk125, trivial, trivial⟩⟩⟩⟩⟩⟩, ⟨ev0, ⟨ev1 Tryd.tyk4, ⟨ev0, ⟨ev0, ⟨ev0, trivial, ⟨ev1 Tryd.tyk96, trivial, trivial⟩⟩, ⟨ev1 Tryd.tyk48, ⟨ev0, ⟨ev1 Tryd.tyk144, trivial, trivial⟩, trivial⟩, ⟨ev1 Tryd.tyk112, trivial, trivial⟩⟩⟩, ⟨ev1 Tryd.tyk24, trivial, trivial⟩⟩, ⟨ev0, ⟨ev0, trivial, ⟨ev0, ⟨ev0, ⟨ev1 Tryd.tyk148, trivial, trivial⟩, trivial⟩, trivial⟩⟩, ⟨ev1 Tryd.tyk28, ⟨ev0, ⟨ev1 Tryd.tyk76, ⟨ev1 Tryd.tyk140, trivial, trivial⟩, trivial⟩, trivial⟩, ⟨ev0, ⟨ev0, ⟨ev1 Tryd.tyk156, trivial, trivial⟩, trivial⟩, trivial⟩⟩⟩⟩, ⟨ev0, ⟨ev0, ⟨ev0, ⟨ev1 Tryd.tyk34, trivial, trivial⟩, ⟨ev0, ⟨ev0, ⟨ev1 Tryd.tyk146, trivial, trivial⟩, trivial⟩, ⟨ev1 Tryd.tyk114, trivial, trivial⟩⟩⟩, ⟨ev1 Tryd.tyk26, trivial, ⟨ev0, trivial, ⟨ev1 Tryd.tyk122, trivial, trivial⟩⟩⟩⟩, ⟨ev0, ⟨ev1 Tryd.tyk22, trivial, ⟨ev0, ⟨ev1 Tryd.tyk86, ⟨ev1 Tryd.tyk150, trivial, trivial⟩, trivial⟩, trivial⟩⟩, ⟨ev0, trivial, ⟨ev0, ⟨ev1 Tryd.tyk94, trivial, trivial⟩, ⟨ev1 Tryd.tyk126, trivial, trivial⟩⟩⟩⟩⟩⟩⟩
end Go.Sx
