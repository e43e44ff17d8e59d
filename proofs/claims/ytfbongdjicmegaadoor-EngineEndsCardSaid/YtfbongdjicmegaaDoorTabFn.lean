/- TabFn -/
import Derived.Test.YtfbongdjicmegaaDoorSxTree
import Derived.Test.YtfbongdjicmegaaDoorTab
import Derived.Test.YtfbongdjicmegaaDoorTie
namespace Go.Sx
open Go.Proofs
set_option maxRecDepth 100000
theorem Tryd.tyk3:TyRow Tryd.prog 3 Sx.Tryd.ti3:=TyRow.of' Sx.Tryd.ti3 Tryd.t3 Tryd.underlying3 Tryd.type3 rfl rfl (fun _=>by kernel_rfl) (fun h=>by cases h)
theorem Tryd.tyk4:TyRow Tryd.prog 4 Sx.Tryd.ti4:=TyRow.of' Sx.Tryd.ti4 Tryd.t4 Tryd.underlying4 Tryd.type4 rfl rfl (fun _=>by kernel_rfl) (fun h=>by cases h)
theorem Tryd.tyk23:TyRow Tryd.prog 23 Sx.Tryd.ti23:=TyRow.of' Sx.Tryd.ti23 Tryd.t23 Tryd.underlying23 Tryd.type23 rfl rfl (fun _=>by kernel_rfl) (fun _=>⟨by kernel_rfl,by kernel_rfl⟩)
theorem Tryd.tyk24:TyRow Tryd.prog 24 Sx.Tryd.ti24:=TyRow.of' Sx.Tryd.ti24 Tryd.t24 Tryd.underlying24 Tryd.type24 rfl rfl (fun _=>by kernel_rfl) (fun _=>⟨by kernel_rfl,by kernel_rfl⟩)
theorem Tryd.tyk25:TyRow Tryd.prog 25 Sx.Tryd.ti25:=TyRow.of' Sx.Tryd.ti25 Tryd.t25 Tryd.underlying25 Tryd.type25 rfl rfl (fun _=>by kernel_rfl) (fun h=>by cases h)
theorem Tryd.tyk27:TyRow Tryd.prog 27 Sx.Tryd.ti27:=TyRow.of' Sx.Tryd.ti27 Tryd.t27 Tryd.underlying27 Tryd.type27 rfl rfl (fun _=>by kernel_rfl) (fun _=>⟨by kernel_rfl,by kernel_rfl⟩)
theorem Tryd.tyk28:TyRow Tryd.prog 28 Sx.Tryd.ti28:=TyRow.of' Sx.Tryd.ti28 Tryd.t28 Tryd.underlying28 Tryd.type28 rfl rfl (fun _=>by kernel_rfl) (fun _=>⟨by kernel_rfl,by kernel_rfl⟩)
theorem Tryd.tyk33:TyRow Tryd.prog 33 Sx.Tryd.ti33:=TyRow.of' Sx.Tryd.ti33 Tryd.t33 Tryd.underlying33 Tryd.type33 rfl rfl (fun _=>by kernel_rfl) (fun _=>⟨by kernel_rfl,by kernel_rfl⟩)
theorem Tryd.tyk34:TyRow Tryd.prog 34 Sx.Tryd.ti34:=TyRow.of' Sx.Tryd.ti34 Tryd.t34 Tryd.underlying34 Tryd.type34 rfl rfl (fun _=>by kernel_rfl) (fun h=>by cases h)
theorem Tryd.tyk35:TyRow Tryd.prog 35 Sx.Tryd.ti35:=TyRow.of' Sx.Tryd.ti35 Tryd.t35 Tryd.underlying35 Tryd.type35 rfl rfl (fun _=>by kernel_rfl) (fun h=>by cases h)
theorem Tryd.tyk43:TyRow Tryd.prog 43 Sx.Tryd.ti43:=TyRow.of' Sx.Tryd.ti43 Tryd.t43 Tryd.underlying43 Tryd.type43 rfl rfl (fun _=>by kernel_rfl) (fun h=>by cases h)
theorem Tryd.tyk45:TyRow Tryd.prog 45 Sx.Tryd.ti45:=TyRow.of' Sx.Tryd.ti45 Tryd.t45 Tryd.underlying45 Tryd.type45 rfl rfl (fun _=>by kernel_rfl) (fun _=>⟨by kernel_rfl,by kernel_rfl⟩)
theorem Tryd.tyk66:TyRow Tryd.prog 66 Sx.Tryd.ti66:=TyRow.of' Sx.Tryd.ti66 Tryd.t66 Tryd.underlying66 Tryd.type66 rfl rfl (fun _=>by kernel_rfl) (fun _=>⟨by kernel_rfl,by kernel_rfl⟩)
theorem Tryd.tyk67:TyRow Tryd.prog 67 Sx.Tryd.ti67:=TyRow.of' Sx.Tryd.ti67 Tryd.t67 Tryd.underlying67 Tryd.type67 rfl rfl (fun _=>by kernel_rfl) (fun _=>⟨by kernel_rfl,by kernel_rfl⟩)
theorem Tryd.tyk69:TyRow Tryd.prog 69 Sx.Tryd.ti69:=TyRow.of' Sx.Tryd.ti69 Tryd.t69 Tryd.underlying69 Tryd.type69 rfl rfl (fun _=>by kernel_rfl) (fun _=>⟨by kernel_rfl,by kernel_rfl⟩)
theorem Tryd.tyk74:TyRow Tryd.prog 74 Sx.Tryd.ti74:=TyRow.of' Sx.Tryd.ti74 Tryd.t74 Tryd.underlying74 Tryd.type74 rfl rfl (fun _=>by kernel_rfl) (fun h=>by cases h)
theorem Tryd.tyk76:TyRow Tryd.prog 76 Sx.Tryd.ti76:=TyRow.of' Sx.Tryd.ti76 Tryd.t76 Tryd.underlying76 Tryd.type76 rfl rfl (fun _=>by kernel_rfl) (fun _=>⟨by kernel_rfl,by kernel_rfl⟩)
theorem Tryd.tyk78:TyRow Tryd.prog 78 Sx.Tryd.ti78:=TyRow.of' Sx.Tryd.ti78 Tryd.t78 Tryd.underlying78 Tryd.type78 rfl rfl (fun _=>by kernel_rfl) (fun _=>⟨by kernel_rfl,by kernel_rfl⟩)
theorem Tryd.tyk91:TyRow Tryd.prog 91 Sx.Tryd.ti91:=TyRow.of' Sx.Tryd.ti91 Tryd.t91 Tryd.underlying91 Tryd.type91 rfl rfl (fun _=>by kernel_rfl) (fun _=>⟨by kernel_rfl,by kernel_rfl⟩)
theorem Tryd.tyk93:TyRow Tryd.prog 93 Sx.Tryd.ti93:=TyRow.of' Sx.Tryd.ti93 Tryd.t93 Tryd.underlying93 Tryd.type93 rfl rfl (fun _=>by kernel_rfl) (fun h=>by cases h)
theorem Tryd.tyk95:TyRow Tryd.prog 95 Sx.Tryd.ti95:=TyRow.of' Sx.Tryd.ti95 Tryd.t95 Tryd.underlying95 Tryd.type95 rfl rfl (fun _=>by kernel_rfl) (fun _=>⟨by kernel_rfl,by kernel_rfl⟩)
theorem Tryd.tyk98:TyRow Tryd.prog 98 Sx.Tryd.ti98:=TyRow.of' Sx.Tryd.ti98 Tryd.t98 Tryd.underlying98 Tryd.type98 rfl rfl (fun _=>by kernel_rfl) (fun h=>by cases h)
theorem Tryd.tyk100:TyRow Tryd.prog 100 Sx.Tryd.ti100:=TyRow.of' Sx.Tryd.ti100 Tryd.t100 Tryd.underlying100 Tryd.type100 rfl rfl (fun _=>by kernel_rfl) (fun _=>⟨by kernel_rfl,by kernel_rfl⟩)
theorem Tryd.tyk102:TyRow Tryd.prog 102 Sx.Tryd.ti102:=TyRow.of' Sx.Tryd.ti102 Tryd.t102 Tryd.underlying102 Tryd.type102 rfl rfl (fun _=>by kernel_rfl) (fun _=>⟨by kernel_rfl,by kernel_rfl⟩)
theorem Tryd.tyk105:TyRow Tryd.prog 105 Sx.Tryd.ti105:=TyRow.of' Sx.Tryd.ti105 Tryd.t105 Tryd.underlying105 Tryd.type105 rfl rfl (fun _=>by kernel_rfl) (fun _=>⟨by kernel_rfl,by kernel_rfl⟩)
theorem Tryd.tyk107:TyRow Tryd.prog 107 Sx.Tryd.ti107:=TyRow.of' Sx.Tryd.ti107 Tryd.t107 Tryd.underlying107 Tryd.type107 rfl rfl (fun _=>by kernel_rfl) (fun _=>⟨by kernel_rfl,by kernel_rfl⟩)
theorem Tryd.tyk113:TyRow Tryd.prog 113 Sx.Tryd.ti113:=TyRow.of' Sx.Tryd.ti113 Tryd.t113 Tryd.underlying113 Tryd.type113 rfl rfl (fun _=>by kernel_rfl) (fun _=>⟨by kernel_rfl,by kernel_rfl⟩)
theorem Tryd.tyk114:TyRow Tryd.prog 114 Sx.Tryd.ti114:=TyRow.of' Sx.Tryd.ti114 Tryd.t114 Tryd.underlying114 Tryd.type114 rfl rfl (fun _=>by kernel_rfl) (fun _=>⟨by kernel_rfl,by kernel_rfl⟩)
theorem Tryd.tyk116:TyRow Tryd.prog 116 Sx.Tryd.ti116:=TyRow.of' Sx.Tryd.ti116 Tryd.t116 Tryd.underlying116 Tryd.type116 rfl rfl (fun _=>by kernel_rfl) (fun h=>by cases h)
theorem Tryd.tyk119:TyRow Tryd.prog 119 Sx.Tryd.ti119:=TyRow.of' Sx.Tryd.ti119 Tryd.t119 Tryd.underlying119 Tryd.type119 rfl rfl (fun _=>by kernel_rfl) (fun h=>by cases h)
theorem Tryd.tyk120:TyRow Tryd.prog 120 Sx.Tryd.ti120:=TyRow.of' Sx.Tryd.ti120 Tryd.t120 Tryd.underlying120 Tryd.type120 rfl rfl (fun _=>by kernel_rfl) (fun h=>by cases h)
theorem Tryd.tyk122:TyRow Tryd.prog 122 Sx.Tryd.ti122:=TyRow.of' Sx.Tryd.ti122 Tryd.t122 Tryd.underlying122 Tryd.type122 rfl rfl (fun _=>by kernel_rfl) (fun _=>⟨by kernel_rfl,by kernel_rfl⟩)
theorem Tryd.tyk124:TyRow Tryd.prog 124 Sx.Tryd.ti124:=TyRow.of' Sx.Tryd.ti124 Tryd.t124 Tryd.underlying124 Tryd.type124 rfl rfl (fun _=>by kernel_rfl) (fun _=>⟨by kernel_rfl,by kernel_rfl⟩)
theorem Tryd.tyk125:TyRow Tryd.prog 125 Sx.Tryd.ti125:=TyRow.of' Sx.Tryd.ti125 Tryd.t125 Tryd.underlying125 Tryd.type125 rfl rfl (fun _=>by kernel_rfl) (fun h=>by cases h)
theorem Tryd.tyks:Sx.Tryd.tt.Every (TyRow Tryd.prog):=⟨ev0,⟨ev0,⟨ev1 Tryd.tyk3,⟨ev0,⟨ev0,⟨ev0,trivial,⟨ev1 Tryd.tyk95,trivial,trivial⟩⟩,trivial⟩,⟨ev1 Tryd.tyk23,trivial,⟨ev0,trivial,⟨ev1 Tryd.tyk119,trivial,trivial⟩⟩⟩⟩,⟨ev0,⟨ev0,⟨ev1 Tryd.tyk35,⟨ev1 Tryd.tyk67,trivial,trivial⟩,trivial⟩,trivial⟩,⟨ev1 Tryd.tyk27,⟨ev1 Tryd.tyk43,trivial,⟨ev1 Tryd.tyk107,trivial,trivial⟩⟩,⟨ev0,⟨ev1 Tryd.tyk91,trivial,trivial⟩,trivial⟩⟩⟩⟩,⟨ev0,⟨ev0,⟨ev0,⟨ev1 Tryd.tyk33,trivial,trivial⟩,⟨ev0,trivial,⟨ev1 Tryd.tyk113,trivial,trivial⟩⟩⟩,⟨ev1 Tryd.tyk25,⟨ev0,trivial,⟨ev1 Tryd.tyk105,trivial,trivial⟩⟩,trivial⟩⟩,⟨ev0,⟨ev0,⟨ev0,⟨ev1 Tryd.tyk69,trivial,trivial⟩,trivial⟩,trivial⟩,⟨ev0,⟨ev1 Tryd.tyk45,trivial,trivial⟩,⟨ev0,⟨ev1 Tryd.tyk93,trivial,trivial⟩,⟨ev1 Tryd.tyk125,trivial,trivial⟩⟩⟩⟩⟩⟩,⟨ev0,⟨ev1 Tryd.tyk4,⟨ev0,trivial,⟨ev1 Tryd.tyk24,trivial,⟨ev0,trivial,⟨ev1 Tryd.tyk120,trivial,trivial⟩⟩⟩⟩,⟨ev0,⟨ev0,⟨ev0,trivial,⟨ev1 Tryd.tyk100,trivial,trivial⟩⟩,⟨ev0,trivial,⟨ev1 Tryd.tyk116,trivial,trivial⟩⟩⟩,⟨ev1 Tryd.tyk28,⟨ev0,⟨ev1 Tryd.tyk76,trivial,trivial⟩,trivial⟩,⟨ev0,trivial,⟨ev1 Tryd.tyk124,trivial,trivial⟩⟩⟩⟩⟩,⟨ev0,⟨ev0,⟨ev0,⟨ev1 Tryd.tyk34,⟨ev1 Tryd.tyk66,trivial,trivial⟩,⟨ev1 Tryd.tyk98,trivial,trivial⟩⟩,⟨ev0,trivial,⟨ev1 Tryd.tyk114,trivial,trivial⟩⟩⟩,⟨ev0,⟨ev0,⟨ev1 Tryd.tyk74,trivial,trivial⟩,trivial⟩,⟨ev0,trivial,⟨ev1 Tryd.tyk122,trivial,trivial⟩⟩⟩⟩,⟨ev0,⟨ev0,⟨ev0,trivial,⟨ev1 Tryd.tyk102,trivial,trivial⟩⟩,trivial⟩,⟨ev0,⟨ev0,⟨ev1 Tryd.tyk78,trivial,trivial⟩,trivial⟩,trivial⟩⟩⟩⟩⟩
end Go.Sx
namespace Go.Sx
open Go.Proofs
set_option maxRecDepth 100000
noncomputable def Tryd.rr38017:RRow:=⟨38017,38,Tryd.f38.ntmps,Sx.Tryd.kp38,(firstR (bK (aB Tryd.f38))).1,(firstR (bK (aB Tryd.f38))).2⟩
noncomputable def Tryd.rr41021:RRow:=⟨41021,41,Tryd.f41.ntmps,Sx.Tryd.kp41,(firstR (bK (aB Tryd.f41))).1,(firstR (bK (aB Tryd.f41))).2⟩
noncomputable def Tryd.rr41033:RRow:=⟨41033,41,Tryd.f41.ntmps,Sx.Tryd.kp41,(firstR ((bK (aB Tryd.f41)).drop 1)).1,(firstR ((bK (aB Tryd.f41)).drop 1)).2⟩
noncomputable def Tryd.rr67040:RRow:=⟨67040,67,Tryd.f67.ntmps,Sx.Tryd.kp67,(firstR (bK (aB Tryd.f67))).1,(firstR (bK (aB Tryd.f67))).2⟩
noncomputable def Tryd.rows:List RRow:=[Tryd.rr38017,Tryd.rr41021,Tryd.rr41033,Tryd.rr67040]
theorem Tryd.fk5 {ok:Rho→(Nat→Obj→Prop)→Prop}:FRow ⟨Tryd.prog,bQ Tryd.rows,ok⟩ Sx.Tryd.tt.get 5 Sx.Tryd.cf5:=FRow.plain Sx.Tryd.kp5 (aB Tryd.f5) Tryd.func5 (by kernel_rfl) (by kernel_rfl) (by kernel_rfl) [] (by kernel_rfl) (fun q hq=>by cases hq)
theorem Tryd.fk6 {ok:Rho→(Nat→Obj→Prop)→Prop}:FRow ⟨Tryd.prog,bQ Tryd.rows,ok⟩ Sx.Tryd.tt.get 6 Sx.Tryd.cf6:=FRow.plain Sx.Tryd.kp6 (aB Tryd.f6) Tryd.func6 (by kernel_rfl) (by kernel_rfl) (by kernel_rfl) [] (by kernel_rfl) (fun q hq=>by cases hq)
theorem Tryd.fk7 {ok:Rho→(Nat→Obj→Prop)→Prop}:FRow ⟨Tryd.prog,bQ Tryd.rows,ok⟩ Sx.Tryd.tt.get 7 Sx.Tryd.cf7:=FRow.plain Sx.Tryd.kp7 (aB Tryd.f7) Tryd.func7 (by kernel_rfl) (by kernel_rfl) (by kernel_rfl) [] (by kernel_rfl) (fun q hq=>by cases hq)
theorem Tryd.fk8 {ok:Rho→(Nat→Obj→Prop)→Prop}:FRow ⟨Tryd.prog,bQ Tryd.rows,ok⟩ Sx.Tryd.tt.get 8 Sx.Tryd.cf8:=FRow.plain Sx.Tryd.kp8 (aB Tryd.f8) Tryd.func8 (by kernel_rfl) (by kernel_rfl) (by kernel_rfl) [] (by kernel_rfl) (fun q hq=>by cases hq)
theorem Tryd.fk9 {ok:Rho→(Nat→Obj→Prop)→Prop}:FRow ⟨Tryd.prog,bQ Tryd.rows,ok⟩ Sx.Tryd.tt.get 9 Sx.Tryd.cf9:=FRow.plain Sx.Tryd.kp9 (aB Tryd.f9) Tryd.func9 (by kernel_rfl) (by kernel_rfl) (by kernel_rfl) [] (by kernel_rfl) (fun q hq=>by cases hq)
theorem Tryd.fk10 {ok:Rho→(Nat→Obj→Prop)→Prop}:FRow ⟨Tryd.prog,bQ Tryd.rows,ok⟩ Sx.Tryd.tt.get 10 Sx.Tryd.cf10:=FRow.plain Sx.Tryd.kp10 (aB Tryd.f10) Tryd.func10 (by kernel_rfl) (by kernel_rfl) (by kernel_rfl) [] (by kernel_rfl) (fun q hq=>by cases hq)
theorem Tryd.fk15 {ok:Rho→(Nat→Obj→Prop)→Prop}:FRow ⟨Tryd.prog,bQ Tryd.rows,ok⟩ Sx.Tryd.tt.get 15 Sx.Tryd.cf15:=FRow.plain Sx.Tryd.kp15 (aB Tryd.f15) Tryd.func15 (by kernel_rfl) (by kernel_rfl) (by kernel_rfl) [] (by kernel_rfl) (fun q hq=>by cases hq)
theorem Tryd.fk16 {ok:Rho→(Nat→Obj→Prop)→Prop}:FRow ⟨Tryd.prog,bQ Tryd.rows,ok⟩ Sx.Tryd.tt.get 16 Sx.Tryd.cf16:=FRow.plain Sx.Tryd.kp16 (aB Tryd.f16) Tryd.func16 (by kernel_rfl) (by kernel_rfl) (by kernel_rfl) [] (by kernel_rfl) (fun q hq=>by cases hq)
theorem Tryd.fk17 {ok:Rho→(Nat→Obj→Prop)→Prop}:FRow ⟨Tryd.prog,bQ Tryd.rows,ok⟩ Sx.Tryd.tt.get 17 Sx.Tryd.cf17:=FRow.plain Sx.Tryd.kp17 (aB Tryd.f17) Tryd.func17 (by kernel_rfl) (by kernel_rfl) (by kernel_rfl) [] (by kernel_rfl) (fun q hq=>by cases hq)
theorem Tryd.fk18 {ok:Rho→(Nat→Obj→Prop)→Prop}:FRow ⟨Tryd.prog,bQ Tryd.rows,ok⟩ Sx.Tryd.tt.get 18 Sx.Tryd.cf18:=FRow.plain Sx.Tryd.kp18 (aB Tryd.f18) Tryd.func18 (by kernel_rfl) (by kernel_rfl) (by kernel_rfl) [] (by kernel_rfl) (fun q hq=>by cases hq)
theorem Tryd.fk19 {ok:Rho→(Nat→Obj→Prop)→Prop}:FRow ⟨Tryd.prog,bQ Tryd.rows,ok⟩ Sx.Tryd.tt.get 19 Sx.Tryd.cf19:=FRow.plain Sx.Tryd.kp19 (aB Tryd.f19) Tryd.func19 (by kernel_rfl) (by kernel_rfl) (by kernel_rfl) [] (by kernel_rfl) (fun q hq=>by cases hq)
theorem Tryd.fk20 {ok:Rho→(Nat→Obj→Prop)→Prop}:FRow ⟨Tryd.prog,bQ Tryd.rows,ok⟩ Sx.Tryd.tt.get 20 Sx.Tryd.cf20:=FRow.plain Sx.Tryd.kp20 (aB Tryd.f20) Tryd.func20 (by kernel_rfl) (by kernel_rfl) (by kernel_rfl) [] (by kernel_rfl) (fun q hq=>by cases hq)
theorem Tryd.fk21 {ok:Rho→(Nat→Obj→Prop)→Prop}:FRow ⟨Tryd.prog,bQ Tryd.rows,ok⟩ Sx.Tryd.tt.get 21 Sx.Tryd.cf21:=FRow.plain Sx.Tryd.kp21 (aB Tryd.f21) Tryd.func21 (by kernel_rfl) (by kernel_rfl) (by kernel_rfl) [] (by kernel_rfl) (fun q hq=>by cases hq)
theorem Tryd.fk22 {ok:Rho→(Nat→Obj→Prop)→Prop}:FRow ⟨Tryd.prog,bQ Tryd.rows,ok⟩ Sx.Tryd.tt.get 22 Sx.Tryd.cf22:=FRow.plain Sx.Tryd.kp22 (aB Tryd.f22) Tryd.func22 (by kernel_rfl) (by kernel_rfl) (by kernel_rfl) [] (by kernel_rfl) (fun q hq=>by cases hq)
theorem Tryd.fk23 {ok:Rho→(Nat→Obj→Prop)→Prop}:FRow ⟨Tryd.prog,bQ Tryd.rows,ok⟩ Sx.Tryd.tt.get 23 Sx.Tryd.cf23:=FRow.plain Sx.Tryd.kp23 (aB Tryd.f23) Tryd.func23 (by kernel_rfl) (by kernel_rfl) (by kernel_rfl) [] (by kernel_rfl) (fun q hq=>by cases hq)
theorem Tryd.fk24 {ok:Rho→(Nat→Obj→Prop)→Prop}:FRow ⟨Tryd.prog,bQ Tryd.rows,ok⟩ Sx.Tryd.tt.get 24 Sx.Tryd.cf24:=FRow.plain Sx.Tryd.kp24 (aB Tryd.f24) Tryd.func24 (by kernel_rfl) (by kernel_rfl) (by kernel_rfl) [] (by kernel_rfl) (fun q hq=>by cases hq)
theorem Tryd.fk25 {ok:Rho→(Nat→Obj→Prop)→Prop}:FRow ⟨Tryd.prog,bQ Tryd.rows,ok⟩ Sx.Tryd.tt.get 25 Sx.Tryd.cf25:=FRow.plain Sx.Tryd.kp25 (aB Tryd.f25) Tryd.func25 (by kernel_rfl) (by kernel_rfl) (by kernel_rfl) [] (by kernel_rfl) (fun q hq=>by cases hq)
theorem Tryd.fk26 {ok:Rho→(Nat→Obj→Prop)→Prop}:FRow ⟨Tryd.prog,bQ Tryd.rows,ok⟩ Sx.Tryd.tt.get 26 Sx.Tryd.cf26:=FRow.plain Sx.Tryd.kp26 (aB Tryd.f26) Tryd.func26 (by kernel_rfl) (by kernel_rfl) (by kernel_rfl) [] (by kernel_rfl) (fun q hq=>by cases hq)
theorem Tryd.fk27 {ok:Rho→(Nat→Obj→Prop)→Prop}:FRow ⟨Tryd.prog,bQ Tryd.rows,ok⟩ Sx.Tryd.tt.get 27 Sx.Tryd.cf27:=FRow.plain Sx.Tryd.kp27 (aB Tryd.f27) Tryd.func27 (by kernel_rfl) (by kernel_rfl) (by kernel_rfl) [] (by kernel_rfl) (fun q hq=>by cases hq)
theorem Tryd.fk28 {ok:Rho→(Nat→Obj→Prop)→Prop}:FRow ⟨Tryd.prog,bQ Tryd.rows,ok⟩ Sx.Tryd.tt.get 28 Sx.Tryd.cf28:=FRow.plain Sx.Tryd.kp28 (aB Tryd.f28) Tryd.func28 (by kernel_rfl) (by kernel_rfl) (by kernel_rfl) [] (by kernel_rfl) (fun q hq=>by cases hq)
theorem Tryd.fk29 {ok:Rho→(Nat→Obj→Prop)→Prop}:FRow ⟨Tryd.prog,bQ Tryd.rows,ok⟩ Sx.Tryd.tt.get 29 Sx.Tryd.cf29:=FRow.plain Sx.Tryd.kp29 (aB Tryd.f29) Tryd.func29 (by kernel_rfl) (by kernel_rfl) (by kernel_rfl) [] (by kernel_rfl) (fun q hq=>by cases hq)
theorem Tryd.fk30 {ok:Rho→(Nat→Obj→Prop)→Prop}:FRow ⟨Tryd.prog,bQ Tryd.rows,ok⟩ Sx.Tryd.tt.get 30 Sx.Tryd.cf30:=FRow.plain Sx.Tryd.kp30 (aB Tryd.f30) Tryd.func30 (by kernel_rfl) (by kernel_rfl) (by kernel_rfl) [] (by kernel_rfl) (fun q hq=>by cases hq)
theorem Tryd.fk31 {ok:Rho→(Nat→Obj→Prop)→Prop}:FRow ⟨Tryd.prog,bQ Tryd.rows,ok⟩ Sx.Tryd.tt.get 31 Sx.Tryd.cf31:=FRow.plain Sx.Tryd.kp31 (aB Tryd.f31) Tryd.func31 (by kernel_rfl) (by kernel_rfl) (by kernel_rfl) [] (by kernel_rfl) (fun q hq=>by cases hq)
theorem Tryd.fk32 {ok:Rho→(Nat→Obj→Prop)→Prop}:FRow ⟨Tryd.prog,bQ Tryd.rows,ok⟩ Sx.Tryd.tt.get 32 Sx.Tryd.cf32:=FRow.plain Sx.Tryd.kp32 (aB Tryd.f32) Tryd.func32 (by kernel_rfl) (by kernel_rfl) (by kernel_rfl) [] (by kernel_rfl) (fun q hq=>by cases hq)
theorem Tryd.fk33 {ok:Rho→(Nat→Obj→Prop)→Prop}:FRow ⟨Tryd.prog,bQ Tryd.rows,ok⟩ Sx.Tryd.tt.get 33 Sx.Tryd.cf33:=FRow.plain Sx.Tryd.kp33 (aB Tryd.f33) Tryd.func33 (by kernel_rfl) (by kernel_rfl) (by kernel_rfl) [] (by kernel_rfl) (fun q hq=>by cases hq)
theorem Tryd.fk34 {ok:Rho→(Nat→Obj→Prop)→Prop}:FRow ⟨Tryd.prog,bQ Tryd.rows,ok⟩ Sx.Tryd.tt.get 34 Sx.Tryd.cf34:=FRow.plain Sx.Tryd.kp34 (aB Tryd.f34) Tryd.func34 (by kernel_rfl) (by kernel_rfl) (by kernel_rfl) [] (by kernel_rfl) (fun q hq=>by cases hq)
theorem Tryd.fk36 {ok:Rho→(Nat→Obj→Prop)→Prop}:FRow ⟨Tryd.prog,bQ Tryd.rows,ok⟩ Sx.Tryd.tt.get 36 Sx.Tryd.cf36:=FRow.plain Sx.Tryd.kp36 (aB Tryd.f36) Tryd.func36 (by kernel_rfl) (by kernel_rfl) (by kernel_rfl) [] (by kernel_rfl) (fun q hq=>by cases hq)
theorem Tryd.fk37 {ok:Rho→(Nat→Obj→Prop)→Prop}:FRow ⟨Tryd.prog,bQ Tryd.rows,ok⟩ Sx.Tryd.tt.get 37 Sx.Tryd.cf37:=FRow.plain Sx.Tryd.kp37 (aB Tryd.f37) Tryd.func37 (by kernel_rfl) (by kernel_rfl) (by kernel_rfl) [] (by kernel_rfl) (fun q hq=>by cases hq)
theorem Tryd.fk38 {ok:Rho→(Nat→Obj→Prop)→Prop}:FRow ⟨Tryd.prog,bQ Tryd.rows,ok⟩ Sx.Tryd.tt.get 38 Sx.Tryd.cf38:=FRow.plain Sx.Tryd.kp38 (aB Tryd.f38) Tryd.func38 (by kernel_rfl) (by kernel_rfl) (by kernel_rfl) [([17],Tryd.rr38017.a,Tryd.rr38017.b)] (by kernel_rfl) (fun q hq id hid=>by
  rcases List.mem_singleton.1 hq with rfl
  cases hid
  exact ⟨Tryd.rr38017,by simp [Tryd.rows],rfl,rfl,rfl,rfl,rfl⟩)
theorem Tryd.fk39 {ok:Rho→(Nat→Obj→Prop)→Prop}:FRow ⟨Tryd.prog,bQ Tryd.rows,ok⟩ Sx.Tryd.tt.get 39 Sx.Tryd.cf39:=FRow.plain Sx.Tryd.kp39 (aB Tryd.f39) Tryd.func39 (by kernel_rfl) (by kernel_rfl) (by kernel_rfl) [] (by kernel_rfl) (fun q hq=>by cases hq)
theorem Tryd.fk40 {ok:Rho→(Nat→Obj→Prop)→Prop}:FRow ⟨Tryd.prog,bQ Tryd.rows,ok⟩ Sx.Tryd.tt.get 40 Sx.Tryd.cf40:=FRow.plain Sx.Tryd.kp40 (aB Tryd.f40) Tryd.func40 (by kernel_rfl) (by kernel_rfl) (by kernel_rfl) [] (by kernel_rfl) (fun q hq=>by cases hq)
theorem Tryd.fk41 {ok:Rho→(Nat→Obj→Prop)→Prop}:FRow ⟨Tryd.prog,bQ Tryd.rows,ok⟩ Sx.Tryd.tt.get 41 Sx.Tryd.cf41:=FRow.plain Sx.Tryd.kp41 (aB Tryd.f41) Tryd.func41 (by kernel_rfl) (by kernel_rfl) (by kernel_rfl) [([21],Tryd.rr41021.a,Tryd.rr41021.b),([33],Tryd.rr41033.a,Tryd.rr41033.b)] (by kernel_rfl) (fun q hq id hid=>by
  rcases List.mem_cons.1 hq with rfl | hq
  · cases hid
    exact ⟨Tryd.rr41021,by simp [Tryd.rows],rfl,rfl,rfl,rfl,rfl⟩
  rcases List.mem_singleton.1 hq with rfl
  cases hid
  exact ⟨Tryd.rr41033,by simp [Tryd.rows],rfl,rfl,rfl,rfl,rfl⟩)
theorem Tryd.fk42 {ok:Rho→(Nat→Obj→Prop)→Prop}:FRow ⟨Tryd.prog,bQ Tryd.rows,ok⟩ Sx.Tryd.tt.get 42 Sx.Tryd.cf42:=FRow.plain Sx.Tryd.kp42 (aB Tryd.f42) Tryd.func42 (by kernel_rfl) (by kernel_rfl) (by kernel_rfl) [] (by kernel_rfl) (fun q hq=>by cases hq)
theorem Tryd.fk43 {ok:Rho→(Nat→Obj→Prop)→Prop}:FRow ⟨Tryd.prog,bQ Tryd.rows,ok⟩ Sx.Tryd.tt.get 43 Sx.Tryd.cf43:=FRow.plain Sx.Tryd.kp43 (aB Tryd.f43) Tryd.func43 (by kernel_rfl) (by kernel_rfl) (by kernel_rfl) [] (by kernel_rfl) (fun q hq=>by cases hq)
theorem Tryd.fk44 {ok:Rho→(Nat→Obj→Prop)→Prop}:FRow ⟨Tryd.prog,bQ Tryd.rows,ok⟩ Sx.Tryd.tt.get 44 Sx.Tryd.cf44:=FRow.plain Sx.Tryd.kp44 (aB Tryd.f44) Tryd.func44 (by kernel_rfl) (by kernel_rfl) (by kernel_rfl) [] (by kernel_rfl) (fun q hq=>by cases hq)
theorem Tryd.fk45 {ok:Rho→(Nat→Obj→Prop)→Prop}:FRow ⟨Tryd.prog,bQ Tryd.rows,ok⟩ Sx.Tryd.tt.get 45 Sx.Tryd.cf45:=FRow.plain Sx.Tryd.kp45 (aB Tryd.f45) Tryd.func45 (by kernel_rfl) (by kernel_rfl) (by kernel_rfl) [] (by kernel_rfl) (fun q hq=>by cases hq)
theorem Tryd.fk46 {ok:Rho→(Nat→Obj→Prop)→Prop}:FRow ⟨Tryd.prog,bQ Tryd.rows,ok⟩ Sx.Tryd.tt.get 46 Sx.Tryd.cf46:=FRow.plain Sx.Tryd.kp46 (aB Tryd.f46) Tryd.func46 (by kernel_rfl) (by kernel_rfl) (by kernel_rfl) [] (by kernel_rfl) (fun q hq=>by cases hq)
theorem Tryd.fk47 {ok:Rho→(Nat→Obj→Prop)→Prop}:FRow ⟨Tryd.prog,bQ Tryd.rows,ok⟩ Sx.Tryd.tt.get 47 Sx.Tryd.cf47:=FRow.plain Sx.Tryd.kp47 (aB Tryd.f47) Tryd.func47 (by kernel_rfl) (by kernel_rfl) (by kernel_rfl) [] (by kernel_rfl) (fun q hq=>by cases hq)
theorem Tryd.fk48 {ok:Rho→(Nat→Obj→Prop)→Prop}:FRow ⟨Tryd.prog,bQ Tryd.rows,ok⟩ Sx.Tryd.tt.get 48 Sx.Tryd.cf48:=FRow.plain Sx.Tryd.kp48 (aB Tryd.f48) Tryd.func48 (by kernel_rfl) (by kernel_rfl) (by kernel_rfl) [] (by kernel_rfl) (fun q hq=>by cases hq)
theorem Tryd.fk49 {ok:Rho→(Nat→Obj→Prop)→Prop}:FRow ⟨Tryd.prog,bQ Tryd.rows,ok⟩ Sx.Tryd.tt.get 49 Sx.Tryd.cf49:=FRow.plain Sx.Tryd.kp49 (aB Tryd.f49) Tryd.func49 (by kernel_rfl) (by kernel_rfl) (by kernel_rfl) [] (by kernel_rfl) (fun q hq=>by cases hq)
theorem Tryd.fk50 {ok:Rho→(Nat→Obj→Prop)→Prop}:FRow ⟨Tryd.prog,bQ Tryd.rows,ok⟩ Sx.Tryd.tt.get 50 Sx.Tryd.cf50:=FRow.plain Sx.Tryd.kp50 (aB Tryd.f50) Tryd.func50 (by kernel_rfl) (by kernel_rfl) (by kernel_rfl) [] (by kernel_rfl) (fun q hq=>by cases hq)
theorem Tryd.fk51 {ok:Rho→(Nat→Obj→Prop)→Prop}:FRow ⟨Tryd.prog,bQ Tryd.rows,ok⟩ Sx.Tryd.tt.get 51 Sx.Tryd.cf51:=FRow.plain Sx.Tryd.kp51 (aB Tryd.f51) Tryd.func51 (by kernel_rfl) (by kernel_rfl) (by kernel_rfl) [] (by kernel_rfl) (fun q hq=>by cases hq)
theorem Tryd.fk52 {ok:Rho→(Nat→Obj→Prop)→Prop}:FRow ⟨Tryd.prog,bQ Tryd.rows,ok⟩ Sx.Tryd.tt.get 52 Sx.Tryd.cf52:=FRow.plain Sx.Tryd.kp52 (aB Tryd.f52) Tryd.func52 (by kernel_rfl) (by kernel_rfl) (by kernel_rfl) [] (by kernel_rfl) (fun q hq=>by cases hq)
theorem Tryd.fk53 {ok:Rho→(Nat→Obj→Prop)→Prop}:FRow ⟨Tryd.prog,bQ Tryd.rows,ok⟩ Sx.Tryd.tt.get 53 Sx.Tryd.cf53:=FRow.plain Sx.Tryd.kp53 (aB Tryd.f53) Tryd.func53 (by kernel_rfl) (by kernel_rfl) (by kernel_rfl) [] (by kernel_rfl) (fun q hq=>by cases hq)
theorem Tryd.fk54 {ok:Rho→(Nat→Obj→Prop)→Prop}:FRow ⟨Tryd.prog,bQ Tryd.rows,ok⟩ Sx.Tryd.tt.get 54 Sx.Tryd.cf54:=FRow.plain Sx.Tryd.kp54 (aB Tryd.f54) Tryd.func54 (by kernel_rfl) (by kernel_rfl) (by kernel_rfl) [] (by kernel_rfl) (fun q hq=>by cases hq)
theorem Tryd.fk55 {ok:Rho→(Nat→Obj→Prop)→Prop}:FRow ⟨Tryd.prog,bQ Tryd.rows,ok⟩ Sx.Tryd.tt.get 55 Sx.Tryd.cf55:=FRow.plain Sx.Tryd.kp55 (aB Tryd.f55) Tryd.func55 (by kernel_rfl) (by kernel_rfl) (by kernel_rfl) [] (by kernel_rfl) (fun q hq=>by cases hq)
theorem Tryd.fk56 {ok:Rho→(Nat→Obj→Prop)→Prop}:FRow ⟨Tryd.prog,bQ Tryd.rows,ok⟩ Sx.Tryd.tt.get 56 Sx.Tryd.cf56:=FRow.plain Sx.Tryd.kp56 (aB Tryd.f56) Tryd.func56 (by kernel_rfl) (by kernel_rfl) (by kernel_rfl) [] (by kernel_rfl) (fun q hq=>by cases hq)
theorem Tryd.fk57 {ok:Rho→(Nat→Obj→Prop)→Prop}:FRow ⟨Tryd.prog,bQ Tryd.rows,ok⟩ Sx.Tryd.tt.get 57 Sx.Tryd.cf57:=FRow.plain Sx.Tryd.kp57 (aB Tryd.f57) Tryd.func57 (by kernel_rfl) (by kernel_rfl) (by kernel_rfl) [] (by kernel_rfl) (fun q hq=>by cases hq)
theorem Tryd.fk58 {ok:Rho→(Nat→Obj→Prop)→Prop}:FRow ⟨Tryd.prog,bQ Tryd.rows,ok⟩ Sx.Tryd.tt.get 58 Sx.Tryd.cf58:=FRow.plain Sx.Tryd.kp58 (aB Tryd.f58) Tryd.func58 (by kernel_rfl) (by kernel_rfl) (by kernel_rfl) [] (by kernel_rfl) (fun q hq=>by cases hq)
theorem Tryd.fk59 {ok:Rho→(Nat→Obj→Prop)→Prop}:FRow ⟨Tryd.prog,bQ Tryd.rows,ok⟩ Sx.Tryd.tt.get 59 Sx.Tryd.cf59:=FRow.plain Sx.Tryd.kp59 (aB Tryd.f59) Tryd.func59 (by kernel_rfl) (by kernel_rfl) (by kernel_rfl) [] (by kernel_rfl) (fun q hq=>by cases hq)
theorem Tryd.fk60 {ok:Rho→(Nat→Obj→Prop)→Prop}:FRow ⟨Tryd.prog,bQ Tryd.rows,ok⟩ Sx.Tryd.tt.get 60 Sx.Tryd.cf60:=FRow.plain Sx.Tryd.kp60 (aB Tryd.f60) Tryd.func60 (by kernel_rfl) (by kernel_rfl) (by kernel_rfl) [] (by kernel_rfl) (fun q hq=>by cases hq)
theorem Tryd.fk61 {ok:Rho→(Nat→Obj→Prop)→Prop}:FRow ⟨Tryd.prog,bQ Tryd.rows,ok⟩ Sx.Tryd.tt.get 61 Sx.Tryd.cf61:=FRow.plain Sx.Tryd.kp61 (aB Tryd.f61) Tryd.func61 (by kernel_rfl) (by kernel_rfl) (by kernel_rfl) [] (by kernel_rfl) (fun q hq=>by cases hq)
theorem Tryd.fk62 {ok:Rho→(Nat→Obj→Prop)→Prop}:FRow ⟨Tryd.prog,bQ Tryd.rows,ok⟩ Sx.Tryd.tt.get 62 Sx.Tryd.cf62:=FRow.plain Sx.Tryd.kp62 (aB Tryd.f62) Tryd.func62 (by kernel_rfl) (by kernel_rfl) (by kernel_rfl) [] (by kernel_rfl) (fun q hq=>by cases hq)
theorem Tryd.fk63 {ok:Rho→(Nat→Obj→Prop)→Prop}:FRow ⟨Tryd.prog,bQ Tryd.rows,ok⟩ Sx.Tryd.tt.get 63 Sx.Tryd.cf63:=FRow.plain Sx.Tryd.kp63 (aB Tryd.f63) Tryd.func63 (by kernel_rfl) (by kernel_rfl) (by kernel_rfl) [] (by kernel_rfl) (fun q hq=>by cases hq)
theorem Tryd.fk64 {ok:Rho→(Nat→Obj→Prop)→Prop}:FRow ⟨Tryd.prog,bQ Tryd.rows,ok⟩ Sx.Tryd.tt.get 64 Sx.Tryd.cf64:=FRow.plain Sx.Tryd.kp64 (aB Tryd.f64) Tryd.func64 (by kernel_rfl) (by kernel_rfl) (by kernel_rfl) [] (by kernel_rfl) (fun q hq=>by cases hq)
theorem Tryd.fk65 {ok:Rho→(Nat→Obj→Prop)→Prop}:FRow ⟨Tryd.prog,bQ Tryd.rows,ok⟩ Sx.Tryd.tt.get 65 Sx.Tryd.cf65:=FRow.plain Sx.Tryd.kp65 (aB Tryd.f65) Tryd.func65 (by kernel_rfl) (by kernel_rfl) (by kernel_rfl) [] (by kernel_rfl) (fun q hq=>by cases hq)
theorem Tryd.fk66 {ok:Rho→(Nat→Obj→Prop)→Prop}:FRow ⟨Tryd.prog,bQ Tryd.rows,ok⟩ Sx.Tryd.tt.get 66 Sx.Tryd.cf66:=FRow.plain Sx.Tryd.kp66 (aB Tryd.f66) Tryd.func66 (by kernel_rfl) (by kernel_rfl) (by kernel_rfl) [] (by kernel_rfl) (fun q hq=>by cases hq)
theorem Tryd.fk67 {ok:Rho→(Nat→Obj→Prop)→Prop}:FRow ⟨Tryd.prog,bQ Tryd.rows,ok⟩ Sx.Tryd.tt.get 67 Sx.Tryd.cf67:=FRow.plain Sx.Tryd.kp67 (aB Tryd.f67) Tryd.func67 (by kernel_rfl) (by kernel_rfl) (by kernel_rfl) [([40],Tryd.rr67040.a,Tryd.rr67040.b)] (by kernel_rfl) (fun q hq id hid=>by
  rcases List.mem_singleton.1 hq with rfl
  cases hid
  exact ⟨Tryd.rr67040,by simp [Tryd.rows],rfl,rfl,rfl,rfl,rfl⟩)
theorem Tryd.fk68 {ok:Rho→(Nat→Obj→Prop)→Prop}:FRow ⟨Tryd.prog,bQ Tryd.rows,ok⟩ Sx.Tryd.tt.get 68 Sx.Tryd.cf68:=FRow.plain Sx.Tryd.kp68 (aB Tryd.f68) Tryd.func68 (by kernel_rfl) (by kernel_rfl) (by kernel_rfl) [] (by kernel_rfl) (fun q hq=>by cases hq)
theorem Tryd.fk69 {ok:Rho→(Nat→Obj→Prop)→Prop}:FRow ⟨Tryd.prog,bQ Tryd.rows,ok⟩ Sx.Tryd.tt.get 69 Sx.Tryd.cf69:=FRow.plain Sx.Tryd.kp69 (aB Tryd.f69) Tryd.func69 (by kernel_rfl) (by kernel_rfl) (by kernel_rfl) [] (by kernel_rfl) (fun q hq=>by cases hq)
theorem Tryd.fk70 {ok:Rho→(Nat→Obj→Prop)→Prop}:FRow ⟨Tryd.prog,bQ Tryd.rows,ok⟩ Sx.Tryd.tt.get 70 Sx.Tryd.cf70:=FRow.plain Sx.Tryd.kp70 (aB Tryd.f70) Tryd.func70 (by kernel_rfl) (by kernel_rfl) (by kernel_rfl) [] (by kernel_rfl) (fun q hq=>by cases hq)
theorem Tryd.fk71 {ok:Rho→(Nat→Obj→Prop)→Prop}:FRow ⟨Tryd.prog,bQ Tryd.rows,ok⟩ Sx.Tryd.tt.get 71 Sx.Tryd.cf71:=FRow.plain Sx.Tryd.kp71 (aB Tryd.f71) Tryd.func71 (by kernel_rfl) (by kernel_rfl) (by kernel_rfl) [] (by kernel_rfl) (fun q hq=>by cases hq)
theorem Tryd.fk72 {ok:Rho→(Nat→Obj→Prop)→Prop}:FRow ⟨Tryd.prog,bQ Tryd.rows,ok⟩ Sx.Tryd.tt.get 72 Sx.Tryd.cf72:=FRow.plain Sx.Tryd.kp72 (aB Tryd.f72) Tryd.func72 (by kernel_rfl) (by kernel_rfl) (by kernel_rfl) [] (by kernel_rfl) (fun q hq=>by cases hq)
theorem Tryd.fk73 {ok:Rho→(Nat→Obj→Prop)→Prop}:FRow ⟨Tryd.prog,bQ Tryd.rows,ok⟩ Sx.Tryd.tt.get 73 Sx.Tryd.cf73:=FRow.plain Sx.Tryd.kp73 (aB Tryd.f73) Tryd.func73 (by kernel_rfl) (by kernel_rfl) (by kernel_rfl) [] (by kernel_rfl) (fun q hq=>by cases hq)
theorem Tryd.fk74 {ok:Rho→(Nat→Obj→Prop)→Prop}:FRow ⟨Tryd.prog,bQ Tryd.rows,ok⟩ Sx.Tryd.tt.get 74 Sx.Tryd.cf74:=FRow.plain Sx.Tryd.kp74 (aB Tryd.f74) Tryd.func74 (by kernel_rfl) (by kernel_rfl) (by kernel_rfl) [] (by kernel_rfl) (fun q hq=>by cases hq)
theorem Tryd.fk75 {ok:Rho→(Nat→Obj→Prop)→Prop}:FRow ⟨Tryd.prog,bQ Tryd.rows,ok⟩ Sx.Tryd.tt.get 75 Sx.Tryd.cf75:=FRow.plain Sx.Tryd.kp75 (aB Tryd.f75) Tryd.func75 (by kernel_rfl) (by kernel_rfl) (by kernel_rfl) [] (by kernel_rfl) (fun q hq=>by cases hq)
theorem Tryd.fks {ok:Rho→(Nat→Obj→Prop)→Prop}:Sx.Tryd.ft.Every (FRow ⟨Tryd.prog,bQ Tryd.rows,ok⟩ Sx.Tryd.tt.get):=⟨ev0,⟨ev0,⟨ev0,⟨ev1 Tryd.fk7,⟨ev1 Tryd.fk15,⟨ev1 Tryd.fk31,⟨ev1 Tryd.fk63,trivial,trivial⟩,trivial⟩,⟨ev1 Tryd.fk47,trivial,trivial⟩⟩,⟨ev1 Tryd.fk23,⟨ev1 Tryd.fk39,⟨ev1 Tryd.fk71,trivial,trivial⟩,trivial⟩,⟨ev1 Tryd.fk55,trivial,trivial⟩⟩⟩,⟨ev0,⟨ev1 Tryd.fk19,⟨ev0,⟨ev1 Tryd.fk67,trivial,trivial⟩,trivial⟩,⟨ev1 Tryd.fk51,trivial,trivial⟩⟩,⟨ev1 Tryd.fk27,⟨ev1 Tryd.fk43,⟨ev1 Tryd.fk75,trivial,trivial⟩,trivial⟩,⟨ev1 Tryd.fk59,trivial,trivial⟩⟩⟩⟩,⟨ev1 Tryd.fk5,⟨ev1 Tryd.fk9,⟨ev1 Tryd.fk17,⟨ev1 Tryd.fk33,⟨ev1 Tryd.fk65,trivial,trivial⟩,trivial⟩,⟨ev1 Tryd.fk49,trivial,trivial⟩⟩,⟨ev1 Tryd.fk25,⟨ev1 Tryd.fk41,⟨ev1 Tryd.fk73,trivial,trivial⟩,trivial⟩,⟨ev1 Tryd.fk57,trivial,trivial⟩⟩⟩,⟨ev0,⟨ev1 Tryd.fk21,⟨ev1 Tryd.fk37,⟨ev1 Tryd.fk69,trivial,trivial⟩,trivial⟩,⟨ev1 Tryd.fk53,trivial,trivial⟩⟩,⟨ev1 Tryd.fk29,⟨ev1 Tryd.fk45,trivial,trivial⟩,⟨ev1 Tryd.fk61,trivial,trivial⟩⟩⟩⟩⟩,⟨ev0,⟨ev0,⟨ev1 Tryd.fk8,⟨ev1 Tryd.fk16,⟨ev1 Tryd.fk32,⟨ev1 Tryd.fk64,trivial,trivial⟩,trivial⟩,⟨ev1 Tryd.fk48,trivial,trivial⟩⟩,⟨ev1 Tryd.fk24,⟨ev1 Tryd.fk40,⟨ev1 Tryd.fk72,trivial,trivial⟩,trivial⟩,⟨ev1 Tryd.fk56,trivial,trivial⟩⟩⟩,⟨ev0,⟨ev1 Tryd.fk20,⟨ev1 Tryd.fk36,⟨ev1 Tryd.fk68,trivial,trivial⟩,trivial⟩,⟨ev1 Tryd.fk52,trivial,trivial⟩⟩,⟨ev1 Tryd.fk28,⟨ev1 Tryd.fk44,trivial,trivial⟩,⟨ev1 Tryd.fk60,trivial,trivial⟩⟩⟩⟩,⟨ev1 Tryd.fk6,⟨ev1 Tryd.fk10,⟨ev1 Tryd.fk18,⟨ev1 Tryd.fk34,⟨ev1 Tryd.fk66,trivial,trivial⟩,trivial⟩,⟨ev1 Tryd.fk50,trivial,trivial⟩⟩,⟨ev1 Tryd.fk26,⟨ev1 Tryd.fk42,⟨ev1 Tryd.fk74,trivial,trivial⟩,trivial⟩,⟨ev1 Tryd.fk58,trivial,trivial⟩⟩⟩,⟨ev0,⟨ev1 Tryd.fk22,⟨ev1 Tryd.fk38,⟨ev1 Tryd.fk70,trivial,trivial⟩,trivial⟩,⟨ev1 Tryd.fk54,trivial,trivial⟩⟩,⟨ev1 Tryd.fk30,⟨ev1 Tryd.fk46,trivial,trivial⟩,⟨ev1 Tryd.fk62,trivial,trivial⟩⟩⟩⟩⟩⟩
theorem Tryd.rs38017:RSub Tryd.rows Tryd.rr38017:=RSub.of [] (by kernel_rfl) (fun q hq=>by cases hq)
theorem Tryd.rk38017:∃ ca cb,aA Sx.Tryd.rt Tryd.rr38017.id=some (ca,cb)∧bX Sx.Tryd.tt.get Tryd.rr38017.n Tryd.rr38017.keep Tryd.rr38017.fid Tryd.rr38017.a=some ca∧bX Sx.Tryd.tt.get Tryd.rr38017.n Tryd.rr38017.keep Tryd.rr38017.fid Tryd.rr38017.b=some cb∧RSub Tryd.rows Tryd.rr38017 :=
  ⟨Sx.Tryd.ra38017,Sx.Tryd.rb38017,by kernel_rfl,by kernel_rfl,by kernel_rfl,Tryd.rs38017⟩
theorem Tryd.rs41021:RSub Tryd.rows Tryd.rr41021:=RSub.of [] (by kernel_rfl) (fun q hq=>by cases hq)
theorem Tryd.rk41021:∃ ca cb,aA Sx.Tryd.rt Tryd.rr41021.id=some (ca,cb)∧bX Sx.Tryd.tt.get Tryd.rr41021.n Tryd.rr41021.keep Tryd.rr41021.fid Tryd.rr41021.a=some ca∧bX Sx.Tryd.tt.get Tryd.rr41021.n Tryd.rr41021.keep Tryd.rr41021.fid Tryd.rr41021.b=some cb∧RSub Tryd.rows Tryd.rr41021 :=
  ⟨Sx.Tryd.ra41021,Sx.Tryd.rb41021,by kernel_rfl,by kernel_rfl,by kernel_rfl,Tryd.rs41021⟩
theorem Tryd.rs41033:RSub Tryd.rows Tryd.rr41033:=RSub.of [] (by kernel_rfl) (fun q hq=>by cases hq)
theorem Tryd.rk41033:∃ ca cb,aA Sx.Tryd.rt Tryd.rr41033.id=some (ca,cb)∧bX Sx.Tryd.tt.get Tryd.rr41033.n Tryd.rr41033.keep Tryd.rr41033.fid Tryd.rr41033.a=some ca∧bX Sx.Tryd.tt.get Tryd.rr41033.n Tryd.rr41033.keep Tryd.rr41033.fid Tryd.rr41033.b=some cb∧RSub Tryd.rows Tryd.rr41033 :=
  ⟨Sx.Tryd.ra41033,Sx.Tryd.rb41033,by kernel_rfl,by kernel_rfl,by kernel_rfl,Tryd.rs41033⟩
theorem Tryd.rs67040:RSub Tryd.rows Tryd.rr67040:=RSub.of [] (by kernel_rfl) (fun q hq=>by cases hq)
theorem Tryd.rk67040:∃ ca cb,aA Sx.Tryd.rt Tryd.rr67040.id=some (ca,cb)∧bX Sx.Tryd.tt.get Tryd.rr67040.n Tryd.rr67040.keep Tryd.rr67040.fid Tryd.rr67040.a=some ca∧bX Sx.Tryd.tt.get Tryd.rr67040.n Tryd.rr67040.keep Tryd.rr67040.fid Tryd.rr67040.b=some cb∧RSub Tryd.rows Tryd.rr67040 :=
  ⟨Sx.Tryd.ra67040,Sx.Tryd.rb67040,by kernel_rfl,by kernel_rfl,by kernel_rfl,Tryd.rs67040⟩
theorem Tryd.rks:∀ r ∈ Tryd.rows,∃ ca cb,aA Sx.Tryd.rt r.id=some (ca,cb)∧bX Sx.Tryd.tt.get r.n r.keep r.fid r.a=some ca∧bX Sx.Tryd.tt.get r.n r.keep r.fid r.b=some cb∧RSub Tryd.rows r:=by
  intro r hr
  simp only [Tryd.rows,List.mem_cons,List.not_mem_nil,or_false] at hr
  rcases hr with rfl | rfl | rfl | rfl
  · exact Tryd.rk38017
  · exact Tryd.rk41021
  · exact Tryd.rk41033
  · exact Tryd.rk67040
theorem Tryd.tab {ok : Rho → (Nat → Obj → Prop) → Prop} (orc : FuncId → List AV → Heap → Option (T (AV × Heap))) (ho : ∀ f args h t, orc f args h = some t → CallOk ⟨Tryd.prog, bQ Tryd.rows, ok⟩ f args h t) (loops : Nat) :
    b8 ⟨Tryd.prog,bQ Tryd.rows,ok⟩ Sx.Tryd.tt.get ⟨Sx.Tryd.ft.get,aA Sx.Tryd.rt,loops,orc⟩ :=
  tabOk_of (Checked.mixed Tryd.checked) Tryd.tyks Tryd.fks Tryd.rks ho
end Go.Sx
