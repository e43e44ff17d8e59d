/- THE FUNCTIONS' ROWS. -/
import Derived.Test.YtedkhkeaioppnaaDoorSxTab
import Derived.Test.YtedkhkeaioppnaaDoorTab
import Derived.Test.YtedkhkeaioppnaaDoorTie
/-! THE TABLES ARE THE PROGRAM's. -/
namespace Go.Sx
open Go.Proofs
set_option maxRecDepth 100000
theorem Tryd.tyk0 : TyRow Tryd.prog 0 Sx.Tryd.ti0 := TyRow.of' Sx.Tryd.ti0 Tryd.t0 Tryd.underlying0 Tryd.type0 rfl rfl (fun h => by cases h) (fun h => by cases h)
theorem Tryd.tyk1 : TyRow Tryd.prog 1 Sx.Tryd.ti1 := TyRow.of' Sx.Tryd.ti1 Tryd.t1 Tryd.underlying1 Tryd.type1 rfl rfl (fun _ => by kernel_rfl) (fun h => by cases h)
theorem Tryd.tyk2 : TyRow Tryd.prog 2 Sx.Tryd.ti2 := TyRow.of' Sx.Tryd.ti2 Tryd.t2 Tryd.underlying2 Tryd.type2 rfl rfl (fun _ => by kernel_rfl) (fun h => by cases h)
theorem Tryd.tyk3 : TyRow Tryd.prog 3 Sx.Tryd.ti3 := TyRow.of' Sx.Tryd.ti3 Tryd.t3 Tryd.underlying3 Tryd.type3 rfl rfl (fun _ => by kernel_rfl) (fun h => by cases h)
theorem Tryd.tyk4 : TyRow Tryd.prog 4 Sx.Tryd.ti4 := TyRow.of' Sx.Tryd.ti4 Tryd.t4 Tryd.underlying4 Tryd.type4 rfl rfl (fun _ => by kernel_rfl) (fun h => by cases h)
theorem Tryd.tyk5 : TyRow Tryd.prog 5 Sx.Tryd.ti5 := TyRow.of' Sx.Tryd.ti5 Tryd.t5 Tryd.underlying5 Tryd.type5 rfl rfl (fun _ => by kernel_rfl) (fun h => by cases h)
theorem Tryd.tyk6 : TyRow Tryd.prog 6 Sx.Tryd.ti6 := TyRow.of' Sx.Tryd.ti6 Tryd.t6 Tryd.underlying6 Tryd.type6 rfl rfl (fun _ => by kernel_rfl) (fun h => by cases h)
theorem Tryd.tyk7 : TyRow Tryd.prog 7 Sx.Tryd.ti7 := TyRow.of' Sx.Tryd.ti7 Tryd.t7 Tryd.underlying7 Tryd.type7 rfl rfl (fun _ => by kernel_rfl) (fun _ => ⟨by kernel_rfl, by kernel_rfl⟩)
theorem Tryd.tyk8 : TyRow Tryd.prog 8 Sx.Tryd.ti8 := TyRow.of' Sx.Tryd.ti8 Tryd.t8 Tryd.underlying8 Tryd.type8 rfl rfl (fun _ => by kernel_rfl) (fun _ => ⟨by kernel_rfl, by kernel_rfl⟩)
theorem Tryd.tyk9 : TyRow Tryd.prog 9 Sx.Tryd.ti9 := TyRow.of' Sx.Tryd.ti9 Tryd.t9 Tryd.underlying9 Tryd.type9 rfl rfl (fun h => by cases h) (fun h => by cases h)
theorem Tryd.tyk10 : TyRow Tryd.prog 10 Sx.Tryd.ti10 := TyRow.of' Sx.Tryd.ti10 Tryd.t10 Tryd.underlying10 Tryd.type10 rfl rfl (fun h => by cases h) (fun h => by cases h)
theorem Tryd.tyk11 : TyRow Tryd.prog 11 Sx.Tryd.ti11 := TyRow.of' Sx.Tryd.ti11 Tryd.t11 Tryd.underlying11 Tryd.type11 rfl rfl (fun h => by cases h) (fun h => by cases h)
theorem Tryd.tyk12 : TyRow Tryd.prog 12 Sx.Tryd.ti12 := TyRow.of' Sx.Tryd.ti12 Tryd.t12 Tryd.underlying12 Tryd.type12 rfl rfl (fun _ => by kernel_rfl) (fun h => by cases h)
theorem Tryd.tyk13 : TyRow Tryd.prog 13 Sx.Tryd.ti13 := TyRow.of' Sx.Tryd.ti13 Tryd.t13 Tryd.underlying13 Tryd.type13 rfl rfl (fun h => by cases h) (fun h => by cases h)
theorem Tryd.tyk14 : TyRow Tryd.prog 14 Sx.Tryd.ti14 := TyRow.of' Sx.Tryd.ti14 Tryd.t14 Tryd.underlying14 Tryd.type14 rfl rfl (fun h => by cases h) (fun h => by cases h)
theorem Tryd.tyk15 : TyRow Tryd.prog 15 Sx.Tryd.ti15 := TyRow.of' Sx.Tryd.ti15 Tryd.t15 Tryd.underlying15 Tryd.type15 rfl rfl (fun _ => by kernel_rfl) (fun h => by cases h)
theorem Tryd.tyk16 : TyRow Tryd.prog 16 Sx.Tryd.ti16 := TyRow.of' Sx.Tryd.ti16 Tryd.t16 Tryd.underlying16 Tryd.type16 rfl rfl (fun _ => by kernel_rfl) (fun h => by cases h)
theorem Tryd.tyk17 : TyRow Tryd.prog 17 Sx.Tryd.ti17 := TyRow.of' Sx.Tryd.ti17 Tryd.t17 Tryd.underlying17 Tryd.type17 rfl rfl (fun _ => by kernel_rfl) (fun h => by cases h)
theorem Tryd.tyk18 : TyRow Tryd.prog 18 Sx.Tryd.ti18 := TyRow.of' Sx.Tryd.ti18 Tryd.t18 Tryd.underlying18 Tryd.type18 rfl rfl (fun _ => by kernel_rfl) (fun h => by cases h)
theorem Tryd.tyk19 : TyRow Tryd.prog 19 Sx.Tryd.ti19 := TyRow.of' Sx.Tryd.ti19 Tryd.t19 Tryd.underlying19 Tryd.type19 rfl rfl (fun _ => by kernel_rfl) (fun h => by cases h)
theorem Tryd.tyk20 : TyRow Tryd.prog 20 Sx.Tryd.ti20 := TyRow.of' Sx.Tryd.ti20 Tryd.t20 Tryd.underlying20 Tryd.type20 rfl rfl (fun h => by cases h) (fun h => by cases h)
theorem Tryd.tyk21 : TyRow Tryd.prog 21 Sx.Tryd.ti21 := TyRow.of' Sx.Tryd.ti21 Tryd.t21 Tryd.underlying21 Tryd.type21 rfl rfl (fun _ => by kernel_rfl) (fun h => by cases h)
theorem Tryd.tyk22 : TyRow Tryd.prog 22 Sx.Tryd.ti22 := TyRow.of' Sx.Tryd.ti22 Tryd.t22 Tryd.underlying22 Tryd.type22 rfl rfl (fun _ => by kernel_rfl) (fun h => by cases h)
theorem Tryd.tyk23 : TyRow Tryd.prog 23 Sx.Tryd.ti23 := TyRow.of' Sx.Tryd.ti23 Tryd.t23 Tryd.underlying23 Tryd.type23 rfl rfl (fun _ => by kernel_rfl) (fun h => by cases h)
theorem Tryd.tyk24 : TyRow Tryd.prog 24 Sx.Tryd.ti24 := TyRow.of' Sx.Tryd.ti24 Tryd.t24 Tryd.underlying24 Tryd.type24 rfl rfl (fun _ => by kernel_rfl) (fun _ => ⟨by kernel_rfl, by kernel_rfl⟩)
theorem Tryd.tyk25 : TyRow Tryd.prog 25 Sx.Tryd.ti25 := TyRow.of' Sx.Tryd.ti25 Tryd.t25 Tryd.underlying25 Tryd.type25 rfl rfl (fun _ => by kernel_rfl) (fun _ => ⟨by kernel_rfl, by kernel_rfl⟩)
theorem Tryd.tyk26 : TyRow Tryd.prog 26 Sx.Tryd.ti26 := TyRow.of' Sx.Tryd.ti26 Tryd.t26 Tryd.underlying26 Tryd.type26 rfl rfl (fun _ => by kernel_rfl) (fun h => by cases h)
theorem Tryd.tyk27 : TyRow Tryd.prog 27 Sx.Tryd.ti27 := TyRow.of' Sx.Tryd.ti27 Tryd.t27 Tryd.underlying27 Tryd.type27 rfl rfl (fun _ => by kernel_rfl) (fun _ => ⟨by kernel_rfl, by kernel_rfl⟩)
theorem Tryd.tyk28 : TyRow Tryd.prog 28 Sx.Tryd.ti28 := TyRow.of' Sx.Tryd.ti28 Tryd.t28 Tryd.underlying28 Tryd.type28 rfl rfl (fun _ => by kernel_rfl) (fun _ => ⟨by kernel_rfl, by kernel_rfl⟩)
theorem Tryd.tyk29 : TyRow Tryd.prog 29 Sx.Tryd.ti29 := TyRow.of' Sx.Tryd.ti29 Tryd.t29 Tryd.underlying29 Tryd.type29 rfl rfl (fun _ => by kernel_rfl) (fun h => by cases h)
theorem Tryd.tyk30 : TyRow Tryd.prog 30 Sx.Tryd.ti30 := TyRow.of' Sx.Tryd.ti30 Tryd.t30 Tryd.underlying30 Tryd.type30 rfl rfl (fun _ => by kernel_rfl) (fun _ => ⟨by kernel_rfl, by kernel_rfl⟩)
theorem Tryd.tyk31 : TyRow Tryd.prog 31 Sx.Tryd.ti31 := TyRow.of' Sx.Tryd.ti31 Tryd.t31 Tryd.underlying31 Tryd.type31 rfl rfl (fun _ => by kernel_rfl) (fun _ => ⟨by kernel_rfl, by kernel_rfl⟩)
theorem Tryd.tyk32 : TyRow Tryd.prog 32 Sx.Tryd.ti32 := TyRow.of' Sx.Tryd.ti32 Tryd.t32 Tryd.underlying32 Tryd.type32 rfl rfl (fun _ => by kernel_rfl) (fun h => by cases h)
theorem Tryd.tyk33 : TyRow Tryd.prog 33 Sx.Tryd.ti33 := TyRow.of' Sx.Tryd.ti33 Tryd.t33 Tryd.underlying33 Tryd.type33 rfl rfl (fun _ => by kernel_rfl) (fun h => by cases h)
theorem Tryd.tyk34 : TyRow Tryd.prog 34 Sx.Tryd.ti34 := TyRow.of' Sx.Tryd.ti34 Tryd.t34 Tryd.underlying34 Tryd.type34 rfl rfl (fun _ => by kernel_rfl) (fun h => by cases h)
theorem Tryd.tyk35 : TyRow Tryd.prog 35 Sx.Tryd.ti35 := TyRow.of' Sx.Tryd.ti35 Tryd.t35 Tryd.underlying35 Tryd.type35 rfl rfl (fun h => by cases h) (fun h => by cases h)
theorem Tryd.tyk36 : TyRow Tryd.prog 36 Sx.Tryd.ti36 := TyRow.of' Sx.Tryd.ti36 Tryd.t36 Tryd.underlying36 Tryd.type36 rfl rfl (fun _ => by kernel_rfl) (fun h => by cases h)
theorem Tryd.tyk37 : TyRow Tryd.prog 37 Sx.Tryd.ti37 := TyRow.of' Sx.Tryd.ti37 Tryd.t37 Tryd.underlying37 Tryd.type37 rfl rfl (fun h => by cases h) (fun h => by cases h)
theorem Tryd.tyk38 : TyRow Tryd.prog 38 Sx.Tryd.ti38 := TyRow.of' Sx.Tryd.ti38 Tryd.t38 Tryd.underlying38 Tryd.type38 rfl rfl (fun _ => by kernel_rfl) (fun h => by cases h)
theorem Tryd.tyk39 : TyRow Tryd.prog 39 Sx.Tryd.ti39 := TyRow.of' Sx.Tryd.ti39 Tryd.t39 Tryd.underlying39 Tryd.type39 rfl rfl (fun _ => by kernel_rfl) (fun h => by cases h)
theorem Tryd.tyk40 : TyRow Tryd.prog 40 Sx.Tryd.ti40 := TyRow.of' Sx.Tryd.ti40 Tryd.t40 Tryd.underlying40 Tryd.type40 rfl rfl (fun h => by cases h) (fun h => by cases h)
theorem Tryd.tyk41 : TyRow Tryd.prog 41 Sx.Tryd.ti41 := TyRow.of' Sx.Tryd.ti41 Tryd.t41 Tryd.underlying41 Tryd.type41 rfl rfl (fun _ => by kernel_rfl) (fun h => by cases h)
theorem Tryd.tyk42 : TyRow Tryd.prog 42 Sx.Tryd.ti42 := TyRow.of' Sx.Tryd.ti42 Tryd.t42 Tryd.underlying42 Tryd.type42 rfl rfl (fun _ => by kernel_rfl) (fun h => by cases h)
theorem Tryd.tyk43 : TyRow Tryd.prog 43 Sx.Tryd.ti43 := TyRow.of' Sx.Tryd.ti43 Tryd.t43 Tryd.underlying43 Tryd.type43 rfl rfl (fun h => by cases h) (fun h => by cases h)
theorem Tryd.tyk44 : TyRow Tryd.prog 44 Sx.Tryd.ti44 := TyRow.of' Sx.Tryd.ti44 Tryd.t44 Tryd.underlying44 Tryd.type44 rfl rfl (fun _ => by kernel_rfl) (fun h => by cases h)
theorem Tryd.tyk45 : TyRow Tryd.prog 45 Sx.Tryd.ti45 := TyRow.of' Sx.Tryd.ti45 Tryd.t45 Tryd.underlying45 Tryd.type45 rfl rfl (fun _ => by kernel_rfl) (fun _ => ⟨by kernel_rfl, by kernel_rfl⟩)
theorem Tryd.tyk46 : TyRow Tryd.prog 46 Sx.Tryd.ti46 := TyRow.of' Sx.Tryd.ti46 Tryd.t46 Tryd.underlying46 Tryd.type46 rfl rfl (fun _ => by kernel_rfl) (fun _ => ⟨by kernel_rfl, by kernel_rfl⟩)
theorem Tryd.tyk47 : TyRow Tryd.prog 47 Sx.Tryd.ti47 := TyRow.of' Sx.Tryd.ti47 Tryd.t47 Tryd.underlying47 Tryd.type47 rfl rfl (fun h => by cases h) (fun h => by cases h)
theorem Tryd.tyk48 : TyRow Tryd.prog 48 Sx.Tryd.ti48 := TyRow.of' Sx.Tryd.ti48 Tryd.t48 Tryd.underlying48 Tryd.type48 rfl rfl (fun _ => by kernel_rfl) (fun h => by cases h)
theorem Tryd.tyk49 : TyRow Tryd.prog 49 Sx.Tryd.ti49 := TyRow.of' Sx.Tryd.ti49 Tryd.t49 Tryd.underlying49 Tryd.type49 rfl rfl (fun h => by cases h) (fun h => by cases h)
theorem Tryd.tyk50 : TyRow Tryd.prog 50 Sx.Tryd.ti50 := TyRow.of' Sx.Tryd.ti50 Tryd.t50 Tryd.underlying50 Tryd.type50 rfl rfl (fun _ => by kernel_rfl) (fun h => by cases h)
theorem Tryd.tyk51 : TyRow Tryd.prog 51 Sx.Tryd.ti51 := TyRow.of' Sx.Tryd.ti51 Tryd.t51 Tryd.underlying51 Tryd.type51 rfl rfl (fun _ => by kernel_rfl) (fun h => by cases h)
theorem Tryd.tyk52 : TyRow Tryd.prog 52 Sx.Tryd.ti52 := TyRow.of' Sx.Tryd.ti52 Tryd.t52 Tryd.underlying52 Tryd.type52 rfl rfl (fun _ => by kernel_rfl) (fun h => by cases h)
theorem Tryd.tyk53 : TyRow Tryd.prog 53 Sx.Tryd.ti53 := TyRow.of' Sx.Tryd.ti53 Tryd.t53 Tryd.underlying53 Tryd.type53 rfl rfl (fun _ => by kernel_rfl) (fun _ => ⟨by kernel_rfl, by kernel_rfl⟩)
theorem Tryd.tyk54 : TyRow Tryd.prog 54 Sx.Tryd.ti54 := TyRow.of' Sx.Tryd.ti54 Tryd.t54 Tryd.underlying54 Tryd.type54 rfl rfl (fun _ => by kernel_rfl) (fun _ => ⟨by kernel_rfl, by kernel_rfl⟩)
theorem Tryd.tyk55 : TyRow Tryd.prog 55 Sx.Tryd.ti55 := TyRow.of' Sx.Tryd.ti55 Tryd.t55 Tryd.underlying55 Tryd.type55 rfl rfl (fun _ => by kernel_rfl) (fun h => by cases h)
theorem Tryd.tyk56 : TyRow Tryd.prog 56 Sx.Tryd.ti56 := TyRow.of' Sx.Tryd.ti56 Tryd.t56 Tryd.underlying56 Tryd.type56 rfl rfl (fun _ => by kernel_rfl) (fun h => by cases h)
theorem Tryd.tyk57 : TyRow Tryd.prog 57 Sx.Tryd.ti57 := TyRow.of' Sx.Tryd.ti57 Tryd.t57 Tryd.underlying57 Tryd.type57 rfl rfl (fun _ => by kernel_rfl) (fun h => by cases h)
theorem Tryd.tyk58 : TyRow Tryd.prog 58 Sx.Tryd.ti58 := TyRow.of' Sx.Tryd.ti58 Tryd.t58 Tryd.underlying58 Tryd.type58 rfl rfl (fun _ => by kernel_rfl) (fun h => by cases h)
theorem Tryd.tyk59 : TyRow Tryd.prog 59 Sx.Tryd.ti59 := TyRow.of' Sx.Tryd.ti59 Tryd.t59 Tryd.underlying59 Tryd.type59 rfl rfl (fun _ => by kernel_rfl) (fun h => by cases h)
theorem Tryd.tyk60 : TyRow Tryd.prog 60 Sx.Tryd.ti60 := TyRow.of' Sx.Tryd.ti60 Tryd.t60 Tryd.underlying60 Tryd.type60 rfl rfl (fun _ => by kernel_rfl) (fun h => by cases h)
theorem Tryd.tyk61 : TyRow Tryd.prog 61 Sx.Tryd.ti61 := TyRow.of' Sx.Tryd.ti61 Tryd.t61 Tryd.underlying61 Tryd.type61 rfl rfl (fun _ => by kernel_rfl) (fun h => by cases h)
theorem Tryd.tyk62 : TyRow Tryd.prog 62 Sx.Tryd.ti62 := TyRow.of' Sx.Tryd.ti62 Tryd.t62 Tryd.underlying62 Tryd.type62 rfl rfl (fun _ => by kernel_rfl) (fun h => by cases h)
theorem Tryd.tyk63 : TyRow Tryd.prog 63 Sx.Tryd.ti63 := TyRow.of' Sx.Tryd.ti63 Tryd.t63 Tryd.underlying63 Tryd.type63 rfl rfl (fun _ => by kernel_rfl) (fun h => by cases h)
theorem Tryd.tyk64 : TyRow Tryd.prog 64 Sx.Tryd.ti64 := TyRow.of' Sx.Tryd.ti64 Tryd.t64 Tryd.underlying64 Tryd.type64 rfl rfl (fun _ => by kernel_rfl) (fun h => by cases h)
theorem Tryd.tyk65 : TyRow Tryd.prog 65 Sx.Tryd.ti65 := TyRow.of' Sx.Tryd.ti65 Tryd.t65 Tryd.underlying65 Tryd.type65 rfl rfl (fun _ => by kernel_rfl) (fun _ => ⟨by kernel_rfl, by kernel_rfl⟩)
theorem Tryd.tyk66 : TyRow Tryd.prog 66 Sx.Tryd.ti66 := TyRow.of' Sx.Tryd.ti66 Tryd.t66 Tryd.underlying66 Tryd.type66 rfl rfl (fun _ => by kernel_rfl) (fun _ => ⟨by kernel_rfl, by kernel_rfl⟩)
theorem Tryd.tyk67 : TyRow Tryd.prog 67 Sx.Tryd.ti67 := TyRow.of' Sx.Tryd.ti67 Tryd.t67 Tryd.underlying67 Tryd.type67 rfl rfl (fun h => by cases h) (fun h => by cases h)
theorem Tryd.tyk68 : TyRow Tryd.prog 68 Sx.Tryd.ti68 := TyRow.of' Sx.Tryd.ti68 Tryd.t68 Tryd.underlying68 Tryd.type68 rfl rfl (fun _ => by kernel_rfl) (fun h => by cases h)
theorem Tryd.tyk69 : TyRow Tryd.prog 69 Sx.Tryd.ti69 := TyRow.of' Sx.Tryd.ti69 Tryd.t69 Tryd.underlying69 Tryd.type69 rfl rfl (fun _ => by kernel_rfl) (fun h => by cases h)
theorem Tryd.tyk70 : TyRow Tryd.prog 70 Sx.Tryd.ti70 := TyRow.of' Sx.Tryd.ti70 Tryd.t70 Tryd.underlying70 Tryd.type70 rfl rfl (fun _ => by kernel_rfl) (fun h => by cases h)
theorem Tryd.tyk71 : TyRow Tryd.prog 71 Sx.Tryd.ti71 := TyRow.of' Sx.Tryd.ti71 Tryd.t71 Tryd.underlying71 Tryd.type71 rfl rfl (fun _ => by kernel_rfl) (fun h => by cases h)
theorem Tryd.tyk72 : TyRow Tryd.prog 72 Sx.Tryd.ti72 := TyRow.of' Sx.Tryd.ti72 Tryd.t72 Tryd.underlying72 Tryd.type72 rfl rfl (fun _ => by kernel_rfl) (fun h => by cases h)
theorem Tryd.tyk73 : TyRow Tryd.prog 73 Sx.Tryd.ti73 := TyRow.of' Sx.Tryd.ti73 Tryd.t73 Tryd.underlying73 Tryd.type73 rfl rfl (fun _ => by kernel_rfl) (fun h => by cases h)
theorem Tryd.tyk74 : TyRow Tryd.prog 74 Sx.Tryd.ti74 := TyRow.of' Sx.Tryd.ti74 Tryd.t74 Tryd.underlying74 Tryd.type74 rfl rfl (fun h => by cases h) (fun h => by cases h)
theorem Tryd.tyk75 : TyRow Tryd.prog 75 Sx.Tryd.ti75 := TyRow.of' Sx.Tryd.ti75 Tryd.t75 Tryd.underlying75 Tryd.type75 rfl rfl (fun _ => by kernel_rfl) (fun h => by cases h)
theorem Tryd.tyk76 : TyRow Tryd.prog 76 Sx.Tryd.ti76 := TyRow.of' Sx.Tryd.ti76 Tryd.t76 Tryd.underlying76 Tryd.type76 rfl rfl (fun _ => by kernel_rfl) (fun _ => ⟨by kernel_rfl, by kernel_rfl⟩)
theorem Tryd.tyk77 : TyRow Tryd.prog 77 Sx.Tryd.ti77 := TyRow.of' Sx.Tryd.ti77 Tryd.t77 Tryd.underlying77 Tryd.type77 rfl rfl (fun _ => by kernel_rfl) (fun _ => ⟨by kernel_rfl, by kernel_rfl⟩)
theorem Tryd.tyk78 : TyRow Tryd.prog 78 Sx.Tryd.ti78 := TyRow.of' Sx.Tryd.ti78 Tryd.t78 Tryd.underlying78 Tryd.type78 rfl rfl (fun _ => by kernel_rfl) (fun h => by cases h)
theorem Tryd.tyk79 : TyRow Tryd.prog 79 Sx.Tryd.ti79 := TyRow.of' Sx.Tryd.ti79 Tryd.t79 Tryd.underlying79 Tryd.type79 rfl rfl (fun _ => by kernel_rfl) (fun _ => ⟨by kernel_rfl, by kernel_rfl⟩)
theorem Tryd.tyk80 : TyRow Tryd.prog 80 Sx.Tryd.ti80 := TyRow.of' Sx.Tryd.ti80 Tryd.t80 Tryd.underlying80 Tryd.type80 rfl rfl (fun _ => by kernel_rfl) (fun _ => ⟨by kernel_rfl, by kernel_rfl⟩)
theorem Tryd.tyk81 : TyRow Tryd.prog 81 Sx.Tryd.ti81 := TyRow.of' Sx.Tryd.ti81 Tryd.t81 Tryd.underlying81 Tryd.type81 rfl rfl (fun _ => by kernel_rfl) (fun h => by cases h)
theorem Tryd.tyk82 : TyRow Tryd.prog 82 Sx.Tryd.ti82 := TyRow.of' Sx.Tryd.ti82 Tryd.t82 Tryd.underlying82 Tryd.type82 rfl rfl (fun _ => by kernel_rfl) (fun h => by cases h)
theorem Tryd.tyk83 : TyRow Tryd.prog 83 Sx.Tryd.ti83 := TyRow.of' Sx.Tryd.ti83 Tryd.t83 Tryd.underlying83 Tryd.type83 rfl rfl (fun _ => by kernel_rfl) (fun h => by cases h)
theorem Tryd.tyk84 : TyRow Tryd.prog 84 Sx.Tryd.ti84 := TyRow.of' Sx.Tryd.ti84 Tryd.t84 Tryd.underlying84 Tryd.type84 rfl rfl (fun _ => by kernel_rfl) (fun h => by cases h)
theorem Tryd.tyk85 : TyRow Tryd.prog 85 Sx.Tryd.ti85 := TyRow.of' Sx.Tryd.ti85 Tryd.t85 Tryd.underlying85 Tryd.type85 rfl rfl (fun _ => by kernel_rfl) (fun h => by cases h)
theorem Tryd.tyk86 : TyRow Tryd.prog 86 Sx.Tryd.ti86 := TyRow.of' Sx.Tryd.ti86 Tryd.t86 Tryd.underlying86 Tryd.type86 rfl rfl (fun h => by cases h) (fun h => by cases h)
theorem Tryd.tyk87 : TyRow Tryd.prog 87 Sx.Tryd.ti87 := TyRow.of' Sx.Tryd.ti87 Tryd.t87 Tryd.underlying87 Tryd.type87 rfl rfl (fun _ => by kernel_rfl) (fun h => by cases h)
theorem Tryd.tyk88 : TyRow Tryd.prog 88 Sx.Tryd.ti88 := TyRow.of' Sx.Tryd.ti88 Tryd.t88 Tryd.underlying88 Tryd.type88 rfl rfl (fun _ => by kernel_rfl) (fun h => by cases h)
theorem Tryd.tyk89 : TyRow Tryd.prog 89 Sx.Tryd.ti89 := TyRow.of' Sx.Tryd.ti89 Tryd.t89 Tryd.underlying89 Tryd.type89 rfl rfl (fun _ => by kernel_rfl) (fun h => by cases h)
theorem Tryd.tyk90 : TyRow Tryd.prog 90 Sx.Tryd.ti90 := TyRow.of' Sx.Tryd.ti90 Tryd.t90 Tryd.underlying90 Tryd.type90 rfl rfl (fun _ => by kernel_rfl) (fun h => by cases h)
theorem Tryd.tyk91 : TyRow Tryd.prog 91 Sx.Tryd.ti91 := TyRow.of' Sx.Tryd.ti91 Tryd.t91 Tryd.underlying91 Tryd.type91 rfl rfl (fun _ => by kernel_rfl) (fun h => by cases h)
theorem Tryd.tyk92 : TyRow Tryd.prog 92 Sx.Tryd.ti92 := TyRow.of' Sx.Tryd.ti92 Tryd.t92 Tryd.underlying92 Tryd.type92 rfl rfl (fun _ => by kernel_rfl) (fun _ => ⟨by kernel_rfl, by kernel_rfl⟩)
theorem Tryd.tyk93 : TyRow Tryd.prog 93 Sx.Tryd.ti93 := TyRow.of' Sx.Tryd.ti93 Tryd.t93 Tryd.underlying93 Tryd.type93 rfl rfl (fun _ => by kernel_rfl) (fun _ => ⟨by kernel_rfl, by kernel_rfl⟩)
theorem Tryd.tyk94 : TyRow Tryd.prog 94 Sx.Tryd.ti94 := TyRow.of' Sx.Tryd.ti94 Tryd.t94 Tryd.underlying94 Tryd.type94 rfl rfl (fun _ => by kernel_rfl) (fun h => by cases h)
theorem Tryd.tyk95 : TyRow Tryd.prog 95 Sx.Tryd.ti95 := TyRow.of' Sx.Tryd.ti95 Tryd.t95 Tryd.underlying95 Tryd.type95 rfl rfl (fun _ => by kernel_rfl) (fun h => by cases h)
theorem Tryd.tyk96 : TyRow Tryd.prog 96 Sx.Tryd.ti96 := TyRow.of' Sx.Tryd.ti96 Tryd.t96 Tryd.underlying96 Tryd.type96 rfl rfl (fun _ => by kernel_rfl) (fun _ => ⟨by kernel_rfl, by kernel_rfl⟩)
theorem Tryd.tyk97 : TyRow Tryd.prog 97 Sx.Tryd.ti97 := TyRow.of' Sx.Tryd.ti97 Tryd.t97 Tryd.underlying97 Tryd.type97 rfl rfl (fun _ => by kernel_rfl) (fun _ => ⟨by kernel_rfl, by kernel_rfl⟩)
theorem Tryd.tyk98 : TyRow Tryd.prog 98 Sx.Tryd.ti98 := TyRow.of' Sx.Tryd.ti98 Tryd.t98 Tryd.underlying98 Tryd.type98 rfl rfl (fun _ => by kernel_rfl) (fun h => by cases h)
theorem Tryd.tyk99 : TyRow Tryd.prog 99 Sx.Tryd.ti99 := TyRow.of' Sx.Tryd.ti99 Tryd.t99 Tryd.underlying99 Tryd.type99 rfl rfl (fun _ => by kernel_rfl) (fun h => by cases h)
theorem Tryd.tyk100 : TyRow Tryd.prog 100 Sx.Tryd.ti100 := TyRow.of' Sx.Tryd.ti100 Tryd.t100 Tryd.underlying100 Tryd.type100 rfl rfl (fun _ => by kernel_rfl) (fun _ => ⟨by kernel_rfl, by kernel_rfl⟩)
theorem Tryd.tyk101 : TyRow Tryd.prog 101 Sx.Tryd.ti101 := TyRow.of' Sx.Tryd.ti101 Tryd.t101 Tryd.underlying101 Tryd.type101 rfl rfl (fun _ => by kernel_rfl) (fun h => by cases h)
theorem Tryd.tyk102 : TyRow Tryd.prog 102 Sx.Tryd.ti102 := TyRow.of' Sx.Tryd.ti102 Tryd.t102 Tryd.underlying102 Tryd.type102 rfl rfl (fun _ => by kernel_rfl) (fun h => by cases h)
theorem Tryd.tyk103 : TyRow Tryd.prog 103 Sx.Tryd.ti103 := TyRow.of' Sx.Tryd.ti103 Tryd.t103 Tryd.underlying103 Tryd.type103 rfl rfl (fun _ => by kernel_rfl) (fun h => by cases h)
theorem Tryd.tyk104 : TyRow Tryd.prog 104 Sx.Tryd.ti104 := TyRow.of' Sx.Tryd.ti104 Tryd.t104 Tryd.underlying104 Tryd.type104 rfl rfl (fun _ => by kernel_rfl) (fun h => by cases h)
theorem Tryd.tyk105 : TyRow Tryd.prog 105 Sx.Tryd.ti105 := TyRow.of' Sx.Tryd.ti105 Tryd.t105 Tryd.underlying105 Tryd.type105 rfl rfl (fun _ => by kernel_rfl) (fun h => by cases h)
theorem Tryd.tyk106 : TyRow Tryd.prog 106 Sx.Tryd.ti106 := TyRow.of' Sx.Tryd.ti106 Tryd.t106 Tryd.underlying106 Tryd.type106 rfl rfl (fun _ => by kernel_rfl) (fun h => by cases h)
theorem Tryd.tyk107 : TyRow Tryd.prog 107 Sx.Tryd.ti107 := TyRow.of' Sx.Tryd.ti107 Tryd.t107 Tryd.underlying107 Tryd.type107 rfl rfl (fun _ => by kernel_rfl) (fun _ => ⟨by kernel_rfl, by kernel_rfl⟩)
theorem Tryd.tyk108 : TyRow Tryd.prog 108 Sx.Tryd.ti108 := TyRow.of' Sx.Tryd.ti108 Tryd.t108 Tryd.underlying108 Tryd.type108 rfl rfl (fun _ => by kernel_rfl) (fun _ => ⟨by kernel_rfl, by kernel_rfl⟩)
theorem Tryd.tyk109 : TyRow Tryd.prog 109 Sx.Tryd.ti109 := TyRow.of' Sx.Tryd.ti109 Tryd.t109 Tryd.underlying109 Tryd.type109 rfl rfl (fun _ => by kernel_rfl) (fun h => by cases h)
theorem Tryd.tyk110 : TyRow Tryd.prog 110 Sx.Tryd.ti110 := TyRow.of' Sx.Tryd.ti110 Tryd.t110 Tryd.underlying110 Tryd.type110 rfl rfl (fun _ => by kernel_rfl) (fun h => by cases h)
theorem Tryd.tyk111 : TyRow Tryd.prog 111 Sx.Tryd.ti111 := TyRow.of' Sx.Tryd.ti111 Tryd.t111 Tryd.underlying111 Tryd.type111 rfl rfl (fun _ => by kernel_rfl) (fun h => by cases h)
theorem Tryd.tyk112 : TyRow Tryd.prog 112 Sx.Tryd.ti112 := TyRow.of' Sx.Tryd.ti112 Tryd.t112 Tryd.underlying112 Tryd.type112 rfl rfl (fun _ => by kernel_rfl) (fun h => by cases h)
theorem Tryd.tyk113 : TyRow Tryd.prog 113 Sx.Tryd.ti113 := TyRow.of' Sx.Tryd.ti113 Tryd.t113 Tryd.underlying113 Tryd.type113 rfl rfl (fun _ => by kernel_rfl) (fun h => by cases h)
theorem Tryd.tyk114 : TyRow Tryd.prog 114 Sx.Tryd.ti114 := TyRow.of' Sx.Tryd.ti114 Tryd.t114 Tryd.underlying114 Tryd.type114 rfl rfl (fun _ => by kernel_rfl) (fun h => by cases h)
theorem Tryd.tyk115 : TyRow Tryd.prog 115 Sx.Tryd.ti115 := TyRow.of' Sx.Tryd.ti115 Tryd.t115 Tryd.underlying115 Tryd.type115 rfl rfl (fun _ => by kernel_rfl) (fun h => by cases h)
theorem Tryd.tyk116 : TyRow Tryd.prog 116 Sx.Tryd.ti116 := TyRow.of' Sx.Tryd.ti116 Tryd.t116 Tryd.underlying116 Tryd.type116 rfl rfl (fun _ => by kernel_rfl) (fun h => by cases h)
theorem Tryd.tyk117 : TyRow Tryd.prog 117 Sx.Tryd.ti117 := TyRow.of' Sx.Tryd.ti117 Tryd.t117 Tryd.underlying117 Tryd.type117 rfl rfl (fun _ => by kernel_rfl) (fun h => by cases h)
theorem Tryd.tyk118 : TyRow Tryd.prog 118 Sx.Tryd.ti118 := TyRow.of' Sx.Tryd.ti118 Tryd.t118 Tryd.underlying118 Tryd.type118 rfl rfl (fun _ => by kernel_rfl) (fun _ => ⟨by kernel_rfl, by kernel_rfl⟩)
theorem Tryd.tyk119 : TyRow Tryd.prog 119 Sx.Tryd.ti119 := TyRow.of' Sx.Tryd.ti119 Tryd.t119 Tryd.underlying119 Tryd.type119 rfl rfl (fun _ => by kernel_rfl) (fun _ => ⟨by kernel_rfl, by kernel_rfl⟩)
theorem Tryd.tyk120 : TyRow Tryd.prog 120 Sx.Tryd.ti120 := TyRow.of' Sx.Tryd.ti120 Tryd.t120 Tryd.underlying120 Tryd.type120 rfl rfl (fun _ => by kernel_rfl) (fun _ => ⟨by kernel_rfl, by kernel_rfl⟩)
theorem Tryd.tyk121 : TyRow Tryd.prog 121 Sx.Tryd.ti121 := TyRow.of' Sx.Tryd.ti121 Tryd.t121 Tryd.underlying121 Tryd.type121 rfl rfl (fun _ => by kernel_rfl) (fun _ => ⟨by kernel_rfl, by kernel_rfl⟩)
theorem Tryd.tyk122 : TyRow Tryd.prog 122 Sx.Tryd.ti122 := TyRow.of' Sx.Tryd.ti122 Tryd.t122 Tryd.underlying122 Tryd.type122 rfl rfl (fun _ => by kernel_rfl) (fun h => by cases h)
theorem Tryd.tyk123 : TyRow Tryd.prog 123 Sx.Tryd.ti123 := TyRow.of' Sx.Tryd.ti123 Tryd.t123 Tryd.underlying123 Tryd.type123 rfl rfl (fun _ => by kernel_rfl) (fun h => by cases h)
theorem Tryd.tyk124 : TyRow Tryd.prog 124 Sx.Tryd.ti124 := TyRow.of' Sx.Tryd.ti124 Tryd.t124 Tryd.underlying124 Tryd.type124 rfl rfl (fun _ => by kernel_rfl) (fun h => by cases h)
theorem Tryd.tyk125 : TyRow Tryd.prog 125 Sx.Tryd.ti125 := TyRow.of' Sx.Tryd.ti125 Tryd.t125 Tryd.underlying125 Tryd.type125 rfl rfl (fun _ => by kernel_rfl) (fun h => by cases h)
theorem Tryd.tyk126 : TyRow Tryd.prog 126 Sx.Tryd.ti126 := TyRow.of' Sx.Tryd.ti126 Tryd.t126 Tryd.underlying126 Tryd.type126 rfl rfl (fun h => by cases h) (fun h => by cases h)
theorem Tryd.tyk127 : TyRow Tryd.prog 127 Sx.Tryd.ti127 := TyRow.of' Sx.Tryd.ti127 Tryd.t127 Tryd.underlying127 Tryd.type127 rfl rfl (fun _ => by kernel_rfl) (fun _ => ⟨by kernel_rfl, by kernel_rfl⟩)
theorem Tryd.tyk128 : TyRow Tryd.prog 128 Sx.Tryd.ti128 := TyRow.of' Sx.Tryd.ti128 Tryd.t128 Tryd.underlying128 Tryd.type128 rfl rfl (fun _ => by kernel_rfl) (fun _ => ⟨by kernel_rfl, by kernel_rfl⟩)
theorem Tryd.tyk129 : TyRow Tryd.prog 129 Sx.Tryd.ti129 := TyRow.of' Sx.Tryd.ti129 Tryd.t129 Tryd.underlying129 Tryd.type129 rfl rfl (fun _ => by kernel_rfl) (fun h => by cases h)
theorem Tryd.tyk130 : TyRow Tryd.prog 130 Sx.Tryd.ti130 := TyRow.of' Sx.Tryd.ti130 Tryd.t130 Tryd.underlying130 Tryd.type130 rfl rfl (fun _ => by kernel_rfl) (fun h => by cases h)
theorem Tryd.tyk131 : TyRow Tryd.prog 131 Sx.Tryd.ti131 := TyRow.of' Sx.Tryd.ti131 Tryd.t131 Tryd.underlying131 Tryd.type131 rfl rfl (fun _ => by kernel_rfl) (fun h => by cases h)
theorem Tryd.tyk132 : TyRow Tryd.prog 132 Sx.Tryd.ti132 := TyRow.of' Sx.Tryd.ti132 Tryd.t132 Tryd.underlying132 Tryd.type132 rfl rfl (fun _ => by kernel_rfl) (fun h => by cases h)
theorem Tryd.tyk133 : TyRow Tryd.prog 133 Sx.Tryd.ti133 := TyRow.of' Sx.Tryd.ti133 Tryd.t133 Tryd.underlying133 Tryd.type133 rfl rfl (fun _ => by kernel_rfl) (fun h => by cases h)
theorem Tryd.tyk134 : TyRow Tryd.prog 134 Sx.Tryd.ti134 := TyRow.of' Sx.Tryd.ti134 Tryd.t134 Tryd.underlying134 Tryd.type134 rfl rfl (fun _ => by kernel_rfl) (fun _ => ⟨by kernel_rfl, by kernel_rfl⟩)
theorem Tryd.tyk135 : TyRow Tryd.prog 135 Sx.Tryd.ti135 := TyRow.of' Sx.Tryd.ti135 Tryd.t135 Tryd.underlying135 Tryd.type135 rfl rfl (fun _ => by kernel_rfl) (fun h => by cases h)
theorem Tryd.tyk136 : TyRow Tryd.prog 136 Sx.Tryd.ti136 := TyRow.of' Sx.Tryd.ti136 Tryd.t136 Tryd.underlying136 Tryd.type136 rfl rfl (fun _ => by kernel_rfl) (fun _ => ⟨by kernel_rfl, by kernel_rfl⟩)
theorem Tryd.tyk137 : TyRow Tryd.prog 137 Sx.Tryd.ti137 := TyRow.of' Sx.Tryd.ti137 Tryd.t137 Tryd.underlying137 Tryd.type137 rfl rfl (fun _ => by kernel_rfl) (fun h => by cases h)
theorem Tryd.tyk138 : TyRow Tryd.prog 138 Sx.Tryd.ti138 := TyRow.of' Sx.Tryd.ti138 Tryd.t138 Tryd.underlying138 Tryd.type138 rfl rfl (fun _ => by kernel_rfl) (fun h => by cases h)
theorem Tryd.tyk139 : TyRow Tryd.prog 139 Sx.Tryd.ti139 := TyRow.of' Sx.Tryd.ti139 Tryd.t139 Tryd.underlying139 Tryd.type139 rfl rfl (fun _ => by kernel_rfl) (fun h => by cases h)
theorem Tryd.tyk140 : TyRow Tryd.prog 140 Sx.Tryd.ti140 := TyRow.of' Sx.Tryd.ti140 Tryd.t140 Tryd.underlying140 Tryd.type140 rfl rfl (fun _ => by kernel_rfl) (fun h => by cases h)
theorem Tryd.tyk141 : TyRow Tryd.prog 141 Sx.Tryd.ti141 := TyRow.of' Sx.Tryd.ti141 Tryd.t141 Tryd.underlying141 Tryd.type141 rfl rfl (fun _ => by kernel_rfl) (fun h => by cases h)
theorem Tryd.tyk142 : TyRow Tryd.prog 142 Sx.Tryd.ti142 := TyRow.of' Sx.Tryd.ti142 Tryd.t142 Tryd.underlying142 Tryd.type142 rfl rfl (fun _ => by kernel_rfl) (fun _ => ⟨by kernel_rfl, by kernel_rfl⟩)
theorem Tryd.tyk143 : TyRow Tryd.prog 143 Sx.Tryd.ti143 := TyRow.of' Sx.Tryd.ti143 Tryd.t143 Tryd.underlying143 Tryd.type143 rfl rfl (fun _ => by kernel_rfl) (fun _ => ⟨by kernel_rfl, by kernel_rfl⟩)
theorem Tryd.tyk144 : TyRow Tryd.prog 144 Sx.Tryd.ti144 := TyRow.of' Sx.Tryd.ti144 Tryd.t144 Tryd.underlying144 Tryd.type144 rfl rfl (fun _ => by kernel_rfl) (fun h => by cases h)
theorem Tryd.tyk145 : TyRow Tryd.prog 145 Sx.Tryd.ti145 := TyRow.of' Sx.Tryd.ti145 Tryd.t145 Tryd.underlying145 Tryd.type145 rfl rfl (fun _ => by kernel_rfl) (fun _ => ⟨by kernel_rfl, by kernel_rfl⟩)
theorem Tryd.tyk146 : TyRow Tryd.prog 146 Sx.Tryd.ti146 := TyRow.of' Sx.Tryd.ti146 Tryd.t146 Tryd.underlying146 Tryd.type146 rfl rfl (fun _ => by kernel_rfl) (fun _ => ⟨by kernel_rfl, by kernel_rfl⟩)
theorem Tryd.tyk147 : TyRow Tryd.prog 147 Sx.Tryd.ti147 := TyRow.of' Sx.Tryd.ti147 Tryd.t147 Tryd.underlying147 Tryd.type147 rfl rfl (fun _ => by kernel_rfl) (fun h => by cases h)
theorem Tryd.tyk148 : TyRow Tryd.prog 148 Sx.Tryd.ti148 := TyRow.of' Sx.Tryd.ti148 Tryd.t148 Tryd.underlying148 Tryd.type148 rfl rfl (fun _ => by kernel_rfl) (fun h => by cases h)
theorem Tryd.tyk149 : TyRow Tryd.prog 149 Sx.Tryd.ti149 := TyRow.of' Sx.Tryd.ti149 Tryd.t149 Tryd.underlying149 Tryd.type149 rfl rfl (fun _ => by kernel_rfl) (fun h => by cases h)
theorem Tryd.tyk150 : TyRow Tryd.prog 150 Sx.Tryd.ti150 := TyRow.of' Sx.Tryd.ti150 Tryd.t150 Tryd.underlying150 Tryd.type150 rfl rfl (fun _ => by kernel_rfl) (fun h => by cases h)
theorem Tryd.tyk151 : TyRow Tryd.prog 151 Sx.Tryd.ti151 := TyRow.of' Sx.Tryd.ti151 Tryd.t151 Tryd.underlying151 Tryd.type151 rfl rfl (fun _ => by kernel_rfl) (fun h => by cases h)
theorem Tryd.tyk152 : TyRow Tryd.prog 152 Sx.Tryd.ti152 := TyRow.of' Sx.Tryd.ti152 Tryd.t152 Tryd.underlying152 Tryd.type152 rfl rfl (fun _ => by kernel_rfl) (fun h => by cases h)
theorem Tryd.tyk153 : TyRow Tryd.prog 153 Sx.Tryd.ti153 := TyRow.of' Sx.Tryd.ti153 Tryd.t153 Tryd.underlying153 Tryd.type153 rfl rfl (fun _ => by kernel_rfl) (fun h => by cases h)
theorem Tryd.tyk154 : TyRow Tryd.prog 154 Sx.Tryd.ti154 := TyRow.of' Sx.Tryd.ti154 Tryd.t154 Tryd.underlying154 Tryd.type154 rfl rfl (fun _ => by kernel_rfl) (fun h => by cases h)
theorem Tryd.tyk155 : TyRow Tryd.prog 155 Sx.Tryd.ti155 := TyRow.of' Sx.Tryd.ti155 Tryd.t155 Tryd.underlying155 Tryd.type155 rfl rfl (fun _ => by kernel_rfl) (fun _ => ⟨by kernel_rfl, by kernel_rfl⟩)
theorem Tryd.tyk156 : TyRow Tryd.prog 156 Sx.Tryd.ti156 := TyRow.of' Sx.Tryd.ti156 Tryd.t156 Tryd.underlying156 Tryd.type156 rfl rfl (fun _ => by kernel_rfl) (fun h => by cases h)
theorem Tryd.tyk157 : TyRow Tryd.prog 157 Sx.Tryd.ti157 := TyRow.of' Sx.Tryd.ti157 Tryd.t157 Tryd.underlying157 Tryd.type157 rfl rfl (fun _ => by kernel_rfl) (fun h => by cases h)
theorem Tryd.tyk158 : TyRow Tryd.prog 158 Sx.Tryd.ti158 := TyRow.of' Sx.Tryd.ti158 Tryd.t158 Tryd.underlying158 Tryd.type158 rfl rfl (fun _ => by kernel_rfl) (fun h => by cases h)
theorem Tryd.tyk159 : TyRow Tryd.prog 159 Sx.Tryd.ti159 := TyRow.of' Sx.Tryd.ti159 Tryd.t159 Tryd.underlying159 Tryd.type159 rfl rfl (fun _ => by kernel_rfl) (fun h => by cases h)
theorem Tryd.tyk160 : TyRow Tryd.prog 160 Sx.Tryd.ti160 := TyRow.of' Sx.Tryd.ti160 Tryd.t160 Tryd.underlying160 Tryd.type160 rfl rfl (fun _ => by kernel_rfl) (fun h => by cases h)
theorem Tryd.tyk161 : TyRow Tryd.prog 161 Sx.Tryd.ti161 := TyRow.of' Sx.Tryd.ti161 Tryd.t161 Tryd.underlying161 Tryd.type161 rfl rfl (fun _ => by kernel_rfl) (fun h => by cases h)
theorem Tryd.tyk162 : TyRow Tryd.prog 162 Sx.Tryd.ti162 := TyRow.of' Sx.Tryd.ti162 Tryd.t162 Tryd.underlying162 Tryd.type162 rfl rfl (fun _ => by kernel_rfl) (fun h => by cases h)
theorem Tryd.tyk163 : TyRow Tryd.prog 163 Sx.Tryd.ti163 := TyRow.of' Sx.Tryd.ti163 Tryd.t163 Tryd.underlying163 Tryd.type163 rfl rfl (fun _ => by kernel_rfl) (fun h => by cases h)
theorem Tryd.tyk164 : TyRow Tryd.prog 164 Sx.Tryd.ti164 := TyRow.of' Sx.Tryd.ti164 Tryd.t164 Tryd.underlying164 Tryd.type164 rfl rfl (fun _ => by kernel_rfl) (fun h => by cases h)
theorem Tryd.tyk165 : TyRow Tryd.prog 165 Sx.Tryd.ti165 := TyRow.of' Sx.Tryd.ti165 Tryd.t165 Tryd.underlying165 Tryd.type165 rfl rfl (fun _ => by kernel_rfl) (fun h => by cases h)
theorem Tryd.tyk166 : TyRow Tryd.prog 166 Sx.Tryd.ti166 := TyRow.of' Sx.Tryd.ti166 Tryd.t166 Tryd.underlying166 Tryd.type166 rfl rfl (fun _ => by kernel_rfl) (fun h => by cases h)
theorem Tryd.tyk167 : TyRow Tryd.prog 167 Sx.Tryd.ti167 := TyRow.of' Sx.Tryd.ti167 Tryd.t167 Tryd.underlying167 Tryd.type167 rfl rfl (fun h => by cases h) (fun h => by cases h)
theorem Tryd.tyk168 : TyRow Tryd.prog 168 Sx.Tryd.ti168 := TyRow.of' Sx.Tryd.ti168 Tryd.t168 Tryd.underlying168 Tryd.type168 rfl rfl (fun h => by cases h) (fun h => by cases h)
theorem Tryd.tyk169 : TyRow Tryd.prog 169 Sx.Tryd.ti169 := TyRow.of' Sx.Tryd.ti169 Tryd.t169 Tryd.underlying169 Tryd.type169 rfl rfl (fun _ => by kernel_rfl) (fun _ => ⟨by kernel_rfl, by kernel_rfl⟩)
theorem Tryd.tyk170 : TyRow Tryd.prog 170 Sx.Tryd.ti170 := TyRow.of' Sx.Tryd.ti170 Tryd.t170 Tryd.underlying170 Tryd.type170 rfl rfl (fun _ => by kernel_rfl) (fun h => by cases h)
theorem Tryd.tyk171 : TyRow Tryd.prog 171 Sx.Tryd.ti171 := TyRow.of' Sx.Tryd.ti171 Tryd.t171 Tryd.underlying171 Tryd.type171 rfl rfl (fun _ => by kernel_rfl) (fun h => by cases h)
theorem Tryd.tyk172 : TyRow Tryd.prog 172 Sx.Tryd.ti172 := TyRow.of' Sx.Tryd.ti172 Tryd.t172 Tryd.underlying172 Tryd.type172 rfl rfl (fun _ => by kernel_rfl) (fun h => by cases h)
theorem Tryd.tyk173 : TyRow Tryd.prog 173 Sx.Tryd.ti173 := TyRow.of' Sx.Tryd.ti173 Tryd.t173 Tryd.underlying173 Tryd.type173 rfl rfl (fun _ => by kernel_rfl) (fun h => by cases h)
theorem Tryd.tyk174 : TyRow Tryd.prog 174 Sx.Tryd.ti174 := TyRow.of' Sx.Tryd.ti174 Tryd.t174 Tryd.underlying174 Tryd.type174 rfl rfl (fun _ => by kernel_rfl) (fun h => by cases h)
theorem Tryd.tyk175 : TyRow Tryd.prog 175 Sx.Tryd.ti175 := TyRow.of' Sx.Tryd.ti175 Tryd.t175 Tryd.underlying175 Tryd.type175 rfl rfl (fun _ => by kernel_rfl) (fun h => by cases h)
theorem Tryd.tyk176 : TyRow Tryd.prog 176 Sx.Tryd.ti176 := TyRow.of' Sx.Tryd.ti176 Tryd.t176 Tryd.underlying176 Tryd.type176 rfl rfl (fun _ => by kernel_rfl) (fun h => by cases h)
theorem Tryd.tyk177 : TyRow Tryd.prog 177 Sx.Tryd.ti177 := TyRow.of' Sx.Tryd.ti177 Tryd.t177 Tryd.underlying177 Tryd.type177 rfl rfl (fun _ => by kernel_rfl) (fun h => by cases h)
theorem Tryd.tyk178 : TyRow Tryd.prog 178 Sx.Tryd.ti178 := TyRow.of' Sx.Tryd.ti178 Tryd.t178 Tryd.underlying178 Tryd.type178 rfl rfl (fun _ => by kernel_rfl) (fun h => by cases h)
theorem Tryd.tyk179 : TyRow Tryd.prog 179 Sx.Tryd.ti179 := TyRow.of' Sx.Tryd.ti179 Tryd.t179 Tryd.underlying179 Tryd.type179 rfl rfl (fun _ => by kernel_rfl) (fun h => by cases h)
theorem Tryd.tyk180 : TyRow Tryd.prog 180 Sx.Tryd.ti180 := TyRow.of' Sx.Tryd.ti180 Tryd.t180 Tryd.underlying180 Tryd.type180 rfl rfl (fun _ => by kernel_rfl) (fun h => by cases h)
theorem Tryd.tyk181 : TyRow Tryd.prog 181 Sx.Tryd.ti181 := TyRow.of' Sx.Tryd.ti181 Tryd.t181 Tryd.underlying181 Tryd.type181 rfl rfl (fun _ => by kernel_rfl) (fun h => by cases h)
theorem Tryd.tyks : Sx.Tryd.tt.Every (TyRow Tryd.prog) := ⟨ev1 Tryd.tyk0, ⟨ev1 Tryd.tyk1, ⟨ev1 Tryd.tyk3, ⟨ev1 Tryd.tyk7, ⟨ev1 Tryd.tyk15, ⟨ev1 Tryd.tyk31, ⟨ev1 Tryd.tyk63, ⟨ev1 Tryd.tyk127, trivial, trivial⟩, trivial⟩, ⟨ev1 Tryd.tyk95, ⟨ev1 Tryd.tyk159, trivial, trivial⟩, trivial⟩⟩, ⟨ev1 Tryd.tyk47, ⟨ev1 Tryd.tyk79, ⟨ev1 Tryd.tyk143, trivial, trivial⟩, trivial⟩, ⟨ev1 Tryd.tyk111, ⟨ev1 Tryd.tyk175, trivial, trivial⟩, trivial⟩⟩⟩, ⟨ev1 Tryd.tyk23, ⟨ev1 Tryd.tyk39, ⟨ev1 Tryd.tyk71, ⟨ev1 Tryd.tyk135, trivial, trivial⟩, trivial⟩, ⟨ev1 Tryd.tyk103, ⟨ev1 Tryd.tyk167, trivial, trivial⟩, trivial⟩⟩, ⟨ev1 Tryd.tyk55, ⟨ev1 Tryd.tyk87, ⟨ev1 Tryd.tyk151, trivial, trivial⟩, trivial⟩, ⟨ev1 Tryd.tyk119, trivial, trivial⟩⟩⟩⟩, ⟨ev1 Tryd.tyk11, ⟨ev1 Tryd.tyk19, ⟨ev1 Tryd.tyk35, ⟨ev1 Tryd.tyk67, ⟨ev1 Tryd.tyk131, trivial, trivial⟩, trivial⟩, ⟨ev1 Tryd.tyk99, ⟨ev1 Tryd.tyk163, trivial, trivial⟩, trivial⟩⟩, ⟨ev1 Tryd.tyk51, ⟨ev1 Tryd.tyk83, ⟨ev1 Tryd.tyk147, trivial, trivial⟩, trivial⟩, ⟨ev1 Tryd.tyk115, ⟨ev1 Tryd.tyk179, trivial, trivial⟩, trivial⟩⟩⟩, ⟨ev1 Tryd.tyk27, ⟨ev1 Tryd.tyk43, ⟨ev1 Tryd.tyk75, ⟨ev1 Tryd.tyk139, trivial, trivial⟩, trivial⟩, ⟨ev1 Tryd.tyk107, ⟨ev1 Tryd.tyk171, trivial, trivial⟩, trivial⟩⟩, ⟨ev1 Tryd.tyk59, ⟨ev1 Tryd.tyk91, ⟨ev1 Tryd.tyk155, trivial, trivial⟩, trivial⟩, ⟨ev1 Tryd.tyk123, trivial, trivial⟩⟩⟩⟩⟩, ⟨ev1 Tryd.tyk5, ⟨ev1 Tryd.tyk9, ⟨ev1 Tryd.tyk17, ⟨ev1 Tryd.tyk33, ⟨ev1 Tryd.tyk65, ⟨ev1 Tryd.tyk129, trivial, trivial⟩, trivial⟩, ⟨ev1 Tryd.tyk97, ⟨ev1 Tryd.tyk161, trivial, trivial⟩, trivial⟩⟩, ⟨ev1 Tryd.tyk49, ⟨ev1 Tryd.tyk81, ⟨ev1 Tryd.tyk145, trivial, trivial⟩, trivial⟩, ⟨ev1 Tryd.tyk113, ⟨ev1 Tryd.tyk177, trivial, trivial⟩, trivial⟩⟩⟩, ⟨ev1 Tryd.tyk25, ⟨ev1 Tryd.tyk41, ⟨ev1 Tryd.tyk73, ⟨ev1 Tryd.tyk137, trivial, trivial⟩, trivial⟩, ⟨ev1 Tryd.tyk105, ⟨ev1 Tryd.tyk169, trivial, trivial⟩, trivial⟩⟩, ⟨ev1 Tryd.tyk57, ⟨ev1 Tryd.tyk89, ⟨ev1 Tryd.tyk153, trivial, trivial⟩, trivial⟩, ⟨ev1 Tryd.tyk121, trivial, trivial⟩⟩⟩⟩, ⟨ev1 Tryd.tyk13, ⟨ev1 Tryd.tyk21, ⟨ev1 Tryd.tyk37, ⟨ev1 Tryd.tyk69, ⟨ev1 Tryd.tyk133, trivial, trivial⟩, trivial⟩, ⟨ev1 Tryd.tyk101, ⟨ev1 Tryd.tyk165, trivial, trivial⟩, trivial⟩⟩, ⟨ev1 Tryd.tyk53, ⟨ev1 Tryd.tyk85, ⟨ev1 Tryd.tyk149, trivial, trivial⟩, trivial⟩, ⟨ev1 Tryd.tyk117, ⟨ev1 Tryd.tyk181, trivial, trivial⟩, trivial⟩⟩⟩, ⟨ev1 Tryd.tyk29, ⟨ev1 Tryd.tyk45, ⟨ev1 Tryd.tyk77, ⟨ev1 Tryd.tyk141, trivial, trivial⟩, trivial⟩, ⟨ev1 Tryd.tyk109, ⟨ev1 Tryd.tyk173, trivial, trivial⟩, trivial⟩⟩, ⟨ev1 Tryd.tyk61, ⟨ev1 Tryd.tyk93, ⟨ev1 Tryd.tyk157, trivial, trivial⟩, trivial⟩, ⟨ev1 Tryd.tyk125, trivial, trivial⟩⟩⟩⟩⟩⟩, ⟨ev1 Tryd.tyk2, ⟨ev1 Tryd.tyk4, ⟨ev1 Tryd.tyk8, ⟨ev1 Tryd.tyk16, ⟨ev1 Tryd.tyk32, ⟨ev1 Tryd.tyk64, ⟨ev1 Tryd.tyk128, trivial, trivial⟩, trivial⟩, ⟨ev1 Tryd.tyk96, ⟨ev1 Tryd.tyk160, trivial, trivial⟩, trivial⟩⟩, ⟨ev1 Tryd.tyk48, ⟨ev1 Tryd.tyk80, ⟨ev1 Tryd.tyk144, trivial, trivial⟩, trivial⟩, ⟨ev1 Tryd.tyk112, ⟨ev1 Tryd.tyk176, trivial, trivial⟩, trivial⟩⟩⟩, ⟨ev1 Tryd.tyk24, ⟨ev1 Tryd.tyk40, ⟨ev1 Tryd.tyk72, ⟨ev1 Tryd.tyk136, trivial, trivial⟩, trivial⟩, ⟨ev1 Tryd.tyk104, ⟨ev1 Tryd.tyk168, trivial, trivial⟩, trivial⟩⟩, ⟨ev1 Tryd.tyk56, ⟨ev1 Tryd.tyk88, ⟨ev1 Tryd.tyk152, trivial, trivial⟩, trivial⟩, ⟨ev1 Tryd.tyk120, trivial, trivial⟩⟩⟩⟩, ⟨ev1 Tryd.tyk12, ⟨ev1 Tryd.tyk20, ⟨ev1 Tryd.tyk36, ⟨ev1 Tryd.tyk68, ⟨ev1 Tryd.tyk132, trivial, trivial⟩, trivial⟩, ⟨ev1 Tryd.tyk100, ⟨ev1 Tryd.tyk164, trivial, trivial⟩, trivial⟩⟩, ⟨ev1 Tryd.tyk52, ⟨ev1 Tryd.tyk84, ⟨ev1 Tryd.tyk148, trivial, trivial⟩, trivial⟩, ⟨ev1 Tryd.tyk116, ⟨ev1 Tryd.tyk180, trivial, trivial⟩, trivial⟩⟩⟩, ⟨ev1 Tryd.tyk28, ⟨ev1 Tryd.tyk44, ⟨ev1 Tryd.tyk76, ⟨ev1 Tryd.tyk140, trivial, trivial⟩, trivial⟩, ⟨ev1 Tryd.tyk108, ⟨ev1 Tryd.tyk172, trivial, trivial⟩, trivial⟩⟩, ⟨ev1 Tryd.tyk60, ⟨ev1 Tryd.tyk92, ⟨ev1 Tryd.tyk156, trivial, trivial⟩, trivial⟩, ⟨ev1 Tryd.tyk124, trivial, trivial⟩⟩⟩⟩⟩, ⟨ev1 Tryd.tyk6, ⟨ev1 Tryd.tyk10, ⟨ev1 Tryd.tyk18, ⟨ev1 Tryd.tyk34, ⟨ev1 Tryd.tyk66, ⟨ev1 Tryd.tyk130, trivial, trivial⟩, trivial⟩, ⟨ev1 Tryd.tyk98, ⟨ev1 Tryd.tyk162, trivial, trivial⟩, trivial⟩⟩, ⟨ev1 Tryd.tyk50, ⟨ev1 Tryd.tyk82, ⟨ev1 Tryd.tyk146, trivial, trivial⟩, trivial⟩, ⟨ev1 Tryd.tyk114, ⟨ev1 Tryd.tyk178, trivial, trivial⟩, trivial⟩⟩⟩, ⟨ev1 Tryd.tyk26, ⟨ev1 Tryd.tyk42, ⟨ev1 Tryd.tyk74, ⟨ev1 Tryd.tyk138, trivial, trivial⟩, trivial⟩, ⟨ev1 Tryd.tyk106, ⟨ev1 Tryd.tyk170, trivial, trivial⟩, trivial⟩⟩, ⟨ev1 Tryd.tyk58, ⟨ev1 Tryd.tyk90, ⟨ev1 Tryd.tyk154, trivial, trivial⟩, trivial⟩, ⟨ev1 Tryd.tyk122, trivial, trivial⟩⟩⟩⟩, ⟨ev1 Tryd.tyk14, ⟨ev1 Tryd.tyk22, ⟨ev1 Tryd.tyk38, ⟨ev1 Tryd.tyk70, ⟨ev1 Tryd.tyk134, trivial, trivial⟩, trivial⟩, ⟨ev1 Tryd.tyk102, ⟨ev1 Tryd.tyk166, trivial, trivial⟩, trivial⟩⟩, ⟨ev1 Tryd.tyk54, ⟨ev1 Tryd.tyk86, ⟨ev1 Tryd.tyk150, trivial, trivial⟩, trivial⟩, ⟨ev1 Tryd.tyk118, ⟨ev0, trivial, trivial⟩, trivial⟩⟩⟩, ⟨ev1 Tryd.tyk30, ⟨ev1 Tryd.tyk46, ⟨ev1 Tryd.tyk78, ⟨ev1 Tryd.tyk142, trivial, trivial⟩, trivial⟩, ⟨ev1 Tryd.tyk110, ⟨ev1 Tryd.tyk174, trivial, trivial⟩, trivial⟩⟩, ⟨ev1 Tryd.tyk62, ⟨ev1 Tryd.tyk94, ⟨ev1 Tryd.tyk158, trivial, trivial⟩, trivial⟩, ⟨ev1 Tryd.tyk126, trivial, trivial⟩⟩⟩⟩⟩⟩⟩
end Go.Sx
/-! THE FUNCTIONS' ROWS. -/
namespace Go.Sx
open Go.Proofs
set_option maxRecDepth 100000
noncomputable def Tryd.rr21065 : RRow := ⟨21065, 21, Tryd.f21.ntmps, Sx.Tryd.kp21, (firstR (ranges (bodyOf Tryd.f21))).1, (firstR (ranges (bodyOf Tryd.f21))).2⟩
noncomputable def Tryd.rr22008 : RRow := ⟨22008, 22, Tryd.f22.ntmps, Sx.Tryd.kp22, (firstR (ranges (bodyOf Tryd.f22))).1, (firstR (ranges (bodyOf Tryd.f22))).2⟩
noncomputable def Tryd.rr23008 : RRow := ⟨23008, 23, Tryd.f23.ntmps, Sx.Tryd.kp23, (firstR (ranges (bodyOf Tryd.f23))).1, (firstR (ranges (bodyOf Tryd.f23))).2⟩
noncomputable def Tryd.rr24004 : RRow := ⟨24004, 24, Tryd.f24.ntmps, Sx.Tryd.kp24, (firstR (ranges (bodyOf Tryd.f24))).1, (firstR (ranges (bodyOf Tryd.f24))).2⟩
noncomputable def Tryd.rr27008 : RRow := ⟨27008, 27, Tryd.f27.ntmps, Sx.Tryd.kp27, (firstR (ranges (bodyOf Tryd.f27))).1, (firstR (ranges (bodyOf Tryd.f27))).2⟩
noncomputable def Tryd.rr29013 : RRow := ⟨29013, 29, Tryd.f29.ntmps, Sx.Tryd.kp29, (firstR (ranges (bodyOf Tryd.f29))).1, (firstR (ranges (bodyOf Tryd.f29))).2⟩
noncomputable def Tryd.rr29017 : RRow := ⟨29017, 29, Tryd.f29.ntmps, Sx.Tryd.kp29, (firstR ((ranges (bodyOf Tryd.f29)).drop 1)).1, (firstR ((ranges (bodyOf Tryd.f29)).drop 1)).2⟩
noncomputable def Tryd.rr33011 : RRow := ⟨33011, 33, Tryd.f33.ntmps, Sx.Tryd.kp33, (firstR (ranges (bodyOf Tryd.f33))).1, (firstR (ranges (bodyOf Tryd.f33))).2⟩
noncomputable def Tryd.rr33015 : RRow := ⟨33015, 33, Tryd.f33.ntmps, Sx.Tryd.kp33, (firstR ((ranges (bodyOf Tryd.f33)).drop 1)).1, (firstR ((ranges (bodyOf Tryd.f33)).drop 1)).2⟩
noncomputable def Tryd.rr54008 : RRow := ⟨54008, 54, Tryd.f54.ntmps, Sx.Tryd.kp54, (firstR (ranges (bodyOf Tryd.f54))).1, (firstR (ranges (bodyOf Tryd.f54))).2⟩
noncomputable def Tryd.rr65039 : RRow := ⟨65039, 65, Tryd.f65.ntmps, Sx.Tryd.kp65, (firstR (ranges (bodyOf Tryd.f65))).1, (firstR (ranges (bodyOf Tryd.f65))).2⟩
noncomputable def Tryd.rr71006 : RRow := ⟨71006, 71, Tryd.f71.ntmps, Sx.Tryd.kp71, (firstR (ranges (bodyOf Tryd.f71))).1, (firstR (ranges (bodyOf Tryd.f71))).2⟩
noncomputable def Tryd.rr75007 : RRow := ⟨75007, 75, Tryd.f75.ntmps, Sx.Tryd.kp75, (firstR (ranges (bodyOf Tryd.f75))).1, (firstR (ranges (bodyOf Tryd.f75))).2⟩
noncomputable def Tryd.rr75011 : RRow := ⟨75011, 75, Tryd.f75.ntmps, Sx.Tryd.kp75, (firstR ((ranges (bodyOf Tryd.f75)).drop 1)).1, (firstR ((ranges (bodyOf Tryd.f75)).drop 1)).2⟩
noncomputable def Tryd.rr81006 : RRow := ⟨81006, 81, Tryd.f81.ntmps, Sx.Tryd.kp81, (firstR (ranges (bodyOf Tryd.f81))).1, (firstR (ranges (bodyOf Tryd.f81))).2⟩
noncomputable def Tryd.rows : List RRow := [Tryd.rr21065, Tryd.rr22008, Tryd.rr23008, Tryd.rr24004, Tryd.rr27008, Tryd.rr29013, Tryd.rr29017, Tryd.rr33011, Tryd.rr33015, Tryd.rr54008, Tryd.rr65039, Tryd.rr71006, Tryd.rr75007, Tryd.rr75011, Tryd.rr81006]
theorem Tryd.fk3 {ok : Rho → (Nat → Obj → Prop) → Prop} : FRow ⟨Tryd.prog, rcOf Tryd.rows, ok⟩ Sx.Tryd.tt.get 3 Sx.Tryd.cf3 := FRow.plain Sx.Tryd.kp3 (bodyOf Tryd.f3) Tryd.func3 (by kernel_rfl) (by kernel_rfl) (by kernel_rfl) [] (by kernel_rfl) (fun q hq => by cases hq)
theorem Tryd.fk4 {ok : Rho → (Nat → Obj → Prop) → Prop} : FRow ⟨Tryd.prog, rcOf Tryd.rows, ok⟩ Sx.Tryd.tt.get 4 Sx.Tryd.cf4 := FRow.plain Sx.Tryd.kp4 (bodyOf Tryd.f4) Tryd.func4 (by kernel_rfl) (by kernel_rfl) (by kernel_rfl) [] (by kernel_rfl) (fun q hq => by cases hq)
theorem Tryd.fk5 {ok : Rho → (Nat → Obj → Prop) → Prop} : FRow ⟨Tryd.prog, rcOf Tryd.rows, ok⟩ Sx.Tryd.tt.get 5 Sx.Tryd.cf5 := FRow.plain Sx.Tryd.kp5 (bodyOf Tryd.f5) Tryd.func5 (by kernel_rfl) (by kernel_rfl) (by kernel_rfl) [] (by kernel_rfl) (fun q hq => by cases hq)
theorem Tryd.fk6 {ok : Rho → (Nat → Obj → Prop) → Prop} : FRow ⟨Tryd.prog, rcOf Tryd.rows, ok⟩ Sx.Tryd.tt.get 6 Sx.Tryd.cf6 := FRow.plain Sx.Tryd.kp6 (bodyOf Tryd.f6) Tryd.func6 (by kernel_rfl) (by kernel_rfl) (by kernel_rfl) [] (by kernel_rfl) (fun q hq => by cases hq)
theorem Tryd.fk7 {ok : Rho → (Nat → Obj → Prop) → Prop} : FRow ⟨Tryd.prog, rcOf Tryd.rows, ok⟩ Sx.Tryd.tt.get 7 Sx.Tryd.cf7 := FRow.plain Sx.Tryd.kp7 (bodyOf Tryd.f7) Tryd.func7 (by kernel_rfl) (by kernel_rfl) (by kernel_rfl) [] (by kernel_rfl) (fun q hq => by cases hq)
theorem Tryd.fk8 {ok : Rho → (Nat → Obj → Prop) → Prop} : FRow ⟨Tryd.prog, rcOf Tryd.rows, ok⟩ Sx.Tryd.tt.get 8 Sx.Tryd.cf8 := FRow.plain Sx.Tryd.kp8 (bodyOf Tryd.f8) Tryd.func8 (by kernel_rfl) (by kernel_rfl) (by kernel_rfl) [] (by kernel_rfl) (fun q hq => by cases hq)
theorem Tryd.fk9 {ok : Rho → (Nat → Obj → Prop) → Prop} : FRow ⟨Tryd.prog, rcOf Tryd.rows, ok⟩ Sx.Tryd.tt.get 9 Sx.Tryd.cf9 := FRow.plain Sx.Tryd.kp9 (bodyOf Tryd.f9) Tryd.func9 (by kernel_rfl) (by kernel_rfl) (by kernel_rfl) [] (by kernel_rfl) (fun q hq => by cases hq)
theorem Tryd.fk10 {ok : Rho → (Nat → Obj → Prop) → Prop} : FRow ⟨Tryd.prog, rcOf Tryd.rows, ok⟩ Sx.Tryd.tt.get 10 Sx.Tryd.cf10 := FRow.plain Sx.Tryd.kp10 (bodyOf Tryd.f10) Tryd.func10 (by kernel_rfl) (by kernel_rfl) (by kernel_rfl) [] (by kernel_rfl) (fun q hq => by cases hq)
theorem Tryd.fk11 {ok : Rho → (Nat → Obj → Prop) → Prop} : FRow ⟨Tryd.prog, rcOf Tryd.rows, ok⟩ Sx.Tryd.tt.get 11 Sx.Tryd.cf11 := FRow.plain Sx.Tryd.kp11 (bodyOf Tryd.f11) Tryd.func11 (by kernel_rfl) (by kernel_rfl) (by kernel_rfl) [] (by kernel_rfl) (fun q hq => by cases hq)
theorem Tryd.fk12 {ok : Rho → (Nat → Obj → Prop) → Prop} : FRow ⟨Tryd.prog, rcOf Tryd.rows, ok⟩ Sx.Tryd.tt.get 12 Sx.Tryd.cf12 := FRow.plain Sx.Tryd.kp12 (bodyOf Tryd.f12) Tryd.func12 (by kernel_rfl) (by kernel_rfl) (by kernel_rfl) [] (by kernel_rfl) (fun q hq => by cases hq)
theorem Tryd.fk13 {ok : Rho → (Nat → Obj → Prop) → Prop} : FRow ⟨Tryd.prog, rcOf Tryd.rows, ok⟩ Sx.Tryd.tt.get 13 Sx.Tryd.cf13 := FRow.plain Sx.Tryd.kp13 (bodyOf Tryd.f13) Tryd.func13 (by kernel_rfl) (by kernel_rfl) (by kernel_rfl) [] (by kernel_rfl) (fun q hq => by cases hq)
theorem Tryd.fk14 {ok : Rho → (Nat → Obj → Prop) → Prop} : FRow ⟨Tryd.prog, rcOf Tryd.rows, ok⟩ Sx.Tryd.tt.get 14 Sx.Tryd.cf14 := FRow.plain Sx.Tryd.kp14 (bodyOf Tryd.f14) Tryd.func14 (by kernel_rfl) (by kernel_rfl) (by kernel_rfl) [] (by kernel_rfl) (fun q hq => by cases hq)
theorem Tryd.fk15 {ok : Rho → (Nat → Obj → Prop) → Prop} : FRow ⟨Tryd.prog, rcOf Tryd.rows, ok⟩ Sx.Tryd.tt.get 15 Sx.Tryd.cf15 := FRow.plain Sx.Tryd.kp15 (bodyOf Tryd.f15) Tryd.func15 (by kernel_rfl) (by kernel_rfl) (by kernel_rfl) [] (by kernel_rfl) (fun q hq => by cases hq)
theorem Tryd.fk16 {ok : Rho → (Nat → Obj → Prop) → Prop} : FRow ⟨Tryd.prog, rcOf Tryd.rows, ok⟩ Sx.Tryd.tt.get 16 Sx.Tryd.cf16 := FRow.plain Sx.Tryd.kp16 (bodyOf Tryd.f16) Tryd.func16 (by kernel_rfl) (by kernel_rfl) (by kernel_rfl) [] (by kernel_rfl) (fun q hq => by cases hq)
theorem Tryd.fk17 {ok : Rho → (Nat → Obj → Prop) → Prop} : FRow ⟨Tryd.prog, rcOf Tryd.rows, ok⟩ Sx.Tryd.tt.get 17 Sx.Tryd.cf17 := FRow.plain Sx.Tryd.kp17 (bodyOf Tryd.f17) Tryd.func17 (by kernel_rfl) (by kernel_rfl) (by kernel_rfl) [] (by kernel_rfl) (fun q hq => by cases hq)
theorem Tryd.fk18 {ok : Rho → (Nat → Obj → Prop) → Prop} : FRow ⟨Tryd.prog, rcOf Tryd.rows, ok⟩ Sx.Tryd.tt.get 18 Sx.Tryd.cf18 := FRow.plain Sx.Tryd.kp18 (bodyOf Tryd.f18) Tryd.func18 (by kernel_rfl) (by kernel_rfl) (by kernel_rfl) [] (by kernel_rfl) (fun q hq => by cases hq)
theorem Tryd.fk19 {ok : Rho → (Nat → Obj → Prop) → Prop} : FRow ⟨Tryd.prog, rcOf Tryd.rows, ok⟩ Sx.Tryd.tt.get 19 Sx.Tryd.cf19 := FRow.plain Sx.Tryd.kp19 (bodyOf Tryd.f19) Tryd.func19 (by kernel_rfl) (by kernel_rfl) (by kernel_rfl) [] (by kernel_rfl) (fun q hq => by cases hq)
theorem Tryd.fk20 {ok : Rho → (Nat → Obj → Prop) → Prop} : FRow ⟨Tryd.prog, rcOf Tryd.rows, ok⟩ Sx.Tryd.tt.get 20 Sx.Tryd.cf20 := FRow.plain Sx.Tryd.kp20 (bodyOf Tryd.f20) Tryd.func20 (by kernel_rfl) (by kernel_rfl) (by kernel_rfl) [] (by kernel_rfl) (fun q hq => by cases hq)
theorem Tryd.fk21 {ok : Rho → (Nat → Obj → Prop) → Prop} : FRow ⟨Tryd.prog, rcOf Tryd.rows, ok⟩ Sx.Tryd.tt.get 21 Sx.Tryd.cf21 := FRow.plain Sx.Tryd.kp21 (bodyOf Tryd.f21) Tryd.func21 (by kernel_rfl) (by kernel_rfl) (by kernel_rfl) [([65], Tryd.rr21065.a, Tryd.rr21065.b)] (by kernel_rfl) (fun q hq id hid => by
  rcases List.mem_singleton.1 hq with rfl
  cases hid
  exact ⟨Tryd.rr21065, by simp [Tryd.rows], rfl, rfl, rfl, rfl, rfl⟩)
theorem Tryd.fk22 {ok : Rho → (Nat → Obj → Prop) → Prop} : FRow ⟨Tryd.prog, rcOf Tryd.rows, ok⟩ Sx.Tryd.tt.get 22 Sx.Tryd.cf22 := FRow.plain Sx.Tryd.kp22 (bodyOf Tryd.f22) Tryd.func22 (by kernel_rfl) (by kernel_rfl) (by kernel_rfl) [([8], Tryd.rr22008.a, Tryd.rr22008.b)] (by kernel_rfl) (fun q hq id hid => by
  rcases List.mem_singleton.1 hq with rfl
  cases hid
  exact ⟨Tryd.rr22008, by simp [Tryd.rows], rfl, rfl, rfl, rfl, rfl⟩)
theorem Tryd.fk23 {ok : Rho → (Nat → Obj → Prop) → Prop} : FRow ⟨Tryd.prog, rcOf Tryd.rows, ok⟩ Sx.Tryd.tt.get 23 Sx.Tryd.cf23 := FRow.plain Sx.Tryd.kp23 (bodyOf Tryd.f23) Tryd.func23 (by kernel_rfl) (by kernel_rfl) (by kernel_rfl) [([8], Tryd.rr23008.a, Tryd.rr23008.b)] (by kernel_rfl) (fun q hq id hid => by
  rcases List.mem_singleton.1 hq with rfl
  cases hid
  exact ⟨Tryd.rr23008, by simp [Tryd.rows], rfl, rfl, rfl, rfl, rfl⟩)
theorem Tryd.fk24 {ok : Rho → (Nat → Obj → Prop) → Prop} : FRow ⟨Tryd.prog, rcOf Tryd.rows, ok⟩ Sx.Tryd.tt.get 24 Sx.Tryd.cf24 := FRow.plain Sx.Tryd.kp24 (bodyOf Tryd.f24) Tryd.func24 (by kernel_rfl) (by kernel_rfl) (by kernel_rfl) [([4], Tryd.rr24004.a, Tryd.rr24004.b)] (by kernel_rfl) (fun q hq id hid => by
  rcases List.mem_singleton.1 hq with rfl
  cases hid
  exact ⟨Tryd.rr24004, by simp [Tryd.rows], rfl, rfl, rfl, rfl, rfl⟩)
theorem Tryd.fk25 {ok : Rho → (Nat → Obj → Prop) → Prop} : FRow ⟨Tryd.prog, rcOf Tryd.rows, ok⟩ Sx.Tryd.tt.get 25 Sx.Tryd.cf25 := FRow.plain Sx.Tryd.kp25 (bodyOf Tryd.f25) Tryd.func25 (by kernel_rfl) (by kernel_rfl) (by kernel_rfl) [] (by kernel_rfl) (fun q hq => by cases hq)
theorem Tryd.fk26 {ok : Rho → (Nat → Obj → Prop) → Prop} : FRow ⟨Tryd.prog, rcOf Tryd.rows, ok⟩ Sx.Tryd.tt.get 26 Sx.Tryd.cf26 := FRow.plain Sx.Tryd.kp26 (bodyOf Tryd.f26) Tryd.func26 (by kernel_rfl) (by kernel_rfl) (by kernel_rfl) [] (by kernel_rfl) (fun q hq => by cases hq)
theorem Tryd.fk27 {ok : Rho → (Nat → Obj → Prop) → Prop} : FRow ⟨Tryd.prog, rcOf Tryd.rows, ok⟩ Sx.Tryd.tt.get 27 Sx.Tryd.cf27 := FRow.plain Sx.Tryd.kp27 (bodyOf Tryd.f27) Tryd.func27 (by kernel_rfl) (by kernel_rfl) (by kernel_rfl) [([8], Tryd.rr27008.a, Tryd.rr27008.b)] (by kernel_rfl) (fun q hq id hid => by
  rcases List.mem_singleton.1 hq with rfl
  cases hid
  exact ⟨Tryd.rr27008, by simp [Tryd.rows], rfl, rfl, rfl, rfl, rfl⟩)
theorem Tryd.fk28 {ok : Rho → (Nat → Obj → Prop) → Prop} : FRow ⟨Tryd.prog, rcOf Tryd.rows, ok⟩ Sx.Tryd.tt.get 28 Sx.Tryd.cf28 := FRow.plain Sx.Tryd.kp28 (bodyOf Tryd.f28) Tryd.func28 (by kernel_rfl) (by kernel_rfl) (by kernel_rfl) [] (by kernel_rfl) (fun q hq => by cases hq)
theorem Tryd.fk29 {ok : Rho → (Nat → Obj → Prop) → Prop} : FRow ⟨Tryd.prog, rcOf Tryd.rows, ok⟩ Sx.Tryd.tt.get 29 Sx.Tryd.cf29 := FRow.plain Sx.Tryd.kp29 (bodyOf Tryd.f29) Tryd.func29 (by kernel_rfl) (by kernel_rfl) (by kernel_rfl) [([13], Tryd.rr29013.a, Tryd.rr29013.b), ([17], Tryd.rr29017.a, Tryd.rr29017.b)] (by kernel_rfl) (fun q hq id hid => by
  rcases List.mem_cons.1 hq with rfl | hq
  · cases hid
    exact ⟨Tryd.rr29013, by simp [Tryd.rows], rfl, rfl, rfl, rfl, rfl⟩
  rcases List.mem_singleton.1 hq with rfl
  cases hid
  exact ⟨Tryd.rr29017, by simp [Tryd.rows], rfl, rfl, rfl, rfl, rfl⟩)
theorem Tryd.fk30 {ok : Rho → (Nat → Obj → Prop) → Prop} : FRow ⟨Tryd.prog, rcOf Tryd.rows, ok⟩ Sx.Tryd.tt.get 30 Sx.Tryd.cf30 := FRow.plain Sx.Tryd.kp30 (bodyOf Tryd.f30) Tryd.func30 (by kernel_rfl) (by kernel_rfl) (by kernel_rfl) [] (by kernel_rfl) (fun q hq => by cases hq)
theorem Tryd.fk31 {ok : Rho → (Nat → Obj → Prop) → Prop} : FRow ⟨Tryd.prog, rcOf Tryd.rows, ok⟩ Sx.Tryd.tt.get 31 Sx.Tryd.cf31 := FRow.plain Sx.Tryd.kp31 (bodyOf Tryd.f31) Tryd.func31 (by kernel_rfl) (by kernel_rfl) (by kernel_rfl) [] (by kernel_rfl) (fun q hq => by cases hq)
theorem Tryd.fk32 {ok : Rho → (Nat → Obj → Prop) → Prop} : FRow ⟨Tryd.prog, rcOf Tryd.rows, ok⟩ Sx.Tryd.tt.get 32 Sx.Tryd.cf32 := FRow.plain Sx.Tryd.kp32 (bodyOf Tryd.f32) Tryd.func32 (by kernel_rfl) (by kernel_rfl) (by kernel_rfl) [] (by kernel_rfl) (fun q hq => by cases hq)
theorem Tryd.fk33 {ok : Rho → (Nat → Obj → Prop) → Prop} : FRow ⟨Tryd.prog, rcOf Tryd.rows, ok⟩ Sx.Tryd.tt.get 33 Sx.Tryd.cf33 := FRow.plain Sx.Tryd.kp33 (bodyOf Tryd.f33) Tryd.func33 (by kernel_rfl) (by kernel_rfl) (by kernel_rfl) [([11], Tryd.rr33011.a, Tryd.rr33011.b), ([15], Tryd.rr33015.a, Tryd.rr33015.b)] (by kernel_rfl) (fun q hq id hid => by
  rcases List.mem_cons.1 hq with rfl | hq
  · cases hid
    exact ⟨Tryd.rr33011, by simp [Tryd.rows], rfl, rfl, rfl, rfl, rfl⟩
  rcases List.mem_singleton.1 hq with rfl
  cases hid
  exact ⟨Tryd.rr33015, by simp [Tryd.rows], rfl, rfl, rfl, rfl, rfl⟩)
theorem Tryd.fk34 {ok : Rho → (Nat → Obj → Prop) → Prop} : FRow ⟨Tryd.prog, rcOf Tryd.rows, ok⟩ Sx.Tryd.tt.get 34 Sx.Tryd.cf34 := FRow.plain Sx.Tryd.kp34 (bodyOf Tryd.f34) Tryd.func34 (by kernel_rfl) (by kernel_rfl) (by kernel_rfl) [] (by kernel_rfl) (fun q hq => by cases hq)
theorem Tryd.fk35 {ok : Rho → (Nat → Obj → Prop) → Prop} : FRow ⟨Tryd.prog, rcOf Tryd.rows, ok⟩ Sx.Tryd.tt.get 35 Sx.Tryd.cf35 := FRow.plain Sx.Tryd.kp35 (bodyOf Tryd.f35) Tryd.func35 (by kernel_rfl) (by kernel_rfl) (by kernel_rfl) [] (by kernel_rfl) (fun q hq => by cases hq)
theorem Tryd.fk36 {ok : Rho → (Nat → Obj → Prop) → Prop} : FRow ⟨Tryd.prog, rcOf Tryd.rows, ok⟩ Sx.Tryd.tt.get 36 Sx.Tryd.cf36 := FRow.plain Sx.Tryd.kp36 (bodyOf Tryd.f36) Tryd.func36 (by kernel_rfl) (by kernel_rfl) (by kernel_rfl) [] (by kernel_rfl) (fun q hq => by cases hq)
theorem Tryd.fk37 {ok : Rho → (Nat → Obj → Prop) → Prop} : FRow ⟨Tryd.prog, rcOf Tryd.rows, ok⟩ Sx.Tryd.tt.get 37 Sx.Tryd.cf37 := FRow.plain Sx.Tryd.kp37 (bodyOf Tryd.f37) Tryd.func37 (by kernel_rfl) (by kernel_rfl) (by kernel_rfl) [] (by kernel_rfl) (fun q hq => by cases hq)
theorem Tryd.fk38 {ok : Rho → (Nat → Obj → Prop) → Prop} : FRow ⟨Tryd.prog, rcOf Tryd.rows, ok⟩ Sx.Tryd.tt.get 38 Sx.Tryd.cf38 := FRow.plain Sx.Tryd.kp38 (bodyOf Tryd.f38) Tryd.func38 (by kernel_rfl) (by kernel_rfl) (by kernel_rfl) [] (by kernel_rfl) (fun q hq => by cases hq)
theorem Tryd.fk39 {ok : Rho → (Nat → Obj → Prop) → Prop} : FRow ⟨Tryd.prog, rcOf Tryd.rows, ok⟩ Sx.Tryd.tt.get 39 Sx.Tryd.cf39 := FRow.plain Sx.Tryd.kp39 (bodyOf Tryd.f39) Tryd.func39 (by kernel_rfl) (by kernel_rfl) (by kernel_rfl) [] (by kernel_rfl) (fun q hq => by cases hq)
theorem Tryd.fk40 {ok : Rho → (Nat → Obj → Prop) → Prop} : FRow ⟨Tryd.prog, rcOf Tryd.rows, ok⟩ Sx.Tryd.tt.get 40 Sx.Tryd.cf40 := FRow.plain Sx.Tryd.kp40 (bodyOf Tryd.f40) Tryd.func40 (by kernel_rfl) (by kernel_rfl) (by kernel_rfl) [] (by kernel_rfl) (fun q hq => by cases hq)
theorem Tryd.fk41 {ok : Rho → (Nat → Obj → Prop) → Prop} : FRow ⟨Tryd.prog, rcOf Tryd.rows, ok⟩ Sx.Tryd.tt.get 41 Sx.Tryd.cf41 := FRow.plain Sx.Tryd.kp41 (bodyOf Tryd.f41) Tryd.func41 (by kernel_rfl) (by kernel_rfl) (by kernel_rfl) [] (by kernel_rfl) (fun q hq => by cases hq)
theorem Tryd.fk42 {ok : Rho → (Nat → Obj → Prop) → Prop} : FRow ⟨Tryd.prog, rcOf Tryd.rows, ok⟩ Sx.Tryd.tt.get 42 Sx.Tryd.cf42 := FRow.plain Sx.Tryd.kp42 (bodyOf Tryd.f42) Tryd.func42 (by kernel_rfl) (by kernel_rfl) (by kernel_rfl) [] (by kernel_rfl) (fun q hq => by cases hq)
theorem Tryd.fk43 {ok : Rho → (Nat → Obj → Prop) → Prop} : FRow ⟨Tryd.prog, rcOf Tryd.rows, ok⟩ Sx.Tryd.tt.get 43 Sx.Tryd.cf43 := FRow.plain Sx.Tryd.kp43 (bodyOf Tryd.f43) Tryd.func43 (by kernel_rfl) (by kernel_rfl) (by kernel_rfl) [] (by kernel_rfl) (fun q hq => by cases hq)
theorem Tryd.fk44 {ok : Rho → (Nat → Obj → Prop) → Prop} : FRow ⟨Tryd.prog, rcOf Tryd.rows, ok⟩ Sx.Tryd.tt.get 44 Sx.Tryd.cf44 := FRow.plain Sx.Tryd.kp44 (bodyOf Tryd.f44) Tryd.func44 (by kernel_rfl) (by kernel_rfl) (by kernel_rfl) [] (by kernel_rfl) (fun q hq => by cases hq)
theorem Tryd.fk45 {ok : Rho → (Nat → Obj → Prop) → Prop} : FRow ⟨Tryd.prog, rcOf Tryd.rows, ok⟩ Sx.Tryd.tt.get 45 Sx.Tryd.cf45 := FRow.plain Sx.Tryd.kp45 (bodyOf Tryd.f45) Tryd.func45 (by kernel_rfl) (by kernel_rfl) (by kernel_rfl) [] (by kernel_rfl) (fun q hq => by cases hq)
theorem Tryd.fk46 {ok : Rho → (Nat → Obj → Prop) → Prop} : FRow ⟨Tryd.prog, rcOf Tryd.rows, ok⟩ Sx.Tryd.tt.get 46 Sx.Tryd.cf46 := FRow.plain Sx.Tryd.kp46 (bodyOf Tryd.f46) Tryd.func46 (by kernel_rfl) (by kernel_rfl) (by kernel_rfl) [] (by kernel_rfl) (fun q hq => by cases hq)
theorem Tryd.fk47 {ok : Rho → (Nat → Obj → Prop) → Prop} : FRow ⟨Tryd.prog, rcOf Tryd.rows, ok⟩ Sx.Tryd.tt.get 47 Sx.Tryd.cf47 := FRow.plain Sx.Tryd.kp47 (bodyOf Tryd.f47) Tryd.func47 (by kernel_rfl) (by kernel_rfl) (by kernel_rfl) [] (by kernel_rfl) (fun q hq => by cases hq)
theorem Tryd.fk48 {ok : Rho → (Nat → Obj → Prop) → Prop} : FRow ⟨Tryd.prog, rcOf Tryd.rows, ok⟩ Sx.Tryd.tt.get 48 Sx.Tryd.cf48 := FRow.plain Sx.Tryd.kp48 (bodyOf Tryd.f48) Tryd.func48 (by kernel_rfl) (by kernel_rfl) (by kernel_rfl) [] (by kernel_rfl) (fun q hq => by cases hq)
theorem Tryd.fk49 {ok : Rho → (Nat → Obj → Prop) → Prop} : FRow ⟨Tryd.prog, rcOf Tryd.rows, ok⟩ Sx.Tryd.tt.get 49 Sx.Tryd.cf49 := FRow.plain Sx.Tryd.kp49 (bodyOf Tryd.f49) Tryd.func49 (by kernel_rfl) (by kernel_rfl) (by kernel_rfl) [] (by kernel_rfl) (fun q hq => by cases hq)
theorem Tryd.fk50 {ok : Rho → (Nat → Obj → Prop) → Prop} : FRow ⟨Tryd.prog, rcOf Tryd.rows, ok⟩ Sx.Tryd.tt.get 50 Sx.Tryd.cf50 := FRow.plain Sx.Tryd.kp50 (bodyOf Tryd.f50) Tryd.func50 (by kernel_rfl) (by kernel_rfl) (by kernel_rfl) [] (by kernel_rfl) (fun q hq => by cases hq)
theorem Tryd.fk51 {ok : Rho → (Nat → Obj → Prop) → Prop} : FRow ⟨Tryd.prog, rcOf Tryd.rows, ok⟩ Sx.Tryd.tt.get 51 Sx.Tryd.cf51 := FRow.plain Sx.Tryd.kp51 (bodyOf Tryd.f51) Tryd.func51 (by kernel_rfl) (by kernel_rfl) (by kernel_rfl) [] (by kernel_rfl) (fun q hq => by cases hq)
theorem Tryd.fk52 {ok : Rho → (Nat → Obj → Prop) → Prop} : FRow ⟨Tryd.prog, rcOf Tryd.rows, ok⟩ Sx.Tryd.tt.get 52 Sx.Tryd.cf52 := FRow.plain Sx.Tryd.kp52 (bodyOf Tryd.f52) Tryd.func52 (by kernel_rfl) (by kernel_rfl) (by kernel_rfl) [] (by kernel_rfl) (fun q hq => by cases hq)
theorem Tryd.fk53 {ok : Rho → (Nat → Obj → Prop) → Prop} : FRow ⟨Tryd.prog, rcOf Tryd.rows, ok⟩ Sx.Tryd.tt.get 53 Sx.Tryd.cf53 := FRow.plain Sx.Tryd.kp53 (bodyOf Tryd.f53) Tryd.func53 (by kernel_rfl) (by kernel_rfl) (by kernel_rfl) [] (by kernel_rfl) (fun q hq => by cases hq)
theorem Tryd.fk54 {ok : Rho → (Nat → Obj → Prop) → Prop} : FRow ⟨Tryd.prog, rcOf Tryd.rows, ok⟩ Sx.Tryd.tt.get 54 Sx.Tryd.cf54 := FRow.plain Sx.Tryd.kp54 (bodyOf Tryd.f54) Tryd.func54 (by kernel_rfl) (by kernel_rfl) (by kernel_rfl) [([8], Tryd.rr54008.a, Tryd.rr54008.b)] (by kernel_rfl) (fun q hq id hid => by
  rcases List.mem_singleton.1 hq with rfl
  cases hid
  exact ⟨Tryd.rr54008, by simp [Tryd.rows], rfl, rfl, rfl, rfl, rfl⟩)
theorem Tryd.fk55 {ok : Rho → (Nat → Obj → Prop) → Prop} : FRow ⟨Tryd.prog, rcOf Tryd.rows, ok⟩ Sx.Tryd.tt.get 55 Sx.Tryd.cf55 := FRow.plain Sx.Tryd.kp55 (bodyOf Tryd.f55) Tryd.func55 (by kernel_rfl) (by kernel_rfl) (by kernel_rfl) [] (by kernel_rfl) (fun q hq => by cases hq)
theorem Tryd.fk56 {ok : Rho → (Nat → Obj → Prop) → Prop} : FRow ⟨Tryd.prog, rcOf Tryd.rows, ok⟩ Sx.Tryd.tt.get 56 Sx.Tryd.cf56 := FRow.plain Sx.Tryd.kp56 (bodyOf Tryd.f56) Tryd.func56 (by kernel_rfl) (by kernel_rfl) (by kernel_rfl) [] (by kernel_rfl) (fun q hq => by cases hq)
theorem Tryd.fk57 {ok : Rho → (Nat → Obj → Prop) → Prop} : FRow ⟨Tryd.prog, rcOf Tryd.rows, ok⟩ Sx.Tryd.tt.get 57 Sx.Tryd.cf57 := FRow.plain Sx.Tryd.kp57 (bodyOf Tryd.f57) Tryd.func57 (by kernel_rfl) (by kernel_rfl) (by kernel_rfl) [] (by kernel_rfl) (fun q hq => by cases hq)
theorem Tryd.fk58 {ok : Rho → (Nat → Obj → Prop) → Prop} : FRow ⟨Tryd.prog, rcOf Tryd.rows, ok⟩ Sx.Tryd.tt.get 58 Sx.Tryd.cf58 := FRow.plain Sx.Tryd.kp58 (bodyOf Tryd.f58) Tryd.func58 (by kernel_rfl) (by kernel_rfl) (by kernel_rfl) [] (by kernel_rfl) (fun q hq => by cases hq)
theorem Tryd.fk59 {ok : Rho → (Nat → Obj → Prop) → Prop} : FRow ⟨Tryd.prog, rcOf Tryd.rows, ok⟩ Sx.Tryd.tt.get 59 Sx.Tryd.cf59 := FRow.plain Sx.Tryd.kp59 (bodyOf Tryd.f59) Tryd.func59 (by kernel_rfl) (by kernel_rfl) (by kernel_rfl) [] (by kernel_rfl) (fun q hq => by cases hq)
theorem Tryd.fk60 {ok : Rho → (Nat → Obj → Prop) → Prop} : FRow ⟨Tryd.prog, rcOf Tryd.rows, ok⟩ Sx.Tryd.tt.get 60 Sx.Tryd.cf60 := FRow.plain Sx.Tryd.kp60 (bodyOf Tryd.f60) Tryd.func60 (by kernel_rfl) (by kernel_rfl) (by kernel_rfl) [] (by kernel_rfl) (fun q hq => by cases hq)
theorem Tryd.fk61 {ok : Rho → (Nat → Obj → Prop) → Prop} : FRow ⟨Tryd.prog, rcOf Tryd.rows, ok⟩ Sx.Tryd.tt.get 61 Sx.Tryd.cf61 := FRow.plain Sx.Tryd.kp61 (bodyOf Tryd.f61) Tryd.func61 (by kernel_rfl) (by kernel_rfl) (by kernel_rfl) [] (by kernel_rfl) (fun q hq => by cases hq)
theorem Tryd.fk62 {ok : Rho → (Nat → Obj → Prop) → Prop} : FRow ⟨Tryd.prog, rcOf Tryd.rows, ok⟩ Sx.Tryd.tt.get 62 Sx.Tryd.cf62 := FRow.plain Sx.Tryd.kp62 (bodyOf Tryd.f62) Tryd.func62 (by kernel_rfl) (by kernel_rfl) (by kernel_rfl) [] (by kernel_rfl) (fun q hq => by cases hq)
theorem Tryd.fk63 {ok : Rho → (Nat → Obj → Prop) → Prop} : FRow ⟨Tryd.prog, rcOf Tryd.rows, ok⟩ Sx.Tryd.tt.get 63 Sx.Tryd.cf63 := FRow.plain Sx.Tryd.kp63 (bodyOf Tryd.f63) Tryd.func63 (by kernel_rfl) (by kernel_rfl) (by kernel_rfl) [] (by kernel_rfl) (fun q hq => by cases hq)
theorem Tryd.fk64 {ok : Rho → (Nat → Obj → Prop) → Prop} : FRow ⟨Tryd.prog, rcOf Tryd.rows, ok⟩ Sx.Tryd.tt.get 64 Sx.Tryd.cf64 := FRow.plain Sx.Tryd.kp64 (bodyOf Tryd.f64) Tryd.func64 (by kernel_rfl) (by kernel_rfl) (by kernel_rfl) [] (by kernel_rfl) (fun q hq => by cases hq)
theorem Tryd.fk65 {ok : Rho → (Nat → Obj → Prop) → Prop} : FRow ⟨Tryd.prog, rcOf Tryd.rows, ok⟩ Sx.Tryd.tt.get 65 Sx.Tryd.cf65 := FRow.plain Sx.Tryd.kp65 (bodyOf Tryd.f65) Tryd.func65 (by kernel_rfl) (by kernel_rfl) (by kernel_rfl) [([39], Tryd.rr65039.a, Tryd.rr65039.b)] (by kernel_rfl) (fun q hq id hid => by
  rcases List.mem_singleton.1 hq with rfl
  cases hid
  exact ⟨Tryd.rr65039, by simp [Tryd.rows], rfl, rfl, rfl, rfl, rfl⟩)
theorem Tryd.fk66 {ok : Rho → (Nat → Obj → Prop) → Prop} : FRow ⟨Tryd.prog, rcOf Tryd.rows, ok⟩ Sx.Tryd.tt.get 66 Sx.Tryd.cf66 := FRow.plain Sx.Tryd.kp66 (bodyOf Tryd.f66) Tryd.func66 (by kernel_rfl) (by kernel_rfl) (by kernel_rfl) [] (by kernel_rfl) (fun q hq => by cases hq)
theorem Tryd.fk67 {ok : Rho → (Nat → Obj → Prop) → Prop} : FRow ⟨Tryd.prog, rcOf Tryd.rows, ok⟩ Sx.Tryd.tt.get 67 Sx.Tryd.cf67 := FRow.plain Sx.Tryd.kp67 (bodyOf Tryd.f67) Tryd.func67 (by kernel_rfl) (by kernel_rfl) (by kernel_rfl) [] (by kernel_rfl) (fun q hq => by cases hq)
theorem Tryd.fk68 {ok : Rho → (Nat → Obj → Prop) → Prop} : FRow ⟨Tryd.prog, rcOf Tryd.rows, ok⟩ Sx.Tryd.tt.get 68 Sx.Tryd.cf68 := FRow.plain Sx.Tryd.kp68 (bodyOf Tryd.f68) Tryd.func68 (by kernel_rfl) (by kernel_rfl) (by kernel_rfl) [] (by kernel_rfl) (fun q hq => by cases hq)
theorem Tryd.fk69 {ok : Rho → (Nat → Obj → Prop) → Prop} : FRow ⟨Tryd.prog, rcOf Tryd.rows, ok⟩ Sx.Tryd.tt.get 69 Sx.Tryd.cf69 := FRow.plain Sx.Tryd.kp69 (bodyOf Tryd.f69) Tryd.func69 (by kernel_rfl) (by kernel_rfl) (by kernel_rfl) [] (by kernel_rfl) (fun q hq => by cases hq)
theorem Tryd.fk70 {ok : Rho → (Nat → Obj → Prop) → Prop} : FRow ⟨Tryd.prog, rcOf Tryd.rows, ok⟩ Sx.Tryd.tt.get 70 Sx.Tryd.cf70 := FRow.plain Sx.Tryd.kp70 (bodyOf Tryd.f70) Tryd.func70 (by kernel_rfl) (by kernel_rfl) (by kernel_rfl) [] (by kernel_rfl) (fun q hq => by cases hq)
theorem Tryd.fk71 {ok : Rho → (Nat → Obj → Prop) → Prop} : FRow ⟨Tryd.prog, rcOf Tryd.rows, ok⟩ Sx.Tryd.tt.get 71 Sx.Tryd.cf71 := FRow.plain Sx.Tryd.kp71 (bodyOf Tryd.f71) Tryd.func71 (by kernel_rfl) (by kernel_rfl) (by kernel_rfl) [([6], Tryd.rr71006.a, Tryd.rr71006.b)] (by kernel_rfl) (fun q hq id hid => by
  rcases List.mem_singleton.1 hq with rfl
  cases hid
  exact ⟨Tryd.rr71006, by simp [Tryd.rows], rfl, rfl, rfl, rfl, rfl⟩)
theorem Tryd.fk72 {ok : Rho → (Nat → Obj → Prop) → Prop} : FRow ⟨Tryd.prog, rcOf Tryd.rows, ok⟩ Sx.Tryd.tt.get 72 Sx.Tryd.cf72 := FRow.plain Sx.Tryd.kp72 (bodyOf Tryd.f72) Tryd.func72 (by kernel_rfl) (by kernel_rfl) (by kernel_rfl) [] (by kernel_rfl) (fun q hq => by cases hq)
theorem Tryd.fk73 {ok : Rho → (Nat → Obj → Prop) → Prop} : FRow ⟨Tryd.prog, rcOf Tryd.rows, ok⟩ Sx.Tryd.tt.get 73 Sx.Tryd.cf73 := FRow.plain Sx.Tryd.kp73 (bodyOf Tryd.f73) Tryd.func73 (by kernel_rfl) (by kernel_rfl) (by kernel_rfl) [] (by kernel_rfl) (fun q hq => by cases hq)
theorem Tryd.fk74 {ok : Rho → (Nat → Obj → Prop) → Prop} : FRow ⟨Tryd.prog, rcOf Tryd.rows, ok⟩ Sx.Tryd.tt.get 74 Sx.Tryd.cf74 := FRow.plain Sx.Tryd.kp74 (bodyOf Tryd.f74) Tryd.func74 (by kernel_rfl) (by kernel_rfl) (by kernel_rfl) [] (by kernel_rfl) (fun q hq => by cases hq)
theorem Tryd.fk75 {ok : Rho → (Nat → Obj → Prop) → Prop} : FRow ⟨Tryd.prog, rcOf Tryd.rows, ok⟩ Sx.Tryd.tt.get 75 Sx.Tryd.cf75 := FRow.plain Sx.Tryd.kp75 (bodyOf Tryd.f75) Tryd.func75 (by kernel_rfl) (by kernel_rfl) (by kernel_rfl) [([7], Tryd.rr75007.a, Tryd.rr75007.b), ([11], Tryd.rr75011.a, Tryd.rr75011.b)] (by kernel_rfl) (fun q hq id hid => by
  rcases List.mem_cons.1 hq with rfl | hq
  · cases hid
    exact ⟨Tryd.rr75007, by simp [Tryd.rows], rfl, rfl, rfl, rfl, rfl⟩
  rcases List.mem_singleton.1 hq with rfl
  cases hid
  exact ⟨Tryd.rr75011, by simp [Tryd.rows], rfl, rfl, rfl, rfl, rfl⟩)
theorem Tryd.fk76 {ok : Rho → (Nat → Obj → Prop) → Prop} : FRow ⟨Tryd.prog, rcOf Tryd.rows, ok⟩ Sx.Tryd.tt.get 76 Sx.Tryd.cf76 := FRow.plain Sx.Tryd.kp76 (bodyOf Tryd.f76) Tryd.func76 (by kernel_rfl) (by kernel_rfl) (by kernel_rfl) [] (by kernel_rfl) (fun q hq => by cases hq)
theorem Tryd.fk77 {ok : Rho → (Nat → Obj → Prop) → Prop} : FRow ⟨Tryd.prog, rcOf Tryd.rows, ok⟩ Sx.Tryd.tt.get 77 Sx.Tryd.cf77 := FRow.plain Sx.Tryd.kp77 (bodyOf Tryd.f77) Tryd.func77 (by kernel_rfl) (by kernel_rfl) (by kernel_rfl) [] (by kernel_rfl) (fun q hq => by cases hq)
theorem Tryd.fk78 {ok : Rho → (Nat → Obj → Prop) → Prop} : FRow ⟨Tryd.prog, rcOf Tryd.rows, ok⟩ Sx.Tryd.tt.get 78 Sx.Tryd.cf78 := FRow.plain Sx.Tryd.kp78 (bodyOf Tryd.f78) Tryd.func78 (by kernel_rfl) (by kernel_rfl) (by kernel_rfl) [] (by kernel_rfl) (fun q hq => by cases hq)
theorem Tryd.fk79 {ok : Rho → (Nat → Obj → Prop) → Prop} : FRow ⟨Tryd.prog, rcOf Tryd.rows, ok⟩ Sx.Tryd.tt.get 79 Sx.Tryd.cf79 := FRow.plain Sx.Tryd.kp79 (bodyOf Tryd.f79) Tryd.func79 (by kernel_rfl) (by kernel_rfl) (by kernel_rfl) [] (by kernel_rfl) (fun q hq => by cases hq)
theorem Tryd.fk80 {ok : Rho → (Nat → Obj → Prop) → Prop} : FRow ⟨Tryd.prog, rcOf Tryd.rows, ok⟩ Sx.Tryd.tt.get 80 Sx.Tryd.cf80 := FRow.plain Sx.Tryd.kp80 (bodyOf Tryd.f80) Tryd.func80 (by kernel_rfl) (by kernel_rfl) (by kernel_rfl) [] (by kernel_rfl) (fun q hq => by cases hq)
theorem Tryd.fk81 {ok : Rho → (Nat → Obj → Prop) → Prop} : FRow ⟨Tryd.prog, rcOf Tryd.rows, ok⟩ Sx.Tryd.tt.get 81 Sx.Tryd.cf81 := FRow.plain Sx.Tryd.kp81 (bodyOf Tryd.f81) Tryd.func81 (by kernel_rfl) (by kernel_rfl) (by kernel_rfl) [([6], Tryd.rr81006.a, Tryd.rr81006.b)] (by kernel_rfl) (fun q hq id hid => by
  rcases List.mem_singleton.1 hq with rfl
  cases hid
  exact ⟨Tryd.rr81006, by simp [Tryd.rows], rfl, rfl, rfl, rfl, rfl⟩)
theorem Tryd.fk82 {ok : Rho → (Nat → Obj → Prop) → Prop} : FRow ⟨Tryd.prog, rcOf Tryd.rows, ok⟩ Sx.Tryd.tt.get 82 Sx.Tryd.cf82 := FRow.plain Sx.Tryd.kp82 (bodyOf Tryd.f82) Tryd.func82 (by kernel_rfl) (by kernel_rfl) (by kernel_rfl) [] (by kernel_rfl) (fun q hq => by cases hq)
theorem Tryd.fk83 {ok : Rho → (Nat → Obj → Prop) → Prop} : FRow ⟨Tryd.prog, rcOf Tryd.rows, ok⟩ Sx.Tryd.tt.get 83 Sx.Tryd.cf83 := FRow.plain Sx.Tryd.kp83 (bodyOf Tryd.f83) Tryd.func83 (by kernel_rfl) (by kernel_rfl) (by kernel_rfl) [] (by kernel_rfl) (fun q hq => by cases hq)
theorem Tryd.fk84 {ok : Rho → (Nat → Obj → Prop) → Prop} : FRow ⟨Tryd.prog, rcOf Tryd.rows, ok⟩ Sx.Tryd.tt.get 84 Sx.Tryd.cf84 := FRow.plain Sx.Tryd.kp84 (bodyOf Tryd.f84) Tryd.func84 (by kernel_rfl) (by kernel_rfl) (by kernel_rfl) [] (by kernel_rfl) (fun q hq => by cases hq)
theorem Tryd.fk85 {ok : Rho → (Nat → Obj → Prop) → Prop} : FRow ⟨Tryd.prog, rcOf Tryd.rows, ok⟩ Sx.Tryd.tt.get 85 Sx.Tryd.cf85 := FRow.plain Sx.Tryd.kp85 (bodyOf Tryd.f85) Tryd.func85 (by kernel_rfl) (by kernel_rfl) (by kernel_rfl) [] (by kernel_rfl) (fun q hq => by cases hq)
theorem Tryd.fk86 {ok : Rho → (Nat → Obj → Prop) → Prop} : FRow ⟨Tryd.prog, rcOf Tryd.rows, ok⟩ Sx.Tryd.tt.get 86 Sx.Tryd.cf86 := FRow.plain Sx.Tryd.kp86 (bodyOf Tryd.f86) Tryd.func86 (by kernel_rfl) (by kernel_rfl) (by kernel_rfl) [] (by kernel_rfl) (fun q hq => by cases hq)
theorem Tryd.fk87 {ok : Rho → (Nat → Obj → Prop) → Prop} : FRow ⟨Tryd.prog, rcOf Tryd.rows, ok⟩ Sx.Tryd.tt.get 87 Sx.Tryd.cf87 := FRow.plain Sx.Tryd.kp87 (bodyOf Tryd.f87) Tryd.func87 (by kernel_rfl) (by kernel_rfl) (by kernel_rfl) [] (by kernel_rfl) (fun q hq => by cases hq)
theorem Tryd.fk88 {ok : Rho → (Nat → Obj → Prop) → Prop} : FRow ⟨Tryd.prog, rcOf Tryd.rows, ok⟩ Sx.Tryd.tt.get 88 Sx.Tryd.cf88 := FRow.plain Sx.Tryd.kp88 (bodyOf Tryd.f88) Tryd.func88 (by kernel_rfl) (by kernel_rfl) (by kernel_rfl) [] (by kernel_rfl) (fun q hq => by cases hq)
theorem Tryd.fk89 {ok : Rho → (Nat → Obj → Prop) → Prop} : FRow ⟨Tryd.prog, rcOf Tryd.rows, ok⟩ Sx.Tryd.tt.get 89 Sx.Tryd.cf89 := FRow.plain Sx.Tryd.kp89 (bodyOf Tryd.f89) Tryd.func89 (by kernel_rfl) (by kernel_rfl) (by kernel_rfl) [] (by kernel_rfl) (fun q hq => by cases hq)
theorem Tryd.fk90 {ok : Rho → (Nat → Obj → Prop) → Prop} : FRow ⟨Tryd.prog, rcOf Tryd.rows, ok⟩ Sx.Tryd.tt.get 90 Sx.Tryd.cf90 := FRow.plain Sx.Tryd.kp90 (bodyOf Tryd.f90) Tryd.func90 (by kernel_rfl) (by kernel_rfl) (by kernel_rfl) [] (by kernel_rfl) (fun q hq => by cases hq)
theorem Tryd.fk91 {ok : Rho → (Nat → Obj → Prop) → Prop} : FRow ⟨Tryd.prog, rcOf Tryd.rows, ok⟩ Sx.Tryd.tt.get 91 Sx.Tryd.cf91 := FRow.plain Sx.Tryd.kp91 (bodyOf Tryd.f91) Tryd.func91 (by kernel_rfl) (by kernel_rfl) (by kernel_rfl) [] (by kernel_rfl) (fun q hq => by cases hq)
theorem Tryd.fk92 {ok : Rho → (Nat → Obj → Prop) → Prop} : FRow ⟨Tryd.prog, rcOf Tryd.rows, ok⟩ Sx.Tryd.tt.get 92 Sx.Tryd.cf92 := FRow.plain Sx.Tryd.kp92 (bodyOf Tryd.f92) Tryd.func92 (by kernel_rfl) (by kernel_rfl) (by kernel_rfl) [] (by kernel_rfl) (fun q hq => by cases hq)
theorem Tryd.fks {ok : Rho → (Nat → Obj → Prop) → Prop} : Sx.Tryd.ft.Every (FRow ⟨Tryd.prog, rcOf Tryd.rows, ok⟩ Sx.Tryd.tt.get) := ⟨ev0, ⟨ev0, ⟨ev1 Tryd.fk3, ⟨ev1 Tryd.fk7, ⟨ev1 Tryd.fk15, ⟨ev1 Tryd.fk31, ⟨ev1 Tryd.fk63, trivial, trivial⟩, trivial⟩, ⟨ev1 Tryd.fk47, ⟨ev1 Tryd.fk79, trivial, trivial⟩, trivial⟩⟩, ⟨ev1 Tryd.fk23, ⟨ev1 Tryd.fk39, ⟨ev1 Tryd.fk71, trivial, trivial⟩, trivial⟩, ⟨ev1 Tryd.fk55, ⟨ev1 Tryd.fk87, trivial, trivial⟩, trivial⟩⟩⟩, ⟨ev1 Tryd.fk11, ⟨ev1 Tryd.fk19, ⟨ev1 Tryd.fk35, ⟨ev1 Tryd.fk67, trivial, trivial⟩, trivial⟩, ⟨ev1 Tryd.fk51, ⟨ev1 Tryd.fk83, trivial, trivial⟩, trivial⟩⟩, ⟨ev1 Tryd.fk27, ⟨ev1 Tryd.fk43, ⟨ev1 Tryd.fk75, trivial, trivial⟩, trivial⟩, ⟨ev1 Tryd.fk59, ⟨ev1 Tryd.fk91, trivial, trivial⟩, trivial⟩⟩⟩⟩, ⟨ev1 Tryd.fk5, ⟨ev1 Tryd.fk9, ⟨ev1 Tryd.fk17, ⟨ev1 Tryd.fk33, ⟨ev1 Tryd.fk65, trivial, trivial⟩, trivial⟩, ⟨ev1 Tryd.fk49, ⟨ev1 Tryd.fk81, trivial, trivial⟩, trivial⟩⟩, ⟨ev1 Tryd.fk25, ⟨ev1 Tryd.fk41, ⟨ev1 Tryd.fk73, trivial, trivial⟩, trivial⟩, ⟨ev1 Tryd.fk57, ⟨ev1 Tryd.fk89, trivial, trivial⟩, trivial⟩⟩⟩, ⟨ev1 Tryd.fk13, ⟨ev1 Tryd.fk21, ⟨ev1 Tryd.fk37, ⟨ev1 Tryd.fk69, trivial, trivial⟩, trivial⟩, ⟨ev1 Tryd.fk53, ⟨ev1 Tryd.fk85, trivial, trivial⟩, trivial⟩⟩, ⟨ev1 Tryd.fk29, ⟨ev1 Tryd.fk45, ⟨ev1 Tryd.fk77, trivial, trivial⟩, trivial⟩, ⟨ev1 Tryd.fk61, trivial, trivial⟩⟩⟩⟩⟩, ⟨ev0, ⟨ev1 Tryd.fk4, ⟨ev1 Tryd.fk8, ⟨ev1 Tryd.fk16, ⟨ev1 Tryd.fk32, ⟨ev1 Tryd.fk64, trivial, trivial⟩, trivial⟩, ⟨ev1 Tryd.fk48, ⟨ev1 Tryd.fk80, trivial, trivial⟩, trivial⟩⟩, ⟨ev1 Tryd.fk24, ⟨ev1 Tryd.fk40, ⟨ev1 Tryd.fk72, trivial, trivial⟩, trivial⟩, ⟨ev1 Tryd.fk56, ⟨ev1 Tryd.fk88, trivial, trivial⟩, trivial⟩⟩⟩, ⟨ev1 Tryd.fk12, ⟨ev1 Tryd.fk20, ⟨ev1 Tryd.fk36, ⟨ev1 Tryd.fk68, trivial, trivial⟩, trivial⟩, ⟨ev1 Tryd.fk52, ⟨ev1 Tryd.fk84, trivial, trivial⟩, trivial⟩⟩, ⟨ev1 Tryd.fk28, ⟨ev1 Tryd.fk44, ⟨ev1 Tryd.fk76, trivial, trivial⟩, trivial⟩, ⟨ev1 Tryd.fk60, ⟨ev1 Tryd.fk92, trivial, trivial⟩, trivial⟩⟩⟩⟩, ⟨ev1 Tryd.fk6, ⟨ev1 Tryd.fk10, ⟨ev1 Tryd.fk18, ⟨ev1 Tryd.fk34, ⟨ev1 Tryd.fk66, trivial, trivial⟩, trivial⟩, ⟨ev1 Tryd.fk50, ⟨ev1 Tryd.fk82, trivial, trivial⟩, trivial⟩⟩, ⟨ev1 Tryd.fk26, ⟨ev1 Tryd.fk42, ⟨ev1 Tryd.fk74, trivial, trivial⟩, trivial⟩, ⟨ev1 Tryd.fk58, ⟨ev1 Tryd.fk90, trivial, trivial⟩, trivial⟩⟩⟩, ⟨ev1 Tryd.fk14, ⟨ev1 Tryd.fk22, ⟨ev1 Tryd.fk38, ⟨ev1 Tryd.fk70, trivial, trivial⟩, trivial⟩, ⟨ev1 Tryd.fk54, ⟨ev1 Tryd.fk86, trivial, trivial⟩, trivial⟩⟩, ⟨ev1 Tryd.fk30, ⟨ev1 Tryd.fk46, ⟨ev1 Tryd.fk78, trivial, trivial⟩, trivial⟩, ⟨ev1 Tryd.fk62, trivial, trivial⟩⟩⟩⟩⟩⟩
theorem Tryd.rs21065 : RSub Tryd.rows Tryd.rr21065 := RSub.of [] (by kernel_rfl) (fun q hq => by cases hq)
theorem Tryd.rk21065 : ∃ ca cb, lFind Sx.Tryd.rt Tryd.rr21065.id = some (ca, cb) ∧ cCode Sx.Tryd.tt.get Tryd.rr21065.n Tryd.rr21065.keep Tryd.rr21065.fid Tryd.rr21065.a = some ca ∧ cCode Sx.Tryd.tt.get Tryd.rr21065.n Tryd.rr21065.keep Tryd.rr21065.fid Tryd.rr21065.b = some cb ∧ RSub Tryd.rows Tryd.rr21065 :=
  ⟨Sx.Tryd.ra21065, Sx.Tryd.rb21065, by kernel_rfl, by kernel_rfl, by kernel_rfl, Tryd.rs21065⟩
theorem Tryd.rs22008 : RSub Tryd.rows Tryd.rr22008 := RSub.of [] (by kernel_rfl) (fun q hq => by cases hq)
theorem Tryd.rk22008 : ∃ ca cb, lFind Sx.Tryd.rt Tryd.rr22008.id = some (ca, cb) ∧ cCode Sx.Tryd.tt.get Tryd.rr22008.n Tryd.rr22008.keep Tryd.rr22008.fid Tryd.rr22008.a = some ca ∧ cCode Sx.Tryd.tt.get Tryd.rr22008.n Tryd.rr22008.keep Tryd.rr22008.fid Tryd.rr22008.b = some cb ∧ RSub Tryd.rows Tryd.rr22008 :=
  ⟨Sx.Tryd.ra22008, Sx.Tryd.rb22008, by kernel_rfl, by kernel_rfl, by kernel_rfl, Tryd.rs22008⟩
theorem Tryd.rs23008 : RSub Tryd.rows Tryd.rr23008 := RSub.of [] (by kernel_rfl) (fun q hq => by cases hq)
theorem Tryd.rk23008 : ∃ ca cb, lFind Sx.Tryd.rt Tryd.rr23008.id = some (ca, cb) ∧ cCode Sx.Tryd.tt.get Tryd.rr23008.n Tryd.rr23008.keep Tryd.rr23008.fid Tryd.rr23008.a = some ca ∧ cCode Sx.Tryd.tt.get Tryd.rr23008.n Tryd.rr23008.keep Tryd.rr23008.fid Tryd.rr23008.b = some cb ∧ RSub Tryd.rows Tryd.rr23008 :=
  ⟨Sx.Tryd.ra23008, Sx.Tryd.rb23008, by kernel_rfl, by kernel_rfl, by kernel_rfl, Tryd.rs23008⟩
theorem Tryd.rs24004 : RSub Tryd.rows Tryd.rr24004 := RSub.of [] (by kernel_rfl) (fun q hq => by cases hq)
theorem Tryd.rk24004 : ∃ ca cb, lFind Sx.Tryd.rt Tryd.rr24004.id = some (ca, cb) ∧ cCode Sx.Tryd.tt.get Tryd.rr24004.n Tryd.rr24004.keep Tryd.rr24004.fid Tryd.rr24004.a = some ca ∧ cCode Sx.Tryd.tt.get Tryd.rr24004.n Tryd.rr24004.keep Tryd.rr24004.fid Tryd.rr24004.b = some cb ∧ RSub Tryd.rows Tryd.rr24004 :=
  ⟨Sx.Tryd.ra24004, Sx.Tryd.rb24004, by kernel_rfl, by kernel_rfl, by kernel_rfl, Tryd.rs24004⟩
theorem Tryd.rs27008 : RSub Tryd.rows Tryd.rr27008 := RSub.of [] (by kernel_rfl) (fun q hq => by cases hq)
theorem Tryd.rk27008 : ∃ ca cb, lFind Sx.Tryd.rt Tryd.rr27008.id = some (ca, cb) ∧ cCode Sx.Tryd.tt.get Tryd.rr27008.n Tryd.rr27008.keep Tryd.rr27008.fid Tryd.rr27008.a = some ca ∧ cCode Sx.Tryd.tt.get Tryd.rr27008.n Tryd.rr27008.keep Tryd.rr27008.fid Tryd.rr27008.b = some cb ∧ RSub Tryd.rows Tryd.rr27008 :=
  ⟨Sx.Tryd.ra27008, Sx.Tryd.rb27008, by kernel_rfl, by kernel_rfl, by kernel_rfl, Tryd.rs27008⟩
theorem Tryd.rs29013 : RSub Tryd.rows Tryd.rr29013 := RSub.of [([17], Tryd.rr29017.a, Tryd.rr29017.b)] (by kernel_rfl) (fun q hq id hid => by
  rcases List.mem_singleton.1 hq with rfl
  cases hid
  exact ⟨Tryd.rr29017, by simp [Tryd.rows], rfl, rfl, rfl, rfl, rfl⟩)
theorem Tryd.rk29013 : ∃ ca cb, lFind Sx.Tryd.rt Tryd.rr29013.id = some (ca, cb) ∧ cCode Sx.Tryd.tt.get Tryd.rr29013.n Tryd.rr29013.keep Tryd.rr29013.fid Tryd.rr29013.a = some ca ∧ cCode Sx.Tryd.tt.get Tryd.rr29013.n Tryd.rr29013.keep Tryd.rr29013.fid Tryd.rr29013.b = some cb ∧ RSub Tryd.rows Tryd.rr29013 :=
  ⟨Sx.Tryd.ra29013, Sx.Tryd.rb29013, by kernel_rfl, by kernel_rfl, by kernel_rfl, Tryd.rs29013⟩
theorem Tryd.rs29017 : RSub Tryd.rows Tryd.rr29017 := RSub.of [] (by kernel_rfl) (fun q hq => by cases hq)
theorem Tryd.rk29017 : ∃ ca cb, lFind Sx.Tryd.rt Tryd.rr29017.id = some (ca, cb) ∧ cCode Sx.Tryd.tt.get Tryd.rr29017.n Tryd.rr29017.keep Tryd.rr29017.fid Tryd.rr29017.a = some ca ∧ cCode Sx.Tryd.tt.get Tryd.rr29017.n Tryd.rr29017.keep Tryd.rr29017.fid Tryd.rr29017.b = some cb ∧ RSub Tryd.rows Tryd.rr29017 :=
  ⟨Sx.Tryd.ra29017, Sx.Tryd.rb29017, by kernel_rfl, by kernel_rfl, by kernel_rfl, Tryd.rs29017⟩
theorem Tryd.rs33011 : RSub Tryd.rows Tryd.rr33011 := RSub.of [([15], Tryd.rr33015.a, Tryd.rr33015.b)] (by kernel_rfl) (fun q hq id hid => by
  rcases List.mem_singleton.1 hq with rfl
  cases hid
  exact ⟨Tryd.rr33015, by simp [Tryd.rows], rfl, rfl, rfl, rfl, rfl⟩)
theorem Tryd.rk33011 : ∃ ca cb, lFind Sx.Tryd.rt Tryd.rr33011.id = some (ca, cb) ∧ cCode Sx.Tryd.tt.get Tryd.rr33011.n Tryd.rr33011.keep Tryd.rr33011.fid Tryd.rr33011.a = some ca ∧ cCode Sx.Tryd.tt.get Tryd.rr33011.n Tryd.rr33011.keep Tryd.rr33011.fid Tryd.rr33011.b = some cb ∧ RSub Tryd.rows Tryd.rr33011 :=
  ⟨Sx.Tryd.ra33011, Sx.Tryd.rb33011, by kernel_rfl, by kernel_rfl, by kernel_rfl, Tryd.rs33011⟩
theorem Tryd.rs33015 : RSub Tryd.rows Tryd.rr33015 := RSub.of [] (by kernel_rfl) (fun q hq => by cases hq)
theorem Tryd.rk33015 : ∃ ca cb, lFind Sx.Tryd.rt Tryd.rr33015.id = some (ca, cb) ∧ cCode Sx.Tryd.tt.get Tryd.rr33015.n Tryd.rr33015.keep Tryd.rr33015.fid Tryd.rr33015.a = some ca ∧ cCode Sx.Tryd.tt.get Tryd.rr33015.n Tryd.rr33015.keep Tryd.rr33015.fid Tryd.rr33015.b = some cb ∧ RSub Tryd.rows Tryd.rr33015 :=
  ⟨Sx.Tryd.ra33015, Sx.Tryd.rb33015, by kernel_rfl, by kernel_rfl, by kernel_rfl, Tryd.rs33015⟩
theorem Tryd.rs54008 : RSub Tryd.rows Tryd.rr54008 := RSub.of [] (by kernel_rfl) (fun q hq => by cases hq)
theorem Tryd.rk54008 : ∃ ca cb, lFind Sx.Tryd.rt Tryd.rr54008.id = some (ca, cb) ∧ cCode Sx.Tryd.tt.get Tryd.rr54008.n Tryd.rr54008.keep Tryd.rr54008.fid Tryd.rr54008.a = some ca ∧ cCode Sx.Tryd.tt.get Tryd.rr54008.n Tryd.rr54008.keep Tryd.rr54008.fid Tryd.rr54008.b = some cb ∧ RSub Tryd.rows Tryd.rr54008 :=
  ⟨Sx.Tryd.ra54008, Sx.Tryd.rb54008, by kernel_rfl, by kernel_rfl, by kernel_rfl, Tryd.rs54008⟩
theorem Tryd.rs65039 : RSub Tryd.rows Tryd.rr65039 := RSub.of [] (by kernel_rfl) (fun q hq => by cases hq)
theorem Tryd.rk65039 : ∃ ca cb, lFind Sx.Tryd.rt Tryd.rr65039.id = some (ca, cb) ∧ cCode Sx.Tryd.tt.get Tryd.rr65039.n Tryd.rr65039.keep Tryd.rr65039.fid Tryd.rr65039.a = some ca ∧ cCode Sx.Tryd.tt.get Tryd.rr65039.n Tryd.rr65039.keep Tryd.rr65039.fid Tryd.rr65039.b = some cb ∧ RSub Tryd.rows Tryd.rr65039 :=
  ⟨Sx.Tryd.ra65039, Sx.Tryd.rb65039, by kernel_rfl, by kernel_rfl, by kernel_rfl, Tryd.rs65039⟩
theorem Tryd.rs71006 : RSub Tryd.rows Tryd.rr71006 := RSub.of [] (by kernel_rfl) (fun q hq => by cases hq)
theorem Tryd.rk71006 : ∃ ca cb, lFind Sx.Tryd.rt Tryd.rr71006.id = some (ca, cb) ∧ cCode Sx.Tryd.tt.get Tryd.rr71006.n Tryd.rr71006.keep Tryd.rr71006.fid Tryd.rr71006.a = some ca ∧ cCode Sx.Tryd.tt.get Tryd.rr71006.n Tryd.rr71006.keep Tryd.rr71006.fid Tryd.rr71006.b = some cb ∧ RSub Tryd.rows Tryd.rr71006 :=
  ⟨Sx.Tryd.ra71006, Sx.Tryd.rb71006, by kernel_rfl, by kernel_rfl, by kernel_rfl, Tryd.rs71006⟩
theorem Tryd.rs75007 : RSub Tryd.rows Tryd.rr75007 := RSub.of [([11], Tryd.rr75011.a, Tryd.rr75011.b)] (by kernel_rfl) (fun q hq id hid => by
  rcases List.mem_singleton.1 hq with rfl
  cases hid
  exact ⟨Tryd.rr75011, by simp [Tryd.rows], rfl, rfl, rfl, rfl, rfl⟩)
theorem Tryd.rk75007 : ∃ ca cb, lFind Sx.Tryd.rt Tryd.rr75007.id = some (ca, cb) ∧ cCode Sx.Tryd.tt.get Tryd.rr75007.n Tryd.rr75007.keep Tryd.rr75007.fid Tryd.rr75007.a = some ca ∧ cCode Sx.Tryd.tt.get Tryd.rr75007.n Tryd.rr75007.keep Tryd.rr75007.fid Tryd.rr75007.b = some cb ∧ RSub Tryd.rows Tryd.rr75007 :=
  ⟨Sx.Tryd.ra75007, Sx.Tryd.rb75007, by kernel_rfl, by kernel_rfl, by kernel_rfl, Tryd.rs75007⟩
theorem Tryd.rs75011 : RSub Tryd.rows Tryd.rr75011 := RSub.of [] (by kernel_rfl) (fun q hq => by cases hq)
theorem Tryd.rk75011 : ∃ ca cb, lFind Sx.Tryd.rt Tryd.rr75011.id = some (ca, cb) ∧ cCode Sx.Tryd.tt.get Tryd.rr75011.n Tryd.rr75011.keep Tryd.rr75011.fid Tryd.rr75011.a = some ca ∧ cCode Sx.Tryd.tt.get Tryd.rr75011.n Tryd.rr75011.keep Tryd.rr75011.fid Tryd.rr75011.b = some cb ∧ RSub Tryd.rows Tryd.rr75011 :=
  ⟨Sx.Tryd.ra75011, Sx.Tryd.rb75011, by kernel_rfl, by kernel_rfl, by kernel_rfl, Tryd.rs75011⟩
theorem Tryd.rs81006 : RSub Tryd.rows Tryd.rr81006 := RSub.of [] (by kernel_rfl) (fun q hq => by cases hq)
theorem Tryd.rk81006 : ∃ ca cb, lFind Sx.Tryd.rt Tryd.rr81006.id = some (ca, cb) ∧ cCode Sx.Tryd.tt.get Tryd.rr81006.n Tryd.rr81006.keep Tryd.rr81006.fid Tryd.rr81006.a = some ca ∧ cCode Sx.Tryd.tt.get Tryd.rr81006.n Tryd.rr81006.keep Tryd.rr81006.fid Tryd.rr81006.b = some cb ∧ RSub Tryd.rows Tryd.rr81006 :=
  ⟨Sx.Tryd.ra81006, Sx.Tryd.rb81006, by kernel_rfl, by kernel_rfl, by kernel_rfl, Tryd.rs81006⟩
theorem Tryd.rks : ∀ r ∈ Tryd.rows, ∃ ca cb, lFind Sx.Tryd.rt r.id = some (ca, cb) ∧ cCode Sx.Tryd.tt.get r.n r.keep r.fid r.a = some ca ∧ cCode Sx.Tryd.tt.get r.n r.keep r.fid r.b = some cb ∧ RSub Tryd.rows r := by
  intro r hr
  simp only [Tryd.rows, List.mem_cons, List.not_mem_nil, or_false] at hr
  rcases hr with rfl | rfl | rfl | rfl | rfl | rfl | rfl | rfl | rfl | rfl | rfl | rfl | rfl | rfl | rfl
  · exact Tryd.rk21065
  · exact Tryd.rk22008
  · exact Tryd.rk23008
  · exact Tryd.rk24004
  · exact Tryd.rk27008
  · exact Tryd.rk29013
  · exact Tryd.rk29017
  · exact Tryd.rk33011
  · exact Tryd.rk33015
  · exact Tryd.rk54008
  · exact Tryd.rk65039
  · exact Tryd.rk71006
  · exact Tryd.rk75007
  · exact Tryd.rk75011
  · exact Tryd.rk81006
/-- THE SEAT's TABLES. -/
theorem Tryd.tab {ok : Rho → (Nat → Obj → Prop) → Prop} (orc : FuncId → List AV → Heap → Option (T (AV × Heap))) (ho : ∀ f args h t, orc f args h = some t → CallOk ⟨Tryd.prog, rcOf Tryd.rows, ok⟩ f args h t) (loops : Nat) :
    TabOk ⟨Tryd.prog, rcOf Tryd.rows, ok⟩ Sx.Tryd.tt.get ⟨Sx.Tryd.ft.get, lFind Sx.Tryd.rt, loops, orc⟩ :=
  tabOk_of (Checked.mixed Tryd.checked) Tryd.tyks Tryd.fks Tryd.rks ho
end Go.Sx
