/- THE FUNCTIONS' ROWS. -/
import Derived.Test.YtegeacnehkpinaaDoorTabTy
/-! THE FUNCTIONS' ROWS. -/
namespace Go.Sx
open Go.Proofs
set_option maxRecDepth 100000
noncomputable def Tryd.rr55021 : RRow := ⟨55021, 55, Tryd.f55.ntmps, Sx.Tryd.kp55, (firstR (ranges (bodyOf Tryd.f55))).1, (firstR (ranges (bodyOf Tryd.f55))).2⟩
noncomputable def Tryd.rr55033 : RRow := ⟨55033, 55, Tryd.f55.ntmps, Sx.Tryd.kp55, (firstR ((ranges (bodyOf Tryd.f55)).drop 1)).1, (firstR ((ranges (bodyOf Tryd.f55)).drop 1)).2⟩
noncomputable def Tryd.rr61017 : RRow := ⟨61017, 61, Tryd.f61.ntmps, Sx.Tryd.kp61, (firstR (ranges (bodyOf Tryd.f61))).1, (firstR (ranges (bodyOf Tryd.f61))).2⟩
noncomputable def Tryd.rr100040 : RRow := ⟨100040, 100, Tryd.f100.ntmps, Sx.Tryd.kp100, (firstR (ranges (bodyOf Tryd.f100))).1, (firstR (ranges (bodyOf Tryd.f100))).2⟩
noncomputable def Tryd.rows : List RRow := [Tryd.rr55021, Tryd.rr55033, Tryd.rr61017, Tryd.rr100040]
theorem Tryd.fk13 : FRow ⟨Tryd.prog, rcOf Tryd.rows⟩ Sx.Tryd.tt.get 13 Sx.Tryd.cf13 := FRow.plain Sx.Tryd.kp13 (bodyOf Tryd.f13) Tryd.func13 (by kernel_rfl) (by kernel_rfl) (by kernel_rfl) [] (by kernel_rfl) (fun q hq => by cases hq)
theorem Tryd.fk14 : FRow ⟨Tryd.prog, rcOf Tryd.rows⟩ Sx.Tryd.tt.get 14 Sx.Tryd.cf14 := FRow.plain Sx.Tryd.kp14 (bodyOf Tryd.f14) Tryd.func14 (by kernel_rfl) (by kernel_rfl) (by kernel_rfl) [] (by kernel_rfl) (fun q hq => by cases hq)
theorem Tryd.fk16 : FRow ⟨Tryd.prog, rcOf Tryd.rows⟩ Sx.Tryd.tt.get 16 Sx.Tryd.cf16 := FRow.plain Sx.Tryd.kp16 (bodyOf Tryd.f16) Tryd.func16 (by kernel_rfl) (by kernel_rfl) (by kernel_rfl) [] (by kernel_rfl) (fun q hq => by cases hq)
theorem Tryd.fk18 : FRow ⟨Tryd.prog, rcOf Tryd.rows⟩ Sx.Tryd.tt.get 18 Sx.Tryd.cf18 := FRow.plain Sx.Tryd.kp18 (bodyOf Tryd.f18) Tryd.func18 (by kernel_rfl) (by kernel_rfl) (by kernel_rfl) [] (by kernel_rfl) (fun q hq => by cases hq)
theorem Tryd.fk20 : FRow ⟨Tryd.prog, rcOf Tryd.rows⟩ Sx.Tryd.tt.get 20 Sx.Tryd.cf20 := FRow.plain Sx.Tryd.kp20 (bodyOf Tryd.f20) Tryd.func20 (by kernel_rfl) (by kernel_rfl) (by kernel_rfl) [] (by kernel_rfl) (fun q hq => by cases hq)
theorem Tryd.fk21 : FRow ⟨Tryd.prog, rcOf Tryd.rows⟩ Sx.Tryd.tt.get 21 Sx.Tryd.cf21 := FRow.plain Sx.Tryd.kp21 (bodyOf Tryd.f21) Tryd.func21 (by kernel_rfl) (by kernel_rfl) (by kernel_rfl) [] (by kernel_rfl) (fun q hq => by cases hq)
theorem Tryd.fk23 : FRow ⟨Tryd.prog, rcOf Tryd.rows⟩ Sx.Tryd.tt.get 23 Sx.Tryd.cf23 := FRow.plain Sx.Tryd.kp23 (bodyOf Tryd.f23) Tryd.func23 (by kernel_rfl) (by kernel_rfl) (by kernel_rfl) [] (by kernel_rfl) (fun q hq => by cases hq)
theorem Tryd.fk25 : FRow ⟨Tryd.prog, rcOf Tryd.rows⟩ Sx.Tryd.tt.get 25 Sx.Tryd.cf25 := FRow.plain Sx.Tryd.kp25 (bodyOf Tryd.f25) Tryd.func25 (by kernel_rfl) (by kernel_rfl) (by kernel_rfl) [] (by kernel_rfl) (fun q hq => by cases hq)
theorem Tryd.fk26 : FRow ⟨Tryd.prog, rcOf Tryd.rows⟩ Sx.Tryd.tt.get 26 Sx.Tryd.cf26 := FRow.plain Sx.Tryd.kp26 (bodyOf Tryd.f26) Tryd.func26 (by kernel_rfl) (by kernel_rfl) (by kernel_rfl) [] (by kernel_rfl) (fun q hq => by cases hq)
theorem Tryd.fk28 : FRow ⟨Tryd.prog, rcOf Tryd.rows⟩ Sx.Tryd.tt.get 28 Sx.Tryd.cf28 := FRow.plain Sx.Tryd.kp28 (bodyOf Tryd.f28) Tryd.func28 (by kernel_rfl) (by kernel_rfl) (by kernel_rfl) [] (by kernel_rfl) (fun q hq => by cases hq)
theorem Tryd.fk30 : FRow ⟨Tryd.prog, rcOf Tryd.rows⟩ Sx.Tryd.tt.get 30 Sx.Tryd.cf30 := FRow.plain Sx.Tryd.kp30 (bodyOf Tryd.f30) Tryd.func30 (by kernel_rfl) (by kernel_rfl) (by kernel_rfl) [] (by kernel_rfl) (fun q hq => by cases hq)
theorem Tryd.fk40 : FRow ⟨Tryd.prog, rcOf Tryd.rows⟩ Sx.Tryd.tt.get 40 Sx.Tryd.cf40 := FRow.plain Sx.Tryd.kp40 (bodyOf Tryd.f40) Tryd.func40 (by kernel_rfl) (by kernel_rfl) (by kernel_rfl) [] (by kernel_rfl) (fun q hq => by cases hq)
theorem Tryd.fk45 : FRow ⟨Tryd.prog, rcOf Tryd.rows⟩ Sx.Tryd.tt.get 45 Sx.Tryd.cf45 := FRow.plain Sx.Tryd.kp45 (bodyOf Tryd.f45) Tryd.func45 (by kernel_rfl) (by kernel_rfl) (by kernel_rfl) [] (by kernel_rfl) (fun q hq => by cases hq)
theorem Tryd.fk46 : FRow ⟨Tryd.prog, rcOf Tryd.rows⟩ Sx.Tryd.tt.get 46 Sx.Tryd.cf46 := FRow.plain Sx.Tryd.kp46 (bodyOf Tryd.f46) Tryd.func46 (by kernel_rfl) (by kernel_rfl) (by kernel_rfl) [] (by kernel_rfl) (fun q hq => by cases hq)
theorem Tryd.fk47 : FRow ⟨Tryd.prog, rcOf Tryd.rows⟩ Sx.Tryd.tt.get 47 Sx.Tryd.cf47 := FRow.plain Sx.Tryd.kp47 (bodyOf Tryd.f47) Tryd.func47 (by kernel_rfl) (by kernel_rfl) (by kernel_rfl) [] (by kernel_rfl) (fun q hq => by cases hq)
theorem Tryd.fk48 : FRow ⟨Tryd.prog, rcOf Tryd.rows⟩ Sx.Tryd.tt.get 48 Sx.Tryd.cf48 := FRow.plain Sx.Tryd.kp48 (bodyOf Tryd.f48) Tryd.func48 (by kernel_rfl) (by kernel_rfl) (by kernel_rfl) [] (by kernel_rfl) (fun q hq => by cases hq)
theorem Tryd.fk49 : FRow ⟨Tryd.prog, rcOf Tryd.rows⟩ Sx.Tryd.tt.get 49 Sx.Tryd.cf49 := FRow.plain Sx.Tryd.kp49 (bodyOf Tryd.f49) Tryd.func49 (by kernel_rfl) (by kernel_rfl) (by kernel_rfl) [] (by kernel_rfl) (fun q hq => by cases hq)
theorem Tryd.fk50 : FRow ⟨Tryd.prog, rcOf Tryd.rows⟩ Sx.Tryd.tt.get 50 Sx.Tryd.cf50 := FRow.plain Sx.Tryd.kp50 (bodyOf Tryd.f50) Tryd.func50 (by kernel_rfl) (by kernel_rfl) (by kernel_rfl) [] (by kernel_rfl) (fun q hq => by cases hq)
theorem Tryd.fk51 : FRow ⟨Tryd.prog, rcOf Tryd.rows⟩ Sx.Tryd.tt.get 51 Sx.Tryd.cf51 := FRow.plain Sx.Tryd.kp51 (bodyOf Tryd.f51) Tryd.func51 (by kernel_rfl) (by kernel_rfl) (by kernel_rfl) [] (by kernel_rfl) (fun q hq => by cases hq)
theorem Tryd.fk53 : FRow ⟨Tryd.prog, rcOf Tryd.rows⟩ Sx.Tryd.tt.get 53 Sx.Tryd.cf53 := FRow.plain Sx.Tryd.kp53 (bodyOf Tryd.f53) Tryd.func53 (by kernel_rfl) (by kernel_rfl) (by kernel_rfl) [] (by kernel_rfl) (fun q hq => by cases hq)
theorem Tryd.fk54 : FRow ⟨Tryd.prog, rcOf Tryd.rows⟩ Sx.Tryd.tt.get 54 Sx.Tryd.cf54 := FRow.plain Sx.Tryd.kp54 (bodyOf Tryd.f54) Tryd.func54 (by kernel_rfl) (by kernel_rfl) (by kernel_rfl) [] (by kernel_rfl) (fun q hq => by cases hq)
theorem Tryd.fk55 : FRow ⟨Tryd.prog, rcOf Tryd.rows⟩ Sx.Tryd.tt.get 55 Sx.Tryd.cf55 := FRow.plain Sx.Tryd.kp55 (bodyOf Tryd.f55) Tryd.func55 (by kernel_rfl) (by kernel_rfl) (by kernel_rfl) [([21], Tryd.rr55021.a, Tryd.rr55021.b), ([33], Tryd.rr55033.a, Tryd.rr55033.b)] (by kernel_rfl) (fun q hq id hid => by
  rcases List.mem_cons.1 hq with rfl | hq
  · cases hid
    exact ⟨Tryd.rr55021, by simp [Tryd.rows], rfl, rfl, rfl, rfl, rfl⟩
  rcases List.mem_singleton.1 hq with rfl
  cases hid
  exact ⟨Tryd.rr55033, by simp [Tryd.rows], rfl, rfl, rfl, rfl, rfl⟩)
theorem Tryd.fk61 : FRow ⟨Tryd.prog, rcOf Tryd.rows⟩ Sx.Tryd.tt.get 61 Sx.Tryd.cf61 := FRow.plain Sx.Tryd.kp61 (bodyOf Tryd.f61) Tryd.func61 (by kernel_rfl) (by kernel_rfl) (by kernel_rfl) [([17], Tryd.rr61017.a, Tryd.rr61017.b)] (by kernel_rfl) (fun q hq id hid => by
  rcases List.mem_singleton.1 hq with rfl
  cases hid
  exact ⟨Tryd.rr61017, by simp [Tryd.rows], rfl, rfl, rfl, rfl, rfl⟩)
theorem Tryd.fk63 : FRow ⟨Tryd.prog, rcOf Tryd.rows⟩ Sx.Tryd.tt.get 63 Sx.Tryd.cf63 := FRow.plain Sx.Tryd.kp63 (bodyOf Tryd.f63) Tryd.func63 (by kernel_rfl) (by kernel_rfl) (by kernel_rfl) [] (by kernel_rfl) (fun q hq => by cases hq)
theorem Tryd.fk65 : FRow ⟨Tryd.prog, rcOf Tryd.rows⟩ Sx.Tryd.tt.get 65 Sx.Tryd.cf65 := FRow.plain Sx.Tryd.kp65 (bodyOf Tryd.f65) Tryd.func65 (by kernel_rfl) (by kernel_rfl) (by kernel_rfl) [] (by kernel_rfl) (fun q hq => by cases hq)
theorem Tryd.fk66 : FRow ⟨Tryd.prog, rcOf Tryd.rows⟩ Sx.Tryd.tt.get 66 Sx.Tryd.cf66 := FRow.plain Sx.Tryd.kp66 (bodyOf Tryd.f66) Tryd.func66 (by kernel_rfl) (by kernel_rfl) (by kernel_rfl) [] (by kernel_rfl) (fun q hq => by cases hq)
theorem Tryd.fk68 : FRow ⟨Tryd.prog, rcOf Tryd.rows⟩ Sx.Tryd.tt.get 68 Sx.Tryd.cf68 := FRow.plain Sx.Tryd.kp68 (bodyOf Tryd.f68) Tryd.func68 (by kernel_rfl) (by kernel_rfl) (by kernel_rfl) [] (by kernel_rfl) (fun q hq => by cases hq)
theorem Tryd.fk70 : FRow ⟨Tryd.prog, rcOf Tryd.rows⟩ Sx.Tryd.tt.get 70 Sx.Tryd.cf70 := FRow.plain Sx.Tryd.kp70 (bodyOf Tryd.f70) Tryd.func70 (by kernel_rfl) (by kernel_rfl) (by kernel_rfl) [] (by kernel_rfl) (fun q hq => by cases hq)
theorem Tryd.fk71 : FRow ⟨Tryd.prog, rcOf Tryd.rows⟩ Sx.Tryd.tt.get 71 Sx.Tryd.cf71 := FRow.plain Sx.Tryd.kp71 (bodyOf Tryd.f71) Tryd.func71 (by kernel_rfl) (by kernel_rfl) (by kernel_rfl) [] (by kernel_rfl) (fun q hq => by cases hq)
theorem Tryd.fk76 : FRow ⟨Tryd.prog, rcOf Tryd.rows⟩ Sx.Tryd.tt.get 76 Sx.Tryd.cf76 := FRow.plain Sx.Tryd.kp76 (bodyOf Tryd.f76) Tryd.func76 (by kernel_rfl) (by kernel_rfl) (by kernel_rfl) [] (by kernel_rfl) (fun q hq => by cases hq)
theorem Tryd.fk77 : FRow ⟨Tryd.prog, rcOf Tryd.rows⟩ Sx.Tryd.tt.get 77 Sx.Tryd.cf77 := FRow.plain Sx.Tryd.kp77 (bodyOf Tryd.f77) Tryd.func77 (by kernel_rfl) (by kernel_rfl) (by kernel_rfl) [] (by kernel_rfl) (fun q hq => by cases hq)
theorem Tryd.fk78 : FRow ⟨Tryd.prog, rcOf Tryd.rows⟩ Sx.Tryd.tt.get 78 Sx.Tryd.cf78 := FRow.plain Sx.Tryd.kp78 (bodyOf Tryd.f78) Tryd.func78 (by kernel_rfl) (by kernel_rfl) (by kernel_rfl) [] (by kernel_rfl) (fun q hq => by cases hq)
theorem Tryd.fk79 : FRow ⟨Tryd.prog, rcOf Tryd.rows⟩ Sx.Tryd.tt.get 79 Sx.Tryd.cf79 := FRow.plain Sx.Tryd.kp79 (bodyOf Tryd.f79) Tryd.func79 (by kernel_rfl) (by kernel_rfl) (by kernel_rfl) [] (by kernel_rfl) (fun q hq => by cases hq)
theorem Tryd.fk80 : FRow ⟨Tryd.prog, rcOf Tryd.rows⟩ Sx.Tryd.tt.get 80 Sx.Tryd.cf80 := FRow.plain Sx.Tryd.kp80 (bodyOf Tryd.f80) Tryd.func80 (by kernel_rfl) (by kernel_rfl) (by kernel_rfl) [] (by kernel_rfl) (fun q hq => by cases hq)
theorem Tryd.fk81 : FRow ⟨Tryd.prog, rcOf Tryd.rows⟩ Sx.Tryd.tt.get 81 Sx.Tryd.cf81 := FRow.plain Sx.Tryd.kp81 (bodyOf Tryd.f81) Tryd.func81 (by kernel_rfl) (by kernel_rfl) (by kernel_rfl) [] (by kernel_rfl) (fun q hq => by cases hq)
theorem Tryd.fk82 : FRow ⟨Tryd.prog, rcOf Tryd.rows⟩ Sx.Tryd.tt.get 82 Sx.Tryd.cf82 := FRow.plain Sx.Tryd.kp82 (bodyOf Tryd.f82) Tryd.func82 (by kernel_rfl) (by kernel_rfl) (by kernel_rfl) [] (by kernel_rfl) (fun q hq => by cases hq)
theorem Tryd.fk83 : FRow ⟨Tryd.prog, rcOf Tryd.rows⟩ Sx.Tryd.tt.get 83 Sx.Tryd.cf83 := FRow.plain Sx.Tryd.kp83 (bodyOf Tryd.f83) Tryd.func83 (by kernel_rfl) (by kernel_rfl) (by kernel_rfl) [] (by kernel_rfl) (fun q hq => by cases hq)
theorem Tryd.fk85 : FRow ⟨Tryd.prog, rcOf Tryd.rows⟩ Sx.Tryd.tt.get 85 Sx.Tryd.cf85 := FRow.plain Sx.Tryd.kp85 (bodyOf Tryd.f85) Tryd.func85 (by kernel_rfl) (by kernel_rfl) (by kernel_rfl) [] (by kernel_rfl) (fun q hq => by cases hq)
theorem Tryd.fk86 : FRow ⟨Tryd.prog, rcOf Tryd.rows⟩ Sx.Tryd.tt.get 86 Sx.Tryd.cf86 := FRow.plain Sx.Tryd.kp86 (bodyOf Tryd.f86) Tryd.func86 (by kernel_rfl) (by kernel_rfl) (by kernel_rfl) [] (by kernel_rfl) (fun q hq => by cases hq)
theorem Tryd.fk87 : FRow ⟨Tryd.prog, rcOf Tryd.rows⟩ Sx.Tryd.tt.get 87 Sx.Tryd.cf87 := FRow.plain Sx.Tryd.kp87 (bodyOf Tryd.f87) Tryd.func87 (by kernel_rfl) (by kernel_rfl) (by kernel_rfl) [] (by kernel_rfl) (fun q hq => by cases hq)
theorem Tryd.fk89 : FRow ⟨Tryd.prog, rcOf Tryd.rows⟩ Sx.Tryd.tt.get 89 Sx.Tryd.cf89 := FRow.plain Sx.Tryd.kp89 (bodyOf Tryd.f89) Tryd.func89 (by kernel_rfl) (by kernel_rfl) (by kernel_rfl) [] (by kernel_rfl) (fun q hq => by cases hq)
theorem Tryd.fk90 : FRow ⟨Tryd.prog, rcOf Tryd.rows⟩ Sx.Tryd.tt.get 90 Sx.Tryd.cf90 := FRow.plain Sx.Tryd.kp90 (bodyOf Tryd.f90) Tryd.func90 (by kernel_rfl) (by kernel_rfl) (by kernel_rfl) [] (by kernel_rfl) (fun q hq => by cases hq)
theorem Tryd.fk91 : FRow ⟨Tryd.prog, rcOf Tryd.rows⟩ Sx.Tryd.tt.get 91 Sx.Tryd.cf91 := FRow.plain Sx.Tryd.kp91 (bodyOf Tryd.f91) Tryd.func91 (by kernel_rfl) (by kernel_rfl) (by kernel_rfl) [] (by kernel_rfl) (fun q hq => by cases hq)
theorem Tryd.fk93 : FRow ⟨Tryd.prog, rcOf Tryd.rows⟩ Sx.Tryd.tt.get 93 Sx.Tryd.cf93 := FRow.plain Sx.Tryd.kp93 (bodyOf Tryd.f93) Tryd.func93 (by kernel_rfl) (by kernel_rfl) (by kernel_rfl) [] (by kernel_rfl) (fun q hq => by cases hq)
theorem Tryd.fk94 : FRow ⟨Tryd.prog, rcOf Tryd.rows⟩ Sx.Tryd.tt.get 94 Sx.Tryd.cf94 := FRow.plain Sx.Tryd.kp94 (bodyOf Tryd.f94) Tryd.func94 (by kernel_rfl) (by kernel_rfl) (by kernel_rfl) [] (by kernel_rfl) (fun q hq => by cases hq)
theorem Tryd.fk95 : FRow ⟨Tryd.prog, rcOf Tryd.rows⟩ Sx.Tryd.tt.get 95 Sx.Tryd.cf95 := FRow.plain Sx.Tryd.kp95 (bodyOf Tryd.f95) Tryd.func95 (by kernel_rfl) (by kernel_rfl) (by kernel_rfl) [] (by kernel_rfl) (fun q hq => by cases hq)
theorem Tryd.fk96 : FRow ⟨Tryd.prog, rcOf Tryd.rows⟩ Sx.Tryd.tt.get 96 Sx.Tryd.cf96 := FRow.plain Sx.Tryd.kp96 (bodyOf Tryd.f96) Tryd.func96 (by kernel_rfl) (by kernel_rfl) (by kernel_rfl) [] (by kernel_rfl) (fun q hq => by cases hq)
theorem Tryd.fk97 : FRow ⟨Tryd.prog, rcOf Tryd.rows⟩ Sx.Tryd.tt.get 97 Sx.Tryd.cf97 := FRow.plain Sx.Tryd.kp97 (bodyOf Tryd.f97) Tryd.func97 (by kernel_rfl) (by kernel_rfl) (by kernel_rfl) [] (by kernel_rfl) (fun q hq => by cases hq)
theorem Tryd.fk98 : FRow ⟨Tryd.prog, rcOf Tryd.rows⟩ Sx.Tryd.tt.get 98 Sx.Tryd.cf98 := FRow.plain Sx.Tryd.kp98 (bodyOf Tryd.f98) Tryd.func98 (by kernel_rfl) (by kernel_rfl) (by kernel_rfl) [] (by kernel_rfl) (fun q hq => by cases hq)
theorem Tryd.fk99 : FRow ⟨Tryd.prog, rcOf Tryd.rows⟩ Sx.Tryd.tt.get 99 Sx.Tryd.cf99 := FRow.plain Sx.Tryd.kp99 (bodyOf Tryd.f99) Tryd.func99 (by kernel_rfl) (by kernel_rfl) (by kernel_rfl) [] (by kernel_rfl) (fun q hq => by cases hq)
theorem Tryd.fk100 : FRow ⟨Tryd.prog, rcOf Tryd.rows⟩ Sx.Tryd.tt.get 100 Sx.Tryd.cf100 := FRow.plain Sx.Tryd.kp100 (bodyOf Tryd.f100) Tryd.func100 (by kernel_rfl) (by kernel_rfl) (by kernel_rfl) [([40], Tryd.rr100040.a, Tryd.rr100040.b)] (by kernel_rfl) (fun q hq id hid => by
  rcases List.mem_singleton.1 hq with rfl
  cases hid
  exact ⟨Tryd.rr100040, by simp [Tryd.rows], rfl, rfl, rfl, rfl, rfl⟩)
theorem Tryd.fk101 : FRow ⟨Tryd.prog, rcOf Tryd.rows⟩ Sx.Tryd.tt.get 101 Sx.Tryd.cf101 := FRow.plain Sx.Tryd.kp101 (bodyOf Tryd.f101) Tryd.func101 (by kernel_rfl) (by kernel_rfl) (by kernel_rfl) [] (by kernel_rfl) (fun q hq => by cases hq)
theorem Tryd.fk103 : FRow ⟨Tryd.prog, rcOf Tryd.rows⟩ Sx.Tryd.tt.get 103 Sx.Tryd.cf103 := FRow.plain Sx.Tryd.kp103 (bodyOf Tryd.f103) Tryd.func103 (by kernel_rfl) (by kernel_rfl) (by kernel_rfl) [] (by kernel_rfl) (fun q hq => by cases hq)
theorem Tryd.fk104 : FRow ⟨Tryd.prog, rcOf Tryd.rows⟩ Sx.Tryd.tt.get 104 Sx.Tryd.cf104 := FRow.plain Sx.Tryd.kp104 (bodyOf Tryd.f104) Tryd.func104 (by kernel_rfl) (by kernel_rfl) (by kernel_rfl) [] (by kernel_rfl) (fun q hq => by cases hq)
theorem Tryd.fk105 : FRow ⟨Tryd.prog, rcOf Tryd.rows⟩ Sx.Tryd.tt.get 105 Sx.Tryd.cf105 := FRow.plain Sx.Tryd.kp105 (bodyOf Tryd.f105) Tryd.func105 (by kernel_rfl) (by kernel_rfl) (by kernel_rfl) [] (by kernel_rfl) (fun q hq => by cases hq)
theorem Tryd.fks : Sx.Tryd.ft.Every (FRow ⟨Tryd.prog, rcOf Tryd.rows⟩ Sx.Tryd.tt.get) := ⟨ev0, ⟨ev0, ⟨ev0, ⟨ev0, ⟨ev0, ⟨ev0, ⟨ev1 Tryd.fk63, trivial, trivial⟩, ⟨ev1 Tryd.fk95, trivial, trivial⟩⟩, ⟨ev1 Tryd.fk47, ⟨ev1 Tryd.fk79, trivial, trivial⟩, trivial⟩⟩, ⟨ev1 Tryd.fk23, ⟨ev0, ⟨ev1 Tryd.fk71, trivial, trivial⟩, ⟨ev1 Tryd.fk103, trivial, trivial⟩⟩, ⟨ev1 Tryd.fk55, ⟨ev1 Tryd.fk87, trivial, trivial⟩, trivial⟩⟩⟩, ⟨ev0, ⟨ev0, ⟨ev0, trivial, ⟨ev1 Tryd.fk99, trivial, trivial⟩⟩, ⟨ev1 Tryd.fk51, ⟨ev1 Tryd.fk83, trivial, trivial⟩, trivial⟩⟩, ⟨ev0, trivial, ⟨ev0, ⟨ev1 Tryd.fk91, trivial, trivial⟩, trivial⟩⟩⟩⟩, ⟨ev0, ⟨ev0, ⟨ev0, ⟨ev0, ⟨ev1 Tryd.fk65, trivial, trivial⟩, ⟨ev1 Tryd.fk97, trivial, trivial⟩⟩, ⟨ev1 Tryd.fk49, ⟨ev1 Tryd.fk81, trivial, trivial⟩, trivial⟩⟩, ⟨ev1 Tryd.fk25, ⟨ev0, trivial, ⟨ev1 Tryd.fk105, trivial, trivial⟩⟩, ⟨ev0, ⟨ev1 Tryd.fk89, trivial, trivial⟩, trivial⟩⟩⟩, ⟨ev1 Tryd.fk13, ⟨ev1 Tryd.fk21, ⟨ev0, trivial, ⟨ev1 Tryd.fk101, trivial, trivial⟩⟩, ⟨ev1 Tryd.fk53, ⟨ev1 Tryd.fk85, trivial, trivial⟩, trivial⟩⟩, ⟨ev0, ⟨ev1 Tryd.fk45, ⟨ev1 Tryd.fk77, trivial, trivial⟩, trivial⟩, ⟨ev1 Tryd.fk61, ⟨ev1 Tryd.fk93, trivial, trivial⟩, trivial⟩⟩⟩⟩⟩, ⟨ev0, ⟨ev0, ⟨ev0, ⟨ev1 Tryd.fk16, ⟨ev0, trivial, ⟨ev1 Tryd.fk96, trivial, trivial⟩⟩, ⟨ev1 Tryd.fk48, ⟨ev1 Tryd.fk80, trivial, trivial⟩, trivial⟩⟩, ⟨ev0, ⟨ev1 Tryd.fk40, trivial, ⟨ev1 Tryd.fk104, trivial, trivial⟩⟩, trivial⟩⟩, ⟨ev0, ⟨ev1 Tryd.fk20, ⟨ev0, ⟨ev1 Tryd.fk68, trivial, trivial⟩, ⟨ev1 Tryd.fk100, trivial, trivial⟩⟩, trivial⟩, ⟨ev1 Tryd.fk28, ⟨ev0, ⟨ev1 Tryd.fk76, trivial, trivial⟩, trivial⟩, trivial⟩⟩⟩, ⟨ev0, ⟨ev0, ⟨ev1 Tryd.fk18, ⟨ev0, ⟨ev1 Tryd.fk66, trivial, trivial⟩, ⟨ev1 Tryd.fk98, trivial, trivial⟩⟩, ⟨ev1 Tryd.fk50, ⟨ev1 Tryd.fk82, trivial, trivial⟩, trivial⟩⟩, ⟨ev1 Tryd.fk26, trivial, ⟨ev0, ⟨ev1 Tryd.fk90, trivial, trivial⟩, trivial⟩⟩⟩, ⟨ev1 Tryd.fk14, ⟨ev0, ⟨ev0, ⟨ev1 Tryd.fk70, trivial, trivial⟩, trivial⟩, ⟨ev1 Tryd.fk54, ⟨ev1 Tryd.fk86, trivial, trivial⟩, trivial⟩⟩, ⟨ev1 Tryd.fk30, ⟨ev1 Tryd.fk46, ⟨ev1 Tryd.fk78, trivial, trivial⟩, trivial⟩, ⟨ev0, ⟨ev1 Tryd.fk94, trivial, trivial⟩, trivial⟩⟩⟩⟩⟩⟩
theorem Tryd.rk55021 : ∃ ca cb, lFind Sx.Tryd.rt Tryd.rr55021.id = some (ca, cb) ∧ cCode Sx.Tryd.tt.get Tryd.rr55021.n Tryd.rr55021.keep Tryd.rr55021.fid Tryd.rr55021.a = some ca ∧ cCode Sx.Tryd.tt.get Tryd.rr55021.n Tryd.rr55021.keep Tryd.rr55021.fid Tryd.rr55021.b = some cb ∧ ranges Tryd.rr55021.a = [] ∧ ranges Tryd.rr55021.b = [] :=
  ⟨Sx.Tryd.ra55021, Sx.Tryd.rb55021, by kernel_rfl, by kernel_rfl, by kernel_rfl, by kernel_rfl, by kernel_rfl⟩
theorem Tryd.rk55033 : ∃ ca cb, lFind Sx.Tryd.rt Tryd.rr55033.id = some (ca, cb) ∧ cCode Sx.Tryd.tt.get Tryd.rr55033.n Tryd.rr55033.keep Tryd.rr55033.fid Tryd.rr55033.a = some ca ∧ cCode Sx.Tryd.tt.get Tryd.rr55033.n Tryd.rr55033.keep Tryd.rr55033.fid Tryd.rr55033.b = some cb ∧ ranges Tryd.rr55033.a = [] ∧ ranges Tryd.rr55033.b = [] :=
  ⟨Sx.Tryd.ra55033, Sx.Tryd.rb55033, by kernel_rfl, by kernel_rfl, by kernel_rfl, by kernel_rfl, by kernel_rfl⟩
theorem Tryd.rk61017 : ∃ ca cb, lFind Sx.Tryd.rt Tryd.rr61017.id = some (ca, cb) ∧ cCode Sx.Tryd.tt.get Tryd.rr61017.n Tryd.rr61017.keep Tryd.rr61017.fid Tryd.rr61017.a = some ca ∧ cCode Sx.Tryd.tt.get Tryd.rr61017.n Tryd.rr61017.keep Tryd.rr61017.fid Tryd.rr61017.b = some cb ∧ ranges Tryd.rr61017.a = [] ∧ ranges Tryd.rr61017.b = [] :=
  ⟨Sx.Tryd.ra61017, Sx.Tryd.rb61017, by kernel_rfl, by kernel_rfl, by kernel_rfl, by kernel_rfl, by kernel_rfl⟩
theorem Tryd.rk100040 : ∃ ca cb, lFind Sx.Tryd.rt Tryd.rr100040.id = some (ca, cb) ∧ cCode Sx.Tryd.tt.get Tryd.rr100040.n Tryd.rr100040.keep Tryd.rr100040.fid Tryd.rr100040.a = some ca ∧ cCode Sx.Tryd.tt.get Tryd.rr100040.n Tryd.rr100040.keep Tryd.rr100040.fid Tryd.rr100040.b = some cb ∧ ranges Tryd.rr100040.a = [] ∧ ranges Tryd.rr100040.b = [] :=
  ⟨Sx.Tryd.ra100040, Sx.Tryd.rb100040, by kernel_rfl, by kernel_rfl, by kernel_rfl, by kernel_rfl, by kernel_rfl⟩
theorem Tryd.rks : ∀ r ∈ Tryd.rows, ∃ ca cb, lFind Sx.Tryd.rt r.id = some (ca, cb) ∧ cCode Sx.Tryd.tt.get r.n r.keep r.fid r.a = some ca ∧ cCode Sx.Tryd.tt.get r.n r.keep r.fid r.b = some cb ∧ ranges r.a = [] ∧ ranges r.b = [] := by
  intro r hr
  simp only [Tryd.rows, List.mem_cons, List.not_mem_nil, or_false] at hr
  rcases hr with rfl | rfl | rfl | rfl
  · exact Tryd.rk55021
  · exact Tryd.rk55033
  · exact Tryd.rk61017
  · exact Tryd.rk100040
/-- THE SEAT's TABLES. -/
theorem Tryd.tab (orc : FuncId → List AV → Heap → Option (T (AV × Heap))) (ho : ∀ f args h t, orc f args h = some t → CallOk ⟨Tryd.prog, rcOf Tryd.rows⟩ f args h t) (loops : Nat) :
    TabOk ⟨Tryd.prog, rcOf Tryd.rows⟩ Sx.Tryd.tt.get ⟨Sx.Tryd.ft.get, lFind Sx.Tryd.rt, loops, orc⟩ :=
  tabOk_of (Checked.mixed Tryd.checked) Tryd.tyks Tryd.fks Tryd.rks ho
end Go.Sx
