/- THE FUNCTIONS' ROWS. -/
import Derived.Test.YtjbagflebkiplaaDoorTabTy
/-! THE FUNCTIONS' ROWS. -/
namespace Go.Sx
open Go.Proofs
set_option maxRecDepth 100000
noncomputable def Tryd.rr20017 : RRow := ⟨20017, 20, Tryd.f20.ntmps, Sx.Tryd.kp20, (firstR (ranges (bodyOf Tryd.f20))).1, (firstR (ranges (bodyOf Tryd.f20))).2⟩
noncomputable def Tryd.rr22017 : RRow := ⟨22017, 22, Tryd.f22.ntmps, Sx.Tryd.kp22, (firstR (ranges (bodyOf Tryd.f22))).1, (firstR (ranges (bodyOf Tryd.f22))).2⟩
noncomputable def Tryd.rr75009 : RRow := ⟨75009, 75, Tryd.f75.ntmps, Sx.Tryd.kp75, (firstR (ranges (bodyOf Tryd.f75))).1, (firstR (ranges (bodyOf Tryd.f75))).2⟩
noncomputable def Tryd.rr78018 : RRow := ⟨78018, 78, Tryd.f78.ntmps, Sx.Tryd.kp78, (firstR (ranges (bodyOf Tryd.f78))).1, (firstR (ranges (bodyOf Tryd.f78))).2⟩
noncomputable def Tryd.rr101009 : RRow := ⟨101009, 101, Tryd.f101.ntmps, Sx.Tryd.kp101, (firstR (ranges (bodyOf Tryd.f101))).1, (firstR (ranges (bodyOf Tryd.f101))).2⟩
noncomputable def Tryd.rows : List RRow := [Tryd.rr20017, Tryd.rr22017, Tryd.rr75009, Tryd.rr78018, Tryd.rr101009]
theorem Tryd.fk5 : FRow ⟨Tryd.prog, rcOf Tryd.rows⟩ Sx.Tryd.tt.get 5 Sx.Tryd.cf5 := FRow.plain Sx.Tryd.kp5 (bodyOf Tryd.f5) Tryd.func5 (by kernel_rfl) (by kernel_rfl) (by kernel_rfl) [] (by kernel_rfl) (fun q hq => by cases hq)
theorem Tryd.fk16 : FRow ⟨Tryd.prog, rcOf Tryd.rows⟩ Sx.Tryd.tt.get 16 Sx.Tryd.cf16 := FRow.plain Sx.Tryd.kp16 (bodyOf Tryd.f16) Tryd.func16 (by kernel_rfl) (by kernel_rfl) (by kernel_rfl) [] (by kernel_rfl) (fun q hq => by cases hq)
theorem Tryd.fk18 : FRow ⟨Tryd.prog, rcOf Tryd.rows⟩ Sx.Tryd.tt.get 18 Sx.Tryd.cf18 := FRow.plain Sx.Tryd.kp18 (bodyOf Tryd.f18) Tryd.func18 (by kernel_rfl) (by kernel_rfl) (by kernel_rfl) [] (by kernel_rfl) (fun q hq => by cases hq)
theorem Tryd.fk19 : FRow ⟨Tryd.prog, rcOf Tryd.rows⟩ Sx.Tryd.tt.get 19 Sx.Tryd.cf19 := FRow.plain Sx.Tryd.kp19 (bodyOf Tryd.f19) Tryd.func19 (by kernel_rfl) (by kernel_rfl) (by kernel_rfl) [] (by kernel_rfl) (fun q hq => by cases hq)
theorem Tryd.fk20 : FRow ⟨Tryd.prog, rcOf Tryd.rows⟩ Sx.Tryd.tt.get 20 Sx.Tryd.cf20 := FRow.plain Sx.Tryd.kp20 (bodyOf Tryd.f20) Tryd.func20 (by kernel_rfl) (by kernel_rfl) (by kernel_rfl) [([17], Tryd.rr20017.a, Tryd.rr20017.b)] (by kernel_rfl) (fun q hq id hid => by
  rcases List.mem_singleton.1 hq with rfl
  cases hid
  exact ⟨Tryd.rr20017, by simp [Tryd.rows], rfl, rfl, rfl, rfl, rfl⟩)
theorem Tryd.fk22 : FRow ⟨Tryd.prog, rcOf Tryd.rows⟩ Sx.Tryd.tt.get 22 Sx.Tryd.cf22 := FRow.plain Sx.Tryd.kp22 (bodyOf Tryd.f22) Tryd.func22 (by kernel_rfl) (by kernel_rfl) (by kernel_rfl) [([17], Tryd.rr22017.a, Tryd.rr22017.b)] (by kernel_rfl) (fun q hq id hid => by
  rcases List.mem_singleton.1 hq with rfl
  cases hid
  exact ⟨Tryd.rr22017, by simp [Tryd.rows], rfl, rfl, rfl, rfl, rfl⟩)
theorem Tryd.fk24 : FRow ⟨Tryd.prog, rcOf Tryd.rows⟩ Sx.Tryd.tt.get 24 Sx.Tryd.cf24 := FRow.plain Sx.Tryd.kp24 (bodyOf Tryd.f24) Tryd.func24 (by kernel_rfl) (by kernel_rfl) (by kernel_rfl) [] (by kernel_rfl) (fun q hq => by cases hq)
theorem Tryd.fk25 : FRow ⟨Tryd.prog, rcOf Tryd.rows⟩ Sx.Tryd.tt.get 25 Sx.Tryd.cf25 := FRow.plain Sx.Tryd.kp25 (bodyOf Tryd.f25) Tryd.func25 (by kernel_rfl) (by kernel_rfl) (by kernel_rfl) [] (by kernel_rfl) (fun q hq => by cases hq)
theorem Tryd.fk26 : FRow ⟨Tryd.prog, rcOf Tryd.rows⟩ Sx.Tryd.tt.get 26 Sx.Tryd.cf26 := FRow.plain Sx.Tryd.kp26 (bodyOf Tryd.f26) Tryd.func26 (by kernel_rfl) (by kernel_rfl) (by kernel_rfl) [] (by kernel_rfl) (fun q hq => by cases hq)
theorem Tryd.fk28 : FRow ⟨Tryd.prog, rcOf Tryd.rows⟩ Sx.Tryd.tt.get 28 Sx.Tryd.cf28 := FRow.plain Sx.Tryd.kp28 (bodyOf Tryd.f28) Tryd.func28 (by kernel_rfl) (by kernel_rfl) (by kernel_rfl) [] (by kernel_rfl) (fun q hq => by cases hq)
theorem Tryd.fk30 : FRow ⟨Tryd.prog, rcOf Tryd.rows⟩ Sx.Tryd.tt.get 30 Sx.Tryd.cf30 := FRow.plain Sx.Tryd.kp30 (bodyOf Tryd.f30) Tryd.func30 (by kernel_rfl) (by kernel_rfl) (by kernel_rfl) [] (by kernel_rfl) (fun q hq => by cases hq)
theorem Tryd.fk31 : FRow ⟨Tryd.prog, rcOf Tryd.rows⟩ Sx.Tryd.tt.get 31 Sx.Tryd.cf31 := FRow.plain Sx.Tryd.kp31 (bodyOf Tryd.f31) Tryd.func31 (by kernel_rfl) (by kernel_rfl) (by kernel_rfl) [] (by kernel_rfl) (fun q hq => by cases hq)
theorem Tryd.fk32 : FRow ⟨Tryd.prog, rcOf Tryd.rows⟩ Sx.Tryd.tt.get 32 Sx.Tryd.cf32 := FRow.plain Sx.Tryd.kp32 (bodyOf Tryd.f32) Tryd.func32 (by kernel_rfl) (by kernel_rfl) (by kernel_rfl) [] (by kernel_rfl) (fun q hq => by cases hq)
theorem Tryd.fk33 : FRow ⟨Tryd.prog, rcOf Tryd.rows⟩ Sx.Tryd.tt.get 33 Sx.Tryd.cf33 := FRow.plain Sx.Tryd.kp33 (bodyOf Tryd.f33) Tryd.func33 (by kernel_rfl) (by kernel_rfl) (by kernel_rfl) [] (by kernel_rfl) (fun q hq => by cases hq)
theorem Tryd.fk34 : FRow ⟨Tryd.prog, rcOf Tryd.rows⟩ Sx.Tryd.tt.get 34 Sx.Tryd.cf34 := FRow.plain Sx.Tryd.kp34 (bodyOf Tryd.f34) Tryd.func34 (by kernel_rfl) (by kernel_rfl) (by kernel_rfl) [] (by kernel_rfl) (fun q hq => by cases hq)
theorem Tryd.fk35 : FRow ⟨Tryd.prog, rcOf Tryd.rows⟩ Sx.Tryd.tt.get 35 Sx.Tryd.cf35 := FRow.plain Sx.Tryd.kp35 (bodyOf Tryd.f35) Tryd.func35 (by kernel_rfl) (by kernel_rfl) (by kernel_rfl) [] (by kernel_rfl) (fun q hq => by cases hq)
theorem Tryd.fk36 : FRow ⟨Tryd.prog, rcOf Tryd.rows⟩ Sx.Tryd.tt.get 36 Sx.Tryd.cf36 := FRow.plain Sx.Tryd.kp36 (bodyOf Tryd.f36) Tryd.func36 (by kernel_rfl) (by kernel_rfl) (by kernel_rfl) [] (by kernel_rfl) (fun q hq => by cases hq)
theorem Tryd.fk38 : FRow ⟨Tryd.prog, rcOf Tryd.rows⟩ Sx.Tryd.tt.get 38 Sx.Tryd.cf38 := FRow.plain Sx.Tryd.kp38 (bodyOf Tryd.f38) Tryd.func38 (by kernel_rfl) (by kernel_rfl) (by kernel_rfl) [] (by kernel_rfl) (fun q hq => by cases hq)
theorem Tryd.fk40 : FRow ⟨Tryd.prog, rcOf Tryd.rows⟩ Sx.Tryd.tt.get 40 Sx.Tryd.cf40 := FRow.plain Sx.Tryd.kp40 (bodyOf Tryd.f40) Tryd.func40 (by kernel_rfl) (by kernel_rfl) (by kernel_rfl) [] (by kernel_rfl) (fun q hq => by cases hq)
theorem Tryd.fk42 : FRow ⟨Tryd.prog, rcOf Tryd.rows⟩ Sx.Tryd.tt.get 42 Sx.Tryd.cf42 := FRow.plain Sx.Tryd.kp42 (bodyOf Tryd.f42) Tryd.func42 (by kernel_rfl) (by kernel_rfl) (by kernel_rfl) [] (by kernel_rfl) (fun q hq => by cases hq)
theorem Tryd.fk53 : FRow ⟨Tryd.prog, rcOf Tryd.rows⟩ Sx.Tryd.tt.get 53 Sx.Tryd.cf53 := FRow.plain Sx.Tryd.kp53 (bodyOf Tryd.f53) Tryd.func53 (by kernel_rfl) (by kernel_rfl) (by kernel_rfl) [] (by kernel_rfl) (fun q hq => by cases hq)
theorem Tryd.fk55 : FRow ⟨Tryd.prog, rcOf Tryd.rows⟩ Sx.Tryd.tt.get 55 Sx.Tryd.cf55 := FRow.plain Sx.Tryd.kp55 (bodyOf Tryd.f55) Tryd.func55 (by kernel_rfl) (by kernel_rfl) (by kernel_rfl) [] (by kernel_rfl) (fun q hq => by cases hq)
theorem Tryd.fk56 : FRow ⟨Tryd.prog, rcOf Tryd.rows⟩ Sx.Tryd.tt.get 56 Sx.Tryd.cf56 := FRow.plain Sx.Tryd.kp56 (bodyOf Tryd.f56) Tryd.func56 (by kernel_rfl) (by kernel_rfl) (by kernel_rfl) [] (by kernel_rfl) (fun q hq => by cases hq)
theorem Tryd.fk59 : FRow ⟨Tryd.prog, rcOf Tryd.rows⟩ Sx.Tryd.tt.get 59 Sx.Tryd.cf59 := FRow.plain Sx.Tryd.kp59 (bodyOf Tryd.f59) Tryd.func59 (by kernel_rfl) (by kernel_rfl) (by kernel_rfl) [] (by kernel_rfl) (fun q hq => by cases hq)
theorem Tryd.fk60 : FRow ⟨Tryd.prog, rcOf Tryd.rows⟩ Sx.Tryd.tt.get 60 Sx.Tryd.cf60 := FRow.plain Sx.Tryd.kp60 (bodyOf Tryd.f60) Tryd.func60 (by kernel_rfl) (by kernel_rfl) (by kernel_rfl) [] (by kernel_rfl) (fun q hq => by cases hq)
theorem Tryd.fk62 : FRow ⟨Tryd.prog, rcOf Tryd.rows⟩ Sx.Tryd.tt.get 62 Sx.Tryd.cf62 := FRow.plain Sx.Tryd.kp62 (bodyOf Tryd.f62) Tryd.func62 (by kernel_rfl) (by kernel_rfl) (by kernel_rfl) [] (by kernel_rfl) (fun q hq => by cases hq)
theorem Tryd.fk63 : FRow ⟨Tryd.prog, rcOf Tryd.rows⟩ Sx.Tryd.tt.get 63 Sx.Tryd.cf63 := FRow.plain Sx.Tryd.kp63 (bodyOf Tryd.f63) Tryd.func63 (by kernel_rfl) (by kernel_rfl) (by kernel_rfl) [] (by kernel_rfl) (fun q hq => by cases hq)
theorem Tryd.fk64 : FRow ⟨Tryd.prog, rcOf Tryd.rows⟩ Sx.Tryd.tt.get 64 Sx.Tryd.cf64 := FRow.plain Sx.Tryd.kp64 (bodyOf Tryd.f64) Tryd.func64 (by kernel_rfl) (by kernel_rfl) (by kernel_rfl) [] (by kernel_rfl) (fun q hq => by cases hq)
theorem Tryd.fk65 : FRow ⟨Tryd.prog, rcOf Tryd.rows⟩ Sx.Tryd.tt.get 65 Sx.Tryd.cf65 := FRow.plain Sx.Tryd.kp65 (bodyOf Tryd.f65) Tryd.func65 (by kernel_rfl) (by kernel_rfl) (by kernel_rfl) [] (by kernel_rfl) (fun q hq => by cases hq)
theorem Tryd.fk68 : FRow ⟨Tryd.prog, rcOf Tryd.rows⟩ Sx.Tryd.tt.get 68 Sx.Tryd.cf68 := FRow.plain Sx.Tryd.kp68 (bodyOf Tryd.f68) Tryd.func68 (by kernel_rfl) (by kernel_rfl) (by kernel_rfl) [] (by kernel_rfl) (fun q hq => by cases hq)
theorem Tryd.fk69 : FRow ⟨Tryd.prog, rcOf Tryd.rows⟩ Sx.Tryd.tt.get 69 Sx.Tryd.cf69 := FRow.plain Sx.Tryd.kp69 (bodyOf Tryd.f69) Tryd.func69 (by kernel_rfl) (by kernel_rfl) (by kernel_rfl) [] (by kernel_rfl) (fun q hq => by cases hq)
theorem Tryd.fk70 : FRow ⟨Tryd.prog, rcOf Tryd.rows⟩ Sx.Tryd.tt.get 70 Sx.Tryd.cf70 := FRow.plain Sx.Tryd.kp70 (bodyOf Tryd.f70) Tryd.func70 (by kernel_rfl) (by kernel_rfl) (by kernel_rfl) [] (by kernel_rfl) (fun q hq => by cases hq)
theorem Tryd.fk73 : FRow ⟨Tryd.prog, rcOf Tryd.rows⟩ Sx.Tryd.tt.get 73 Sx.Tryd.cf73 := FRow.plain Sx.Tryd.kp73 (bodyOf Tryd.f73) Tryd.func73 (by kernel_rfl) (by kernel_rfl) (by kernel_rfl) [] (by kernel_rfl) (fun q hq => by cases hq)
theorem Tryd.fk74 : FRow ⟨Tryd.prog, rcOf Tryd.rows⟩ Sx.Tryd.tt.get 74 Sx.Tryd.cf74 := FRow.plain Sx.Tryd.kp74 (bodyOf Tryd.f74) Tryd.func74 (by kernel_rfl) (by kernel_rfl) (by kernel_rfl) [] (by kernel_rfl) (fun q hq => by cases hq)
theorem Tryd.fk75 : FRow ⟨Tryd.prog, rcOf Tryd.rows⟩ Sx.Tryd.tt.get 75 Sx.Tryd.cf75 := FRow.plain Sx.Tryd.kp75 (bodyOf Tryd.f75) Tryd.func75 (by kernel_rfl) (by kernel_rfl) (by kernel_rfl) [([9], Tryd.rr75009.a, Tryd.rr75009.b)] (by kernel_rfl) (fun q hq id hid => by
  rcases List.mem_singleton.1 hq with rfl
  cases hid
  exact ⟨Tryd.rr75009, by simp [Tryd.rows], rfl, rfl, rfl, rfl, rfl⟩)
theorem Tryd.fk76 : FRow ⟨Tryd.prog, rcOf Tryd.rows⟩ Sx.Tryd.tt.get 76 Sx.Tryd.cf76 := FRow.plain Sx.Tryd.kp76 (bodyOf Tryd.f76) Tryd.func76 (by kernel_rfl) (by kernel_rfl) (by kernel_rfl) [] (by kernel_rfl) (fun q hq => by cases hq)
theorem Tryd.fk77 : FRow ⟨Tryd.prog, rcOf Tryd.rows⟩ Sx.Tryd.tt.get 77 Sx.Tryd.cf77 := FRow.plain Sx.Tryd.kp77 (bodyOf Tryd.f77) Tryd.func77 (by kernel_rfl) (by kernel_rfl) (by kernel_rfl) [] (by kernel_rfl) (fun q hq => by cases hq)
theorem Tryd.fk78 : FRow ⟨Tryd.prog, rcOf Tryd.rows⟩ Sx.Tryd.tt.get 78 Sx.Tryd.cf78 := FRow.plain Sx.Tryd.kp78 (bodyOf Tryd.f78) Tryd.func78 (by kernel_rfl) (by kernel_rfl) (by kernel_rfl) [([18], Tryd.rr78018.a, Tryd.rr78018.b)] (by kernel_rfl) (fun q hq id hid => by
  rcases List.mem_singleton.1 hq with rfl
  cases hid
  exact ⟨Tryd.rr78018, by simp [Tryd.rows], rfl, rfl, rfl, rfl, rfl⟩)
theorem Tryd.fk79 : FRow ⟨Tryd.prog, rcOf Tryd.rows⟩ Sx.Tryd.tt.get 79 Sx.Tryd.cf79 := FRow.plain Sx.Tryd.kp79 (bodyOf Tryd.f79) Tryd.func79 (by kernel_rfl) (by kernel_rfl) (by kernel_rfl) [] (by kernel_rfl) (fun q hq => by cases hq)
theorem Tryd.fk80 : FRow ⟨Tryd.prog, rcOf Tryd.rows⟩ Sx.Tryd.tt.get 80 Sx.Tryd.cf80 := FRow.plain Sx.Tryd.kp80 (bodyOf Tryd.f80) Tryd.func80 (by kernel_rfl) (by kernel_rfl) (by kernel_rfl) [] (by kernel_rfl) (fun q hq => by cases hq)
theorem Tryd.fk81 : FRow ⟨Tryd.prog, rcOf Tryd.rows⟩ Sx.Tryd.tt.get 81 Sx.Tryd.cf81 := FRow.plain Sx.Tryd.kp81 (bodyOf Tryd.f81) Tryd.func81 (by kernel_rfl) (by kernel_rfl) (by kernel_rfl) [] (by kernel_rfl) (fun q hq => by cases hq)
theorem Tryd.fk82 : FRow ⟨Tryd.prog, rcOf Tryd.rows⟩ Sx.Tryd.tt.get 82 Sx.Tryd.cf82 := FRow.plain Sx.Tryd.kp82 (bodyOf Tryd.f82) Tryd.func82 (by kernel_rfl) (by kernel_rfl) (by kernel_rfl) [] (by kernel_rfl) (fun q hq => by cases hq)
theorem Tryd.fk83 : FRow ⟨Tryd.prog, rcOf Tryd.rows⟩ Sx.Tryd.tt.get 83 Sx.Tryd.cf83 := FRow.plain Sx.Tryd.kp83 (bodyOf Tryd.f83) Tryd.func83 (by kernel_rfl) (by kernel_rfl) (by kernel_rfl) [] (by kernel_rfl) (fun q hq => by cases hq)
theorem Tryd.fk84 : FRow ⟨Tryd.prog, rcOf Tryd.rows⟩ Sx.Tryd.tt.get 84 Sx.Tryd.cf84 := FRow.plain Sx.Tryd.kp84 (bodyOf Tryd.f84) Tryd.func84 (by kernel_rfl) (by kernel_rfl) (by kernel_rfl) [] (by kernel_rfl) (fun q hq => by cases hq)
theorem Tryd.fk85 : FRow ⟨Tryd.prog, rcOf Tryd.rows⟩ Sx.Tryd.tt.get 85 Sx.Tryd.cf85 := FRow.plain Sx.Tryd.kp85 (bodyOf Tryd.f85) Tryd.func85 (by kernel_rfl) (by kernel_rfl) (by kernel_rfl) [] (by kernel_rfl) (fun q hq => by cases hq)
theorem Tryd.fk86 : FRow ⟨Tryd.prog, rcOf Tryd.rows⟩ Sx.Tryd.tt.get 86 Sx.Tryd.cf86 := FRow.plain Sx.Tryd.kp86 (bodyOf Tryd.f86) Tryd.func86 (by kernel_rfl) (by kernel_rfl) (by kernel_rfl) [] (by kernel_rfl) (fun q hq => by cases hq)
theorem Tryd.fk88 : FRow ⟨Tryd.prog, rcOf Tryd.rows⟩ Sx.Tryd.tt.get 88 Sx.Tryd.cf88 := FRow.plain Sx.Tryd.kp88 (bodyOf Tryd.f88) Tryd.func88 (by kernel_rfl) (by kernel_rfl) (by kernel_rfl) [] (by kernel_rfl) (fun q hq => by cases hq)
theorem Tryd.fk89 : FRow ⟨Tryd.prog, rcOf Tryd.rows⟩ Sx.Tryd.tt.get 89 Sx.Tryd.cf89 := FRow.plain Sx.Tryd.kp89 (bodyOf Tryd.f89) Tryd.func89 (by kernel_rfl) (by kernel_rfl) (by kernel_rfl) [] (by kernel_rfl) (fun q hq => by cases hq)
theorem Tryd.fk91 : FRow ⟨Tryd.prog, rcOf Tryd.rows⟩ Sx.Tryd.tt.get 91 Sx.Tryd.cf91 := FRow.plain Sx.Tryd.kp91 (bodyOf Tryd.f91) Tryd.func91 (by kernel_rfl) (by kernel_rfl) (by kernel_rfl) [] (by kernel_rfl) (fun q hq => by cases hq)
theorem Tryd.fk92 : FRow ⟨Tryd.prog, rcOf Tryd.rows⟩ Sx.Tryd.tt.get 92 Sx.Tryd.cf92 := FRow.plain Sx.Tryd.kp92 (bodyOf Tryd.f92) Tryd.func92 (by kernel_rfl) (by kernel_rfl) (by kernel_rfl) [] (by kernel_rfl) (fun q hq => by cases hq)
theorem Tryd.fk94 : FRow ⟨Tryd.prog, rcOf Tryd.rows⟩ Sx.Tryd.tt.get 94 Sx.Tryd.cf94 := FRow.plain Sx.Tryd.kp94 (bodyOf Tryd.f94) Tryd.func94 (by kernel_rfl) (by kernel_rfl) (by kernel_rfl) [] (by kernel_rfl) (fun q hq => by cases hq)
theorem Tryd.fk95 : FRow ⟨Tryd.prog, rcOf Tryd.rows⟩ Sx.Tryd.tt.get 95 Sx.Tryd.cf95 := FRow.plain Sx.Tryd.kp95 (bodyOf Tryd.f95) Tryd.func95 (by kernel_rfl) (by kernel_rfl) (by kernel_rfl) [] (by kernel_rfl) (fun q hq => by cases hq)
theorem Tryd.fk96 : FRow ⟨Tryd.prog, rcOf Tryd.rows⟩ Sx.Tryd.tt.get 96 Sx.Tryd.cf96 := FRow.plain Sx.Tryd.kp96 (bodyOf Tryd.f96) Tryd.func96 (by kernel_rfl) (by kernel_rfl) (by kernel_rfl) [] (by kernel_rfl) (fun q hq => by cases hq)
theorem Tryd.fk97 : FRow ⟨Tryd.prog, rcOf Tryd.rows⟩ Sx.Tryd.tt.get 97 Sx.Tryd.cf97 := FRow.plain Sx.Tryd.kp97 (bodyOf Tryd.f97) Tryd.func97 (by kernel_rfl) (by kernel_rfl) (by kernel_rfl) [] (by kernel_rfl) (fun q hq => by cases hq)
theorem Tryd.fk99 : FRow ⟨Tryd.prog, rcOf Tryd.rows⟩ Sx.Tryd.tt.get 99 Sx.Tryd.cf99 := FRow.plain Sx.Tryd.kp99 (bodyOf Tryd.f99) Tryd.func99 (by kernel_rfl) (by kernel_rfl) (by kernel_rfl) [] (by kernel_rfl) (fun q hq => by cases hq)
theorem Tryd.fk100 : FRow ⟨Tryd.prog, rcOf Tryd.rows⟩ Sx.Tryd.tt.get 100 Sx.Tryd.cf100 := FRow.plain Sx.Tryd.kp100 (bodyOf Tryd.f100) Tryd.func100 (by kernel_rfl) (by kernel_rfl) (by kernel_rfl) [] (by kernel_rfl) (fun q hq => by cases hq)
theorem Tryd.fk101 : FRow ⟨Tryd.prog, rcOf Tryd.rows⟩ Sx.Tryd.tt.get 101 Sx.Tryd.cf101 := FRow.plain Sx.Tryd.kp101 (bodyOf Tryd.f101) Tryd.func101 (by kernel_rfl) (by kernel_rfl) (by kernel_rfl) [([9], Tryd.rr101009.a, Tryd.rr101009.b)] (by kernel_rfl) (fun q hq id hid => by
  rcases List.mem_singleton.1 hq with rfl
  cases hid
  exact ⟨Tryd.rr101009, by simp [Tryd.rows], rfl, rfl, rfl, rfl, rfl⟩)
theorem Tryd.fk102 : FRow ⟨Tryd.prog, rcOf Tryd.rows⟩ Sx.Tryd.tt.get 102 Sx.Tryd.cf102 := FRow.plain Sx.Tryd.kp102 (bodyOf Tryd.f102) Tryd.func102 (by kernel_rfl) (by kernel_rfl) (by kernel_rfl) [] (by kernel_rfl) (fun q hq => by cases hq)
theorem Tryd.fk103 : FRow ⟨Tryd.prog, rcOf Tryd.rows⟩ Sx.Tryd.tt.get 103 Sx.Tryd.cf103 := FRow.plain Sx.Tryd.kp103 (bodyOf Tryd.f103) Tryd.func103 (by kernel_rfl) (by kernel_rfl) (by kernel_rfl) [] (by kernel_rfl) (fun q hq => by cases hq)
theorem Tryd.fk104 : FRow ⟨Tryd.prog, rcOf Tryd.rows⟩ Sx.Tryd.tt.get 104 Sx.Tryd.cf104 := FRow.plain Sx.Tryd.kp104 (bodyOf Tryd.f104) Tryd.func104 (by kernel_rfl) (by kernel_rfl) (by kernel_rfl) [] (by kernel_rfl) (fun q hq => by cases hq)
theorem Tryd.fk105 : FRow ⟨Tryd.prog, rcOf Tryd.rows⟩ Sx.Tryd.tt.get 105 Sx.Tryd.cf105 := FRow.plain Sx.Tryd.kp105 (bodyOf Tryd.f105) Tryd.func105 (by kernel_rfl) (by kernel_rfl) (by kernel_rfl) [] (by kernel_rfl) (fun q hq => by cases hq)
theorem Tryd.fk106 : FRow ⟨Tryd.prog, rcOf Tryd.rows⟩ Sx.Tryd.tt.get 106 Sx.Tryd.cf106 := FRow.plain Sx.Tryd.kp106 (bodyOf Tryd.f106) Tryd.func106 (by kernel_rfl) (by kernel_rfl) (by kernel_rfl) [] (by kernel_rfl) (fun q hq => by cases hq)
theorem Tryd.fk107 : FRow ⟨Tryd.prog, rcOf Tryd.rows⟩ Sx.Tryd.tt.get 107 Sx.Tryd.cf107 := FRow.plain Sx.Tryd.kp107 (bodyOf Tryd.f107) Tryd.func107 (by kernel_rfl) (by kernel_rfl) (by kernel_rfl) [] (by kernel_rfl) (fun q hq => by cases hq)
theorem Tryd.fk108 : FRow ⟨Tryd.prog, rcOf Tryd.rows⟩ Sx.Tryd.tt.get 108 Sx.Tryd.cf108 := FRow.plain Sx.Tryd.kp108 (bodyOf Tryd.f108) Tryd.func108 (by kernel_rfl) (by kernel_rfl) (by kernel_rfl) [] (by kernel_rfl) (fun q hq => by cases hq)
theorem Tryd.fk110 : FRow ⟨Tryd.prog, rcOf Tryd.rows⟩ Sx.Tryd.tt.get 110 Sx.Tryd.cf110 := FRow.plain Sx.Tryd.kp110 (bodyOf Tryd.f110) Tryd.func110 (by kernel_rfl) (by kernel_rfl) (by kernel_rfl) [] (by kernel_rfl) (fun q hq => by cases hq)
theorem Tryd.fk111 : FRow ⟨Tryd.prog, rcOf Tryd.rows⟩ Sx.Tryd.tt.get 111 Sx.Tryd.cf111 := FRow.plain Sx.Tryd.kp111 (bodyOf Tryd.f111) Tryd.func111 (by kernel_rfl) (by kernel_rfl) (by kernel_rfl) [] (by kernel_rfl) (fun q hq => by cases hq)
theorem Tryd.fk112 : FRow ⟨Tryd.prog, rcOf Tryd.rows⟩ Sx.Tryd.tt.get 112 Sx.Tryd.cf112 := FRow.plain Sx.Tryd.kp112 (bodyOf Tryd.f112) Tryd.func112 (by kernel_rfl) (by kernel_rfl) (by kernel_rfl) [] (by kernel_rfl) (fun q hq => by cases hq)
theorem Tryd.fk113 : FRow ⟨Tryd.prog, rcOf Tryd.rows⟩ Sx.Tryd.tt.get 113 Sx.Tryd.cf113 := FRow.plain Sx.Tryd.kp113 (bodyOf Tryd.f113) Tryd.func113 (by kernel_rfl) (by kernel_rfl) (by kernel_rfl) [] (by kernel_rfl) (fun q hq => by cases hq)
theorem Tryd.fk114 : FRow ⟨Tryd.prog, rcOf Tryd.rows⟩ Sx.Tryd.tt.get 114 Sx.Tryd.cf114 := FRow.plain Sx.Tryd.kp114 (bodyOf Tryd.f114) Tryd.func114 (by kernel_rfl) (by kernel_rfl) (by kernel_rfl) [] (by kernel_rfl) (fun q hq => by cases hq)
theorem Tryd.fks : Sx.Tryd.ft.Every (FRow ⟨Tryd.prog, rcOf Tryd.rows⟩ Sx.Tryd.tt.get) := ⟨ev0, ⟨ev0, ⟨ev0, ⟨ev0, ⟨ev0, ⟨ev1 Tryd.fk31, ⟨ev1 Tryd.fk63, trivial, trivial⟩, ⟨ev1 Tryd.fk95, trivial, trivial⟩⟩, ⟨ev0, ⟨ev1 Tryd.fk79, trivial, trivial⟩, ⟨ev1 Tryd.fk111, trivial, trivial⟩⟩⟩, ⟨ev0, ⟨ev0, trivial, ⟨ev1 Tryd.fk103, trivial, trivial⟩⟩, ⟨ev1 Tryd.fk55, trivial, trivial⟩⟩⟩, ⟨ev0, ⟨ev1 Tryd.fk19, ⟨ev1 Tryd.fk35, trivial, ⟨ev1 Tryd.fk99, trivial, trivial⟩⟩, ⟨ev0, ⟨ev1 Tryd.fk83, trivial, trivial⟩, trivial⟩⟩, ⟨ev0, ⟨ev0, ⟨ev1 Tryd.fk75, trivial, trivial⟩, ⟨ev1 Tryd.fk107, trivial, trivial⟩⟩, ⟨ev1 Tryd.fk59, ⟨ev1 Tryd.fk91, trivial, trivial⟩, trivial⟩⟩⟩⟩, ⟨ev1 Tryd.fk5, ⟨ev0, ⟨ev0, ⟨ev1 Tryd.fk33, ⟨ev1 Tryd.fk65, trivial, trivial⟩, ⟨ev1 Tryd.fk97, trivial, trivial⟩⟩, ⟨ev0, ⟨ev1 Tryd.fk81, trivial, trivial⟩, ⟨ev1 Tryd.fk113, trivial, trivial⟩⟩⟩, ⟨ev1 Tryd.fk25, ⟨ev0, ⟨ev1 Tryd.fk73, trivial, trivial⟩, ⟨ev1 Tryd.fk105, trivial, trivial⟩⟩, ⟨ev0, ⟨ev1 Tryd.fk89, trivial, trivial⟩, trivial⟩⟩⟩, ⟨ev0, ⟨ev0, ⟨ev0, ⟨ev1 Tryd.fk69, trivial, trivial⟩, ⟨ev1 Tryd.fk101, trivial, trivial⟩⟩, ⟨ev1 Tryd.fk53, ⟨ev1 Tryd.fk85, trivial, trivial⟩, trivial⟩⟩, ⟨ev0, ⟨ev0, ⟨ev1 Tryd.fk77, trivial, trivial⟩, trivial⟩, trivial⟩⟩⟩⟩, ⟨ev0, ⟨ev0, ⟨ev0, ⟨ev1 Tryd.fk16, ⟨ev1 Tryd.fk32, ⟨ev1 Tryd.fk64, trivial, trivial⟩, ⟨ev1 Tryd.fk96, trivial, trivial⟩⟩, ⟨ev0, ⟨ev1 Tryd.fk80, trivial, trivial⟩, ⟨ev1 Tryd.fk112, trivial, trivial⟩⟩⟩, ⟨ev1 Tryd.fk24, ⟨ev1 Tryd.fk40, trivial, ⟨ev1 Tryd.fk104, trivial, trivial⟩⟩, ⟨ev1 Tryd.fk56, ⟨ev1 Tryd.fk88, trivial, trivial⟩, trivial⟩⟩⟩, ⟨ev0, ⟨ev1 Tryd.fk20, ⟨ev1 Tryd.fk36, ⟨ev1 Tryd.fk68, trivial, trivial⟩, ⟨ev1 Tryd.fk100, trivial, trivial⟩⟩, ⟨ev0, ⟨ev1 Tryd.fk84, trivial, trivial⟩, trivial⟩⟩, ⟨ev1 Tryd.fk28, ⟨ev0, ⟨ev1 Tryd.fk76, trivial, trivial⟩, ⟨ev1 Tryd.fk108, trivial, trivial⟩⟩, ⟨ev1 Tryd.fk60, ⟨ev1 Tryd.fk92, trivial, trivial⟩, trivial⟩⟩⟩⟩, ⟨ev0, ⟨ev0, ⟨ev1 Tryd.fk18, ⟨ev1 Tryd.fk34, trivial, trivial⟩, ⟨ev0, ⟨ev1 Tryd.fk82, trivial, trivial⟩, ⟨ev1 Tryd.fk114, trivial, trivial⟩⟩⟩, ⟨ev1 Tryd.fk26, ⟨ev1 Tryd.fk42, ⟨ev1 Tryd.fk74, trivial, trivial⟩, ⟨ev1 Tryd.fk106, trivial, trivial⟩⟩, trivial⟩⟩, ⟨ev0, ⟨ev1 Tryd.fk22, ⟨ev1 Tryd.fk38, ⟨ev1 Tryd.fk70, trivial, trivial⟩, ⟨ev1 Tryd.fk102, trivial, trivial⟩⟩, ⟨ev0, ⟨ev1 Tryd.fk86, trivial, trivial⟩, trivial⟩⟩, ⟨ev1 Tryd.fk30, ⟨ev0, ⟨ev1 Tryd.fk78, trivial, trivial⟩, ⟨ev1 Tryd.fk110, trivial, trivial⟩⟩, ⟨ev1 Tryd.fk62, ⟨ev1 Tryd.fk94, trivial, trivial⟩, trivial⟩⟩⟩⟩⟩⟩
theorem Tryd.rk20017 : ∃ ca cb, lFind Sx.Tryd.rt Tryd.rr20017.id = some (ca, cb) ∧ cCode Sx.Tryd.tt.get Tryd.rr20017.n Tryd.rr20017.keep Tryd.rr20017.fid Tryd.rr20017.a = some ca ∧ cCode Sx.Tryd.tt.get Tryd.rr20017.n Tryd.rr20017.keep Tryd.rr20017.fid Tryd.rr20017.b = some cb ∧ ranges Tryd.rr20017.a = [] ∧ ranges Tryd.rr20017.b = [] :=
  ⟨Sx.Tryd.ra20017, Sx.Tryd.rb20017, by kernel_rfl, by kernel_rfl, by kernel_rfl, by kernel_rfl, by kernel_rfl⟩
theorem Tryd.rk22017 : ∃ ca cb, lFind Sx.Tryd.rt Tryd.rr22017.id = some (ca, cb) ∧ cCode Sx.Tryd.tt.get Tryd.rr22017.n Tryd.rr22017.keep Tryd.rr22017.fid Tryd.rr22017.a = some ca ∧ cCode Sx.Tryd.tt.get Tryd.rr22017.n Tryd.rr22017.keep Tryd.rr22017.fid Tryd.rr22017.b = some cb ∧ ranges Tryd.rr22017.a = [] ∧ ranges Tryd.rr22017.b = [] :=
  ⟨Sx.Tryd.ra22017, Sx.Tryd.rb22017, by kernel_rfl, by kernel_rfl, by kernel_rfl, by kernel_rfl, by kernel_rfl⟩
theorem Tryd.rk75009 : ∃ ca cb, lFind Sx.Tryd.rt Tryd.rr75009.id = some (ca, cb) ∧ cCode Sx.Tryd.tt.get Tryd.rr75009.n Tryd.rr75009.keep Tryd.rr75009.fid Tryd.rr75009.a = some ca ∧ cCode Sx.Tryd.tt.get Tryd.rr75009.n Tryd.rr75009.keep Tryd.rr75009.fid Tryd.rr75009.b = some cb ∧ ranges Tryd.rr75009.a = [] ∧ ranges Tryd.rr75009.b = [] :=
  ⟨Sx.Tryd.ra75009, Sx.Tryd.rb75009, by kernel_rfl, by kernel_rfl, by kernel_rfl, by kernel_rfl, by kernel_rfl⟩
theorem Tryd.rk78018 : ∃ ca cb, lFind Sx.Tryd.rt Tryd.rr78018.id = some (ca, cb) ∧ cCode Sx.Tryd.tt.get Tryd.rr78018.n Tryd.rr78018.keep Tryd.rr78018.fid Tryd.rr78018.a = some ca ∧ cCode Sx.Tryd.tt.get Tryd.rr78018.n Tryd.rr78018.keep Tryd.rr78018.fid Tryd.rr78018.b = some cb ∧ ranges Tryd.rr78018.a = [] ∧ ranges Tryd.rr78018.b = [] :=
  ⟨Sx.Tryd.ra78018, Sx.Tryd.rb78018, by kernel_rfl, by kernel_rfl, by kernel_rfl, by kernel_rfl, by kernel_rfl⟩
theorem Tryd.rk101009 : ∃ ca cb, lFind Sx.Tryd.rt Tryd.rr101009.id = some (ca, cb) ∧ cCode Sx.Tryd.tt.get Tryd.rr101009.n Tryd.rr101009.keep Tryd.rr101009.fid Tryd.rr101009.a = some ca ∧ cCode Sx.Tryd.tt.get Tryd.rr101009.n Tryd.rr101009.keep Tryd.rr101009.fid Tryd.rr101009.b = some cb ∧ ranges Tryd.rr101009.a = [] ∧ ranges Tryd.rr101009.b = [] :=
  ⟨Sx.Tryd.ra101009, Sx.Tryd.rb101009, by kernel_rfl, by kernel_rfl, by kernel_rfl, by kernel_rfl, by kernel_rfl⟩
theorem Tryd.rks : ∀ r ∈ Tryd.rows, ∃ ca cb, lFind Sx.Tryd.rt r.id = some (ca, cb) ∧ cCode Sx.Tryd.tt.get r.n r.keep r.fid r.a = some ca ∧ cCode Sx.Tryd.tt.get r.n r.keep r.fid r.b = some cb ∧ ranges r.a = [] ∧ ranges r.b = [] := by
  intro r hr
  simp only [Tryd.rows, List.mem_cons, List.not_mem_nil, or_false] at hr
  rcases hr with rfl | rfl | rfl | rfl | rfl
  · exact Tryd.rk20017
  · exact Tryd.rk22017
  · exact Tryd.rk75009
  · exact Tryd.rk78018
  · exact Tryd.rk101009
/-- THE SEAT's TABLES. -/
theorem Tryd.tab (orc : FuncId → List AV → Heap → Option (T (AV × Heap))) (ho : ∀ f args h t, orc f args h = some t → CallOk ⟨Tryd.prog, rcOf Tryd.rows⟩ f args h t) (loops : Nat) :
    TabOk ⟨Tryd.prog, rcOf Tryd.rows⟩ Sx.Tryd.tt.get ⟨Sx.Tryd.ft.get, lFind Sx.Tryd.rt, loops, orc⟩ :=
  tabOk_of (Checked.mixed Tryd.checked) Tryd.tyks Tryd.fks Tryd.rks ho
end Go.Sx
